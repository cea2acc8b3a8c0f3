/-
  buddy: Blocks told to a body that appends what it is told to a boxed slice.
-/
import Derived.Test.YtilcdnkjfbkpnaaBuGrowK
import Derived.RangeFuncNested
namespace Go.Proofs.Ytilcdnkjfbkpnaa
open Go.RowKit Go.Shelf Go

/-- The block that a boxed slice owns. -/
def boxOwn (bx : Nat) (W : World) : Option Nat := match W.cell? ⟨bx, 0, none⟩ with
  | some v => v.ownBlock
  | none => none
theorem boxOwn_of {bx : Nat} {W : World} {v : Value} (h : W.cell? ⟨bx, 0, none⟩ = some v) : boxOwn bx W = v.ownBlock := by simp [boxOwn, h]
theorem boxOwn_eq {bx : Nat} {W W' : World} (h : W'.cell? ⟨bx, 0, none⟩ = W.cell? ⟨bx, 0, none⟩) : boxOwn bx W' = boxOwn bx W := by simp [boxOwn, h]
/-- What a round may turn: the box, the block that its slice owns, what is no cells from B on. -/
structure KpG (bx B : Nat) (W W' : World) : Prop where
  size : W.heap.size ≤ W'.heap.size
  low : ∀ k o, W.heap[k]? = some o → k < B → k ≠ bx → W'.heap[k]? = some o
  keep : ∀ k o, W.heap[k]? = some o → o.isCells = true → k ≠ bx → boxOwn bx W ≠ some k → W'.heap[k]? = some o ∧ boxOwn bx W' ≠ some k
  val : (∀ g, boxOwn bx W = some g → g < W.heap.size) → ∀ g, boxOwn bx W' = some g → g < W'.heap.size
section
variable {bx B : Nat} {W W' W'' : World}
theorem KpG.trans (h : KpG bx B W W') (k : KpG bx B W' W'') : KpG bx B W W'' :=
  ⟨Nat.le_trans h.size k.size, fun i o hi hB hb => k.low i o (h.low i o hi hB hb) hB hb, fun i o hi hc hb ho => by
    obtain ⟨h1, h2⟩ := h.keep i o hi hc hb ho
    exact k.keep i o h1 hc hb h2, fun hv => k.val (h.val hv)⟩
theorem KpG.of_below (hbx : bx < W.heap.size) (h : Below W.heap.size W W') : KpG bx B W W' := by
  have e : boxOwn bx W' = boxOwn bx W := boxOwn_eq (h.cell (p := ⟨bx, 0, none⟩) hbx)
  refine ⟨h.size, fun k o hk _ _ => (h.block k (Array.getElem?_eq_some_iff.1 hk).1).trans hk, fun k o hk _ _ ho => ⟨(h.block k (Array.getElem?_eq_some_iff.1 hk).1).trans hk, by rw [e]; exact ho⟩, fun hv g hg => ?_⟩
  rw [e] at hg
  exact Nat.lt_of_lt_of_le (hv g hg) h.size
theorem KpG.put (l : Nat) {o : Obj} (o' : Obj) (hbx : bx < B) (hB : B ≤ l) (hl : W.heap[l]? = some o) (ho : o.isCells = false) : KpG bx B W (W.putObj l o') := by
  have e : boxOwn bx (W.putObj l o') = boxOwn bx W := boxOwn_eq (cell_putObj W l o' ⟨bx, 0, none⟩ (by show bx ≠ l; omega))
  have hs : (W.putObj l o').heap.size = W.heap.size := by simp [World.putObj]
  refine ⟨by omega, fun k x hk hkB _ => (World.putObj_heap_other (by omega)).trans hk, fun k x hk hc _ hne => ⟨(World.putObj_heap_other (fun e => by
    subst e
    rw [hl] at hk
    injection hk with hk
    subst hk
    rw [ho] at hc; cases hc)).trans hk, by rw [e]; exact hne⟩, fun hv g hg => ?_⟩
  rw [e] at hg
  rw [hs]
  exact hv g hg
end
section
variable {w : World} {d n : Nat} {mb : Nat → Nat} {tb : Nat} {L T : List (Int × Int)}
theorem KpG.node {bx B : Nat} {W W' : World} (h : KpG bx B W W') (N : NodeAt W d n mb tb L T) (hdB : d < B) (hd : d ≠ bx) (ho : ∀ k, own6 mb tb k → k < B ∧ k ≠ bx) : NodeAt W' d n mb tb L T := by
  have key : ∀ {α : Type} {R : Value → Option (MDat × List MemPlace)} {E : Elem R α} {b : Nat} {g : Int → Option α}, FMap Try.prog 3 E W b g → b < B ∧ b ≠ bx → FMap Try.prog 3 E W' b g := fun M hb => by
    obtain ⟨D, l, ⟨es, clock, hm, r⟩, q⟩ := M
    exact ⟨D, l, ⟨es, clock, h.low _ _ hm hb.1 hb.2, r⟩, q⟩
  obtain ⟨A, t, hA, hf⟩ := N.row
  exact ⟨⟨A, t, h.low d _ hA hdB hd, hf⟩, fun o hlo => key (N.free o hlo) (ho _ (.inr ⟨o, hlo, rfl⟩)), key N.tkn (ho _ (.inl rfl)), N.inj, N.ntb, N.bnd, N.tbnd⟩
theorem blocks_grow (m : Nat) (hm : 1 ≤ m) (Bn bx : Nat) (I : Inv n L T) (N : NodeAt w d n mb tb L T) (hc : w.cell? ⟨Bn, 0, none⟩ = some (.pointer (some ⟨d, 0, none⟩))) (hd : d ≠ bx) (ho : ∀ k, own6 mb tb k → k ≠ bx) (hBn : Bn ≠ bx) (hbx : bx < w.heap.size) (hv : boxOwn bx w = none) :
    SeqStopsK Fence.wide m Try.prog 36 #[.pointer (some ⟨Bn, 0, none⟩)] (fun x : Fin L.length => #[blk (L[x.val]'x.isLt)]) (KpG bx w.heap.size)
      (fun xs => xs.map Fin.val = List.range L.length) (fun pre => ∃ k, k ≤ L.length ∧ pre.map Fin.val = List.range k) L.length w := by
  intro l J Jx W hW hJ _ hY h0
  have hsz := hW.size
  have eW : boxOwn bx W = none := (boxOwn_eq (hW.cell (p := ⟨bx, 0, none⟩) hbx)).trans hv
  have hBl := World.block_lt_of_cell? _ _ hc
  have hcW : W.cell? ⟨Bn, 0, none⟩ = some (.pointer (some ⟨d, 0, none⟩)) := by rw [hW.cell hBl]; exact hc
  refine blocks_inK m hm l Bn (KpG bx w.heap.size) (fun xb V => boxOwn bx V ≠ some xb ∧ xb ≠ bx) I J Jx W hJ hY (N.later hW) hcW KpG.trans
    (fun V V' hs hb => KpG.of_below (by omega) hb) (fun h => h.size) ?_ ?_ ?_ ?_ h0
  · rintro V V' xb y1 y2 hk ⟨hp, hx⟩ ⟨A, t, hA, hf⟩
    exact ⟨A, t, (hk.keep xb _ hA rfl hx hp).1, hf⟩
  · intro V V' hk hb
    have h1 := hk.size
    refine ⟨fun e => ?_, by omega⟩
    rw [boxOwn_eq (hb.cell (p := ⟨bx, 0, none⟩) (by show bx < V.heap.size; omega))] at e
    exact Nat.lt_irrefl _ (hk.val (fun g hg => by rw [eW] at hg; cases hg) _ e)
  · intro V hk
    exact hk.node (N.later hW) N.lt hd (fun k hk => ⟨N.own_lt hk, ho k hk⟩)
  · intro V hk
    obtain ⟨x, hx, _⟩ := cells_of_cell hcW
    exact (World.cell?_of_block (a := ⟨Bn, 0, none⟩) ((hk.low Bn x hx hBl hBn).trans hx.symm)).trans hcW
end
/-- append(s, x) behind the slice of x alone, inside a fence; and where the new row lies. -/
theorem wpListIn_append_one {F : Fence} {nF : Nat} {P : Program} (w : World) {ops : Array Oper} {rest : List Oper} {o : Oper} {a : Act} {Q : Exit → Act → World → Prop} (hgd : o.guard = none) (s x : Operand) (t : TypeId)
    (ho : o.op = .call { callee := .builtin .append, args := #[s, x], argTypes := #[t, t] })
    (base : Nat) (e : TypeId) (i : TypeInfo) (z : Value) (size bytes : Nat) (ht : P.underlying t = some (.slice e)) (hi : P.info? e = some i) (hz : i.zero = some z)
    (hsize : i.size = size) (hby : i.bytes = bytes) (hzs : z.cells.size = size) (hsz : 0 < size)
    (v : Value) (n : Nat) (xs : List Value) (us : Array Value) (hown : w.ownsRow base e size v n xs) (hbase : base ≤ w.heap.size) (hs : a.eval s = v) (hx : a.eval x = .slice (some ⟨w.heap.size, 0, none⟩) 1 1)
    (hus : us.size = size) (h1 : ∀ u ∈ us.toList, u.oneCell' = true) (hn : n ≤ 1000) (hb : bytes ≤ 1000)
    (h : ∀ v' w', w'.ownsRow base e size v' (n + 1) (xs ++ us.toList) → (w.alloc (.cells us e)).grownBy w' v.ownBlock → (v'.ownBlock = v.ownBlock ∨ v'.ownBlock = some (w.heap.size + 1)) → wpListIn F nF P ops Q rest (a.put o.dst v') w') :
    wpListIn F nF P ops Q (o :: rest) a (w.alloc (.cells us e)) := by
  refine wpListIn_plain hgd fun K' hK' => ?_
  obtain ⟨v', w', hrun, r1, r2, _, r4⟩ := run_append_own_at (P := P) (w.alloc (.cells us e)) base t o.type e i z size bytes ht hi hz hsize hby hzs hsz v n xs (hown.alloc _) ⟨w.heap.size, 0, none⟩ 1 1 us.toList (by simp; omega) (fun j u hj => by
    have hadd : (⟨w.heap.size, 0, none⟩ : Addr).add j = ⟨w.heap.size, j, none⟩ := by unfold Addr.add; split <;> simp_all
    rw [hadd, cell_of_row _ _ _ _ _ _ (heap_alloc_new w _)]
    simpa using hj) h1 (by unfold maxLen; omega) (Nat.le_trans (Nat.mul_le_mul (show n + 1 ≤ 1001 by omega) hb) (by decide)) (by simp; omega)
  unfold Oper.wpIn
  refine ⟨by simp [Oper.about, ho, resolve, Target.leads, Sem.run_pure], ?_⟩
  rw [Oper.semAt_plain F _ _ (by rw [ho]; intro c hc'; cases hc')]
  simp [execOp, ho, resolve, invoke, builtin, hs, hx, hrun, Result.andThen]
  exact hK' _ _ (h v' w' r1 r2 (by simpa using r4))
/-- 'out = append(out, x)': what lies behind it. -/
theorem grow_step {w W w1 : World} {bx : Nat} {t e : TypeId} {size k m : Nat} {v v' : Value} {xs ys : List Value} {tmp : Obj} (hv : Boxed W bx t v) (hte : t ≠ e) (hrow : W.ownsRow w.heap.size e size v k xs) (hO : Only (fun k => k = bx) w W)
    (hown' : w1.ownsRow w.heap.size e size v' m ys) (hg : (W.alloc tmp).grownBy w1 v.ownBlock) (hat : v'.ownBlock = v.ownBlock ∨ v'.ownBlock = some (W.heap.size + 1)) :
    Boxed w1 bx t v ∧ (Boxed (w1.setCell ⟨bx, 0, none⟩ v') bx t v' ∧ (w1.setCell ⟨bx, 0, none⟩ v').ownsRow w.heap.size e size v' m ys ∧ Only (fun k => k = bx) w (w1.setCell ⟨bx, 0, none⟩ v')) ∧
      KeepsFrom w.heap.size W (w1.setCell ⟨bx, 0, none⟩ v') ∧ KpG bx w.heap.size W (w1.setCell ⟨bx, 0, none⟩ v') := by
  have hv1 : Boxed w1 bx t v := (hv.alloc tmp).kept hg (hv.not_row hte hrow)
  have hW := hO.size
  have hvo : ∀ g, v.ownBlock = some g → w.heap.size ≤ g ∧ g < W.heap.size := fun g hg => by
    rcases hrow.2 with ⟨rfl, _⟩ | ⟨g', cap, cur, rfl, hb, hgb, _⟩
    · simp [Value.ownBlock] at hg
    · obtain rfl : g' = g := by simpa [Value.ownBlock] using hg
      exact ⟨hb, (Array.getElem?_eq_some_iff.1 hgb).1⟩
  have hO2 : Only (fun k => k = bx ∨ v.ownBlock = some k) W (w1.setCell ⟨bx, 0, none⟩ v') := ((Only.alloc _ W tmp).trans ((Only.of_grown hg).mono fun k hk => .inr hk)).trans (Only.setCell _ _ (.inl rfl) _)
  have hb2 : Boxed (w1.setCell ⟨bx, 0, none⟩ v') bx t v' := hv1.set v'
  have hr2 : (w1.setCell ⟨bx, 0, none⟩ v').ownsRow w.heap.size e size v' m ys := hown'.kept (grownBy_setCell' w1 bx v') (.inr (hv1.not_row hte hown').symm)
  refine ⟨hv1, ⟨hb2, hr2, ?_⟩, ?_, ?_⟩
  · exact ⟨hO2.os.trans hO.os, hO2.tape.trans hO.tape, hO2.output.trans hO.output, Nat.le_trans hO.size hO2.size, fun k hk hs => (hO2.block k (by omega) (by
      rintro (h | h)
      · exact hs h
      · have := (hvo k h).1; omega)).trans (hO.block k hk hs)⟩
  · refine (((KeepsOthers.alloc W tmp).trans (KeepsOthers.of_grownBy hg fun j o ej hj => ?_)).trans (KeepsOthers.setCell _ _ _)).from _
    rcases (hrow.alloc tmp).2 with ⟨rfl, _⟩ | ⟨g, cap, cur, rfl, _, hgb, _⟩
    · simp [Value.ownBlock] at ej
    · obtain rfl : g = j := by simpa [Value.ownBlock] using ej
      rw [hgb] at hj; cases hj; rfl
  · have e1 : boxOwn bx W = v.ownBlock := boxOwn_of hv.cell
    have e2 : boxOwn bx (w1.setCell ⟨bx, 0, none⟩ v') = v'.ownBlock := boxOwn_of hb2.cell
    refine ⟨hO2.size, fun k o hk hkB hkb => (hO2.block k (Array.getElem?_eq_some_iff.1 hk).1 (by
      rintro (h | h)
      · exact hkb h
      · have := (hvo k h).1; omega)).trans hk, fun k o hk _ hkb hne => ?_, fun _ g hg2 => ?_⟩
    · have hlt := (Array.getElem?_eq_some_iff.1 hk).1
      rw [e1] at hne
      refine ⟨(hO2.block k hlt (by
        rintro (h | h)
        · exact hkb h
        · exact hne h)).trans hk, ?_⟩
      rw [e2]
      rcases hat with h | h
      · rw [h]; exact hne
      · rw [h]
        intro h2
        injection h2 with h2
        omega
    · rw [e2] at hg2
      rcases hr2.2 with ⟨rfl, _⟩ | ⟨g', cap, cur, rfl, hb, hgb, _⟩
      · simp [Value.ownBlock] at hg2
      · obtain rfl : g' = g := by simpa [Value.ownBlock] using hg2
        exact (Array.getElem?_eq_some_iff.1 hgb).1
/-- What has been told. -/
def told (L : List (Int × Int)) (xs : List (Fin L.length)) : List (Int × Int) := xs.map fun x => L[x.val]'x.isLt
theorem told_all {L : List (Int × Int)} {xs : List (Fin L.length)} (h : xs.map Fin.val = List.range L.length) : told L xs = L := by
  have h2 : told L xs = (xs.map Fin.val).map fun i => nextA L i := by
    unfold told
    rw [List.map_map]
    exact List.map_congr_left fun x _ => (getD_at x.isLt).symm
  rw [h2, h]
  refine List.ext_getElem (by simp) fun i h1 h3 => ?_
  rw [List.getElem_map, List.getElem_range]
  exact getD_at h3
theorem told_one (L : List (Int × Int)) (pre : List (Fin L.length)) (x : Fin L.length) : told L (pre ++ [x]) = told L pre ++ [L[x.val]'x.isLt] := by simp [told]
theorem told_len (L : List (Int × Int)) (xs : List (Fin L.length)) : (told L xs).length = xs.length := by simp [told]
/-- The boxed slice holds what has been told. -/
def GrowAt (w : World) (bx : Nat) (L : List (Int × Int)) (pre : List (Fin L.length)) (W : World) : Prop :=
  ∃ v, Boxed W bx 38 v ∧ W.ownsRow w.heap.size 42 2 v pre.length (recV encB (told L pre)) ∧ Only (fun k => k = bx) w W
theorem grow_own {w : World} {bx : Nat} (L : List (Int × Int)) (hbx : bx < w.heap.size) : OwnFrom w.heap.size (GrowAt w bx L) := by
  rintro s X Y row ⟨v, hv, hr, ho⟩ hg hrow
  refine ⟨v, hv.kept hg (fun e => ?_), hr.kept hg ?_, hg.os.trans ho.os, hg.tape.trans ho.tape, hg.output.trans ho.output, Nat.le_trans ho.size hg.size, fun k hk hs => (hg.block k (by have := ho.size; omega) (fun e => by have := (hrow k e.symm).1; omega)).trans (ho.block k hk hs)⟩
  · have := (hrow bx e.symm).1
    omega
  · rcases hr.2 with ⟨rfl, _⟩ | ⟨g, cap, cur, rfl, _, hgb, _⟩
    · exact .inl rfl
    · refine .inr fun e' => ?_
      obtain ⟨_, o, ho, hc⟩ := hrow g (by simpa [Value.ownBlock] using e'.symm)
      rw [hgb] at ho; cases ho; cases hc
theorem row_grown {X Y : World} {row : Option Nat} {b n : Nat} {f : Nat → Value} (R : RowAt X b n f) (hg : X.grownBy Y row) (hr : ∀ r, row = some r → ∃ o : Obj, X.heap[r]? = some o ∧ o.isCells = false) : RowAt Y b n f := by
  obtain ⟨A, t, hA, hf⟩ := R
  refine ⟨A, t, (hg.block b (Array.getElem?_eq_some_iff.1 hA).1 (fun e => ?_)).trans hA, hf⟩
  obtain ⟨o, ho, hc⟩ := hr b e.symm
  rw [hA] at ho; cases ho; cases hc
theorem GrowAt.le {w W : World} {bx : Nat} {L : List (Int × Int)} {pre : List (Fin L.length)} (h : GrowAt w bx L pre W) : w.heap.size ≤ W.heap.size := by
  obtain ⟨v, hv, hr, ho⟩ := h
  exact ho.size
theorem GrowAt.later {w W W' : World} {bx : Nat} {L : List (Int × Int)} {pre : List (Fin L.length)} (h : GrowAt w bx L pre W) (hb : Below W.heap.size W W') : GrowAt w bx L pre W' := by
  obtain ⟨v, hv, hr, ho⟩ := h
  exact ⟨v, (hb.block bx hv.lt).trans hv, owns_later hr hb, ho.trans (Only.of_below hb)⟩
/-- A range over a function whose variable is boxed: the assign code lays its box, slot sl points at it. -/
theorem range_boxed {F : Fence} {n : Nat} {P : Program} {w : World} {α : Type} {g : Operand} {ps : Array Tmp} {assign body : Code} {Q : Exit → Act → World → Prop} {a : Act}
    (hro : F.round = none) (h1 : 1 ≤ n) {gf : Nat} {lb : Array Value} (hg : a.eval g = .func (.func gf) #[] lb) (hFg : F.fn gf) (eg : ∀ args w, (callFunc gf args).run P w = .ok (.enter gf args) w)
    {encs : α → Array Value} {Kp : World → World → Prop} {S Sp : List α → Prop} {N : Nat} (hseq : SeqStopsK F (n - 1) P gf lb encs Kp S Sp N w)
    (hKt : ∀ {A B C : World}, Kp A B → Kp B C → Kp A C) (hKb : ∀ (W : World) (l : Nat) (o o' : Obj), w.heap.size ≤ l → W.heap[l]? = some o → o.isCells = false → o.isWalk = false → Kp W (W.putObj l o')) (hps : ∀ x, (encs x).size = ps.size)
    (I : List α → World → Prop) (Ix : Code → List α → World → Prop) (hI : OwnFrom w.heap.size I) (hIx : ∀ c, OwnFrom w.heap.size (Ix c)) (h0 : I [] w) (sl : Nat) (R : α → Nat → World → Prop) (hR : ∀ x zb, OwnFrom w.heap.size (fun (_ : Unit) W => R x zb W))
    (hassign : ∀ (l : Nat) (pre : List α) (x : α) (W : World) (K : Act → World → Prop), I pre W →
      (∀ zb W', KeepsFrom w.heap.size W W' → Kp W W' → I pre W' → R x zb W' → K { tmps := ((ps.zip (encs x)).foldl (fun t (p, v) => t.setIfInBounds p v) a.tmps).setIfInBounds sl (.pointer (some ⟨zb, 0, none⟩)), defers := [] } W') →
      assign.wpIn (F.inRound l) (n - 1 - 1) P (Exit.then K (fun _ _ _ => False)) { tmps := (ps.zip (encs x)).foldl (fun t (p, v) => t.setIfInBounds p v) a.tmps, defers := [] } W)
    (hbody : ∀ (l : Nat) (pre : List α) (x : α) (zb : Nat) (W : World), I pre W → R x zb W → pre.length < N →
      body.wpIn (F.inRound l) (n - 1 - 1) P (ownPostG w.heap.size Kp I Ix (pre ++ [x]) W) { tmps := ((ps.zip (encs x)).foldl (fun t (p, v) => t.setIfInBounds p v) a.tmps).setIfInBounds sl (.pointer (some ⟨zb, 0, none⟩)), defers := [] } W)
    (hdone : ∀ (D : Nat) (xs : List α) (W : World), w.heap.size ≤ D → S xs → I xs W → W.heap[D]? = some (.deferred (some [])) → Q .normal { a with defers := { target := .collected D, args := #[] } :: a.defers } W)
    (hstop : ∀ (D : Nat) (c : Code) (pre : List α) (W : World), w.heap.size ≤ D → Sp pre → Ix c pre W → W.heap[D]? = some (.deferred (some [])) → c.wpIn F n P Q { a with defers := { target := .collected D, args := #[] } :: a.defers } W) :
    (Code.rangeFunc g ps assign body).wpIn F n P Q a w :=
  wpIn_rangeFunc_ownH hro h1 hg hFg eg hseq hKt hKb (Below.refl _ _) hps I Ix hI hIx h0
    (fun x a' W' => ∃ zb : Nat, a' = { tmps := ((ps.zip (encs x)).foldl (fun t (p, v) => t.setIfInBounds p v) a.tmps).setIfInBounds sl (.pointer (some ⟨zb, 0, none⟩)), defers := [] } ∧ R x zb W')
    (fun x _ s X Y row h hg hr => by obtain ⟨zb, e, r⟩ := h; exact ⟨zb, e, hR x zb s X Y row r hg hr⟩)
    (fun l pre x W K hi hK => hassign l pre x W K hi fun zb W' k1 k2 k3 k4 => hK _ _ k1 k2 k3 ⟨zb, rfl, k4⟩)
    (fun l pre x a' W _ _ hi hax hlen => by obtain ⟨zb, rfl, r⟩ := hax; exact hbody l pre x zb W hi r hlen) hdone hstop
end Go.Proofs.Ytilcdnkjfbkpnaa
