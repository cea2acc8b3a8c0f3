/-
  Ranges over functions, of no program: what a body may turn (KpZ: all blocks but some stay; KpG: a boxed slice grows), how a boxed slice grows, how a function that holds ranges is left. (As in ZnBlocks, BuGrow, BuMost.)
-/
import Derived.Test.YtndddfkebbeemaaSolo
import Derived.Test.YtndddfkebbeemaaRec
import Derived.RangeFuncNested
import Derived.RangeFuncBound
import Derived.RangeFuncCalls
import Derived.RangeFuncLeaves
import Derived.RangeFuncFrom
import Derived.Shelf.Abstract
import Derived.Shelf.RegionOpen
import Derived.OwnWalkIn
import Derived.TacticsInMore
import Derived.LoopNIn
import Derived.LoopIn
import Derived.Maps.AppendAt
import Derived.Laws.EntriesVeiled
namespace Go.Proofs.Ytndddfkebbeemaa
open Go.RowKit Go.Shelf Go
attribute [local go_sem] Oper.semAt_some

theorem grown_none {W W' : World} (h : Below W.heap.size W W') : W.grownBy W' none := ⟨h.os, h.tape, h.output, h.size, fun k hk _ => h.block k hk⟩
theorem cell_putObj (W : World) (D : Nat) (o : Obj) (a : Addr) (h : a.block ≠ D) : (W.putObj D o).cell? a = W.cell? a := World.cell?_of_block (World.putObj_heap_other h)
/-- All blocks but those of C and the loop's own stay. -/
structure KpZ (C : Nat → Prop) (l : Nat) (W W' : World) : Prop where
  size : W.heap.size ≤ W'.heap.size
  same : ∀ k o, W.heap[k]? = some o → ¬ C k → k ≠ l → W'.heap[k]? = some o
section
variable {C : Nat → Prop} {l : Nat} {W W' W'' : World}
theorem KpZ.trans (h : KpZ C l W W') (k : KpZ C l W' W'') : KpZ C l W W'' := ⟨Nat.le_trans h.size k.size, fun i o hi hc hl => k.same i o (h.same i o hi hc hl) hc hl⟩
theorem KpZ.of_only (h : Only C W W') : KpZ C l W W' := ⟨h.size, fun k _ hk hc _ => (h.block k (Array.getElem?_eq_some_iff.1 hk).1 hc).trans hk⟩
theorem KpZ.of_below (h : Below W.heap.size W W') : KpZ C l W W' := KpZ.of_only (Only.of_below h)
theorem KpZ.put (W : World) (l : Nat) (o' : Obj) : KpZ C l W (W.putObj l o') := ⟨by simp [World.putObj], fun _ _ hk _ hl => (World.putObj_heap_other hl).trans hk⟩
theorem KpZ.block (h : KpZ C l W W') {k : Nat} (hk : k < W.heap.size) (hc : ¬ C k) (hl : k ≠ l) : W'.heap[k]? = W.heap[k]? := by
  rw [h.same k _ (Array.getElem?_eq_getElem hk) hc hl, Array.getElem?_eq_getElem hk]
theorem KpZ.cell (h : KpZ C l W W') {b o : Nat} {v : Value} (hv : W.cell? ⟨b, o, none⟩ = some v) (hc : ¬ C b) (hl : b ≠ l) : W'.cell? ⟨b, o, none⟩ = some v := by
  rw [World.cell?_of_block (a := ⟨b, o, none⟩) (h.block (World.block_lt_of_cell? _ _ hv) hc hl)]; exact hv
theorem KpZ.row (h : KpZ C l W W') {b n : Nat} {f : Nat → Value} (R : RowAt W b n f) (hc : ¬ C b) (hl : b ≠ l) : RowAt W' b n f := R.block (h.block R.lt hc hl)
theorem KpZ.from {B : Nat} (h : KpZ C l W W') (hC : ∀ k, C k → k < B) (hl : l < B) : KeepsFrom B W W' := ⟨h.size, fun k o hB hk _ => h.same k o hk (fun hc => by have := hC k hc; omega) (by omega)⟩
end
section
variable {C : Nat → Prop} {l : Nat} {W W' W'' : World}
/-- What was made since may turn. -/
theorem KpZ.onlyB {β : Type} {B : Nat} (hB : W.heap.size ≤ B) : OwnOnly B (fun (_ : β) V => KpZ C l W V) := fun _ X Y h ho =>
  ⟨Nat.le_trans h.size ho.size, fun k o hk hc hl => by
    have h2 := h.same k o hk hc hl
    exact (ho.block k (Array.getElem?_eq_some_iff.1 h2).1 (by have := (Array.getElem?_eq_some_iff.1 hk).1; omega)).trans h2⟩
theorem KpZ.wide {C' : Nat → Prop} {l' : Nat} (h : KpZ C l W W') (hc : ∀ k, C k → C' k) (hl : C' l) : KpZ C' l' W W' :=
  ⟨h.size, fun k o hk h1 _ => h.same k o hk (fun e => h1 (hc k e)) (fun e => h1 (by rw [e]; exact hl))⟩
/-- A box's cell turns. -/
theorem setCell_only (V : World) (zb : Nat) (v : Value) {B : Nat} (h : B ≤ zb) : Only (fun k => B ≤ k) V (V.setCell ⟨zb, 0, none⟩ v) := Only.setCell (S := fun k => B ≤ k) _ ⟨zb, 0, none⟩ h _
theorem setCell_from (V : World) {zb n : Nat} {f : Nat → Value} (R : RowAt V zb n f) (v : Value) (B : Nat) : KeepsFrom B V (V.setCell ⟨zb, 0, none⟩ v) := by
  have ho : Only (fun k => k = zb) V (V.setCell ⟨zb, 0, none⟩ v) := Only.setCell (S := fun k => k = zb) _ ⟨zb, 0, none⟩ rfl _
  refine ⟨ho.size, fun k o _ hk hc => (ho.block k (Array.getElem?_eq_some_iff.1 hk).1 (fun e => ?_)).trans hk⟩
  subst e
  obtain ⟨A, t, hA, _⟩ := R
  rw [hA] at hk
  injection hk with hk
  subst hk
  cases hc
theorem row_grown {X Y : World} {row : Option Nat} {b n : Nat} {f : Nat → Value} (R : RowAt X b n f) (hg : X.grownBy Y row) (hr : ∀ r, row = some r → ∃ o : Obj, X.heap[r]? = some o ∧ o.isCells = false) : RowAt Y b n f := by
  obtain ⟨A, t, hA, hf⟩ := R
  refine ⟨A, t, (hg.block b (Array.getElem?_eq_some_iff.1 hA).1 (fun e => ?_)).trans hA, hf⟩
  obtain ⟨o, ho, hc⟩ := hr b e.symm
  rw [hA] at ho; cases ho; cases hc
theorem row_put {X : World} {b n l : Nat} {f : Nat → Value} {o : Obj} (o' : Obj) (R : RowAt X b n f) (hl : X.heap[l]? = some o) (ho : o.isCells = false) : RowAt (X.putObj l o') b n f :=
  row_grown R (grownBy_putObj' X l o') (fun r e => by cases e; exact ⟨o, hl, ho⟩)
end
theorem round_any {l2 m m' : Nat} {P : Program} {l : Nat} {f : FuncId} {tmps : Array Value} {assign body : Code} {w : World} {R : Ending → World → Prop} (h : RoundIn Fence.wide m P l f tmps assign body w R) : RoundIn (Fence.wide.inRound l2) m' P l f tmps assign body w R :=
  ⟨h.1, fun c cs _ => h.2 c cs (fun d h => by cases h)⟩
theorem KpZ.own {β : Type} {C : Nat → Prop} {l : Nat} {W4 : World} : OwnFrom W4.heap.size (fun (_ : β) V => KpZ C l W4 V) := by
  rintro s X Y row h hg hr
  refine ⟨Nat.le_trans h.size hg.size, fun k o hk hc hl => ?_⟩
  have h2 := h.same k o hk hc hl
  refine (hg.block k (Array.getElem?_eq_some_iff.1 h2).1 (fun e => ?_)).trans h2
  have h3 := (hr k e.symm).1
  have h4 := (Array.getElem?_eq_some_iff.1 hk).1
  omega
def colls (Ds : List Nat) : List Deferred := Ds.map fun D => { target := Target.collected D, args := #[] }
theorem colls_cons (D : Nat) (Ds : List Nat) : colls (D :: Ds) = { target := Target.collected D, args := #[] } :: colls Ds := rfl
theorem leaves_many {m : Nat} {fn : Func} {tmps : Array Value} {R : Ending → World → Prop} : ∀ (Ds : List Nat) (W : World), Ds.Nodup → (∀ D ∈ Ds, W.heap[D]? = some (.deferred (some []))) →
    (∀ W', Only (fun k => k ∈ Ds) W W' → W'.heap.size = W.heap.size → LeavesInM Fence.wide m Try.prog fn tmps R [] .returning W') → LeavesInM Fence.wide m Try.prog fn tmps R (colls Ds) .returning W
  | [], W, _, _, h => h W (Only.refl _ _) rfl
  | D :: Ds, W, hn, h1, h => by
    obtain ⟨hn1, hn2⟩ := List.nodup_cons.1 hn
    refine ⟨by simp, .inl ⟨D, _, rfl, run_takeDeferred (h1 D List.mem_cons_self), leaves_many Ds (W.putObj D (.deferred none)) hn2 (fun E hE => ?_) (fun W' ho hs => h W' ?_ ?_)⟩⟩
    · rw [World.putObj_heap_other (fun e => hn1 (by rw [← e]; exact hE))]
      exact h1 E (List.mem_cons_of_mem _ hE)
    · refine Only.trans ?_ (ho.mono fun k hk => List.mem_cons_of_mem _ hk)
      exact ⟨rfl, rfl, rfl, by simp [World.putObj], fun k _ hk => World.putObj_heap_other (fun e => hk (by rw [e]; exact List.mem_cons_self))⟩
    · rw [hs]; simp [World.putObj]
/-- The way out past the ranges' blocks, with what abides. -/
theorem leaves_own {m B : Nat} {fn : Func} {tmps : Array Value} {R : Ending → World → Prop} {I : World → Prop} (hI : OwnFrom B (fun (_ : Unit) W => I W)) : ∀ (Ds : List Nat) (W : World), Ds.Nodup → (∀ D ∈ Ds, W.heap[D]? = some (.deferred (some [])) ∧ B ≤ D) → I W →
    (∀ W', I W' → LeavesInM Fence.wide m Try.prog fn tmps R [] .returning W') → LeavesInM Fence.wide m Try.prog fn tmps R (colls Ds) .returning W
  | [], W, _, _, hi, h => h W hi
  | D :: Ds, W, hn, h1, hi, h => by
    obtain ⟨hn1, hn2⟩ := List.nodup_cons.1 hn
    obtain ⟨hd, hB⟩ := h1 D List.mem_cons_self
    refine ⟨by simp, .inl ⟨D, _, rfl, run_takeDeferred hd, leaves_own hI Ds (W.putObj D (.deferred none)) hn2 (fun E hE => ⟨?_, (h1 E (List.mem_cons_of_mem _ hE)).2⟩) (hI.putObj (s := ()) _ hi hB hd rfl) h⟩⟩
    rw [World.putObj_heap_other (fun e => hn1 (by rw [← e]; exact hE))]
    exact (h1 E (List.mem_cons_of_mem _ hE)).1
theorem leaves_one {m : Nat} {fn : Func} {tmps : Array Value} {R : Ending → World → Prop} {W : World} {D : Nat} (h1 : W.heap[D]? = some (.deferred (some []))) (h : LeavesInM Fence.wide m Try.prog fn tmps R [] .returning (W.putObj D (.deferred none))) :
    bodyPostM Fence.wide m Try.prog fn R .ret { tmps := tmps, defers := [{ target := Target.collected D, args := #[] }] } W :=
  ⟨by simp, .inl ⟨D, _, rfl, run_takeDeferred h1, h⟩⟩
theorem below_putObj {B : Nat} {w W : World} (h : Below B w W) (D : Nat) (o : Obj) (hD : B ≤ D) (hB : B ≤ W.heap.size) : Below B w (W.putObj D o) :=
  h.grown (grownBy_putObj' W D o) hB (fun k e => by cases e; exact hD)
/-- The block that a boxed slice owns. -/
def boxOwn (bx : Nat) (W : World) : Option Nat := match W.cell? ⟨bx, 0, none⟩ with
  | some v => v.ownBlock
  | none => none
theorem boxOwn_of {bx : Nat} {W : World} {v : Value} (h : W.cell? ⟨bx, 0, none⟩ = some v) : boxOwn bx W = v.ownBlock := by simp [boxOwn, h]
theorem boxOwn_eq {bx : Nat} {W W' : World} (h : W'.cell? ⟨bx, 0, none⟩ = W.cell? ⟨bx, 0, none⟩) : boxOwn bx W' = boxOwn bx W := by simp [boxOwn, h]
/-- What a round may turn: the box, the block that its slice owns, what is no cells from B on. -/
structure KpG (bx B : Nat) (W W' : World) : Prop where
  size : W.heap.size ≤ W'.heap.size
  low : ∀ k o, W.heap[k]? = some o → k < B → k ≠ bx → W'.heap[k]? = some o
  keep : ∀ k o, W.heap[k]? = some o → o.isCells = true → k ≠ bx → boxOwn bx W ≠ some k → W'.heap[k]? = some o ∧ boxOwn bx W' ≠ some k
  val : (∀ g, boxOwn bx W = some g → g < W.heap.size) → ∀ g, boxOwn bx W' = some g → g < W'.heap.size
section
variable {bx B : Nat} {W W' W'' : World}
theorem KpG.trans (h : KpG bx B W W') (k : KpG bx B W' W'') : KpG bx B W W'' :=
  ⟨Nat.le_trans h.size k.size, fun i o hi hB hb => k.low i o (h.low i o hi hB hb) hB hb, fun i o hi hc hb ho => by
    obtain ⟨h1, h2⟩ := h.keep i o hi hc hb ho
    exact k.keep i o h1 hc hb h2, fun hv => k.val (h.val hv)⟩
theorem KpG.of_below (hbx : bx < W.heap.size) (h : Below W.heap.size W W') : KpG bx B W W' := by
  have e : boxOwn bx W' = boxOwn bx W := boxOwn_eq (h.cell (p := ⟨bx, 0, none⟩) hbx)
  refine ⟨h.size, fun k o hk _ _ => (h.block k (Array.getElem?_eq_some_iff.1 hk).1).trans hk, fun k o hk _ _ ho => ⟨(h.block k (Array.getElem?_eq_some_iff.1 hk).1).trans hk, by rw [e]; exact ho⟩, fun hv g hg => ?_⟩
  rw [e] at hg
  exact Nat.lt_of_lt_of_le (hv g hg) h.size
theorem KpG.put (l : Nat) {o : Obj} (o' : Obj) (hbx : bx < B) (hB : B ≤ l) (hl : W.heap[l]? = some o) (ho : o.isCells = false) : KpG bx B W (W.putObj l o') := by
  have e : boxOwn bx (W.putObj l o') = boxOwn bx W := boxOwn_eq (cell_putObj W l o' ⟨bx, 0, none⟩ (by show bx ≠ l; omega))
  have hs : (W.putObj l o').heap.size = W.heap.size := by simp [World.putObj]
  refine ⟨by omega, fun k x hk hkB _ => (World.putObj_heap_other (by omega)).trans hk, fun k x hk hc _ hne => ⟨(World.putObj_heap_other (fun e => by
    subst e
    rw [hl] at hk
    injection hk with hk
    subst hk
    rw [ho] at hc; cases hc)).trans hk, by rw [e]; exact hne⟩, fun hv g hg => ?_⟩
  rw [e] at hg
  rw [hs]
  exact hv g hg
end
/-- append(s, x) behind the slice of x alone, inside a fence; and where the new row lies. -/
theorem wpListIn_append_one {F : Fence} {nF : Nat} {P : Program} (w : World) {ops : Array Oper} {rest : List Oper} {o : Oper} {a : Act} {Q : Exit → Act → World → Prop} (hgd : o.guard = none) (s x : Operand) (t : TypeId)
    (ho : o.op = .call { callee := .builtin .append, args := #[s, x], argTypes := #[t, t] })
    (base : Nat) (e : TypeId) (i : TypeInfo) (z : Value) (size bytes : Nat) (ht : P.underlying t = some (.slice e)) (hi : P.info? e = some i) (hz : i.zero = some z)
    (hsize : i.size = size) (hby : i.bytes = bytes) (hzs : z.cells.size = size) (hsz : 0 < size)
    (v : Value) (n : Nat) (xs : List Value) (us : Array Value) (hown : w.ownsRow base e size v n xs) (hbase : base ≤ w.heap.size) (hs : a.eval s = v) (hx : a.eval x = .slice (some ⟨w.heap.size, 0, none⟩) 1 1)
    (hus : us.size = size) (h1 : ∀ u ∈ us.toList, u.oneCell' = true) (hn : n ≤ 1000) (hb : bytes ≤ 1000)
    (h : ∀ v' w', w'.ownsRow base e size v' (n + 1) (xs ++ us.toList) → (w.alloc (.cells us e)).grownBy w' v.ownBlock → (v'.ownBlock = v.ownBlock ∨ v'.ownBlock = some (w.heap.size + 1)) → wpListIn F nF P ops Q rest (a.put o.dst v') w') :
    wpListIn F nF P ops Q (o :: rest) a (w.alloc (.cells us e)) := by
  refine wpListIn_plain hgd fun K' hK' => ?_
  obtain ⟨v', w', hrun, r1, r2, _, r4⟩ := run_append_own_at (P := P) (w.alloc (.cells us e)) base t o.type e i z size bytes ht hi hz hsize hby hzs hsz v n xs (hown.alloc _) ⟨w.heap.size, 0, none⟩ 1 1 us.toList (by simp; omega) (fun j u hj => by
    have hadd : (⟨w.heap.size, 0, none⟩ : Addr).add j = ⟨w.heap.size, j, none⟩ := by unfold Addr.add; split <;> simp_all
    rw [hadd, cell_of_row _ _ _ _ _ _ (heap_alloc_new w _)]
    simpa using hj) h1 (by unfold maxLen; omega) (Nat.le_trans (Nat.mul_le_mul (show n + 1 ≤ 1001 by omega) hb) (by decide)) (by simp; omega)
  unfold Oper.wpIn
  refine ⟨by simp [Oper.about, ho, resolve, Target.leads, Sem.run_pure], ?_⟩
  rw [Oper.semAt_plain F _ _ (by rw [ho]; intro c hc'; cases hc')]
  simp [execOp, ho, resolve, invoke, builtin, hs, hx, hrun, Result.andThen]
  exact hK' _ _ (h v' w' r1 r2 (by simpa using r4))
/-- 'out = append(out, x)': what lies behind it. -/
theorem grow_step {w W w1 : World} {bx : Nat} {t e : TypeId} {size k m : Nat} {v v' : Value} {xs ys : List Value} {tmp : Obj} (hv : Boxed W bx t v) (hte : t ≠ e) (hrow : W.ownsRow w.heap.size e size v k xs) (hO : Only (fun k => k = bx) w W)
    (hown' : w1.ownsRow w.heap.size e size v' m ys) (hg : (W.alloc tmp).grownBy w1 v.ownBlock) (hat : v'.ownBlock = v.ownBlock ∨ v'.ownBlock = some (W.heap.size + 1)) :
    Boxed w1 bx t v ∧ (Boxed (w1.setCell ⟨bx, 0, none⟩ v') bx t v' ∧ (w1.setCell ⟨bx, 0, none⟩ v').ownsRow w.heap.size e size v' m ys ∧ Only (fun k => k = bx) w (w1.setCell ⟨bx, 0, none⟩ v')) ∧
      KeepsFrom w.heap.size W (w1.setCell ⟨bx, 0, none⟩ v') ∧ KpG bx w.heap.size W (w1.setCell ⟨bx, 0, none⟩ v') := by
  have hv1 : Boxed w1 bx t v := (hv.alloc tmp).kept hg (hv.not_row hte hrow)
  have hW := hO.size
  have hvo : ∀ g, v.ownBlock = some g → w.heap.size ≤ g ∧ g < W.heap.size := fun g hg => by
    rcases hrow.2 with ⟨rfl, _⟩ | ⟨g', cap, cur, rfl, hb, hgb, _⟩
    · simp [Value.ownBlock] at hg
    · obtain rfl : g' = g := by simpa [Value.ownBlock] using hg
      exact ⟨hb, (Array.getElem?_eq_some_iff.1 hgb).1⟩
  have hO2 : Only (fun k => k = bx ∨ v.ownBlock = some k) W (w1.setCell ⟨bx, 0, none⟩ v') := ((Only.alloc _ W tmp).trans ((Only.of_grown hg).mono fun k hk => .inr hk)).trans (Only.setCell _ _ (.inl rfl) _)
  have hb2 : Boxed (w1.setCell ⟨bx, 0, none⟩ v') bx t v' := hv1.set v'
  have hr2 : (w1.setCell ⟨bx, 0, none⟩ v').ownsRow w.heap.size e size v' m ys := hown'.kept (grownBy_setCell' w1 bx v') (.inr (hv1.not_row hte hown').symm)
  refine ⟨hv1, ⟨hb2, hr2, ?_⟩, ?_, ?_⟩
  · exact ⟨hO2.os.trans hO.os, hO2.tape.trans hO.tape, hO2.output.trans hO.output, Nat.le_trans hO.size hO2.size, fun k hk hs => (hO2.block k (by omega) (by
      rintro (h | h)
      · exact hs h
      · have := (hvo k h).1; omega)).trans (hO.block k hk hs)⟩
  · refine (((KeepsOthers.alloc W tmp).trans (KeepsOthers.of_grownBy hg fun j o ej hj => ?_)).trans (KeepsOthers.setCell _ _ _)).from _
    rcases (hrow.alloc tmp).2 with ⟨rfl, _⟩ | ⟨g, cap, cur, rfl, _, hgb, _⟩
    · simp [Value.ownBlock] at ej
    · obtain rfl : g = j := by simpa [Value.ownBlock] using ej
      rw [hgb] at hj; cases hj; rfl
  · have e1 : boxOwn bx W = v.ownBlock := boxOwn_of hv.cell
    have e2 : boxOwn bx (w1.setCell ⟨bx, 0, none⟩ v') = v'.ownBlock := boxOwn_of hb2.cell
    refine ⟨hO2.size, fun k o hk hkB hkb => (hO2.block k (Array.getElem?_eq_some_iff.1 hk).1 (by
      rintro (h | h)
      · exact hkb h
      · have := (hvo k h).1; omega)).trans hk, fun k o hk _ hkb hne => ?_, fun _ g hg2 => ?_⟩
    · have hlt := (Array.getElem?_eq_some_iff.1 hk).1
      rw [e1] at hne
      refine ⟨(hO2.block k hlt (by
        rintro (h | h)
        · exact hkb h
        · exact hne h)).trans hk, ?_⟩
      rw [e2]
      rcases hat with h | h
      · rw [h]; exact hne
      · rw [h]
        intro h2
        injection h2 with h2
        omega
    · rw [e2] at hg2
      rcases hr2.2 with ⟨rfl, _⟩ | ⟨g', cap, cur, rfl, hb, hgb, _⟩
      · simp [Value.ownBlock] at hg2
      · obtain rfl : g' = g := by simpa [Value.ownBlock] using hg2
        exact (Array.getElem?_eq_some_iff.1 hgb).1
/-- A range over a function whose variable is boxed: the assign code lays its box, slot sl points at it. -/
theorem range_boxed {F : Fence} {n : Nat} {P : Program} {w : World} {α : Type} {g : Operand} {ps : Array Tmp} {assign body : Code} {Q : Exit → Act → World → Prop} {a : Act}
    (hro : F.round = none) (h1 : 1 ≤ n) {gf : Nat} {lb : Array Value} (hg : a.eval g = .func (.func gf) #[] lb) (hFg : F.fn gf) (eg : ∀ args w, (callFunc gf args).run P w = .ok (.enter gf args) w)
    {encs : α → Array Value} {Kp : World → World → Prop} {S Sp : List α → Prop} {N : Nat} (hseq : SeqStopsK F (n - 1) P gf lb encs Kp S Sp N w)
    (hKt : ∀ {A B C : World}, Kp A B → Kp B C → Kp A C) (hKb : ∀ (W : World) (l : Nat) (o o' : Obj), w.heap.size ≤ l → W.heap[l]? = some o → o.isCells = false → o.isWalk = false → Kp W (W.putObj l o')) (hps : ∀ x, (encs x).size = ps.size)
    (I : List α → World → Prop) (Ix : Code → List α → World → Prop) (hI : OwnFrom w.heap.size I) (hIx : ∀ c, OwnFrom w.heap.size (Ix c)) (h0 : I [] w) (sl : Nat) (R : α → Nat → World → Prop) (hR : ∀ x zb, OwnFrom w.heap.size (fun (_ : Unit) W => R x zb W))
    (hassign : ∀ (l : Nat) (pre : List α) (x : α) (W : World) (K : Act → World → Prop), I pre W →
      (∀ zb W', KeepsFrom w.heap.size W W' → Kp W W' → I pre W' → R x zb W' → K { tmps := ((ps.zip (encs x)).foldl (fun t (p, v) => t.setIfInBounds p v) a.tmps).setIfInBounds sl (.pointer (some ⟨zb, 0, none⟩)), defers := [] } W') →
      assign.wpIn (F.inRound l) (n - 1 - 1) P (Exit.then K (fun _ _ _ => False)) { tmps := (ps.zip (encs x)).foldl (fun t (p, v) => t.setIfInBounds p v) a.tmps, defers := [] } W)
    (hbody : ∀ (l : Nat) (pre : List α) (x : α) (zb : Nat) (W : World), I pre W → R x zb W → pre.length < N →
      body.wpIn (F.inRound l) (n - 1 - 1) P (ownPostG w.heap.size Kp I Ix (pre ++ [x]) W) { tmps := ((ps.zip (encs x)).foldl (fun t (p, v) => t.setIfInBounds p v) a.tmps).setIfInBounds sl (.pointer (some ⟨zb, 0, none⟩)), defers := [] } W)
    (hdone : ∀ (D : Nat) (xs : List α) (W : World), w.heap.size ≤ D → S xs → I xs W → W.heap[D]? = some (.deferred (some [])) → Q .normal { a with defers := { target := .collected D, args := #[] } :: a.defers } W)
    (hstop : ∀ (D : Nat) (c : Code) (pre : List α) (W : World), w.heap.size ≤ D → Sp pre → Ix c pre W → W.heap[D]? = some (.deferred (some [])) → c.wpIn F n P Q { a with defers := { target := .collected D, args := #[] } :: a.defers } W) :
    (Code.rangeFunc g ps assign body).wpIn F n P Q a w :=
  wpIn_rangeFunc_ownH hro h1 hg hFg eg hseq hKt hKb (Below.refl _ _) hps I Ix hI hIx h0
    (fun x a' W' => ∃ zb : Nat, a' = { tmps := ((ps.zip (encs x)).foldl (fun t (p, v) => t.setIfInBounds p v) a.tmps).setIfInBounds sl (.pointer (some ⟨zb, 0, none⟩)), defers := [] } ∧ R x zb W')
    (fun x _ s X Y row h hg hr => by obtain ⟨zb, e, r⟩ := h; exact ⟨zb, e, hR x zb s X Y row r hg hr⟩)
    (fun l pre x W K hi hK => hassign l pre x W K hi fun zb W' k1 k2 k3 k4 => hK _ _ k1 k2 k3 ⟨zb, rfl, k4⟩)
    (fun l pre x a' W _ _ hi hax hlen => by obtain ⟨zb, rfl, r⟩ := hax; exact hbody l pre x zb W hi r hlen) hdone hstop
end Go.Proofs.Ytndddfkebbeemaa
