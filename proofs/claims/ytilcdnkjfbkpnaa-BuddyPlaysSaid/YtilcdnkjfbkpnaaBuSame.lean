/-
  BuddyPlays: do both stand alike?
-/
import Derived.Test.YtilcdnkjfbkpnaaBuBack
import Derived.Test.YtilcdnkjfbkpnaaLexIn
import Derived.Test.YtilcdnkjfbkpnaaShl
import Derived.RangeFuncNested
namespace Go.Proofs.Ytilcdnkjfbkpnaa
open Go.RowKit Go.Shelf Go
attribute [local go_sem] Oper.semAt_some

/-- The greatest order told so far. -/
def mostF (L : List (Int × Int)) : Int := L.foldl (fun m p => max m p.2) (-1)
theorem mostF_one (L : List (Int × Int)) (p : Int × Int) : mostF (L ++ [p]) = max (mostF L) p.2 := by simp [mostF]
theorem mostF_is {L : List (Int × Int)} (h : ∀ p ∈ L, ∃ a o : Nat, p = ((a : Int), (o : Int)) ∧ o < 11) : MstL L (mostF L) := by
  have key : ∀ (M : List (Int × Int)), (∀ p ∈ M, ∃ a o : Nat, p = ((a : Int), (o : Int)) ∧ o < 11) → MstL M.reverse (mostF M.reverse) := by
    intro M
    induction M with
    | nil => exact fun _ => .inl ⟨rfl, fun i _ ⟨y, hy⟩ => absurd hy List.not_mem_nil⟩
    | cons p r ih =>
      intro h
      obtain ⟨a, o, rfl, ho⟩ := h p List.mem_cons_self
      have hm : ∀ i : Nat, (∃ y, (y, (i : Int)) ∈ (((a : Int), (o : Int)) :: r).reverse) ↔ i = o ∨ ∃ y, (y, (i : Int)) ∈ r.reverse := fun i => by
        constructor
        · rintro ⟨y, hy⟩
          rw [List.reverse_cons, List.mem_append, List.mem_singleton, Prod.mk.injEq] at hy
          rcases hy with hy | ⟨_, hy⟩
          · exact .inr ⟨y, hy⟩
          · exact .inl (by omega)
        · rintro (rfl | ⟨y, hy⟩)
          · exact ⟨a, by simp⟩
          · exact ⟨y, by rw [List.reverse_cons]; exact List.mem_append_left _ hy⟩
      have e : mostF (((a : Int), (o : Int)) :: r).reverse = max (mostF r.reverse) o := by rw [List.reverse_cons, mostF_one]
      rcases ih (fun q hq => h q (List.mem_cons_of_mem _ hq)) with ⟨h1, h2⟩ | ⟨q, h1, hq, h2, h3⟩
      · refine .inr ⟨o, by rw [e, h1]; omega, ho, (hm o).2 (.inl rfl), fun i hi hoi hE => ?_⟩
        rcases (hm i).1 hE with rfl | hE
        · omega
        · exact h2 i hi hE
      · refine .inr ⟨max q o, by rw [e, h1]; omega, by omega, ?_, fun i hi hoi hE => ?_⟩
        · by_cases hqo : q ≤ o
          · rw [Nat.max_eq_right hqo]
            exact (hm o).2 (.inl rfl)
          · rw [Nat.max_eq_left (by omega)]
            exact (hm q).2 (.inr h2)
        · rcases (hm i).1 hE with rfl | hE
          · omega
          · exact h3 i hi (by omega) hE
  have h2 := key L.reverse (fun p hp => h p (List.mem_reverse.1 hp))
  rwa [List.reverse_reverse] at h2
section
variable {P : Program} {ops : Array Oper} {Q : Exit → Act → World → Prop} {S : World → Prop} {K : Act → World → Prop} {i : Nat} {r : List (Nat × Bool)} {a : Act}
theorem lexH_shl1 {w : World} {o : Oper} (hi : ops[i]? = some o) (hw : Region.wanted o (yielded ops a.tmps) = true) (t : TypeId) (x y : Operand) (ty : TypeId) (ho : o.op = .binOp .shl t x y ty)
    (j : IntKind) (k p : Nat) (hk : k ≤ 10) (hp : 2 ^ k = p) (hx : a.eval x = .int .i64 1) (hy : a.eval y = .int j k) (h : LexH P ops Q S K r (a.put o.dst (.int .i64 p)) w) : LexH P ops Q S K ((i, false) :: r) a w :=
  lexH_yield hi hw (fun W _ => by
    subst hp
    unfold execOp
    simp only [ho, hx, hy, Sem.run_bind, eqGuard_shl, Sem.run_pure, Result.andThen_ok, run_shl1 j k hk W]) h
end
section
variable {w W0 : World} {d n r B : Nat} {mb : Nat → Nat} {tb : Nat} {L T : List (Int × Int)} {v u : Value}
/-- What a round may turn. -/
def SmC (B k : Nat) : Prop := k = B + 2 ∨ k = B + 3 ∨ k = B + 4
/-- What has been counted. -/
structure SmAt (W0 : World) (B : Nat) (L : List (Int × Int)) (pre : List (Fin L.length)) (W : World) : Prop where
  ord : pre.map Fin.val = List.range pre.length
  c5 : W.cell? ⟨B + 2, 0, none⟩ = some (.int .i64 pre.length)
  c6 : W.cell? ⟨B + 3, 0, none⟩ = some (.int .i64 (mostF (told L pre)))
  c7 : W.cell? ⟨B + 4, 0, none⟩ = some (.int .i64 (freeT (told L pre)))
  f5 : W.frozen? ⟨B + 2, 0, none⟩ = false
  f6 : W.frozen? ⟨B + 3, 0, none⟩ = false
  f7 : W.frozen? ⟨B + 4, 0, none⟩ = false
  only : Only (SmC B) W0 W
theorem sm_own : OwnFrom W0.heap.size (SmAt W0 B L) := by
  rintro s X Y row ⟨i1, i2, i3, i4, i5, i6, i7, ho⟩ hg hr
  have hr2 : ∀ r, row = some r → ∃ o : Obj, X.heap[r]? = some o ∧ o.isCells = false := fun r e => (hr r e).2
  exact ⟨i1, cell_kept i2 hg hr2, cell_kept i3 hg hr2, cell_kept i4 hg hr2, (frozen_kept i2 hg hr2).trans i5, (frozen_kept i3 hg hr2).trans i6, (frozen_kept i4 hg hr2).trans i7,
    hg.os.trans ho.os, hg.tape.trans ho.tape, hg.output.trans ho.output, Nat.le_trans ho.size hg.size, fun k hk hs => (hg.block k (by have := ho.size; omega) (fun e => by have := (hr k e.symm).1; omega)).trans (ho.block k hk hs)⟩
theorem SmAt.below {pre : List (Fin L.length)} {W : World} (h : SmAt W0 B L pre W) (hb : Below B w W0) (hB : B ≤ W0.heap.size) : Below B w W := h.only.below hb hB (fun k hk => by rcases hk with rfl | rfl | rfl <;> omega)
theorem SmAt.later {pre : List (Fin L.length)} {W W' : World} (h : SmAt W0 B L pre W) (hb : Below W.heap.size W W') : SmAt W0 B L pre W' :=
  ⟨h.ord, by rw [hb.cell (World.block_lt_of_cell? _ _ h.c5)]; exact h.c5, by rw [hb.cell (World.block_lt_of_cell? _ _ h.c6)]; exact h.c6, by rw [hb.cell (World.block_lt_of_cell? _ _ h.c7)]; exact h.c7,
    by rw [hb.frozen (World.block_lt_of_cell? _ _ h.c5)]; exact h.f5, by rw [hb.frozen (World.block_lt_of_cell? _ _ h.c6)]; exact h.f6, by rw [hb.frozen (World.block_lt_of_cell? _ _ h.c7)]; exact h.f7, h.only.trans (Only.of_below hb)⟩
theorem BRef.atF {a0 : Option Addr} {c0 : Nat} (R : BRef w r n L T (.slice a0 L.length c0) u) (j : Nat) (hj : j < L.length) : ∃ g, a0 = some ⟨g, 0, none⟩ ∧ w.cell? ⟨g, j * 2, none⟩ = some (.int .i64 L[j].1) ∧ w.cell? ⟨g, j * 2 + 1, none⟩ = some (.int .i64 L[j].2) := by
  obtain ⟨a, c, e, hF⟩ := R.fr
  injection e with e1 _ _
  subst e1
  obtain ⟨g, rfl, _, _, hr⟩ := hF.get encB_len j hj
  exact ⟨g, rfl, hr 0 _ rfl, hr 1 _ rfl⟩
/-- The last region: the result's cell may turn. -/
structure SmS (W7 : World) (b : Nat) (V : World) : Prop where
  only : Only (fun k => k = b) W7 V
  cell : ∃ z, V.cell? ⟨b, 0, none⟩ = some (.bool z)
  frz : V.frozen? ⟨b, 0, none⟩ = false
theorem SmS.later {W7 V V' : World} {b : Nat} (h : SmS W7 b V) (hb : Below V.heap.size V V') : SmS W7 b V' := by
  obtain ⟨z, hz⟩ := h.cell
  have hl := World.block_lt_of_cell? _ _ hz
  exact ⟨h.only.trans (Only.of_below hb), ⟨z, by rw [hb.cell hl]; exact hz⟩, by rw [hb.frozen hl]; exact h.frz⟩
theorem SmS.put {W7 V : World} {b : Nat} (h : SmS W7 b V) : SmS W7 b (V.setCell ⟨b, 0, none⟩ (.bool true)) ∧ (V.setCell ⟨b, 0, none⟩ (.bool true)).cell? ⟨b, 0, none⟩ = some (.bool true) := by
  obtain ⟨z, hz⟩ := h.cell
  have hc : (V.setCell ⟨b, 0, none⟩ (.bool true)).cell? ⟨b, 0, none⟩ = some (.bool true) := World.cell?_setCell_same' _ _ _ (by rw [hz]; rfl)
  exact ⟨⟨h.only.trans (Only.setCell (S := fun k => k = b) V ⟨b, 0, none⟩ rfl _), ⟨true, hc⟩, by rw [World.frozen?_setCell]; exact h.frz⟩, hc⟩
/-- A range over Blocks whose body breaks off at once. -/
theorem range_brk (m : Nat) (hm : 3 ≤ m) (Bn id b : Nat) (I : Inv n L T) (N : NodeAt w d n mb tb L T) (hBn : w.cell? ⟨Bn, 0, none⟩ = some (.pointer (some ⟨d, 0, none⟩))) {g : Operand} {t : Tmp} {Q0 : Exit → Act → World → Prop} {a : Act} (hb : b ≠ id)
    (hg : a.eval g = .func (.func 36) #[] #[.pointer (some ⟨Bn, 0, none⟩)])
    (hdone : ∀ (D : Nat) (W : World), w.heap.size ≤ D → Below w.heap.size w W → W.heap[D]? = some (.deferred (some [])) → Q0 .normal { a with defers := { target := .collected D, args := #[] } :: a.defers } W) :
    (Code.rangeFunc g #[t] Code.skip (Code.block b (Code.exit id))).wpIn Fence.wide m Try.prog (Exit.inBlock id Q0) a w := by
  have h1 : 1 ≤ m := by omega
  have hseq := blocks_stops (m - 1) (by omega) Bn (fun _ => False) I N hBn (fun h => h) (fun _ _ h => h) (fun h => h) (fun _ h => h.elim)
  refine wpIn_rangeFunc_ownF rfl h1 (gf := 36) hg trivial (enters_of Try.func36 (by kernel_rfl) rfl) hseq KpC.trans
    (fun W l o o' hl h hc _ => KpC.put l o' hl h hc) (Below.refl _ _) (fun x => rfl)
    (fun _ W => Below w.heap.size w W) (fun c _ W => c = Code.exit id ∧ Below w.heap.size w W) (ownFrom_below (Nat.le_refl _) (Nat.le_refl _)) (fun c => OwnFrom.and (ownFrom_pure _ _) (ownFrom_below (Nat.le_refl _) (Nat.le_refl _))) (Below.refl _ _)
    (fun x => { tmps := a.tmps.setIfInBounds t (blk (L[x.val]'x.isLt)), defers := [] }) ?assign ?body (fun D xs W hD _ hI hK => hdone D W hD hI hK) ?stop
  case assign =>
    intro l x W K hK
    refine wpIn_skip ?_
    simpa [Exit.then] using hK
  case body =>
    intro l pre x W hI _
    refine wpIn_block ?_
    refine wpIn_exit ?_
    simp only [Exit.inBlock, if_neg (Ne.symm hb)]
    exact ⟨KeepsOthers.refl _, rfl, hI⟩
  case stop =>
    rintro D c pre W hD _ ⟨rfl, hI⟩ hK
    refine wpIn_exit ?_
    simp only [Exit.inBlock, if_true]
    exact hdone D W hD hI hK
theorem freeT_le : ∀ M : List (Int × Int), (∀ p ∈ M, p.2.toNat ≤ 10) → freeT M ≤ 1024 * M.length
  | [], _ => Nat.le_refl _
  | p :: r, h => by
    have h1 := freeT_le r (fun q hq => h q (List.mem_cons_of_mem _ hq))
    have h2 := (two_pow_small (h p List.mem_cons_self)).2
    show 2 ^ p.2.toNat + freeT r ≤ 1024 * (r.length + 1)
    omega
/-- A round ahead of its last store. -/
theorem SmAt.step {pre : List (Fin L.length)} {W : World} (h : SmAt W0 B L pre W) (m : Int) :
    Only (SmC B) W ((W.setCell ⟨B + 2, 0, none⟩ (.int .i64 ((pre.length : Int) + 1))).setCell ⟨B + 3, 0, none⟩ (.int .i64 m)) ∧ KeepsOthers W ((W.setCell ⟨B + 2, 0, none⟩ (.int .i64 ((pre.length : Int) + 1))).setCell ⟨B + 3, 0, none⟩ (.int .i64 m)) ∧
    ((W.setCell ⟨B + 2, 0, none⟩ (.int .i64 ((pre.length : Int) + 1))).setCell ⟨B + 3, 0, none⟩ (.int .i64 m)).cell? ⟨B + 2, 0, none⟩ = some (.int .i64 ((pre.length : Int) + 1)) ∧
    ((W.setCell ⟨B + 2, 0, none⟩ (.int .i64 ((pre.length : Int) + 1))).setCell ⟨B + 3, 0, none⟩ (.int .i64 m)).cell? ⟨B + 3, 0, none⟩ = some (.int .i64 m) ∧
    ((W.setCell ⟨B + 2, 0, none⟩ (.int .i64 ((pre.length : Int) + 1))).setCell ⟨B + 3, 0, none⟩ (.int .i64 m)).cell? ⟨B + 4, 0, none⟩ = some (.int .i64 (freeT (told L pre))) ∧
    (∀ a, ((W.setCell ⟨B + 2, 0, none⟩ (.int .i64 ((pre.length : Int) + 1))).setCell ⟨B + 3, 0, none⟩ (.int .i64 m)).frozen? a = W.frozen? a) := by
  refine ⟨(Only.setCell (S := SmC B) _ ⟨B + 2, 0, none⟩ (.inl rfl) _).trans (Only.setCell (S := SmC B) _ ⟨B + 3, 0, none⟩ (.inr (.inl rfl)) _), (KeepsOthers.setCell _ _ _).trans (KeepsOthers.setCell _ _ _), ?_, ?_, ?_, ?_⟩
  · rw [World.cell?_of_block (a := ⟨B + 2, 0, none⟩) (Below.heap_setCell _ ⟨B + 3, 0, none⟩ _ (B + 2) (by show B + 2 ≠ B + 3; omega))]
    exact World.cell?_setCell_same' _ _ _ (by rw [h.c5]; rfl)
  · refine World.cell?_setCell_same' _ _ _ ?_
    rw [World.cell?_of_block (a := ⟨B + 3, 0, none⟩) (Below.heap_setCell _ ⟨B + 2, 0, none⟩ _ (B + 3) (by show B + 3 ≠ B + 2; omega)), h.c6]
    rfl
  · rw [World.cell?_of_block (a := ⟨B + 4, 0, none⟩) (Below.heap_setCell _ ⟨B + 3, 0, none⟩ _ (B + 4) (by show B + 4 ≠ B + 3; omega)), World.cell?_of_block (a := ⟨B + 4, 0, none⟩) (Below.heap_setCell _ ⟨B + 2, 0, none⟩ _ (B + 4) (by show B + 4 ≠ B + 2; omega))]
    exact h.c7
  · intro a
    rw [World.frozen?_setCell, World.frozen?_setCell]
theorem SmAt.next {pre : List (Fin L.length)} {W V : World} (h : SmAt W0 B L pre W) (x : Fin L.length) (hx : x.val = pre.length) (ho : Only (SmC B) W V) (hk : KeepsOthers W V)
    (c5 : V.cell? ⟨B + 2, 0, none⟩ = some (.int .i64 ((pre.length : Int) + 1))) (c6 : V.cell? ⟨B + 3, 0, none⟩ = some (.int .i64 (max (mostF (told L pre)) (L[x.val]'x.isLt).2))) (c7 : V.cell? ⟨B + 4, 0, none⟩ = some (.int .i64 (freeT (told L pre))))
    (hf : ∀ a, V.frozen? a = W.frozen? a) {f : Int} (hfv : f = (freeT (told L pre) : Int) + (2 ^ (L[x.val]'x.isLt).2.toNat : Nat)) :
    KeepsFrom W0.heap.size W (V.setCell ⟨B + 4, 0, none⟩ (.int .i64 f)) ∧ KpC (SmC B) W0.heap.size W (V.setCell ⟨B + 4, 0, none⟩ (.int .i64 f)) ∧ SmAt W0 B L (pre ++ [x]) (V.setCell ⟨B + 4, 0, none⟩ (.int .i64 f)) := by
  have ho2 := ho.trans (Only.setCell (S := SmC B) V ⟨B + 4, 0, none⟩ (.inr (.inr rfl)) (.int .i64 f))
  refine ⟨(hk.trans (KeepsOthers.setCell _ _ _)).from _, KpC.of_only ho2, ?_, ?_, ?_, ?_, ?_, ?_, ?_, h.only.trans ho2⟩
  · rw [List.map_append, h.ord, List.length_append, List.length_singleton, List.range_succ, List.map_singleton, hx]
  · rw [World.cell?_of_block (a := ⟨B + 2, 0, none⟩) (Below.heap_setCell _ ⟨B + 4, 0, none⟩ _ (B + 2) (by show B + 2 ≠ B + 4; omega)), c5, List.length_append]
    rfl
  · rw [World.cell?_of_block (a := ⟨B + 3, 0, none⟩) (Below.heap_setCell _ ⟨B + 4, 0, none⟩ _ (B + 3) (by show B + 3 ≠ B + 4; omega)), c6, told_one, mostF_one]
  · rw [World.cell?_setCell_same' _ _ _ (by rw [c7]; rfl), told_one, freeT_append, hfv]
    simp [freeT]
  · rw [World.frozen?_setCell, hf]; exact h.f5
  · rw [World.frozen?_setCell, hf]; exact h.f6
  · rw [World.frozen?_setCell, hf]; exact h.f7
set_option maxRecDepth 100000 in
set_option maxHeartbeats 8000000 in
theorem same_in (m : Nat) (hm : 3 ≤ m) (N : NodeAt w d n mb tb L T) (I : Inv n L T) (R : BRef w r n L T v u) :
    CallsIn Fence.wide m Try.prog 12 #[.pointer (some ⟨d, 0, none⟩), .pointer (some ⟨r, 0, none⟩)] w fun e w' => e = .returned (.bool true) ∧ Below w.heap.size w w' := by
  have h1 : 1 ≤ m := by omega
  have hnil := blocks_nil
  refine callsIn_of_wp_marks Try.func12 rfl trivial ?_ rfl
  simp only [Try.ntmps12, List.size_toArray, List.length_cons, List.length_nil, Nat.reduceAdd, Nat.reduceSub, Array.replicate_succ, Array.replicate_zero, List.push_toArray, List.append_toArray, List.nil_append, List.cons_append]
  refine wpIn_wide.2 ?_
  go_wp2_with (fail)
  refine (blocks_any _ _).mono ?_
  rintro e w' ⟨rfl, rfl⟩
  go_wp2_with (fail)
  refine (blocks_any _ _).mono ?_
  rintro e w' ⟨rfl, rfl⟩
  go_wp2_with (fail)
  obtain ⟨a0, c0, hv, _⟩ := R.fr
  subst hv
  rw [show w.heap.size + 1 + 1 + 1 + 1 + 1 + 1 = w.heap.size + 6 from rfl, show w.heap.size + 1 + 1 + 1 + 1 + 1 = w.heap.size + 5 from rfl, show w.heap.size + 1 + 1 + 1 + 1 = w.heap.size + 4 from rfl, show w.heap.size + 1 + 1 + 1 = w.heap.size + 3 from rfl, show w.heap.size + 1 + 1 = w.heap.size + 2 from rfl]
  obtain ⟨W0, hW0⟩ : ∃ W0, (((((((w.alloc (.cells #[.pointer (some ⟨r, 0, none⟩)] 28)).alloc (.cells #[.bool false] 4)).alloc (.cells #[.int .i64 0] 3)).alloc (.cells #[.int .i64 (-1)] 3)).alloc (.cells #[.int .i64 0] 3)).alloc (.cells #[.pointer (some ⟨d, 0, none⟩)] 23)).alloc (.cells #[.pointer (some ⟨d, 0, none⟩)] 23)) = W0 := ⟨_, rfl⟩
  have hb0 : Below w.heap.size w W0 := by
    rw [← hW0]
    exact (((((((Below.refl _ w).alloc (Nat.le_refl _) _).alloc (by simp) _).alloc (by simp; omega) _).alloc (by simp; omega) _).alloc (by simp; omega) _).alloc (by simp; omega) _).alloc (by simp; omega) _
  have hs0 : W0.heap.size = w.heap.size + 7 := by rw [← hW0]; simp
  have c3 : W0.cell? ⟨w.heap.size, 0, none⟩ = some (.pointer (some ⟨r, 0, none⟩)) := by rw [← hW0]; simp [go_sem]
  have c4 : W0.cell? ⟨w.heap.size + 1, 0, none⟩ = some (.bool false) := by rw [← hW0]; simp [go_sem]
  have f4 : W0.frozen? ⟨w.heap.size + 1, 0, none⟩ = false := by rw [← hW0]; simp [go_sem]
  have hS0 : SmAt W0 w.heap.size L [] W0 := by
    refine ⟨rfl, ?_, ?_, ?_, ?_, ?_, ?_, Only.refl _ _⟩ <;> (rw [← hW0]; simp [go_sem, mostF, told, freeT])
  have cs : W0.cell? ⟨w.heap.size + 6, 0, none⟩ = some (.pointer (some ⟨d, 0, none⟩)) := by rw [← hW0]; simp [go_sem]
  rw [hW0]
  have HN0 := Lib.hid (N.later hb0)
  have HB0 := Lib.hid hb0
  have hdl := N.lt
  have hrl := R.lt
  have hll := I.len
  have hseq := blocks_stops (m - 1) (by omega) (w.heap.size + 6) (SmC w.heap.size) I HN0.out cs (by unfold SmC; omega) (fun k hk => by have := N.own_lt hk; unfold SmC; omega) (by unfold SmC; omega) (fun k hk => by unfold SmC at hk; omega)
  have HOW := Lib.hid (fun k (hk : own6 mb tb k) => N.own_lt hk)
  clear hW0 hb0 cs
  refine (wpIn_wide (n := m)).1 ?_
  refine range_boxed rfl h1 (gf := 36) (lb := #[.pointer (some ⟨w.heap.size + 6, 0, none⟩)]) (by simp [go_sem]) trivial (enters_of Try.func36 (by kernel_rfl) rfl) hseq KpC.trans
    (fun W l o o' hl h hc _ => KpC.put l o' hl h hc) (fun x => rfl)
    (SmAt W0 w.heap.size L) (fun _ pre _ => ¬ ∃ k, k ≤ L.length ∧ pre.map Fin.val = List.range k) sm_own (fun _ s _ _ _ h _ _ => h) hS0
    8 (fun x zb W' => RowAt W' zb 2 (blkV (L[x.val]'x.isLt).1 (L[x.val]'x.isLt).2) ∧ W0.heap.size ≤ zb) (fun x zb s X Y row R hg hr => ⟨row_grown R.1 hg (fun r e => (hr r e).2), R.2⟩) ?assign ?body ?done (fun _ _ _ _ _ hSp hIx _ => (hIx hSp).elim)
  case assign =>
    intro l pre x W K hI hK
    have HK := Lib.hid hK
    have HI := Lib.hid hI
    have HR := Lib.hid (block_row W (L[x.val]'x.isLt).1 (L[x.val]'x.isLt).2)
    have HW := Lib.hid ((Below.refl _ W).alloc (Nat.le_refl _) (.cells #[.int .i64 (L[x.val]'x.isLt).1, .int .i64 (L[x.val]'x.isLt).2] 42))
    clear hK hI hnil hseq hS0
    simp only [blk]
    gi_wp2_with (fail)
    have h9 := HK.out W.heap.size _ ((KeepsOthers.alloc W _).from _) (KpC.of_below HW.out) (HI.out.later HW.out) ⟨HR.out, HI.out.only.size⟩
    simpa [blk] using h9
  case body =>
    rintro l pre x zb W hI ⟨hz, hzb⟩ hlen
    have hB := hI.below HB0.out (by omega)
    obtain ⟨g, rfl, g0, g1⟩ := (R.later hB).atF pre.length hlen
    have cv := (R.later hB).c1
    have cb : W.cell? ⟨w.heap.size, 0, none⟩ = some (.pointer (some ⟨r, 0, none⟩)) := hI.only.cell (by unfold SmC; omega) c3
    have z0 : W.cell? ⟨zb, 0, none⟩ = some (.int .i64 (L[x.val]'x.isLt).1) := hz.cell 0 (by decide)
    have z1 : W.cell? ⟨zb, 1, none⟩ = some (.int .i64 (L[x.val]'x.isLt).2) := hz.cell 1 (by decide)
    have i5 := hI.c5
    have L5 := Lib.hid (show ∀ V, V = W.drew → (loadVar 3 ⟨w.heap.size + 2, 0, none⟩).run Try.prog V = .ok (.int .i64 pre.length) V from fun V hV => run_loadVar_cell (fun _ => by kernel_rfl) (by rw [hV]; exact i5))
    have L3 := Lib.hid (show ∀ V, V = W.drew → (loadVar 28 ⟨w.heap.size, 0, none⟩).run Try.prog V = .ok (.pointer (some ⟨r, 0, none⟩)) V from fun V hV => run_loadVar_cell (fun _ => by kernel_rfl) (by rw [hV]; exact cb))
    have Lv := Lib.hid (show ∀ V, V = W.drew → (loadVar 38 ⟨r, 1, none⟩).run Try.prog V = .ok (.slice (some ⟨g, 0, none⟩) L.length c0) V from fun V hV => run_loadVar_cell (fun _ => by kernel_rfl) (by rw [hV]; exact cv))
    have Lz := Lib.hid (show ∀ V, V = W.drew → (loadVar 42 ⟨zb, 0, none⟩).run Try.prog V = .ok (.agg #[.int .i64 (L[x.val]'x.isLt).1, .int .i64 (L[x.val]'x.isLt).2]) V from fun V hV => load_block (by rw [hV]; exact z0) (by rw [hV]; exact z1))
    have Lf := Lib.hid (show ∀ V, V = W.drew → (loadVar 42 ⟨g, pre.length * 2, none⟩).run Try.prog V = .ok (.agg #[.int .i64 L[pre.length].1, .int .i64 L[pre.length].2]) V from fun V hV => load_block (by rw [hV]; exact g0) (by rw [hV]; exact g1))
    have hlI : (pre.length : Int) < (L.length : Int) := by omega
    have hlI2 : decide ((L.length : Int) ≤ (pre.length : Int)) = false := decide_eq_false (by omega)
    have hlI3 : decide (L.length ≤ pre.length) = false := decide_eq_false (by omega)
    have hn10 := fun p hp => (show ∃ a o : Nat, p = ((a : Int), (o : Int)) ∧ o ≤ 10 by
      obtain ⟨a, o, e⟩ := I.nat p hp
      subst e
      exact ⟨a, o, rfl, (I.stk.al o a (.inl hp)).1⟩)
    obtain ⟨ya, yo, ey, hyo⟩ := hn10 _ (List.getElem_mem hlen)
    by_cases hx : x.val = pre.length
    · have ex : (L[x.val]'x.isLt) = ((ya : Int), (yo : Int)) := by rw [← ey]; simp only [hx]
      rw [ex] at z0 z1 Lz
      rw [ey] at g0 g1 Lf
      dsimp only at z0 z1 Lz g0 g1 Lf
      have HI := Lib.hid hI
      have HFB := Lib.hid (show freeT (told L pre) ≤ 131072 from Nat.le_trans (freeT_le _ (fun p hp => by
        obtain ⟨q, _, rfl⟩ := List.mem_map.1 hp
        obtain ⟨a, o, e, h10⟩ := hn10 _ (List.getElem_mem q.isLt)
        rw [e]
        exact h10)) (by rw [told_len]; omega))
      have HZ0 := Lib.hid z0
      have HZ1 := Lib.hid z1
      simp only [blk, ex]
      clear hI z0 z1 g0 g1 cv cb i5 hz hnil hS0 hseq hn10
      gi_wp2_with (fail)
      go_simp
      refine wpIn_region_lex1 (fun V => V = W.drew) [(0, false), (1, false), (2, false), (3, false), (4, false), (5, false), (6, false), (7, false), (8, false), (9, false), (10, false), (11, false), (12, false), (13, false), (14, false), (15, false), (16, false), (17, false)]
        (by kernel_rfl) (by kernel_rfl) (by kernel_rfl) rfl (by kernel_rfl) rfl ?_
      intro V0 hV0 _
      have HV0 := Lib.hid hV0
      clear hV0
      refine lexH_load rfl rfl _ _ rfl rfl L5.out ?_
      simp only [List.getElem_toArray, List.getElem_cons_zero, Act.put, List.setIfInBounds_toArray, List.set_cons_zero, List.set_cons_succ]
      refine lexH_load rfl rfl _ _ rfl rfl L3.out ?_
      simp only [List.getElem_toArray, List.getElem_cons_succ, List.getElem_cons_zero, Act.put, List.setIfInBounds_toArray, List.set_cons_zero, List.set_cons_succ]
      refine lexH_yieldE rfl rfl ?_
      apply Exists.intro
      refine ⟨fun W hW => ?_, ?_⟩
      focus (go_simp; exact rfl)
      simp only [List.getElem_toArray, List.getElem_cons_succ, List.getElem_cons_zero, Act.put, List.setIfInBounds_toArray, List.set_cons_zero, List.set_cons_succ]
      refine lexH_yieldE rfl rfl ?_
      apply Exists.intro
      refine ⟨fun W hW => ?_, ?_⟩
      focus (go_simp; exact rfl)
      simp only [List.getElem_toArray, List.getElem_cons_succ, List.getElem_cons_zero, Act.put, List.setIfInBounds_toArray, List.set_cons_zero, List.set_cons_succ]
      refine lexH_load rfl rfl _ _ rfl rfl Lv.out ?_
      simp only [List.getElem_toArray, List.getElem_cons_succ, List.getElem_cons_zero, Act.put, List.setIfInBounds_toArray, List.set_cons_zero, List.set_cons_succ]
      refine lexH_yieldE rfl rfl ?_
      apply Exists.intro
      refine ⟨fun W hW => ?_, ?_⟩
      focus (go_simp; exact rfl)
      simp only [List.getElem_toArray, List.getElem_cons_succ, List.getElem_cons_zero, Act.put, List.setIfInBounds_toArray, List.set_cons_zero, List.set_cons_succ]
      refine lexH_yieldE rfl rfl ?_
      apply Exists.intro
      refine ⟨fun W hW => ?_, ?_⟩
      focus (go_simp; exact rfl)
      simp only [List.getElem_toArray, List.getElem_cons_succ, List.getElem_cons_zero, Act.put, List.setIfInBounds_toArray, List.set_cons_zero, List.set_cons_succ]
      refine lexH_yieldE rfl rfl ?_
      apply Exists.intro
      refine ⟨fun W hW => ?_, ?_⟩
      focus (go_simp; exact rfl)
      simp only [List.getElem_toArray, List.getElem_cons_succ, List.getElem_cons_zero, Act.put, List.setIfInBounds_toArray, List.set_cons_zero, List.set_cons_succ]
      refine lexH_load rfl rfl _ _ rfl rfl Lz.out ?_
      simp only [List.getElem_toArray, List.getElem_cons_succ, List.getElem_cons_zero, Act.put, List.setIfInBounds_toArray, List.set_cons_zero, List.set_cons_succ]
      refine lexH_load rfl rfl _ _ rfl rfl L3.out ?_
      simp only [List.getElem_toArray, List.getElem_cons_succ, List.getElem_cons_zero, Act.put, List.setIfInBounds_toArray, List.set_cons_zero, List.set_cons_succ]
      refine lexH_yieldE rfl rfl ?_
      apply Exists.intro
      refine ⟨fun W hW => ?_, ?_⟩
      focus (go_simp; exact rfl)
      simp only [List.getElem_toArray, List.getElem_cons_succ, List.getElem_cons_zero, Act.put, List.setIfInBounds_toArray, List.set_cons_zero, List.set_cons_succ]
      refine lexH_yieldE rfl rfl ?_
      apply Exists.intro
      refine ⟨fun W hW => ?_, ?_⟩
      focus (go_simp; exact rfl)
      simp only [List.getElem_toArray, List.getElem_cons_succ, List.getElem_cons_zero, Act.put, List.setIfInBounds_toArray, List.set_cons_zero, List.set_cons_succ]
      refine lexH_load rfl rfl _ _ rfl rfl Lv.out ?_
      simp only [List.getElem_toArray, List.getElem_cons_succ, List.getElem_cons_zero, Act.put, List.setIfInBounds_toArray, List.set_cons_zero, List.set_cons_succ]
      refine lexH_load rfl rfl _ _ rfl rfl L5.out ?_
      simp only [List.getElem_toArray, List.getElem_cons_succ, List.getElem_cons_zero, Act.put, List.setIfInBounds_toArray, List.set_cons_zero, List.set_cons_succ]
      refine lexH_yieldE rfl rfl ?_
      apply Exists.intro
      refine ⟨fun W hW => ?_, ?_⟩
      focus (go_simp; exact rfl)
      simp only [List.getElem_toArray, List.getElem_cons_succ, List.getElem_cons_zero, Act.put, List.setIfInBounds_toArray, List.set_cons_zero, List.set_cons_succ]
      refine lexH_load rfl rfl _ _ rfl rfl Lf.out ?_
      simp only [List.getElem_toArray, List.getElem_cons_succ, List.getElem_cons_zero, Act.put, List.setIfInBounds_toArray, List.set_cons_zero, List.set_cons_succ]
      refine lexH_yieldE rfl rfl ?_
      apply Exists.intro
      refine ⟨fun W hW => ?_, ?_⟩
      focus (go_simp; exact rfl)
      simp only [List.getElem_toArray, List.getElem_cons_succ, List.getElem_cons_zero, Act.put, List.setIfInBounds_toArray, List.set_cons_zero, List.set_cons_succ]
      refine lexH_yieldE rfl rfl ?_
      apply Exists.intro
      refine ⟨fun W hW => ?_, ?_⟩
      focus (go_simp; exact rfl)
      simp only [List.getElem_toArray, List.getElem_cons_succ, List.getElem_cons_zero, Act.put, List.setIfInBounds_toArray, List.set_cons_zero, List.set_cons_succ]
      refine lexI_nil ?_
      have z1 : W.cell? ⟨zb, 1, none⟩ = some (.int .i64 yo) := HZ1.out
      clear HV0 L5 L3 Lv Lz Lf
      have c5 : W.cell? ⟨w.heap.size + 2, 0, none⟩ = some (.int .i64 pre.length) := HI.out.c5
      have f5 : W.frozen? ⟨w.heap.size + 2, 0, none⟩ = false := HI.out.f5
      have c6 : W.cell? ⟨w.heap.size + 3, 0, none⟩ = some (.int .i64 (mostF (told L pre))) := HI.out.c6
      have f6 : W.frozen? ⟨w.heap.size + 3, 0, none⟩ = false := HI.out.f6
      gi_wp2_with (fail)
      obtain ⟨so, sk, s5, s6, s7, sf⟩ := SmAt.step HI.out (max (mostF (told L pre)) (yo : Int))
      clear c5 f5 c6 f6 z1
      generalize ((W.setCell ⟨w.heap.size + 2, 0, none⟩ (.int .i64 ((pre.length : Int) + 1))).setCell ⟨w.heap.size + 3, 0, none⟩ (.int .i64 (max (mostF (told L pre)) (yo : Int)))) = W2 at *
      obtain ⟨p, hp⟩ : ∃ p, 2 ^ yo = p := ⟨_, rfl⟩
      have hp2 := two_pow_small hyo
      rw [hp] at hp2
      have HP := Lib.hid hp
      have hfb := HFB.out
      have z1 : W2.cell? ⟨zb, 1, none⟩ = some (.int .i64 yo) := so.cell (by unfold SmC; omega) HZ1.out
      have f7 : W2.frozen? ⟨w.heap.size + 4, 0, none⟩ = false := by rw [sf]; exact HI.out.f7
      have L7 := Lib.hid (show ∀ V, V = W2.drew.drew → (loadVar 3 ⟨w.heap.size + 4, 0, none⟩).run Try.prog V = .ok (.int .i64 (freeT (told L pre))) V from fun V hV => run_loadVar_cell (fun _ => by kernel_rfl) (by rw [hV]; exact s7))
      have Lo := Lib.hid (show ∀ V, V = W2.drew.drew → (loadVar 3 ⟨zb, 1, none⟩).run Try.prog V = .ok (.int .i64 yo) V from fun V hV => run_loadVar_cell (fun _ => by kernel_rfl) (by rw [hV]; exact z1))
      have HX := Lib.hid (HI.out.next x hx (V := W2.drew.drew) (f := (freeT (told L pre) : Int) + (p : Nat)) ⟨so.os, so.tape, so.output, so.size, so.block⟩ ((sk.trans (KeepsOthers.drew _)).trans (KeepsOthers.drew _)) s5 (by rw [ex]; exact s6) s7 sf (by rw [ex, ← hp]; rfl))
      clear so sk s5 s6 sf hp HI z1
      have HV7 := Lib.hid s7
      clear s7
      refine wpIn_region_lexF (fun V => V = W2.drew.drew) [(0, false), (1, false), (2, false), (3, false), (4, false)] 5
        (by kernel_rfl) (by kernel_rfl) (by kernel_rfl) rfl (by kernel_rfl) rfl ?_
      intro V0 hV0 _
      refine lexH_load rfl rfl _ _ rfl rfl L7.out ?_
      simp only [List.getElem_toArray, List.getElem_cons_zero, Act.put, List.setIfInBounds_toArray, List.set_cons_zero, List.set_cons_succ]
      refine lexH_yieldE rfl rfl ?_
      apply Exists.intro
      refine ⟨fun W hW => ?_, ?_⟩
      focus (go_simp; exact rfl)
      simp only [List.getElem_toArray, List.getElem_cons_succ, List.getElem_cons_zero, Act.put, List.setIfInBounds_toArray, List.set_cons_zero, List.set_cons_succ]
      refine lexH_load rfl rfl _ _ rfl rfl Lo.out ?_
      simp only [List.getElem_toArray, List.getElem_cons_succ, List.getElem_cons_zero, Act.put, List.setIfInBounds_toArray, List.set_cons_zero, List.set_cons_succ]
      refine lexH_shl1 rfl rfl _ _ _ _ rfl .i64 yo p hyo HP.out rfl rfl ?_
      simp only [List.getElem_toArray, List.getElem_cons_succ, List.getElem_cons_zero, Act.put, List.setIfInBounds_toArray, List.set_cons_zero, List.set_cons_succ]
      refine lexH_yieldE rfl rfl ?_
      apply Exists.intro
      refine ⟨fun W hW => ?_, ?_⟩
      focus (go_simp; exact rfl)
      simp only [List.getElem_toArray, List.getElem_cons_succ, List.getElem_cons_zero, Act.put, List.setIfInBounds_toArray, List.set_cons_zero, List.set_cons_succ]
      refine lexI_last rfl rfl ?_
      have c7 : W2.cell? ⟨w.heap.size + 4, 0, none⟩ = some (.int .i64 (freeT (told L pre))) := HV7.out
      rw [show IntKind.i64.wrap ((freeT (told L pre) : Int) + (p : Int)) = (freeT (told L pre) : Int) + (p : Int) by rw [IntKind.wrap_i64]; omega]
      clear L7 Lo
      unfold Oper.wp
      go_simp
      exact HX.out
    · obtain ⟨xa, xo, ex, _⟩ := hn10 _ (List.getElem_mem x.isLt)
      have hneN : ¬ xa = ya := fun e => by
        have h2 := (I.ris.index x.isLt hlen)
        have h3 := (I.ris.index hlen x.isLt)
        rw [ex, ey] at h2 h3
        dsimp only at h2 h3
        omega
      have hneB : ((xa : Int) == (ya : Int)) = false := beq_eq_false_iff_ne.2 (fun e => hneN (by omega))
      rw [ex] at z0 z1 Lz
      rw [ey] at g0 g1 Lf
      dsimp only at z0 z1 Lz g0 g1 Lf
      have hblk := hI.only.block (w.heap.size + 1) (by omega) (by unfold SmC; omega)
      have c4W : W.cell? ⟨w.heap.size + 1, 0, none⟩ = some (.bool false) := hI.only.cell (by unfold SmC; omega) c4
      have f4W : W.frozen? ⟨w.heap.size + 1, 0, none⟩ = false := by
        unfold World.frozen? at f4 ⊢
        dsimp only at f4 ⊢
        rw [hblk]
        exact f4
      have HIX := Lib.hid (show ¬ ∃ k, k ≤ L.length ∧ (pre ++ [x]).map Fin.val = List.range k from fun ⟨k, _, hk⟩ => by
        have hk1 := congrArg List.length hk
        simp at hk1
        subst hk1
        rw [List.map_append, hI.ord, List.range_succ] at hk
        have := List.append_cancel_left hk
        simp at this
        exact hx this)
      simp only [blk, ex]
      clear hI z0 z1 g0 g1 cv cb i5 hz hnil hS0 hseq hn10 hblk
      gi_wp2_with (fail)
      go_simp
      refine wpIn_region_lex1 (fun V => V = W.drew) [(0, false), (1, false), (2, false), (3, false), (4, false), (5, false), (6, false), (7, false), (8, false), (9, false), (10, false), (11, false), (12, false), (13, false), (14, false), (15, false), (16, false), (17, false)]
        (by kernel_rfl) (by kernel_rfl) (by kernel_rfl) rfl (by kernel_rfl) rfl ?_
      intro V0 hV0 _
      have HV0 := Lib.hid hV0
      clear hV0
      refine lexH_load rfl rfl _ _ rfl rfl L5.out ?_
      simp only [List.getElem_toArray, List.getElem_cons_zero, Act.put, List.setIfInBounds_toArray, List.set_cons_zero, List.set_cons_succ]
      refine lexH_load rfl rfl _ _ rfl rfl L3.out ?_
      simp only [List.getElem_toArray, List.getElem_cons_succ, List.getElem_cons_zero, Act.put, List.setIfInBounds_toArray, List.set_cons_zero, List.set_cons_succ]
      refine lexH_yieldE rfl rfl ?_
      apply Exists.intro
      refine ⟨fun W hW => ?_, ?_⟩
      focus (go_simp; exact rfl)
      simp only [List.getElem_toArray, List.getElem_cons_succ, List.getElem_cons_zero, Act.put, List.setIfInBounds_toArray, List.set_cons_zero, List.set_cons_succ]
      refine lexH_yieldE rfl rfl ?_
      apply Exists.intro
      refine ⟨fun W hW => ?_, ?_⟩
      focus (go_simp; exact rfl)
      simp only [List.getElem_toArray, List.getElem_cons_succ, List.getElem_cons_zero, Act.put, List.setIfInBounds_toArray, List.set_cons_zero, List.set_cons_succ]
      refine lexH_load rfl rfl _ _ rfl rfl Lv.out ?_
      simp only [List.getElem_toArray, List.getElem_cons_succ, List.getElem_cons_zero, Act.put, List.setIfInBounds_toArray, List.set_cons_zero, List.set_cons_succ]
      refine lexH_yieldE rfl rfl ?_
      apply Exists.intro
      refine ⟨fun W hW => ?_, ?_⟩
      focus (go_simp; exact rfl)
      simp only [List.getElem_toArray, List.getElem_cons_succ, List.getElem_cons_zero, Act.put, List.setIfInBounds_toArray, List.set_cons_zero, List.set_cons_succ]
      refine lexH_yieldE rfl rfl ?_
      apply Exists.intro
      refine ⟨fun W hW => ?_, ?_⟩
      focus (go_simp; exact rfl)
      simp only [List.getElem_toArray, List.getElem_cons_succ, List.getElem_cons_zero, Act.put, List.setIfInBounds_toArray, List.set_cons_zero, List.set_cons_succ]
      refine lexH_yieldE rfl rfl ?_
      apply Exists.intro
      refine ⟨fun W hW => ?_, ?_⟩
      focus (go_simp; exact rfl)
      simp only [List.getElem_toArray, List.getElem_cons_succ, List.getElem_cons_zero, Act.put, List.setIfInBounds_toArray, List.set_cons_zero, List.set_cons_succ]
      refine lexH_load rfl rfl _ _ rfl rfl Lz.out ?_
      simp only [List.getElem_toArray, List.getElem_cons_succ, List.getElem_cons_zero, Act.put, List.setIfInBounds_toArray, List.set_cons_zero, List.set_cons_succ]
      refine lexH_load rfl rfl _ _ rfl rfl L3.out ?_
      simp only [List.getElem_toArray, List.getElem_cons_succ, List.getElem_cons_zero, Act.put, List.setIfInBounds_toArray, List.set_cons_zero, List.set_cons_succ]
      refine lexH_yieldE rfl rfl ?_
      apply Exists.intro
      refine ⟨fun W hW => ?_, ?_⟩
      focus (go_simp; exact rfl)
      simp only [List.getElem_toArray, List.getElem_cons_succ, List.getElem_cons_zero, Act.put, List.setIfInBounds_toArray, List.set_cons_zero, List.set_cons_succ]
      refine lexH_yieldE rfl rfl ?_
      apply Exists.intro
      refine ⟨fun W hW => ?_, ?_⟩
      focus (go_simp; exact rfl)
      simp only [List.getElem_toArray, List.getElem_cons_succ, List.getElem_cons_zero, Act.put, List.setIfInBounds_toArray, List.set_cons_zero, List.set_cons_succ]
      refine lexH_load rfl rfl _ _ rfl rfl Lv.out ?_
      simp only [List.getElem_toArray, List.getElem_cons_succ, List.getElem_cons_zero, Act.put, List.setIfInBounds_toArray, List.set_cons_zero, List.set_cons_succ]
      refine lexH_load rfl rfl _ _ rfl rfl L5.out ?_
      simp only [List.getElem_toArray, List.getElem_cons_succ, List.getElem_cons_zero, Act.put, List.setIfInBounds_toArray, List.set_cons_zero, List.set_cons_succ]
      refine lexH_yieldE rfl rfl ?_
      apply Exists.intro
      refine ⟨fun W hW => ?_, ?_⟩
      focus (go_simp; exact rfl)
      simp only [List.getElem_toArray, List.getElem_cons_succ, List.getElem_cons_zero, Act.put, List.setIfInBounds_toArray, List.set_cons_zero, List.set_cons_succ]
      refine lexH_load rfl rfl _ _ rfl rfl Lf.out ?_
      simp only [List.getElem_toArray, List.getElem_cons_succ, List.getElem_cons_zero, Act.put, List.setIfInBounds_toArray, List.set_cons_zero, List.set_cons_succ]
      refine lexH_yieldE rfl rfl ?_
      apply Exists.intro
      refine ⟨fun W hW => ?_, ?_⟩
      focus (go_simp; exact rfl)
      simp only [List.getElem_toArray, List.getElem_cons_succ, List.getElem_cons_zero, Act.put, List.setIfInBounds_toArray, List.set_cons_zero, List.set_cons_succ]
      refine lexH_yieldE rfl rfl ?_
      apply Exists.intro
      refine ⟨fun W hW => ?_, ?_⟩
      focus (go_simp; exact rfl)
      simp only [List.getElem_toArray, List.getElem_cons_succ, List.getElem_cons_zero, Act.put, List.setIfInBounds_toArray, List.set_cons_zero, List.set_cons_succ]
      refine lexI_nil ?_
      clear HV0 L5 L3 Lv Lz Lf
      gi_wp2_with (fail)
      exact ⟨(((KeepsOthers.drew W).trans (KeepsOthers.setCell _ _ _)).from _), HIX.out⟩
  case done =>
    rintro D xs W hD hxs hI hK
    have hlx : xs.length = L.length := by
      have := congrArg List.length hxs
      simpa using this
    have hB := hI.below HB0.out (by omega)
    have hN1 := HN0.out.only hI.only (by unfold SmC; omega) (fun k hk => by have := HOW.out k hk; unfold SmC; omega)
    have cb : W.cell? ⟨w.heap.size, 0, none⟩ = some (.pointer (some ⟨r, 0, none⟩)) := hI.only.cell (by unfold SmC; omega) c3
    have c4W : W.cell? ⟨w.heap.size + 1, 0, none⟩ = some (.bool false) := hI.only.cell (by unfold SmC; omega) c4
    have hblk := hI.only.block (w.heap.size + 1) (by omega) (by unfold SmC; omega)
    have f4W : W.frozen? ⟨w.heap.size + 1, 0, none⟩ = false := by
      unfold World.frozen? at f4 ⊢
      dsimp only at f4 ⊢
      rw [hblk]
      exact f4
    have hsz := hI.only.size
    have i5 := hI.c5
    have i6 := hI.c6
    have i7 := hI.c7
    rw [told_all hxs] at i6 i7
    rw [hlx] at i5
    have HI5 := Lib.hid i5
    have HI6 := Lib.hid i6
    have HI7 := Lib.hid i7
    have HCB := Lib.hid cb
    have HC4 := Lib.hid c4W
    have HF4 := Lib.hid f4W
    have HBW := Lib.hid hB
    have HN1 := Lib.hid hN1
    have HK := Lib.hid hK
    clear hI hlx i5 i6 i7 cb c4W f4W hB hN1 hK hS0 hseq hxs hblk
    go_wp2_with (fail)
    refine (blocks_any _ _).mono ?_
    rintro e w' ⟨rfl, rfl⟩
    go_wp2_with (fail)
    refine (blocks_any _ _).mono ?_
    rintro e w' ⟨rfl, rfl⟩
    go_wp2_with (fail)
    obtain ⟨W1, hW1⟩ : ∃ W1, ((W.alloc (.cells #[.pointer (some ⟨d, 0, none⟩)] 23)).alloc (.cells #[.pointer (some ⟨d, 0, none⟩)] 23)) = W1 := ⟨_, rfl⟩
    have hb1 : Below W.heap.size W W1 := by
      rw [← hW1]
      exact ((Below.refl _ _).alloc (Nat.le_refl _) _).alloc (by simp) _
    have hc1 : W1.cell? ⟨W.heap.size + 1, 0, none⟩ = some (.pointer (some ⟨d, 0, none⟩)) := by rw [← hW1]; simp [go_sem]
    rw [hW1]
    refine (wpIn_wide (n := m)).1 ?_
    refine range_brk m hm (W.heap.size + 1) _ _ I (HN1.out.later hb1) hc1 (by decide) (by simp [go_sem]) ?_
    intro D2 W7 hD2 hW7 hK2
    have hb7 : Below W.heap.size W W7 := hb1.trans (hW7.mono hb1.size)
    have hD1 := (Array.getElem?_eq_some_iff.1 HK.out).1
    have hDD : D2 ≠ D := by have := hb1.size; omega
    have HW1S := Lib.hid (show W.heap.size ≤ D2 by have := hb1.size; omega)
    have HK1 := Lib.hid (show W7.heap[D]? = some (.deferred (some [])) by rw [hb7.block D hD1]; exact HK.out)
    have HK2 := Lib.hid hK2
    have HB7 := Lib.hid (HBW.out.trans (hb7.mono HBW.out.size))
    have HN7 := Lib.hid (HN1.out.later hb7)
    have HR7 := Lib.hid (R.later HB7.out)
    have c5 : W7.cell? ⟨w.heap.size + 2, 0, none⟩ = some (.int .i64 L.length) := by rw [hb7.cell (World.block_lt_of_cell? _ _ HI5.out)]; exact HI5.out
    have c6 : W7.cell? ⟨w.heap.size + 3, 0, none⟩ = some (.int .i64 (mostF L)) := by rw [hb7.cell (World.block_lt_of_cell? _ _ HI6.out)]; exact HI6.out
    have c7 : W7.cell? ⟨w.heap.size + 4, 0, none⟩ = some (.int .i64 (freeT L)) := by rw [hb7.cell (World.block_lt_of_cell? _ _ HI7.out)]; exact HI7.out
    have cb : W7.cell? ⟨w.heap.size, 0, none⟩ = some (.pointer (some ⟨r, 0, none⟩)) := by rw [hb7.cell (World.block_lt_of_cell? _ _ HCB.out)]; exact HCB.out
    have c4W : W7.cell? ⟨w.heap.size + 1, 0, none⟩ = some (.bool false) := by rw [hb7.cell (World.block_lt_of_cell? _ _ HC4.out)]; exact HC4.out
    have f4W : W7.frozen? ⟨w.heap.size + 1, 0, none⟩ = false := by rw [hb7.frozen (World.block_lt_of_cell? _ _ HC4.out)]; exact HF4.out
    clear hK2 hb7 hW7 hb1 hc1 hW1 HI5 HI6 HI7 HCB HC4 HF4 HK
    go_wp2_with (fail)
    have L5 := Lib.hid (show ∀ V, SmS W7 (w.heap.size + 1) V → (loadVar 3 ⟨w.heap.size + 2, 0, none⟩).run Try.prog V = .ok (.int .i64 L.length) V from fun V hV => run_loadVar_cell (fun _ => by kernel_rfl) (hV.only.cell (by omega) c5))
    have L6 := Lib.hid (show ∀ V, SmS W7 (w.heap.size + 1) V → (loadVar 3 ⟨w.heap.size + 3, 0, none⟩).run Try.prog V = .ok (.int .i64 (mostF L)) V from fun V hV => run_loadVar_cell (fun _ => by kernel_rfl) (hV.only.cell (by omega) c6))
    have L7 := Lib.hid (show ∀ V, SmS W7 (w.heap.size + 1) V → (loadVar 3 ⟨w.heap.size + 4, 0, none⟩).run Try.prog V = .ok (.int .i64 (freeT L)) V from fun V hV => run_loadVar_cell (fun _ => by kernel_rfl) (hV.only.cell (by omega) c7))
    have L3 := Lib.hid (show ∀ V, SmS W7 (w.heap.size + 1) V → (loadVar 28 ⟨w.heap.size, 0, none⟩).run Try.prog V = .ok (.pointer (some ⟨r, 0, none⟩)) V from fun V hV => run_loadVar_cell (fun _ => by kernel_rfl) (hV.only.cell (by omega) cb))
    have Lv := Lib.hid (show ∀ V, SmS W7 (w.heap.size + 1) V → (loadVar 38 ⟨r, 1, none⟩).run Try.prog V = .ok (.slice a0 L.length c0) V from fun V hV => run_loadVar_cell (fun _ => by kernel_rfl) (hV.only.cell (by omega) HR7.out.c1))
    have Ln := Lib.hid (show ∀ V, SmS W7 (w.heap.size + 1) V → (loadVar 3 ⟨r, 0, none⟩).run Try.prog V = .ok (.int .i64 n) V from fun V hV => run_loadVar_cell (fun _ => by kernel_rfl) (hV.only.cell (by omega) HR7.out.c0))
    have HMS := Lib.hid (mostF_is (L := L) (fun p hp => by
      obtain ⟨a, o, rfl⟩ := I.nat p hp
      have := (I.stk.al o a (.inl hp)).1
      exact ⟨a, o, rfl, by omega⟩))
    have HNV := Lib.hid (show ∀ V, SmS W7 (w.heap.size + 1) V → NodeAt V d n mb tb L T from fun V hV => HN7.out.only hV.only (by omega) (fun k hk h => by have := HOW.out k hk; omega))
    have HC4 := Lib.hid c4W
    have HF4 := Lib.hid f4W
    clear c5 c6 c7 cb c4W f4W hnil
    refine wp_region_lex (SmS W7 (w.heap.size + 1)) [(0, false), (1, false), (2, false), (3, false), (4, false), (5, false), (6, false), (7, false), (8, false), (10, false), (9, true), (11, false), (12, false), (13, false), (14, false), (16, false), (15, true), (17, false), (18, false), (19, false), (20, false), (22, false), (23, false), (24, false), (25, false), (21, true), (26, false), (27, false), (28, true)]
      (by kernel_rfl) (by kernel_rfl) rfl (by kernel_rfl) ⟨⟨rfl, rfl, rfl, Nat.le_refl _, fun _ _ _ => rfl⟩, ⟨_, HC4.out⟩, HF4.out⟩ ?_
    intro V0 hV0
    have HV0 := Lib.hid hV0
    clear hV0
    refine lexH_load rfl rfl _ _ rfl rfl L5.out ?_
    simp only [List.getElem_toArray, List.getElem_cons_zero, Act.put, List.setIfInBounds_toArray, List.set_cons_zero, List.set_cons_succ]
    refine lexH_load rfl rfl _ _ rfl rfl L3.out ?_
    simp only [List.getElem_toArray, List.getElem_cons_succ, List.getElem_cons_zero, Act.put, List.setIfInBounds_toArray, List.set_cons_zero, List.set_cons_succ]
    refine lexH_yieldE rfl rfl ?_
    apply Exists.intro
    refine ⟨fun W hW => ?_, ?_⟩
    focus (go_simp; exact rfl)
    simp only [List.getElem_toArray, List.getElem_cons_succ, List.getElem_cons_zero, Act.put, List.setIfInBounds_toArray, List.set_cons_zero, List.set_cons_succ]
    refine lexH_yieldE rfl rfl ?_
    apply Exists.intro
    refine ⟨fun W hW => ?_, ?_⟩
    focus (go_simp; exact rfl)
    simp only [List.getElem_toArray, List.getElem_cons_succ, List.getElem_cons_zero, Act.put, List.setIfInBounds_toArray, List.set_cons_zero, List.set_cons_succ]
    refine lexH_load rfl rfl _ _ rfl rfl Lv.out ?_
    simp only [List.getElem_toArray, List.getElem_cons_succ, List.getElem_cons_zero, Act.put, List.setIfInBounds_toArray, List.set_cons_zero, List.set_cons_succ]
    refine lexH_yieldE rfl rfl ?_
    apply Exists.intro
    refine ⟨fun W hW => ?_, ?_⟩
    focus (go_simp; exact rfl)
    simp only [List.getElem_toArray, List.getElem_cons_succ, List.getElem_cons_zero, Act.put, List.setIfInBounds_toArray, List.set_cons_zero, List.set_cons_succ]
    refine lexH_yieldE rfl rfl ?_
    apply Exists.intro
    refine ⟨fun W hW => ?_, ?_⟩
    focus (go_simp; exact rfl)
    simp only [List.getElem_toArray, List.getElem_cons_succ, List.getElem_cons_zero, Act.put, List.setIfInBounds_toArray, List.set_cons_zero, List.set_cons_succ]
    refine lexH_yieldE rfl rfl ?_
    apply Exists.intro
    refine ⟨fun W hW => ?_, ?_⟩
    focus (go_simp; exact rfl)
    simp only [List.getElem_toArray, List.getElem_cons_succ, List.getElem_cons_zero, Act.put, List.setIfInBounds_toArray, List.set_cons_zero, List.set_cons_succ]
    refine lexH_yieldE rfl rfl ?_
    apply Exists.intro
    refine ⟨fun W hW => ?_, ?_⟩
    focus (go_simp; exact rfl)
    simp only [List.getElem_toArray, List.getElem_cons_succ, List.getElem_cons_zero, Act.put, List.setIfInBounds_toArray, List.set_cons_zero, List.set_cons_succ]
    refine lexH_load rfl rfl _ _ rfl rfl L6.out ?_
    simp only [List.getElem_toArray, List.getElem_cons_succ, List.getElem_cons_zero, Act.put, List.setIfInBounds_toArray, List.set_cons_zero, List.set_cons_succ]
    refine lexH_call 22 #[.pointer (some ⟨d, 0, none⟩)] rfl rfl ?_ ?_
    focus (go_simp; done)
    refine (most6_any (HNV.out _ HV0.out)).mono ?_
    rintro e V1 ⟨⟨y, rfl, hy⟩, hb⟩
    obtain rfl := mst_one hy HMS.out
    have HV1 := Lib.hid (HV0.out.later hb)
    refine ⟨_, rfl, HV1.out, ?_⟩
    clear hb hy HV0
    generalize mostF L = y at *
    simp only [List.getElem_toArray, List.getElem_cons_succ, List.getElem_cons_zero, Act.put, List.setIfInBounds_toArray, List.set_cons_zero, List.set_cons_succ]
    refine lexH_yieldE rfl rfl ?_
    apply Exists.intro
    refine ⟨fun W hW => ?_, ?_⟩
    focus (go_simp; exact rfl)
    simp only [List.getElem_toArray, List.getElem_cons_succ, List.getElem_cons_zero, Act.put, List.setIfInBounds_toArray, List.set_cons_zero, List.set_cons_succ]
    refine lexH_yieldE rfl rfl ?_
    apply Exists.intro
    refine ⟨fun W hW => ?_, ?_⟩
    focus (go_simp; exact rfl)
    simp only [List.getElem_toArray, List.getElem_cons_succ, List.getElem_cons_zero, Act.put, List.setIfInBounds_toArray, List.set_cons_zero, List.set_cons_succ]
    refine lexH_yieldE rfl rfl ?_
    apply Exists.intro
    refine ⟨fun W hW => ?_, ?_⟩
    focus (go_simp; exact rfl)
    simp only [List.getElem_toArray, List.getElem_cons_succ, List.getElem_cons_zero, Act.put, List.setIfInBounds_toArray, List.set_cons_zero, List.set_cons_succ]
    refine lexH_yieldE rfl rfl ?_
    apply Exists.intro
    refine ⟨fun W hW => ?_, ?_⟩
    focus (go_simp; exact rfl)
    simp only [List.getElem_toArray, List.getElem_cons_succ, List.getElem_cons_zero, Act.put, List.setIfInBounds_toArray, List.set_cons_zero, List.set_cons_succ]
    refine lexH_load rfl rfl _ _ rfl rfl L7.out ?_
    simp only [List.getElem_toArray, List.getElem_cons_succ, List.getElem_cons_zero, Act.put, List.setIfInBounds_toArray, List.set_cons_zero, List.set_cons_succ]
    refine lexH_call 21 #[.pointer (some ⟨d, 0, none⟩)] rfl rfl ?_ ?_
    focus (go_simp; done)
    refine (free_any (HNV.out _ HV1.out) I).mono ?_
    rintro e V2 ⟨rfl, rfl⟩
    refine ⟨_, rfl, HV1.out, ?_⟩
    simp only [List.getElem_toArray, List.getElem_cons_succ, List.getElem_cons_zero, Act.put, List.setIfInBounds_toArray, List.set_cons_zero, List.set_cons_succ]
    refine lexH_yieldE rfl rfl ?_
    apply Exists.intro
    refine ⟨fun W hW => ?_, ?_⟩
    focus (go_simp; exact rfl)
    simp only [List.getElem_toArray, List.getElem_cons_succ, List.getElem_cons_zero, Act.put, List.setIfInBounds_toArray, List.set_cons_zero, List.set_cons_succ]
    refine lexH_yieldE rfl rfl ?_
    apply Exists.intro
    refine ⟨fun W hW => ?_, ?_⟩
    focus (go_simp; exact rfl)
    simp only [List.getElem_toArray, List.getElem_cons_succ, List.getElem_cons_zero, Act.put, List.setIfInBounds_toArray, List.set_cons_zero, List.set_cons_succ]
    refine lexH_yieldE rfl rfl ?_
    apply Exists.intro
    refine ⟨fun W hW => ?_, ?_⟩
    focus (go_simp; exact rfl)
    simp only [List.getElem_toArray, List.getElem_cons_succ, List.getElem_cons_zero, Act.put, List.setIfInBounds_toArray, List.set_cons_zero, List.set_cons_succ]
    refine lexH_yieldE rfl rfl ?_
    apply Exists.intro
    refine ⟨fun W hW => ?_, ?_⟩
    focus (go_simp; exact rfl)
    simp only [List.getElem_toArray, List.getElem_cons_succ, List.getElem_cons_zero, Act.put, List.setIfInBounds_toArray, List.set_cons_zero, List.set_cons_succ]
    refine lexH_load rfl rfl _ _ rfl rfl L3.out ?_
    simp only [List.getElem_toArray, List.getElem_cons_succ, List.getElem_cons_zero, Act.put, List.setIfInBounds_toArray, List.set_cons_zero, List.set_cons_succ]
    refine lexH_yieldE rfl rfl ?_
    apply Exists.intro
    refine ⟨fun W hW => ?_, ?_⟩
    focus (go_simp; exact rfl)
    simp only [List.getElem_toArray, List.getElem_cons_succ, List.getElem_cons_zero, Act.put, List.setIfInBounds_toArray, List.set_cons_zero, List.set_cons_succ]
    refine lexH_yieldE rfl rfl ?_
    apply Exists.intro
    refine ⟨fun W hW => ?_, ?_⟩
    focus (go_simp; exact rfl)
    simp only [List.getElem_toArray, List.getElem_cons_succ, List.getElem_cons_zero, Act.put, List.setIfInBounds_toArray, List.set_cons_zero, List.set_cons_succ]
    refine lexH_load rfl rfl _ _ rfl rfl Ln.out ?_
    simp only [List.getElem_toArray, List.getElem_cons_succ, List.getElem_cons_zero, Act.put, List.setIfInBounds_toArray, List.set_cons_zero, List.set_cons_succ]
    refine lexH_call 20 #[.pointer (some ⟨d, 0, none⟩)] rfl rfl ?_ ?_
    focus (go_simp; done)
    refine (frames_any (HNV.out _ HV1.out)).mono ?_
    rintro e V2 ⟨rfl, rfl⟩
    refine ⟨_, rfl, HV1.out, ?_⟩
    simp only [List.getElem_toArray, List.getElem_cons_succ, List.getElem_cons_zero, Act.put, List.setIfInBounds_toArray, List.set_cons_zero, List.set_cons_succ]
    refine lexH_yieldE rfl rfl ?_
    apply Exists.intro
    refine ⟨fun W hW => ?_, ?_⟩
    focus (go_simp; exact rfl)
    simp only [List.getElem_toArray, List.getElem_cons_succ, List.getElem_cons_zero, Act.put, List.setIfInBounds_toArray, List.set_cons_zero, List.set_cons_succ]
    refine lexH_yieldE rfl rfl ?_
    apply Exists.intro
    refine ⟨fun W hW => ?_, ?_⟩
    focus (go_simp; exact rfl)
    simp only [List.getElem_toArray, List.getElem_cons_succ, List.getElem_cons_zero, Act.put, List.setIfInBounds_toArray, List.set_cons_zero, List.set_cons_succ]
    obtain ⟨z, c4W⟩ := HV1.out.cell
    have f4W := HV1.out.frz
    have HP := Lib.hid HV1.out.put
    clear L3 L5 L6 L7 Lv Ln
    refine lexH_eff rfl rfl ?_
    unfold Oper.wp
    go_simp
    refine ⟨HP.out.1, ?_⟩
    refine lexH_nil ?_
    have HCR := Lib.hid HP.out.2
    have HO := Lib.hid HP.out.1.only
    clear c4W f4W HP HV1
    generalize V1.setCell ⟨w.heap.size + 1, 0, none⟩ (.bool true) = V2 at *
    go_wp2_with (fail)
    have n0 : D ≠ w.heap.size + 1 := by omega
    have n1 : D2 ≠ w.heap.size + 1 := by
      have h := hsz
      have h5 := HW1S.out
      omega
    refine leaves_many [D2, D] _ ?_ (fun E hE => ?_) (fun W' ho2 hs2 => ?_)
    · simp only [List.nodup_cons, List.mem_singleton, List.not_mem_nil, not_false_eq_true, List.nodup_nil, and_true]
      exact hDD
    · have hE7 : W7.heap[E]? = some (.deferred (some [])) ∧ E ≠ w.heap.size + 1 := by
        rcases List.mem_cons.1 hE with rfl | hE
        · exact ⟨HK2.out, n1⟩
        · rw [List.mem_singleton] at hE
          subst hE
          exact ⟨HK1.out, n0⟩
      exact (HO.out.block E (Array.getElem?_eq_some_iff.1 hE7.1).1 hE7.2).trans hE7.1
    · have hc2 := ho2.cell (b := w.heap.size + 1) (o := 0) (fun h => by
        rcases List.mem_cons.1 h with h | h
        · exact n1 h.symm
        · rw [List.mem_singleton] at h
          exact n0 h.symm) HCR.out
      refine ⟨.bool true, ?_, rfl, ?_⟩
      · simp [results, Try.f12, go_sem, hc2]
      · have hb9 : Below w.heap.size w V2 := HO.out.below HB7.out HB7.out.size (fun k hk => by omega)
        refine ho2.below hb9 hb9.size (fun k hk => ?_)
        rcases List.mem_cons.1 hk with h | h
        · have := HW1S.out
          omega
        · rw [List.mem_singleton] at h
          omega
theorem same_any (N : NodeAt w d n mb tb L T) (I : Inv n L T) (R : BRef w r n L T v u) :
    Calls Try.prog 12 #[.pointer (some ⟨d, 0, none⟩), .pointer (some ⟨r, 0, none⟩)] w fun e w' => e = .returned (.bool true) ∧ Below w.heap.size w w' := callsIn_wide.1 (same_in 3 (Nat.le_refl _) N I R)
end
end Go.Proofs.Ytilcdnkjfbkpnaa
