/-
  The walk of BitmapNone: it returns true, and below the old heap nothing has turned.
-/
import Derived.Test.YtkecmoljaopgbaaDoorNil
namespace Go.Proofs.YtkecmoljaopgbaaDoor
open Go.RowKit Go.Shelf Go Bm
attribute [local go_sem] Oper.semAt_some

/-- The closure is not nil. -/
theorem run_all_nil (w : World) (a : Value) : (binOp .eql 45 (.func (.func 29) #[] #[a]) .nilFunc).run Tryd.prog w = .ok (.bool false) w := by kernel_rfl

set_option maxRecDepth 100000 in
set_option maxHeartbeats 2000000 in
theorem none_in (m : Nat) (hm : 3 ≤ m) (i n : Int) (w : World) (hT : TabAt 0 Lib.deBruijn64tab w) :
    CallsIn Fence.wide m Tryd.prog 4 #[.int .i64 i, .int .i64 n] w fun e w' => e = .returned (.bool true) ∧ Below w.heap.size w w' := by
  have h1 : 1 ≤ m := by omega
  refine callsIn_of_wp_marks Tryd.func4 rfl trivial ?_ rfl
  simp only [Tryd.ntmps4, List.size_toArray, List.length_cons, List.length_nil, Nat.reduceAdd, Nat.reduceSub, Array.replicate_succ, Array.replicate_zero, List.push_toArray, List.append_toArray, List.nil_append, List.cons_append]
  gi_wp2_with (fail)
  refine ⟨trivial, (callsIn_wide.2 (free_nil _ _)).mono ?_⟩
  rintro e w' ⟨rfl, rfl⟩
  unfold fnd
  gi_wp2_with (fail)
  refine ⟨trivial, (callsIn_wide.2 (next_nil _ _)).mono ?_⟩
  rintro e w' ⟨rfl, rfl⟩
  unfold fnd
  gi_wp2_with (fail)
  refine ⟨trivial, (callsIn_wide.2 (run_nil _ _ _)).mono ?_⟩
  rintro e w' ⟨rfl, rfl⟩
  unfold fnd
  gi_wp2_with (fail)
  have cz : ((w.alloc (.cells #[.bool false] 4)).alloc (.cells #[.int .i64 0, .slice none 0 0] 43)).cell? ⟨w.heap.size + 1, 0, none⟩ = some (.int .i64 0) := by simp [go_sem]
  have cw : ((w.alloc (.cells #[.bool false] 4)).alloc (.cells #[.int .i64 0, .slice none 0 0] 43)).cell? ⟨w.heap.size + 1, 1, none⟩ = some (.slice none 0 0) := by simp [go_sem]
  have c1 : ((w.alloc (.cells #[.bool false] 4)).alloc (.cells #[.int .i64 0, .slice none 0 0] 43)).cell? ⟨w.heap.size, 0, none⟩ = some (.bool false) := by simp [go_sem]
  have f1 : ((w.alloc (.cells #[.bool false] 4)).alloc (.cells #[.int .i64 0, .slice none 0 0] 43)).frozen? ⟨w.heap.size, 0, none⟩ = false := by simp [go_sem]
  have hb : Below w.heap.size w ((w.alloc (.cells #[.bool false] 4)).alloc (.cells #[.int .i64 0, .slice none 0 0] 43)) := ((Below.refl _ w).alloc (Nat.le_refl _) _).alloc (by simp) _
  have hs : ((w.alloc (.cells #[.bool false] 4)).alloc (.cells #[.int .i64 0, .slice none 0 0] 43)).heap.size = w.heap.size + 2 := by simp
  obtain ⟨W2, hW2⟩ : ∃ W2, (w.alloc (.cells #[.bool false] 4)).alloc (.cells #[.int .i64 0, .slice none 0 0] 43) = W2 := ⟨_, rfl⟩
  rw [hW2] at cz cw c1 f1 hb hs ⊢
  clear hW2
  refine ⟨trivial, (callsIn_wide.2 (run_zero _ _ _ _ cz)).mono ?_⟩
  rintro e w' ⟨rfl, rfl⟩
  unfold fnd
  gi_wp2_with (fail)
  refine ⟨trivial, (callsIn_wide.2 (all_any none _)).mono ?_⟩
  rintro e w' ⟨rfl, rfl⟩
  have hnil := run_all_nil
  gi_wp2_with (fail)
  refine ⟨trivial, (callsIn_wide.2 (all_any none _)).mono ?_⟩
  rintro e w' ⟨rfl, rfl⟩
  gi_wp2_with (fail)
  have hc3 : ((W2.alloc (.cells #[.pointer none] 24)).alloc (.cells #[.pointer none] 24)).cell? ⟨w.heap.size + 3, 0, none⟩ = some (.pointer none) := by rw [show w.heap.size + 3 = W2.heap.size + 1 from by omega]; simp [go_sem]
  have hz3 : ((W2.alloc (.cells #[.pointer none] 24)).alloc (.cells #[.pointer none] 24)).heap.size = w.heap.size + 4 := by simp [hs]
  have hb3 : Below (w.heap.size + 2) W2 ((W2.alloc (.cells #[.pointer none] 24)).alloc (.cells #[.pointer none] 24)) := ((Below.refl _ _).alloc (by omega) _).alloc (by simp; omega) _
  refine range_none m hm (w.heap.size + 3) none (by simp [go_sem]) hc3 (fun W _ i => next_nil i W) ?_
  intro D W hD hW hK
  rw [hz3] at hD hW
  have hb4 : Below (w.heap.size + 2) W2 W := hb3.trans (hW.mono (by omega))
  have hb5 : Below w.heap.size w W := hb.trans (hb4.mono (by omega))
  have hs5 : w.heap.size + 4 ≤ W.heap.size := by have := hW.size; rw [hz3] at this; exact this
  rw [← hb4.cell (p := ⟨w.heap.size + 1, 0, none⟩) (Nat.lt_succ_self _)] at cz
  rw [← hb4.cell (p := ⟨w.heap.size + 1, 1, none⟩) (Nat.lt_succ_self _)] at cw
  rw [← hb4.cell (p := ⟨w.heap.size, 0, none⟩) (by simp)] at c1
  rw [← hb4.frozen (p := ⟨w.heap.size, 0, none⟩) (by simp)] at f1
  have HK := Lib.hid hK
  clear hK hW hb3 hc3 hz3 hs hb hb4
  gi_wp2_with (fail)
  refine ⟨trivial, (callsIn_wide.2 (all_any _ _)).mono ?_⟩
  rintro e w' ⟨rfl, rfl⟩
  gi_wp2_with (fail)
  refine ⟨trivial, (callsIn_wide.2 (all_any _ _)).mono ?_⟩
  rintro e w' ⟨rfl, rfl⟩
  gi_wp2_with (fail)
  have hc3 : ((W.alloc (.cells #[.pointer (some ⟨w.heap.size + 1, 0, none⟩)] 24)).alloc (.cells #[.pointer (some ⟨w.heap.size + 1, 0, none⟩)] 24)).cell? ⟨W.heap.size + 1, 0, none⟩ = some (.pointer (some ⟨w.heap.size + 1, 0, none⟩)) := by simp [go_sem]
  have hb3 : Below W.heap.size W ((W.alloc (.cells #[.pointer (some ⟨w.heap.size + 1, 0, none⟩)] 24)).alloc (.cells #[.pointer (some ⟨w.heap.size + 1, 0, none⟩)] 24)) := ((Below.refl _ _).alloc (Nat.le_refl _) _).alloc (by simp) _
  have hz3 : ((W.alloc (.cells #[.pointer (some ⟨w.heap.size + 1, 0, none⟩)] 24)).alloc (.cells #[.pointer (some ⟨w.heap.size + 1, 0, none⟩)] 24)).heap.size = W.heap.size + 2 := by simp
  refine range_none m hm (W.heap.size + 1) (some ⟨w.heap.size + 1, 0, none⟩) (by simp [go_sem]) hc3 (fun W' hW' i => next_no (w.heap.size + 1) 0 i W' ?_ (.inr rfl)) ?_
  · have h := (hb3.trans (hW'.mono (by omega))).cell (p := ⟨w.heap.size + 1, 0, none⟩) (show w.heap.size + 1 < W.heap.size by omega)
    rw [h]; exact cz
  intro D2 W4 hD2 hW4 hK2
  rw [hz3] at hD2 hW4
  have hb4 : Below W.heap.size W W4 := hb3.trans (hW4.mono (by omega))
  have hb6 : Below w.heap.size w W4 := hb5.trans (hb4.mono (by omega))
  rw [← hb4.cell (p := ⟨w.heap.size + 1, 0, none⟩) (show w.heap.size + 1 < W.heap.size by omega)] at cz
  rw [← hb4.cell (p := ⟨w.heap.size + 1, 1, none⟩) (show w.heap.size + 1 < W.heap.size by omega)] at cw
  rw [← hb4.cell (p := ⟨w.heap.size, 0, none⟩) (show w.heap.size < W.heap.size by omega)] at c1
  rw [← hb4.frozen (p := ⟨w.heap.size, 0, none⟩) (show w.heap.size < W.heap.size by omega)] at f1
  have hK1 : W4.heap[D]? = some (.deferred (some [])) := by
    rw [hb4.block D (by have := (Array.getElem?_eq_some_iff.1 HK.out).1; omega)]; exact HK.out
  have hDD : D < W.heap.size := (Array.getElem?_eq_some_iff.1 HK.out).1
  have HK1 := Lib.hid hK1
  have HK2 := Lib.hid hK2
  clear hK2 hK1 hW4 hb3 hc3 hz3 hb4 HK
  gi_wp2_with (fail)
  refine ⟨trivial, (callsIn_wide.2 (put_nil _ _)).mono ?_⟩
  rintro e w' ⟨rfl, rfl⟩
  gi_wp2_with (fail)
  refine ⟨trivial, (callsIn_wide.2 (take_nil _ _)).mono ?_⟩
  rintro e w' ⟨rfl, rfl⟩
  gi_wp2_with (fail)
  refine ⟨trivial, (callsIn_wide.2 (put_no _ 0 i _ cz (by omega))).mono ?_⟩
  rintro e w' ⟨rfl, rfl⟩
  gi_wp2_with (fail)
  refine ⟨trivial, (callsIn_wide.2 (take_no _ 0 i _ cz (by omega))).mono ?_⟩
  rintro e w' ⟨rfl, rfl⟩
  gi_wp2_with (fail)
  refine ⟨trivial, (callsIn_wide.2 (size_nil _)).mono ?_⟩
  rintro e w' ⟨rfl, rfl⟩
  gi_wp2_with (fail)
  refine ⟨trivial, (callsIn_wide.2 (len_nil _)).mono ?_⟩
  rintro e w' ⟨rfl, rfl⟩
  gi_wp2_with (fail)
  refine ⟨trivial, (callsIn_wide.2 (size_at _ 0 _ cz)).mono ?_⟩
  rintro e w' ⟨rfl, rfl⟩
  gi_wp2_with (fail)
  refine ⟨trivial, (callsIn_wide.2 (len_zero _ _ cw)).mono ?_⟩
  rintro e w' ⟨rfl, rfl⟩
  gi_wp2_with (fail)
  refine ⟨trivial, (callsIn_wide.2 (has_nil _ _)).mono ?_⟩
  rintro e w' ⟨rfl, k, rfl⟩
  gi_wp2_with (fail)
  refine ⟨trivial, (callsIn_wide.2 (copy_nil _)).mono ?_⟩
  rintro e w' ⟨rfl, rfl⟩
  gi_wp2_with (fail)
  refine ⟨trivial, (callsIn_wide.2 (known_any _ ?_)).mono ?_⟩
  · intro j hj
    rw [World.cell?_drewN, hb6.cell (p := ⟨0, j, none⟩) (World.block_lt_of_cell? w ⟨0, j, none⟩ (hT j hj))]
    exact hT j hj
  rintro e W7 ⟨rfl, hb7⟩
  have hb8 : Below W4.heap.size W4 W7 := (below_drewN (Below.refl _ _) k).trans hb7
  have hl4 : W.heap.size + 2 ≤ W4.heap.size := by have := (Array.getElem?_eq_some_iff.1 HK2.out).1; omega
  have c7 : W7.cell? ⟨w.heap.size, 0, none⟩ = some (.bool false) := by rw [hb8.cell (p := ⟨w.heap.size, 0, none⟩) (show w.heap.size < W4.heap.size by omega)]; exact c1
  have f7 : W7.frozen? ⟨w.heap.size, 0, none⟩ = false := by rw [hb8.frozen (p := ⟨w.heap.size, 0, none⟩) (show w.heap.size < W4.heap.size by omega)]; exact f1
  have hK5 : W7.heap[D]? = some (.deferred (some [])) := by rw [hb8.block D (by omega)]; exact HK1.out
  have hK6 : W7.heap[D2]? = some (.deferred (some [])) := by rw [hb8.block D2 (Array.getElem?_eq_some_iff.1 HK2.out).1]; exact HK2.out
  have HK5 := Lib.hid hK5
  have HK6 := Lib.hid hK6
  clear c1 f1 cw cz hK5 hK6
  gi_wp2_with (fail)
  have hs7 : W4.heap.size ≤ W7.heap.size := hb8.size
  have n1 : D ≠ w.heap.size := by omega
  have n2 : D2 ≠ w.heap.size := by omega
  have e5 : (W7.setCell ⟨w.heap.size, 0, none⟩ (.bool true)).heap[D]? = some (.deferred (some [])) := by rw [Below.heap_setCell W7 ⟨w.heap.size, 0, none⟩ _ _ n1]; exact HK5.out
  have e6 : (W7.setCell ⟨w.heap.size, 0, none⟩ (.bool true)).heap[D2]? = some (.deferred (some [])) := by rw [Below.heap_setCell W7 ⟨w.heap.size, 0, none⟩ _ _ n2]; exact HK6.out
  have e7 : (W7.setCell ⟨w.heap.size, 0, none⟩ (.bool true)).heap.size = W7.heap.size := by simp [World.setCell]
  have c8 : (W7.setCell ⟨w.heap.size, 0, none⟩ (.bool true)).cell? ⟨w.heap.size, 0, none⟩ = some (.bool true) := World.cell?_setCell_same' _ _ _ (by rw [c7]; rfl)
  have b8 : Below w.heap.size w (W7.setCell ⟨w.heap.size, 0, none⟩ (.bool true)) := (hb6.trans (hb8.mono (by omega))).setCell (p := ⟨w.heap.size, 0, none⟩) (Nat.le_refl _) _
  generalize W7.setCell ⟨w.heap.size, 0, none⟩ (.bool true) = W8 at *
  refine leaves_two e5 e6 (by omega) ?_
  refine ⟨.bool true, ?_, rfl, below_putObj (below_putObj b8 D2 _ (by omega) (by omega)) D _ (by omega) ?_⟩
  · have c9 : ((W8.putObj D2 (.deferred none)).putObj D (.deferred none)).cell? ⟨w.heap.size, 0, none⟩ = some (.bool true) := by
      rw [cell_putObj _ _ _ _ n1.symm, cell_putObj _ _ _ _ n2.symm]; exact c8
    simp [results, Tryd.f4, go_sem, c9]
  · simp [World.putObj]; omega

theorem none_any (i n : Int) (w : World) (hT : TabAt 0 Lib.deBruijn64tab w) :
    Calls Tryd.prog 4 #[.int .i64 i, .int .i64 n] w fun e w' => e = .returned (.bool true) ∧ Below w.heap.size w w' :=
  callsIn_wide.1 (none_in 3 (Nat.le_refl _) i n w hT)
end Go.Proofs.YtkecmoljaopgbaaDoor
