/-
  Put and Take.
-/
import Derived.Test.YtkecmoljaopgbaaDoorBase
namespace Go.Proofs.YtkecmoljaopgbaaDoor
open Go.RowKit Go Bm

theorem put_nil (i : Int) (w : World) :
    Calls Tryd.prog 10 #[.pointer none, .int .i64 i] w fun e w' => e = .returned (.int .i64 1) ∧ w = w' := by
  go_enter Tryd.func10, Tryd.ntmps10
  go_wp2
  go_ret
  exact ⟨rfl, rfl⟩
theorem put_no (p : Nat) (n i : Int) (w : World) (h0 : w.cell? ⟨p, 0, none⟩ = some (.int .i64 n)) (h : i < 0 ∨ n ≤ i) :
    Calls Tryd.prog 10 #[.pointer (some ⟨p, 0, none⟩), .int .i64 i] w fun e w' => e = .returned (.int .i64 2) ∧ w = w' := by
  have H := Lib.hid h
  clear h
  go_enter Tryd.func10, Tryd.ntmps10
  go_wp2_with (go_at_call 25; refine (owns_no p n i _ (by assumption) H.out).mono ?_; rintro e w' ⟨rfl, rfl⟩)
  go_ret
  exact ⟨rfl, rfl⟩
theorem put_twice (p wb n : Nat) (f : Nat → Bool) (i : Nat) (w : World) (S : SetAt w p wb n f) (hi : i < n) (hf : f i = true) :
    Calls Tryd.prog 10 #[.pointer (some ⟨p, 0, none⟩), .int .i64 i] w fun e w' => e = .returned (.int .i64 8) ∧ ∃ m, w' = w.drewN m := by
  have h0 := S.size
  have F := Lib.hid hf
  clear hf
  go_enter Tryd.func10, Tryd.ntmps10
  go_wp2_with (go_at_call 25; refine (owns_yes p n i _ (by assumption) (by omega) (by omega)).mono ?_; rintro e w' ⟨rfl, rfl⟩)
  refine (has_any p wb n f i _ S hi).mono ?_
  rintro e w' ⟨rfl, m, rfl⟩
  rw [F.out]
  go_wp2
  go_ret
  exact ⟨rfl, _, rfl⟩
theorem put_yes (p wb n : Nat) (f : Nat → Bool) (i : Nat) (w : World) (S : SetAt w p wb n f) (hi : i < n) (hf : f i = false) :
    Calls Tryd.prog 10 #[.pointer (some ⟨p, 0, none⟩), .int .i64 i] w fun e w' => e = .returned (.int .i64 0) ∧ ∃ m, w' = (w.setCell ⟨wb, i / 64, none⟩ (.int .u64 (Bm.word (upd f i true) (i / 64) : Nat))).drewN m := by
  have h0 := S.size
  have h1 := S.words
  have h2 := S.word (i / 64) (by omega)
  have h3 := S.free (i / 64) (by omega)
  have hm := S.max
  have hq : i / 64 < (n + 63) / 64 := by omega
  have F := Lib.hid hf
  clear hf
  go_enter Tryd.func10, Tryd.ntmps10
  go_wp2_with (go_at_call 25; refine (owns_yes p n i _ (by assumption) (by omega) (by omega)).mono ?_; rintro e w' ⟨rfl, rfl⟩)
  refine (has_any p wb n f i _ S hi).mono ?_
  rintro e w' ⟨rfl, m, rfl⟩
  rw [F.out]
  go_wp2
  have g3 := quo_lt i n hi
  have g1 := quo_wrap i (by omega)
  have g2 := quo_nat i
  have g4 := quo_ge i
  refine still_tail 12 (by kernel_rfl) (by kernel_rfl) ?_
  simp only [List.take_succ_cons, List.take_zero, List.drop_succ_cons, List.drop_zero]
  iterate 9 still_step
  still_call (still_eq (bit_any i _ (by omega) (by omega)))
  repeat still_step
  refine wpStill_nil ?_
  clear g1
  go_wp2
  go_ret
  refine ⟨rfl, m + 1, ?_⟩
  rw [← bits_or_put]
  rfl

theorem take_nil (i : Int) (w : World) :
    Calls Tryd.prog 12 #[.pointer none, .int .i64 i] w fun e w' => e = .returned (.int .i64 1) ∧ w = w' := by
  go_enter Tryd.func12, Tryd.ntmps12
  go_wp2
  go_ret
  exact ⟨rfl, rfl⟩
theorem take_no (p : Nat) (n i : Int) (w : World) (h0 : w.cell? ⟨p, 0, none⟩ = some (.int .i64 n)) (h : i < 0 ∨ n ≤ i) :
    Calls Tryd.prog 12 #[.pointer (some ⟨p, 0, none⟩), .int .i64 i] w fun e w' => e = .returned (.int .i64 2) ∧ w = w' := by
  have H := Lib.hid h
  clear h
  go_enter Tryd.func12, Tryd.ntmps12
  go_wp2_with (go_at_call 25; refine (owns_no p n i _ (by assumption) H.out).mono ?_; rintro e w' ⟨rfl, rfl⟩)
  go_ret
  exact ⟨rfl, rfl⟩
theorem take_none (p wb n : Nat) (f : Nat → Bool) (i : Nat) (w : World) (S : SetAt w p wb n f) (hi : i < n) (hf : f i = false) :
    Calls Tryd.prog 12 #[.pointer (some ⟨p, 0, none⟩), .int .i64 i] w fun e w' => e = .returned (.int .i64 7) ∧ ∃ m, w' = w.drewN m := by
  have h0 := S.size
  have F := Lib.hid hf
  clear hf
  go_enter Tryd.func12, Tryd.ntmps12
  go_wp2_with (go_at_call 25; refine (owns_yes p n i _ (by assumption) (by omega) (by omega)).mono ?_; rintro e w' ⟨rfl, rfl⟩)
  refine (has_any p wb n f i _ S hi).mono ?_
  rintro e w' ⟨rfl, m, rfl⟩
  rw [F.out]
  go_wp2
  go_ret
  exact ⟨rfl, _, rfl⟩
theorem take_yes (p wb n : Nat) (f : Nat → Bool) (i : Nat) (w : World) (S : SetAt w p wb n f) (hi : i < n) (hf : f i = true) :
    Calls Tryd.prog 12 #[.pointer (some ⟨p, 0, none⟩), .int .i64 i] w fun e w' => e = .returned (.int .i64 0) ∧ ∃ m, w' = (w.setCell ⟨wb, i / 64, none⟩ (.int .u64 (Bm.word (upd f i false) (i / 64) : Nat))).drewN m := by
  have h0 := S.size
  have h1 := S.words
  have h2 := S.word (i / 64) (by omega)
  have h3 := S.free (i / 64) (by omega)
  have hm := S.max
  have hq : i / 64 < (n + 63) / 64 := by omega
  have F := Lib.hid hf
  clear hf
  go_enter Tryd.func12, Tryd.ntmps12
  go_wp2_with (go_at_call 25; refine (owns_yes p n i _ (by assumption) (by omega) (by omega)).mono ?_; rintro e w' ⟨rfl, rfl⟩)
  refine (has_any p wb n f i _ S hi).mono ?_
  rintro e w' ⟨rfl, m, rfl⟩
  rw [F.out]
  go_wp2
  have g3 := quo_lt i n hi
  have g1 := quo_wrap i (by omega)
  have g2 := quo_nat i
  have g4 := quo_ge i
  refine still_tail 12 (by kernel_rfl) (by kernel_rfl) ?_
  simp only [List.take_succ_cons, List.take_zero, List.drop_succ_cons, List.drop_zero]
  iterate 9 still_step
  still_call (still_eq (bit_any i _ (by omega) (by omega)))
  repeat still_step
  refine wpStill_nil ?_
  clear g1
  go_wp2
  go_ret
  refine ⟨rfl, m + 1, ?_⟩
  rw [← bits_andNot_take]
  rfl

end Go.Proofs.YtkecmoljaopgbaaDoor
