/-
  What the calls come to at a set that is not there, and at one for none.
-/
import Derived.Test.YtkecmoljaopgbaaDoorAll
namespace Go.Proofs.YtkecmoljaopgbaaDoor
open Go.RowKit Go Bm

theorem run_nil (i m : Int) (w : World) :
    Calls Tryd.prog 17 #[.pointer none, .int .i64 i, .int .i64 m] w fun e w' => e = fnd none ∧ w = w' := by
  by_cases h : m < 1
  · exact run_less _ _ _ _ h
  · go_enter Tryd.func17, Tryd.ntmps17
    go_wp2_with (fail)
    go_loop [1] (fun x => x = .int .i64 i) (fun _ => 0)
    case atStart => rfl
    case round =>
      obtain rfl := hrel
      go_wp2_with (fail)
      refine (find_nil _ _ _).mono ?_
      rintro e w' ⟨rfl, rfl⟩
      unfold fnd
      go_wp2_with (fail)
      go_ret2
      exact ⟨rfl, rfl⟩
theorem run_zero (p : Nat) (i m : Int) (w : World) (h0 : w.cell? ⟨p, 0, none⟩ = some (.int .i64 0)) :
    Calls Tryd.prog 17 #[.pointer (some ⟨p, 0, none⟩), .int .i64 i, .int .i64 m] w fun e w' => e = fnd none ∧ w = w' := by
  by_cases h : m < 1
  · exact run_less _ _ _ _ h
  · go_enter Tryd.func17, Tryd.ntmps17
    go_wp2_with (fail)
    go_loop [1] (fun x => x = .int .i64 i) (fun _ => 0)
    case atStart => rfl
    case round =>
      obtain rfl := hrel
      go_wp2_with (fail)
      refine (find_no p 0 _ _ _ h0 (.inr rfl)).mono ?_
      rintro e w' ⟨rfl, rfl⟩
      unfold fnd
      go_wp2_with (fail)
      go_ret2
      exact ⟨rfl, rfl⟩
theorem size_nil (w : World) : Calls Tryd.prog 23 #[.pointer none] w fun e w' => e = .returned (.int .i64 0) ∧ w = w' := by
  go_enter Tryd.func23, Tryd.ntmps23
  go_wp2
  go_ret
  exact ⟨rfl, rfl⟩
theorem size_at (p : Nat) (n : Int) (w : World) (h0 : w.cell? ⟨p, 0, none⟩ = some (.int .i64 n)) : Calls Tryd.prog 23 #[.pointer (some ⟨p, 0, none⟩)] w fun e w' => e = .returned (.int .i64 n) ∧ w = w' := by
  go_enter Tryd.func23, Tryd.ntmps23
  go_wp2
  go_ret
  exact ⟨rfl, rfl⟩
theorem len_nil (w : World) : Calls Tryd.prog 24 #[.pointer none] w fun e w' => e = .returned (.int .i64 0) ∧ w = w' := by
  go_enter Tryd.func24, Tryd.ntmps24
  go_wp2
  go_ret
  exact ⟨rfl, rfl⟩
theorem len_zero (p : Nat) (w : World) (h1 : w.cell? ⟨p, 1, none⟩ = some (.slice none 0 0)) : Calls Tryd.prog 24 #[.pointer (some ⟨p, 0, none⟩)] w fun e w' => e = .returned (.int .i64 0) ∧ w = w' := by
  go_enter Tryd.func24, Tryd.ntmps24
  go_wp2_with (fail)
  go_loop [3, 13] (fun x y => x = .int .i64 0 ∧ y = .int .i64 0) (fun _ _ => 0)
  case atStart => exact ⟨rfl, rfl⟩
  case round =>
    obtain ⟨rfl, rfl⟩ := hrel
    go_wp2_with (fail)
    go_ret
    exact ⟨rfl, rfl⟩
theorem has_nil (i : Int) (w : World) :
    Calls Tryd.prog 19 #[.pointer none, .int .i64 i] w fun e w' => e = .returned (.bool false) ∧ ∃ m, w' = w.drewN m := by
  go_enter Tryd.func19, Tryd.ntmps19
  go_wp2
  go_quiet ((go_at_call 25; exact quiet_eq (owns_nil i _)))
  go_wp2
  go_ret
  exact ⟨rfl, _, rfl⟩
theorem copy_nil (w : World) : Calls Tryd.prog 18 #[.pointer none] w fun e w' => e = .returned (.pointer none) ∧ w = w' := by
  go_enter Tryd.func18, Tryd.ntmps18
  go_wp2
  go_ret
  exact ⟨rfl, rfl⟩
end Go.Proofs.YtkecmoljaopgbaaDoor
