/-
  handles: below, may, put, part; what may be, by numbers.
-/
import Derived.Test.YtljdmhiamonokaaDoorHdTab
import Derived.Test.YtljdmhiamonokaaDoorKept
import Derived.Laws.Shifts
namespace Go.Proofs.YtljdmhiamonokaaDoor
open Go.RowKit Go

set_option maxRecDepth 100000 in
theorem below_any (i e : Int) (w : World) : Calls Tryd.prog 15 #[.int .i64 i, .int .i64 e] w fun r w' => r = .returned (.bool (decide (0 ≤ i ∧ i < e))) ∧ w = w' := by
  by_cases h1 : 0 ≤ i
  · by_cases h2 : i < e
    · rw [show decide (0 ≤ i ∧ i < e) = true from decide_eq_true ⟨h1, h2⟩]
      go_enter Tryd.func15, Tryd.ntmps15
      go_wp2_with (fail)
      go_ret
      exact ⟨rfl, rfl⟩
    · rw [show decide (0 ≤ i ∧ i < e) = false from decide_eq_false (fun h => h2 h.2)]
      go_enter Tryd.func15, Tryd.ntmps15
      go_wp2_with (fail)
      go_ret
      exact ⟨rfl, rfl⟩
  · rw [show decide (0 ≤ i ∧ i < e) = false from decide_eq_false (fun h => h1 h.1)]
    go_enter Tryd.func15, Tryd.ntmps15
    go_wp2_with (fail)
    go_ret
    exact ⟨rfl, rfl⟩

/-- The turn and the place may be. -/
def May (t : Nat) (f x : Int) : Prop := (1 ≤ t ∧ t ≤ 1099511627776) ∧ (0 ≤ f ∧ f < 1024) ∧ (0 ≤ x ∧ x < 32)
instance (t : Nat) (f x : Int) : Decidable (May t f x) := by unfold May; infer_instance
def BoolB (w : World) (b : Bool) (e : Ending) (w' : World) : Prop := e = .returned (.bool b) ∧ Below w.heap.size w w'
set_option maxRecDepth 100000 in
set_option maxHeartbeats 2000000 in
theorem may_any (t : Nat) (f x : Int) (w : World) : Calls Tryd.prog 12 #[.int .u64 t, .agg #[.int .i64 f, .int .i64 x]] w (BoolB w (decide (May t f x))) := by
  have hb := Lib.hid ((Below.refl w.heap.size w).alloc (Nat.le_refl _) (.cells #[.int .i64 f, .int .i64 x] 24))
  by_cases h1 : 1 ≤ t
  · by_cases h2 : t ≤ 1099511627776
    · have h1I : (1 : Int) ≤ t := by omega
      have h2I : (t : Int) ≤ 1099511627776 := by omega
      by_cases h3 : (0 ≤ f ∧ f < 1024)
      · by_cases h4 : (0 ≤ x ∧ x < 32)
        · rw [show decide (May t f x) = true from decide_eq_true ⟨⟨h1, h2⟩, h3, h4⟩]
          have e3 := Lib.hid (decide_eq_true h3)
          have e4 := Lib.hid (decide_eq_true h4)
          clear h3 h4 h1 h2
          go_enter Tryd.func12, Tryd.ntmps12
          go_wp2_with (first | (go_at_call 15; refine (below_any _ _ _).mono ?_; rintro e w' ⟨rfl, rfl⟩; first | rw [e3.out] | rw [e4.out]) | fail)
          go_ret
          exact ⟨rfl, hb.out⟩
        · rw [show decide (May t f x) = false from decide_eq_false (fun h => h4 h.2.2)]
          have e3 := Lib.hid (decide_eq_true h3)
          have e4 := Lib.hid (decide_eq_false h4)
          clear h3 h4 h1 h2
          go_enter Tryd.func12, Tryd.ntmps12
          go_wp2_with (first | (go_at_call 15; refine (below_any _ _ _).mono ?_; rintro e w' ⟨rfl, rfl⟩; first | rw [e3.out] | rw [e4.out]) | fail)
          go_ret
          exact ⟨rfl, hb.out⟩
      · rw [show decide (May t f x) = false from decide_eq_false (fun h => h3 h.2.1)]
        have e3 := Lib.hid (decide_eq_false h3)
        clear h3 h1 h2
        go_enter Tryd.func12, Tryd.ntmps12
        go_wp2_with (first | (go_at_call 15; refine (below_any _ _ _).mono ?_; rintro e w' ⟨rfl, rfl⟩; rw [e3.out]) | fail)
        go_ret
        exact ⟨rfl, hb.out⟩
    · rw [show decide (May t f x) = false from decide_eq_false (fun h => h2 h.1.2)]
      have h1I : (1 : Int) ≤ t := by omega
      have h2I : ¬ (t : Int) ≤ 1099511627776 := by omega
      clear h1 h2
      go_enter Tryd.func12, Tryd.ntmps12
      go_wp2_with (fail)
      go_ret
      exact ⟨rfl, hb.out⟩
  · rw [show decide (May t f x) = false from decide_eq_false (fun h => h1 h.1.1)]
    have h1I : ¬ (1 : Int) ≤ t := by omega
    clear h1
    go_enter Tryd.func12, Tryd.ntmps12
    go_wp2_with (fail)
    go_ret
    exact ⟨rfl, hb.out⟩

/-- How far a field is shifted. -/
theorem put_any (k : Nat) (hk : k < 4) (n : Nat) (w : World) (hg : BegAt w) (s : Nat) (hs : begL.getD k 0 = s) :
    Calls Tryd.prog 13 #[.int .i64 k, .int .u64 n] w fun e w' => e = .returned (.int .u64 (IntKind.u64.wrap ((n : Int) * 2 ^ (min s 64)))) ∧ w = w' := by
  have c := hg k hk
  rw [hs] at c
  have hkI : (k : Int) < 4 := by omega
  clear hs hg hk
  go_enter Tryd.func13, Tryd.ntmps13
  go_wp2_with (fail)
  go_ret
  exact ⟨by first | rfl | simp [IntKind.bits] | skip, rfl⟩
end Go.Proofs.YtljdmhiamonokaaDoor
