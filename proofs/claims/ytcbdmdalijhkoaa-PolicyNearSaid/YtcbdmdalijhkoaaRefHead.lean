/-
  The document's own answer: the walk of its May.
-/
import Derived.Test.YtcbdmdalijhkoaaRefMay
namespace Go.Proofs.Ytcbdmdalijhkoaa
open Go.RowKit Go

set_option maxHeartbeats 1000000 in
set_option maxRecDepth 100000 in
theorem refmay_head (A : Array Value) (g : Nat → Int) (w : World) (hA : Cfg A g) (h : headR g = false) :
    Calls Try.prog 14 #[.agg A] w fun e w' => e = .returned (.bool false) ∧ Below w.heap.size w w' := by
  have a0 : A[0]? = some (.int .i64 (g 0)) := hA.get 0 (by decide)
  have a1 : A[1]? = some (.int .i64 (g 1)) := hA.get 1 (by decide)
  have a90 : A[90]? = some (.int .i64 (g 90)) := hA.get 90 (by decide)
  have hc : g 0 < 1 ∨ (1 ≤ g 0 ∧ 8 < g 0) ∨ (1 ≤ g 0 ∧ g 0 ≤ 8 ∧ g 1 < 1) ∨ (1 ≤ g 0 ∧ g 0 ≤ 8 ∧ 1 ≤ g 1 ∧ 16 < g 1) ∨ (1 ≤ g 0 ∧ g 0 ≤ 8 ∧ 1 ≤ g 1 ∧ g 1 ≤ 16 ∧ g 90 < 0) ∨ (1 ≤ g 0 ∧ g 0 ≤ 8 ∧ 1 ≤ g 1 ∧ g 1 ≤ 16 ∧ 0 ≤ g 90 ∧ 1024 < g 90) := by
    simp only [headR, withinB, Bool.and_eq_false_iff, decide_eq_false_iff_not] at h
    omega
  generalize g 0 = x at a0 hc
  generalize g 1 = y at a1 hc
  generalize g 90 = z at a90 hc
  clear h hA
  rcases hc with h1 | ⟨h1, h2⟩ | ⟨h1, h2, h3⟩ | ⟨h1, h2, h3, h4⟩ | ⟨h1, h2, h3, h4, h5⟩ | ⟨h1, h2, h3, h4, h5, h6⟩
  all_goals
    go_enter Try.func14, Try.ntmps14
    go_wp2_with (fail)
    go_ret
    exact ⟨rfl, (Below.refl _ _).alloc (Nat.le_refl _) _⟩
end Go.Proofs.Ytcbdmdalijhkoaa
