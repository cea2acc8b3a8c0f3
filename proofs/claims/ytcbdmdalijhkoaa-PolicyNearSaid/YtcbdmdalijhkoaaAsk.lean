/-
  asked, First.
-/
import Derived.Test.YtcbdmdalijhkoaaPlaces
namespace Go.Proofs.Ytcbdmdalijhkoaa
open Go.RowKit Go

/-- What is wrong with asking for a node. -/
def askI (g : Nat → Int) (node : Int) : Int := if mayB g = true then (if withinB node 0 (g 0 - 1) = true then 0 else 7) else 2
set_option maxRecDepth 100000 in
theorem asked_any (A : Array Value) (g : Nat → Int) (node : Int) (w : World) (hA : Cfg A g) :
    Calls Try.prog 33 #[.agg A, .int .i64 node] w fun e w' => e = .returned (.int .i64 (askI g node)) ∧ Below w.heap.size w w' := by
  have C0 := CfgAt.new w hA
  have HA := Lib.hid hA
  clear hA
  cases hm : mayB g with
  | false =>
    have HT := Lib.hid (show askI g node = 2 by unfold askI; rw [hm]; rfl)
    have HM := Lib.hid hm
    clear hm
    go_enter Try.func33, Try.ntmps33
    go_wp2_with (refine wpList_load_cfg rfl _ rfl _ rfl C0 ?_)
    refine (may_any A g _ HA.out).mono ?_
    rintro e w1 ⟨rfl, hb⟩
    rw [HM.out]
    have HB := Lib.hid hb
    clear hb
    go_wp2_with (fail)
    go_ret
    exact ⟨by rw [HT.out]; rfl, ((Below.refl _ _).alloc (Nat.le_refl _) _).trans (HB.out.mono (by simp))⟩
  | true =>
    have G := (good_iff g).1 hm
    obtain ⟨n, hn⟩ := Int.eq_ofNat_of_zero_le (show 0 ≤ g 0 by have := G.n1; omega)
    have hn1 : 1 ≤ n := by have := G.n1; omega
    have hn8 : n ≤ 8 := by have := G.n2; omega
    have HN := Lib.hid hn
    have HT := Lib.hid (show askI g node = if withinB node 0 (n - 1) = true then 0 else 7 by unfold askI; rw [hm, hn]; rfl)
    have HM := Lib.hid hm
    clear hm hn G
    cases hi : withinB node 0 (n - 1)
    all_goals
      have HI := Lib.hid hi
      clear hi
      go_enter Try.func33, Try.ntmps33
      go_wp2_with (refine wpList_load_cfg rfl _ rfl _ rfl C0 ?_)
      refine (may_any A g _ HA.out).mono ?_
      rintro e w1 ⟨rfl, hb⟩
      rw [HM.out]
      have C1 := C0.later hb
      have c1 := C1.cell 0 (by decide)
      rw [HN.out] at c1
      have HB := Lib.hid hb
      clear hb
      go_wp2_with (fail)
      refine (within_is HI.out _).mono ?_
      rintro e w' ⟨rfl, rfl⟩
      go_wp2_with (fail)
      go_ret
      exact ⟨by rw [HT.out, HI.out]; rfl, ((Below.refl _ _).alloc (Nat.le_refl _) _).trans (HB.out.mono (by simp))⟩

theorem ask_zero {g : Nat → Int} {node : Int} : askI g node = 0 ↔ Good g ∧ 0 ≤ node ∧ node < g 0 := by
  unfold askI
  by_cases hm : mayB g = true
  · rw [if_pos hm]
    by_cases hi : withinB node 0 (g 0 - 1) = true
    · rw [if_pos hi]
      have := of_withinB hi
      exact ⟨fun _ => ⟨(good_iff g).1 hm, by omega, by omega⟩, fun _ => rfl⟩
    · rw [if_neg hi]
      exact ⟨fun h => (by cases h), fun ⟨_, h1, h2⟩ => absurd (decide_eq_true (p := 0 ≤ node ∧ node ≤ g 0 - 1) ⟨h1, by omega⟩) hi⟩
  · rw [if_neg hm]
    exact ⟨fun h => (by cases h), fun ⟨h, _⟩ => absurd ((good_iff g).2 h) hm⟩
theorem ask_cases (g : Nat → Int) (node : Int) : askI g node = 0 ∨ askI g node = 7 ∨ askI g node = 2 := by
  unfold askI
  split
  · split <;> simp
  · simp

/-- First. -/
def firstI (g : Nat → Int) (node : Int) : Int := if askI g node = 0 then sumF g node.toNat else 0
theorem sumF_mono (g : Nat → Int) (n : Nat) (h : ∀ i, i < n → 0 ≤ g (18 + i)) : ∀ k j, j + k ≤ n → sumF g j ≤ sumF g (j + k)
  | 0, _, _ => Int.le_refl _
  | k + 1, j, hj => by
    have h1 := sumF_mono g n h k j (by omega)
    have h2 := h (j + k) (by omega)
    show sumF g j ≤ sumF g (j + k) + g (18 + (j + k))
    omega
end Go.Proofs.Ytcbdmdalijhkoaa
