/-
  slices.Min, watermarksMay.
-/
import Derived.Test.YtcbdmdalijhkoaaDist
namespace Go.Proofs.Ytcbdmdalijhkoaa
open Go.RowKit Go

/-- The least of f 0 to f k. -/
def minR (f : Nat → Int) : Nat → Int
  | 0 => f 0
  | k + 1 => if f (k + 1) < minR f k then f (k + 1) else minR f k
theorem le_minR (f : Nat → Int) (x : Int) : ∀ k, (x ≤ minR f k ↔ ∀ i, i ≤ k → x ≤ f i)
  | 0 => by simp [minR]
  | k + 1 => by
    have ih := le_minR f x k
    unfold minR
    constructor
    · intro h i hi
      by_cases e : i = k + 1
      · subst e; split at h <;> omega
      · exact (ih.1 (by split at h <;> omega)) i (by omega)
    · intro h
      have h1 := h (k + 1) (Nat.le_refl _)
      have h2 := ih.2 (fun i hi => h i (by omega))
      split <;> omega

set_option maxRecDepth 100000 in
theorem min_any (b o n cap : Nat) (f : Nat → Int) (w : World) (hn : 1 ≤ n) (hm : n ≤ 1000) (hc : ∀ i, i < n → w.cell? ⟨b, o + i, none⟩ = some (.int .i64 (f i))) :
    Calls Try.prog 41 #[.slice (some ⟨b, o, none⟩) n cap] w fun e w' => e = .returned (.int .i64 (minR f (n - 1))) ∧ w = w' := by
  have h0 : w.cell? ⟨b, o, none⟩ = some (.int .i64 (f 0)) := hc 0 (by omega)
  have HC := Lib.hid hc
  clear hc
  go_enter Try.func41, Try.ntmps41
  go_wp2_with (fail)
  clear h0
  go_loop [3, 4] (fun m i => ∃ k : Nat, k + 1 ≤ n ∧ i = .int .i64 (k + 1 : Nat) ∧ m = .int .i64 (minR f k)) (fun _ i => n - (intOf i).toNat)
  case atStart => exact ⟨0, by omega, rfl, rfl⟩
  case round =>
    obtain ⟨k, hk, rfl, rfl⟩ := hrel
    by_cases hlt : k + 1 < n
    · have ck := HC.out (k + 1) hlt
      have HM := Lib.hid (show minR f (k + 1) = if f (k + 1) < minR f k then f (k + 1) else minR f k from rfl)
      generalize hx : f (k + 1) = x at ck HM
      clear hx
      go_wp2_with (fail)
      go_round
      case rel => exact ⟨k + 1, hlt, by go_num, by rw [HM.out]⟩
      case measure => simp [intOf]; omega
    · have e : n - 1 = k := by omega
      have HE := Lib.hid e
      clear e
      go_wp2_with (fail)
      go_ret
      exact ⟨by rw [HE.out]; rfl, rfl⟩

/-- watermarksMay. -/
def waterB (g : Nat → Int) : Bool := decide (0 ≤ g 91) && (decide (g 91 ≤ g 92) && (decide (g 92 ≤ g 93) && decide (g 93 ≤ minR (fun i => g (18 + i)) ((g 0).toNat - 1))))
set_option maxRecDepth 100000 in
set_option maxHeartbeats 1000000 in
theorem water_any (A : Array Value) (g : Nat → Int) (w : World) (hA : Cfg A g) (hN : 1 ≤ g 0) (hN8 : g 0 ≤ 8) :
    Calls Try.prog 31 #[.agg A] w fun e w' => e = .returned (.bool (waterB g)) ∧ Below w.heap.size w w' := by
  obtain ⟨n, hn⟩ := Int.eq_ofNat_of_zero_le (show 0 ≤ g 0 by omega)
  have hn1 : 1 ≤ n := by omega
  have hn2 : n ≤ 8 := by omega
  have a0 : A[0]? = some (.int .i64 n) := by rw [← hn]; exact hA.get 0 (by decide)
  have a91 : A[91]? = some (.int .i64 (g 91)) := hA.get 91 (by decide)
  have a92 : A[92]? = some (.int .i64 (g 92)) := hA.get 92 (by decide)
  have a93 : A[93]? = some (.int .i64 (g 93)) := hA.get 93 (by decide)
  have HB := Lib.hid (show waterB g = (decide (0 ≤ g 91) && (decide (g 91 ≤ g 92) && (decide (g 92 ≤ g 93) && decide (g 93 ≤ minR (fun i => g (18 + i)) (n - 1))))) by unfold waterB; rw [hn]; rfl)
  have HM := Lib.hid (show ∀ W m, W = (w.alloc (.cells A 26)).drewN m → Calls Try.prog 41 #[.slice (some ⟨w.heap.size, 18, none⟩) n 8] W fun e w' => e = .returned (.int .i64 (minR (fun i => g (18 + i)) (n - 1))) ∧ W = w' from fun W m hW => by
    subst hW
    exact min_any w.heap.size 18 n 8 (fun i => g (18 + i)) _ hn1 (by omega) (fun i hi => by
      show ((w.alloc (.cells A 26)).cell? _) = _
      rw [cell_of_row _ _ _ _ _ _ (heap_alloc_new w _)]
      exact hA.get _ (by omega)))
  generalize minR (fun i => g (18 + i)) (n - 1) = M at HB HM
  clear hA hn hN hN8
  have hsl := run_slice_to (P := Try.prog) Try.underlying23 size3 n hn2
  generalize g 91 = x at a91 HB
  generalize g 92 = y at a92 HB
  generalize g 93 = z at a93 HB
  by_cases h1 : 0 ≤ x
  · by_cases h2 : x ≤ y
    · by_cases h3 : y ≤ z
      · go_enter Try.func31, Try.ntmps31
        go_wp2_with (fail)
        go_quiet ((go_at_call 41; exact (HM.out _ _ rfl).mono fun _ _ h => ⟨h.1, _, h.2.symm⟩))
        go_wp2_with (fail)
        go_ret
        exact ⟨by rw [HB.out]; simp [h1, h2, h3], below_drewN ((Below.refl _ _).alloc (Nat.le_refl _) _) _⟩
      · have hd : decide (y ≤ z) = false := by simpa using h3
        go_enter Try.func31, Try.ntmps31
        go_wp2_with (fail)
        go_quiet (fail)
        go_wp2_with (fail)
        go_ret
        exact ⟨by rw [HB.out]; simp [hd], below_drewN ((Below.refl _ _).alloc (Nat.le_refl _) _) _⟩
    · have hd : decide (x ≤ y) = false := by simpa using h2
      go_enter Try.func31, Try.ntmps31
      go_wp2_with (fail)
      go_quiet (fail)
      go_wp2_with (fail)
      go_ret
      exact ⟨by rw [HB.out]; simp [hd], below_drewN ((Below.refl _ _).alloc (Nat.le_refl _) _) _⟩
  · have hd : decide (0 ≤ x) = false := by simpa using h1
    go_enter Try.func31, Try.ntmps31
    go_wp2_with (fail)
    go_quiet (fail)
    go_wp2_with (fail)
    go_ret
    exact ⟨by rw [HB.out]; simp [hd], below_drewN ((Below.refl _ _).alloc (Nat.le_refl _) _) _⟩
end Go.Proofs.Ytcbdmdalijhkoaa
