/-
  distancesMay, slices.Min, watermarksMay.
-/
import Derived.Test.YtcbdmdalijhkoaaCfg
namespace Go.Proofs.Ytcbdmdalijhkoaa
open Go.RowKit Go

/-- Two nodes' distances. -/
def pairB (g : Nat → Int) (a b : Nat) : Bool := !(g (26 + a * 8 + b) != g (26 + b * 8 + a)) && withinB (g (26 + a * 8 + b)) 1 255
def rowB (g : Nat → Int) (a : Nat) : Bool := !(g (26 + a * 8 + a) != 0) && allR a (pairB g a)
/-- distancesMay. -/
def distB (g : Nat → Int) : Bool := allR (g 0).toNat (rowB g)

set_option maxRecDepth 100000 in
theorem dist_any (A : Array Value) (g : Nat → Int) (w : World) (hA : Cfg A g) (hN : 1 ≤ g 0) (hN8 : g 0 ≤ 8) :
    Calls Try.prog 30 #[.agg A] w fun e w' => e = .returned (.bool (distB g)) ∧ Below w.heap.size w w' := by
  obtain ⟨n, hn⟩ := Int.eq_ofNat_of_zero_le (show 0 ≤ g 0 by omega)
  have HB := Lib.hid (show distB g = allR n (rowB g) by unfold distB; rw [hn]; rfl)
  have hn1 : 1 ≤ n := by omega
  have hn2 : n ≤ 8 := by omega
  have a0 : A[0]? = some (.int .i64 n) := by rw [← hn]; exact hA.get 0 (by decide)
  have HA := Lib.hid hA
  clear hA hn hN hN8
  go_enter Try.func30, Try.ntmps30
  go_wp2_with (fail)
  go_loopw [3, 4, 5, 6, 9, 20] (fun _ _ _ _ x _ wr => ∃ k : Nat, k ≤ n ∧ x = .int .i64 k ∧ Hid (∀ i, i < k → rowB g i = true) ∧ ∃ m, wr = (w.alloc (.cells A 26)).drewN m) (fun _ _ _ _ x _ _ => n - (intOf x).toNat)
  case atStart => exact ⟨0, Nat.zero_le _, rfl, Lib.hid (fun i h => absurd h (Nat.not_lt_zero _)), 0, rfl⟩
  case round =>
    obtain ⟨k, hk, rfl, HK, m, rfl⟩ := hrel
    by_cases hlt : k < n
    · have akk : A[26 + k * 8 + k]? = some (.int .i64 (g (26 + k * 8 + k))) := HA.out.get _ (by omega)
      cases hw : (g (26 + k * 8 + k) != 0) with
      | true =>
        have HF := Lib.hid (show distB g = false by rw [HB.out]; exact allR_false k hlt (by unfold rowB; rw [hw]; rfl))
        go_wp2_with (fail)
        go_ret
        exact ⟨by rw [HF.out]; rfl, below_drewN ((Below.refl _ _).alloc (Nat.le_refl _) _) _⟩
      | false =>
        have HR := Lib.hid hw
        go_wp2_with (fail)
        clear hw akk
        go_loopw [4, 5, 6, 20] (fun _ _ _ x wr => ∃ j : Nat, j ≤ k ∧ x = .int .i64 j ∧ Hid (∀ i, i < j → pairB g k i = true) ∧ ∃ m, wr = (w.alloc (.cells A 26)).drewN m) (fun _ _ _ x _ => k - (intOf x).toNat)
        case atStart => exact ⟨0, Nat.zero_le _, rfl, Lib.hid (fun i h => absurd h (Nat.not_lt_zero _)), m, rfl⟩
        case round =>
          obtain ⟨j, hj, rfl, HJ, m2, rfl⟩ := hrel
          by_cases hlj : j < k
          · have e1 : A[26 + k * 8 + j]? = some (.int .i64 (g (26 + k * 8 + j))) := HA.out.get _ (by omega)
            have e2 : A[26 + j * 8 + k]? = some (.int .i64 (g (26 + j * 8 + k))) := HA.out.get _ (by omega)
            have ik : (k : Int) < 8 := by omega
            have ij : (j : Int) < 8 := by omega
            have HP := Lib.hid (show pairB g k j = (!(g (26 + k * 8 + j) != g (26 + j * 8 + k)) && withinB (g (26 + k * 8 + j)) 1 255) from rfl)
            have HL := Lib.hid (show pairB g k j = false → distB g = false from fun h => by
              rw [HB.out]; exact allR_false k hlt (by unfold rowB; rw [allR_false j hlj h, Bool.and_false]))
            generalize g (26 + k * 8 + j) = x at e1 HP
            generalize g (26 + j * 8 + k) = y at e2 HP
            cases hne : (x != y) with
            | true =>
              have HF := Lib.hid (HL.out (by rw [HP.out, hne]; rfl))
              go_wp2_with (fail)
              go_quiet (fail)
              go_wp2_with (fail)
              go_ret
              exact ⟨by rw [HF.out]; rfl, below_drewN ((Below.refl _ _).alloc (Nat.le_refl _) _) _⟩
            | false =>
              cases hwi : withinB x 1 255 with
              | true =>
                have HT := Lib.hid (show pairB g k j = true by rw [HP.out, hne, hwi]; rfl)
                have HI := Lib.hid hwi
                clear hwi
                go_wp2_with (fail)
                go_quiet (fail)
                go_wp2_with (fail)
                refine (within_is HI.out _).mono ?_
                rintro e w' ⟨rfl, rfl⟩
                go_wp2_with (fail)
                go_roundw
                case rel => exact ⟨j + 1, by omega, by go_num, Lib.hid (fun i h => by
                  by_cases e : i = j
                  · subst e; exact HT.out
                  · exact HJ.out i (by omega)), _, rfl⟩
                case measure => simp [intOf]; omega
              | false =>
                have HF := Lib.hid (HL.out (by rw [HP.out, hwi, Bool.and_false]))
                have HI := Lib.hid hwi
                clear hwi
                go_wp2_with (fail)
                go_quiet (fail)
                go_wp2_with (fail)
                refine (within_is HI.out _).mono ?_
                rintro e w' ⟨rfl, rfl⟩
                go_wp2_with (fail)
                go_ret
                exact ⟨by rw [HF.out]; rfl, below_drewN ((Below.refl _ _).alloc (Nat.le_refl _) _) _⟩
          · have HT := Lib.hid (show rowB g k = true by
              unfold rowB; rw [HR.out, allR_true (fun i h => HJ.out i (by omega))]; rfl)
            go_wp2_with (fail)
            go_roundw
            case rel => exact ⟨k + 1, by omega, by go_num, Lib.hid (fun i h => by
              by_cases e : i = k
              · subst e; exact HT.out
              · exact HK.out i (by omega)), _, rfl⟩
            case measure => simp [intOf]; omega
    · have HT := Lib.hid (show distB g = true by rw [HB.out]; exact allR_true (fun i h => HK.out i (by omega)))
      go_wp2_with (fail)
      go_ret
      exact ⟨by rw [HT.out]; rfl, below_drewN ((Below.refl _ _).alloc (Nat.le_refl _) _) _⟩
end Go.Proofs.Ytcbdmdalijhkoaa
