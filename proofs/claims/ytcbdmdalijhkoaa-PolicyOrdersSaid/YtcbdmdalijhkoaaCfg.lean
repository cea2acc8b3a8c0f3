/-
  A config as a value and in memory: ninety-four ints; what within, homesMay and framesMay come to.
-/
import Derived.Test.YtcbdmdalijhkoaaEqArr
import Derived.Test.YtcbdmdalijhkoaaKept
import Derived.Test.YtcbdmdalijhkoaaArr
import Derived.WalkKit
import Derived.WalkSpells
import Derived.WalkLawsBesides
import Derived.Deep.QuietTactic
import Derived.Deep.RegionWith
import Derived.Deep.RegionHeld3
import Derived.Deep.WholeRow
import Derived.StillTailTactics
import Derived.BigQuiet
import Derived.Lib.Hide
namespace Go.Proofs.Ytcbdmdalijhkoaa
open Go.RowKit Go

set_option maxRecDepth 100000 in
theorem size3 (w : World) : (sizeOf 3).run Try.prog w = .ok 1 w := by kernel_rfl
set_option maxRecDepth 100000 in
theorem size23 (w : World) : (sizeOf 23).run Try.prog w = .ok 8 w := by kernel_rfl

/-- The cells of a config: ninety-four ints. -/
structure Cfg (A : Array Value) (g : Nat → Int) : Prop where
  size : A.size = 94
  get : ∀ i, i < 94 → A[i]? = some (.int .i64 (g i))

theorem Cfg.one {A : Array Value} {g : Nat → Int} (C : Cfg A g) : A.all (·.oneCell') = true := by
  rw [Array.all_eq_true]
  intro i h
  have h2 := C.get i (by rw [← C.size]; exact h)
  rw [Array.getElem?_eq_getElem h] at h2
  rw [Option.some.inj h2]; rfl

/-- A config g lies at block b. -/
structure CfgAt (w : World) (b : Nat) (A : Array Value) (g : Nat → Int) : Prop where
  cfg : Cfg A g
  block : w.heap[b]? = some (.cells A 26 (0, 0))

theorem CfgAt.cell {w : World} {b : Nat} {A : Array Value} {g : Nat → Int} (C : CfgAt w b A g) (i : Nat) (h : i < 94) : w.cell? ⟨b, i, none⟩ = some (.int .i64 (g i)) := by
  rw [cell_of_row w b i _ _ _ C.block, C.cfg.get i h]
theorem CfgAt.lt {w : World} {b : Nat} {A : Array Value} {g : Nat → Int} (C : CfgAt w b A g) : b < w.heap.size := by
  have := C.block
  by_cases h : b < w.heap.size
  · exact h
  · rw [Array.getElem?_eq_none (by omega)] at this; cases this
theorem CfgAt.later {w w' : World} {b : Nat} {A : Array Value} {g : Nat → Int} (C : CfgAt w b A g) (hb : Below w.heap.size w w') : CfgAt w' b A g := by
  refine ⟨C.cfg, ?_⟩
  rw [hb.block b C.lt]; exact C.block
theorem CfgAt.drewN {w : World} {b : Nat} {A : Array Value} {g : Nat → Int} (C : CfgAt w b A g) (m : Nat) : CfgAt (w.drewN m) b A g := ⟨C.cfg, C.block⟩
theorem CfgAt.new (w : World) {A : Array Value} {g : Nat → Int} (C : Cfg A g) : CfgAt (w.alloc (.cells A 26)) w.heap.size A g := ⟨C, heap_alloc_new w _⟩


/-- within. -/
def withinB (n a b : Int) : Bool := decide (a ≤ n ∧ n ≤ b)
set_option maxRecDepth 100000 in
theorem within_any (n a b : Int) (w : World) : Calls Try.prog 27 #[.int .i64 n, .int .i64 a, .int .i64 b] w fun e w' => e = .returned (.bool (withinB n a b)) ∧ w = w' := by
  unfold withinB
  by_cases h1 : a ≤ n
  · by_cases h2 : n ≤ b
    all_goals
      go_enter Try.func27, Try.ntmps27
      go_wp2
      go_ret
      exact ⟨by simp [h1, h2], rfl⟩
  · go_enter Try.func27, Try.ntmps27
    go_wp2
    go_ret
    exact ⟨by simp; omega, rfl⟩

set_option maxRecDepth 100000 in
theorem within_is {n a b : Int} {v : Bool} (h : withinB n a b = v) (w : World) : Calls Try.prog 27 #[.int .i64 n, .int .i64 a, .int .i64 b] w fun e w' => e = .returned (.bool v) ∧ w = w' := by
  subst h; exact within_any n a b w

/-- All of the first n. -/
theorem allR_true {n : Nat} {p : Nat → Bool} (h : ∀ i, i < n → p i = true) : allR n p = true := by
  simpa [allR] using h
theorem allR_false {n : Nat} {p : Nat → Bool} (k : Nat) (hk : k < n) (h : p k = false) : allR n p = false := by
  cases e : allR n p with
  | false => rfl
  | true =>
    have : ∀ i, i < n → p i = true := by simpa [allR] using e
    rw [this k hk] at h; cases h
theorem of_allR {n : Nat} {p : Nat → Bool} (h : allR n p = true) : ∀ i, i < n → p i = true := by simpa [allR] using h

/-- homesMay: the CPUs' homes are nodes. -/
def homesB (g : Nat → Int) : Bool := allR (g 1).toNat fun i => withinB (g (2 + i)) 0 (g 0 - 1)
set_option maxRecDepth 100000 in
theorem homes_any (A : Array Value) (g : Nat → Int) (w : World) (hA : Cfg A g) (hN : 1 ≤ g 0) (hN8 : g 0 ≤ 8) (hC : 1 ≤ g 1) (hC16 : g 1 ≤ 16) :
    Calls Try.prog 28 #[.agg A] w fun e w' => e = .returned (.bool (homesB g)) ∧ Below w.heap.size w w' := by
  obtain ⟨c, hc⟩ := Int.eq_ofNat_of_zero_le (show 0 ≤ g 1 by omega)
  obtain ⟨n, hn⟩ := Int.eq_ofNat_of_zero_le (show 0 ≤ g 0 by omega)
  have HB := Lib.hid (show homesB g = allR c fun i => withinB (g (2 + i)) 0 (n - 1) by unfold homesB; rw [hc, hn]; rfl)
  have hc1 : 1 ≤ c := by omega
  have hc2 : c ≤ 16 := by omega
  have hn1 : 1 ≤ n := by omega
  have hn2 : n ≤ 8 := by omega
  have a0 : A[0]? = some (.int .i64 n) := by rw [← hn]; exact hA.get 0 (by decide)
  have a1 : A[1]? = some (.int .i64 c) := by rw [← hc]; exact hA.get 1 (by decide)
  have HA := Lib.hid hA
  clear hA hc hn hN hN8 hC hC16
  have hsl := run_slice_to (P := Try.prog) Try.underlying22 size3 c hc2
  go_enter Try.func28, Try.ntmps28
  go_wp2_with (fail)
  go_loop [4, 10] (fun _ x => ∃ k : Nat, k ≤ c ∧ x = .int .i64 k ∧ Hid (∀ i, i < k → withinB (g (2 + i)) 0 (n - 1) = true)) (fun _ x => c - (intOf x).toNat)
  case atStart => exact ⟨0, Nat.zero_le _, rfl, Lib.hid (fun i h => absurd h (Nat.not_lt_zero _))⟩
  case round =>
    obtain ⟨k, hk, rfl, HK⟩ := hrel
    by_cases hlt : k < c
    · have ak : A[2 + k]? = some (.int .i64 (g (2 + k))) := HA.out.get _ (by omega)
      cases hw : withinB (g (2 + k)) 0 (n - 1) with
      | true =>
        have HW := Lib.hid hw
        clear hw
        go_wp2_with (fail)
        refine (within_is HW.out _).mono ?_
        rintro e w' ⟨rfl, rfl⟩
        go_wp2_with (fail)
        go_round
        case rel => exact ⟨k + 1, by omega, by go_num, Lib.hid (fun i h => by
          by_cases e : i = k
          · subst e; exact HW.out
          · exact HK.out i (by omega))⟩
        case measure => simp [intOf]; omega
      | false =>
        have HF := Lib.hid (show homesB g = false by rw [HB.out]; exact allR_false k hlt hw)
        have HW := Lib.hid hw
        clear hw
        go_wp2_with (fail)
        refine (within_is HW.out _).mono ?_
        rintro e w' ⟨rfl, rfl⟩
        go_wp2_with (fail)
        go_ret
        exact ⟨by rw [HF.out]; rfl, (Below.refl _ _).alloc (Nat.le_refl _) _⟩
    · have HT := Lib.hid (show homesB g = true by rw [HB.out]; exact allR_true (fun i h => HK.out i (by omega)))
      go_wp2_with (fail)
      go_ret
      exact ⟨by rw [HT.out]; rfl, (Below.refl _ _).alloc (Nat.le_refl _) _⟩

/-- framesMay: each node has as many frames as it may have. -/
def framesB (g : Nat → Int) : Bool := allR (g 0).toNat fun i => withinB (g (18 + i)) 4 128
set_option maxRecDepth 100000 in
theorem framesMay_any (A : Array Value) (g : Nat → Int) (w : World) (hA : Cfg A g) (hN : 1 ≤ g 0) (hN8 : g 0 ≤ 8) :
    Calls Try.prog 29 #[.agg A] w fun e w' => e = .returned (.bool (framesB g)) ∧ Below w.heap.size w w' := by
  obtain ⟨n, hn⟩ := Int.eq_ofNat_of_zero_le (show 0 ≤ g 0 by omega)
  have HB := Lib.hid (show framesB g = allR n fun i => withinB (g (18 + i)) 4 128 by unfold framesB; rw [hn]; rfl)
  have hn1 : 1 ≤ n := by omega
  have hn2 : n ≤ 8 := by omega
  have a0 : A[0]? = some (.int .i64 n) := by rw [← hn]; exact hA.get 0 (by decide)
  have HA := Lib.hid hA
  clear hA hn hN hN8
  have hsl := run_slice_to (P := Try.prog) Try.underlying23 size3 n hn2
  go_enter Try.func29, Try.ntmps29
  go_wp2_with (fail)
  go_loop [4, 10] (fun _ x => ∃ k : Nat, k ≤ n ∧ x = .int .i64 k ∧ Hid (∀ i, i < k → withinB (g (18 + i)) 4 128 = true)) (fun _ x => n - (intOf x).toNat)
  case atStart => exact ⟨0, Nat.zero_le _, rfl, Lib.hid (fun i h => absurd h (Nat.not_lt_zero _))⟩
  case round =>
    obtain ⟨k, hk, rfl, HK⟩ := hrel
    by_cases hlt : k < n
    · have ak : A[18 + k]? = some (.int .i64 (g (18 + k))) := HA.out.get _ (by omega)
      cases hw : withinB (g (18 + k)) 4 128 with
      | true =>
        have HW := Lib.hid hw
        clear hw
        go_wp2_with (fail)
        refine (within_is HW.out _).mono ?_
        rintro e w' ⟨rfl, rfl⟩
        go_wp2_with (fail)
        go_round
        case rel => exact ⟨k + 1, by omega, by go_num, Lib.hid (fun i h => by
          by_cases e : i = k
          · subst e; exact HW.out
          · exact HK.out i (by omega))⟩
        case measure => simp [intOf]; omega
      | false =>
        have HF := Lib.hid (show framesB g = false by rw [HB.out]; exact allR_false k hlt hw)
        have HW := Lib.hid hw
        clear hw
        go_wp2_with (fail)
        refine (within_is HW.out _).mono ?_
        rintro e w' ⟨rfl, rfl⟩
        go_wp2_with (fail)
        go_ret
        exact ⟨by rw [HF.out]; rfl, (Below.refl _ _).alloc (Nat.le_refl _) _⟩
    · have HT := Lib.hid (show framesB g = true by rw [HB.out]; exact allR_true (fun i h => HK.out i (by omega)))
      go_wp2_with (fail)
      go_ret
      exact ⟨by rw [HT.out]; rfl, (Below.refl _ _).alloc (Nat.le_refl _) _⟩
end Go.Proofs.Ytcbdmdalijhkoaa
