/-
  areas, the document's: May, Runs, mapped, Rights.
-/
import Derived.Test.YthnkbipdlepbaaaArVal
import Derived.BigRegion
namespace Go.Proofs.Ythnkbipdlepbaaa
open Go.RowKit Go

/-- The document's areas. -/
def riV (f : Nat → Nat) (i : Nat) : Value := .int .u8 (f i)
def RefR (w : World) (rb : Nat) (f : Nat → Nat) : Prop := RowAt w rb 1024 (riV f)
/-- The range may be. -/
def MayR (p c : Int) : Prop := 0 ≤ p ∧ p < 1024 ∧ 1 ≤ c ∧ c ≤ 1024 ∧ p + c ≤ 1024
instance (p c : Int) : Decidable (MayR p c) := by unfold MayR; infer_instance
section
variable {w : World} {rb : Nat} {f : Nat → Nat}
theorem RefR.at {k : Nat} (R : RefR w rb f) (hk : k < 1024) : w.cell? ⟨rb, k, none⟩ = some (.int .u8 (f k)) := R.cell k hk
set_option maxRecDepth 100000 in
theorem rmay_any (p c : Int) (w : World) : Calls Try.prog 29 #[.int .i64 p, .int .i64 c] w fun e w' => e = .returned (.bool (decide (MayR p c))) ∧ w = w' := by
  by_cases h1 : 0 ≤ p
  · by_cases h2 : p < 1024
    · by_cases h3 : 1 ≤ c
      · by_cases h4 : c ≤ 1024
        · by_cases h5 : p + c ≤ 1024
          · rw [show decide (MayR p c) = true from decide_eq_true ⟨h1, h2, h3, h4, h5⟩]
            go_enter Try.func29, Try.ntmps29
            go_wp2_with (fail)
            go_ret
            exact ⟨rfl, rfl⟩
          · rw [show decide (MayR p c) = false from decide_eq_false (fun h => h5 h.2.2.2.2)]
            go_enter Try.func29, Try.ntmps29
            go_wp2_with (fail)
            go_ret
            exact ⟨rfl, rfl⟩
        · rw [show decide (MayR p c) = false from decide_eq_false (fun h => h4 h.2.2.2.1)]
          go_enter Try.func29, Try.ntmps29
          go_wp2_with (fail)
          go_ret
          exact ⟨rfl, rfl⟩
      · rw [show decide (MayR p c) = false from decide_eq_false (fun h => h3 h.2.2.1)]
        go_enter Try.func29, Try.ntmps29
        go_wp2_with (fail)
        go_ret
        exact ⟨rfl, rfl⟩
    · rw [show decide (MayR p c) = false from decide_eq_false (fun h => h2 h.2.1)]
      go_enter Try.func29, Try.ntmps29
      go_wp2_with (fail)
      go_ret
      exact ⟨rfl, rfl⟩
  · rw [show decide (MayR p c) = false from decide_eq_false (fun h => h1 h.1)]
    go_enter Try.func29, Try.ntmps29
    go_wp2_with (fail)
    go_ret
    exact ⟨rfl, rfl⟩
/-- A page's rights. -/
def rgV (f : Nat → Nat) (p : Int) : Nat := if 0 ≤ p ∧ p < 1024 then f p.toNat else 0
set_option maxRecDepth 100000 in
set_option maxHeartbeats 1000000 in
theorem rrights_any (R : RefR w rb f) (p : Int) : Calls Try.prog 20 #[.pointer (some ⟨rb, 0, none⟩), .int .i64 p] w fun e w' => e = .returned (.tuple #[.int .u8 (rgV f p), .bool (rgV f p != 0)]) ∧ Below w.heap.size w w' := by
  have HB := Lib.hid (Below.refl w.heap.size w)
  by_cases h1 : 0 ≤ p
  · by_cases h2 : p < 1024
    · have e : rgV f p = f p.toNat := if_pos ⟨h1, h2⟩
      rw [e]
      obtain ⟨k, rfl⟩ := Int.eq_ofNat_of_zero_le h1
      have hk : k < 1024 := by omega
      have c := R.at hk
      rw [show ((k : Int)).toNat = k by omega]
      clear R e h1
      generalize f k = x at *
      by_cases h0 : x = 0
      · subst h0
        go_enter Try.func20, Try.ntmps20
        go_wp2_with (fail)
        go_ret2
        exact ⟨rfl, HB.out⟩
      · have hx : ((x : Int) == 0) = false := by simp; omega
        have hx2 : (x != 0) = true := by simp; omega
        rw [hx2]
        clear h0 hx2
        go_enter Try.func20, Try.ntmps20
        go_wp2_with (fail)
        go_ret2
        exact ⟨rfl, HB.out⟩
    · have e : rgV f p = 0 := if_neg (fun h => h2 h.2)
      rw [e]
      clear R e
      go_enter Try.func20, Try.ntmps20
      go_wp2_with (fail)
      go_ret2
      exact ⟨rfl, HB.out⟩
  · have e : rgV f p = 0 := if_neg (fun h => h1 h.1)
    rw [e]
    clear R e
    go_enter Try.func20, Try.ntmps20
    go_wp2_with (fail)
    go_ret2
    exact ⟨rfl, HB.out⟩
/-- How many of the n pages from p on are mapped. -/
def cntM (f : Nat → Nat) (p : Nat) : Nat → Nat
  | 0 => 0
  | n + 1 => if f (p + n) = 0 then cntM f p n else cntM f p n + 1
theorem cntM_le (f : Nat → Nat) (p : Nat) : ∀ n, cntM f p n ≤ n
  | 0 => Nat.le_refl _
  | n + 1 => by
    have := cntM_le f p n
    unfold cntM
    split <;> omega
set_option maxRecDepth 100000 in
set_option maxHeartbeats 1000000 in
theorem rmapped_any (R : RefR w rb f) (p n : Nat) (h : p + n ≤ 1024) : Calls Try.prog 30 #[.pointer (some ⟨rb, 0, none⟩), .int .i64 p, .int .i64 n] w fun e w' => e = .returned (.int .i64 (cntM f p n)) ∧ Below w.heap.size w w' := by
  have HR := Lib.hid R
  have HB := Lib.hid (Below.refl w.heap.size w)
  have HL := Lib.hid (cntM_le f p)
  clear R
  go_enter Try.func30, Try.ntmps30
  go_wp2_with (fail)
  go_loop [7, 8] (fun c i => ∃ k : Nat, k ≤ n ∧ i = .int .i64 ((p + k : Nat) : Int) ∧ c = .int .i64 (cntM f p k)) (fun _ i => p + n - (intOf i).toNat)
  case atStart => exact ⟨0, Nat.zero_le _, rfl, rfl⟩
  case round =>
    obtain ⟨k, hk, rfl, rfl⟩ := hrel
    have hl := HL.out k
    have HK := Lib.hid (show cntM f p (k + 1) = if f (p + k) = 0 then cntM f p k else cntM f p k + 1 from rfl)
    by_cases hlt : k < n
    · have c0 := HR.out.at (k := p + k) (by omega)
      generalize f (p + k) = x at *
      generalize cntM f p k = C at *
      by_cases hx : x = 0
      · subst hx
        go_wp2_with (fail)
        go_round
        case rel => exact ⟨k + 1, hlt, by go_num, by rw [HK.out, if_pos rfl]⟩
        case measure => simp [intOf]; omega
      · have hx0 : ((x : Int) == 0) = false := by simp; omega
        have HX := Lib.hid hx
        clear hx
        go_wp2_with (fail)
        go_round
        case rel => exact ⟨k + 1, hlt, by go_num, by rw [HK.out, if_neg HX.out]; go_num⟩
        case measure => simp [intOf]; omega
    · obtain rfl : k = n := by omega
      go_wp2_with (fail)
      go_ret
      exact ⟨rfl, HB.out⟩
end
end Go.Proofs.Ythnkbipdlepbaaa
