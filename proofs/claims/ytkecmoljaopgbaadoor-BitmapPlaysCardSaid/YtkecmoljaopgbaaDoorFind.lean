/-
  The search in the words: find, from a number on.
-/
import Derived.Test.YtkecmoljaopgbaaDoorBase
import Derived.Shelf.Spec.TrailingZeros
namespace Go.Proofs.YtkecmoljaopgbaaDoor
open Go.RowKit Go Bm

set_option maxHeartbeats 1000000 in
theorem tz_core (x k idx : Nat) (w : World) (hx0 : ((x : Int) == 0) = false)
    (key : IntKind.u64.wrap (bits BinOp.and IntKind.u64 (x : Int) (IntKind.u64.wrap (-(x : Int))) * 285870213051353865) / 288230376151711744 = (idx : Int))
    (hi : idx < 64) (hcell : w.cell? ⟨0, idx, none⟩ = some (.int .u8 k)) (hk : k < 64) :
    Calls Tryd.prog 31 #[.int .u64 x] w fun e w' => e = .returned (.int .i64 k) ∧ w = w' := by
  go_enter Tryd.func31, Tryd.ntmps31
  go_wp2_with (simp only [key])
  go_ret
  exact ⟨rfl, rfl⟩

theorem tz_any (x : Nat) (hx : x < 18446744073709551616) (hx0 : x ≠ 0) (w : World) (hT : TabAt 0 Lib.deBruijn64tab w) :
    Calls Tryd.prog 31 #[.int .u64 x] w fun e w' => e = .returned (.int .i64 (Lib.ctz 64 x)) ∧ w = w' := by
  obtain ⟨hlow, hk⟩ := Lib.lowest_bit 64 x hx0 hx
  obtain ⟨hi, htab⟩ := Lib.deBruijn64_at _ hk
  have hcell := hT _ hi
  rw [htab] at hcell
  exact tz_core x _ _ w (by simp; omega) (tz64_key x _ hx hx0 hlow) hi hcell hk

/-- What a search comes to. -/
def fnd : Option Nat → Ending
  | some j => .returned (.tuple #[.int .i64 j, .bool true])
  | none => .returned (.tuple #[.int .i64 0, .bool false])

/-- The loop's relation. -/
def Rel (g : Nat → Bool) (a L : Nat) (x y : Value) : Prop :=
  ∃ k : Nat, a / 64 ≤ k ∧ k < L ∧ x = .int .i64 k ∧ y = .int .u64 (Bm.word (fromF g a) k : Nat) ∧ ∀ j, a ≤ j → j < 64 * k → g j = false

theorem find_in (p wb n : Nat) (f : Nat → Bool) (a : Nat) (neg : Bool) (w : World) (S : SetAt w p wb n f) (ha : a < n) (hT : TabAt 0 Lib.deBruijn64tab w) :
    Calls Tryd.prog 27 #[.pointer (some ⟨p, 0, none⟩), .int .i64 a, .int .u64 (turnI neg)] w fun e w' => e = fnd (findN (turned f neg) a n) ∧ w = w' := by
  have h0 := S.size
  have h1 := S.words
  have h2 := S.word (a / 64) (by omega)
  have hm := S.max
  have hq : a / 64 < (n + 63) / 64 := by omega
  have HE : Hid (IntKind.u64.wrap (bits .xor .u64 ((Bm.word f (a / 64) : Nat) : Int) (turnI neg) / 2 ^ (a % 64) * 2 ^ (a % 64)) = ((Bm.word (fromF (turned f neg) a) (a / 64) : Nat) : Int)) := by
    rw [bits_xor_turn]; exact shift_from _ _
  go_enter Tryd.func27, Tryd.ntmps27
  go_wp2_with (go_at_call 25; refine (owns_yes p n a _ (by assumption) (by omega) (by omega)).mono ?_; rintro e w' ⟨rfl, rfl⟩)
  rw [HE.out]
  go_loop [8, 9] (fun x y => Rel (turned f neg) a ((n + 63) / 64) x y) (fun x _ => (n + 63) / 64 - (intOf x).toNat)
  case atStart => exact ⟨a / 64, Nat.le_refl _, hq, rfl, rfl, fun j p q => by omega⟩
  case round =>
    obtain ⟨k, hk1, hk2, rfl, rfl, hk3⟩ := hrel
    have HK := Lib.hid hk3
    clear hk3 h2
    by_cases hz : Bm.word (fromF (turned f neg) a) k = 0
    · have HZ := Lib.hid hz
      rw [hz]
      clear hz
      by_cases hl : k + 1 < (n + 63) / 64
      · have h2 := S.word (k + 1) hl
        go_wp2
        go_round
        case rel =>
          refine ⟨k + 1, by omega, hl, by go_num, ?_, fun j p q => ?_⟩
          · rw [bits_xor_turn, word_fromF_later (by omega)]
          · by_cases hj : j < 64 * k
            · exact HK.out j p hj
            · have := word_zero HZ.out (j - 64 * k) (by omega)
              rwa [show 64 * k + (j - 64 * k) = j from by omega, fromF_from p] at this
        case measure => simp [intOf]; omega
      · have HN : Hid (findN (turned f neg) a n = none) := findN_none fun x p q => by
          by_cases hj : x < 64 * k
          · exact HK.out x p hj
          · have := word_zero HZ.out (x - 64 * k) (by omega)
            rwa [show 64 * k + (x - 64 * k) = x from by omega, fromF_from p] at this
        go_wp2
        go_ret2
        exact ⟨by rw [HN.out]; rfl, rfl⟩
    · have hlt := word_lt (fromF (turned f neg) a) k
      have hz' : ((Bm.word (fromF (turned f neg) a) k : Nat) : Int) ≠ 0 := by omega
      obtain ⟨c1, c2, c3⟩ := ctz_word hz
      have HC := Lib.hid (And.intro c2 c3)
      clear c2 c3
      go_wp2_with (fail)
      refine (tz_any _ hlt hz _ hT).mono ?_
      rintro e w' ⟨rfl, rfl⟩
      have HZ := Lib.hid hz
      clear hz hz' hlt
      generalize Bm.word (fromF (turned f neg) a) k = W at *
      generalize hc : Lib.ctz 64 W = c at *
      clear hc
      have hge : a ≤ 64 * k + c := by
        have := HC.out.1
        simp only [fromF, Bool.and_eq_true, decide_eq_true_eq] at this
        exact this.1
      have HL : Hid (turned f neg (64 * k + c) = true ∧ ∀ x, a ≤ x → x < 64 * k + c → turned f neg x = false) := by
        obtain ⟨d1, d2⟩ := HC.out
        rw [fromF_from hge] at d1
        refine ⟨d1, fun x p q => ?_⟩
        by_cases hj : x < 64 * k
        · exact HK.out x p hj
        · have := d2 (x - 64 * k) (by omega)
          rwa [show 64 * k + (x - 64 * k) = x from by omega, fromF_from p] at this
      by_cases hn : 64 * k + c < n
      · have HN : Hid (findN (turned f neg) a n = some (64 * k + c)) := findN_some hge hn HL.out.1 HL.out.2
        go_wp2_with (go_at_call 25; refine (owns_yes p n _ _ (by assumption) (by omega) (by omega)).mono ?_; rintro e w' ⟨rfl, rfl⟩)
        go_ret2
        exact ⟨by rw [HN.out]; simp [fnd]; omega, rfl⟩
      · have HN : Hid (findN (turned f neg) a n = none) := findN_none fun x p q => HL.out.2 x p (by omega)
        go_wp2_with (go_at_call 25; refine (owns_no p n _ _ (by assumption) (by omega)).mono ?_; rintro e w' ⟨rfl, rfl⟩)
        go_ret2
        exact ⟨by rw [HN.out]; rfl, rfl⟩
end Go.Proofs.YtkecmoljaopgbaaDoor
