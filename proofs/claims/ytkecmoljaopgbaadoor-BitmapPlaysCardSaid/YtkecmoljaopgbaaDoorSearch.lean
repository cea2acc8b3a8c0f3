/-
  Free and Next, from whatever number.
-/
import Derived.Test.YtkecmoljaopgbaaDoorFind
namespace Go.Proofs.YtkecmoljaopgbaaDoor
open Go.RowKit Go Bm

theorem find_nil (i t : Int) (w : World) :
    Calls Tryd.prog 27 #[.pointer none, .int .i64 i, .int .u64 t] w fun e w' => e = fnd none ∧ w = w' := by
  by_cases h : i < 0
  all_goals
    go_enter Tryd.func27, Tryd.ntmps27
    go_wp2_with (go_at_call 25; refine (owns_nil _ _).mono ?_; rintro e w' ⟨rfl, rfl⟩)
    go_ret2
    exact ⟨rfl, rfl⟩

theorem find_no (p n : Nat) (i t : Int) (w : World) (h0 : w.cell? ⟨p, 0, none⟩ = some (.int .i64 n)) (h : (n : Int) ≤ i ∨ n = 0) :
    Calls Tryd.prog 27 #[.pointer (some ⟨p, 0, none⟩), .int .i64 i, .int .u64 t] w fun e w' => e = fnd none ∧ w = w' := by
  have H := Lib.hid h
  clear h
  by_cases h : i < 0
  all_goals
    go_enter Tryd.func27, Tryd.ntmps27
    go_wp2_with (go_at_call 25; refine (owns_no p n _ _ (by assumption) (by have := H.out; omega)).mono ?_; rintro e w' ⟨rfl, rfl⟩)
    go_ret2
    exact ⟨rfl, rfl⟩

/-- From below 0 it is from 0 on. -/
theorem find_low (p wb n : Nat) (f : Nat → Bool) (i : Int) (neg : Bool) (w : World) (S : SetAt w p wb n f) (ha : 0 < n) (hi : i < 0) (hT : TabAt 0 Lib.deBruijn64tab w) :
    Calls Tryd.prog 27 #[.pointer (some ⟨p, 0, none⟩), .int .i64 i, .int .u64 (turnI neg)] w fun e w' => e = fnd (findN (turned f neg) 0 n) ∧ w = w' := by
  have h0 := S.size
  have h1 := S.words
  have h2 := S.word 0 (by omega)
  have hm := S.max
  have hq : 0 < (n + 63) / 64 := by omega
  have HE := Lib.hid (shift_zero f neg)
  go_enter Tryd.func27, Tryd.ntmps27
  go_wp2_with (go_at_call 25; refine (owns_yes p n 0 _ (by assumption) (by omega) (by omega)).mono ?_; rintro e w' ⟨rfl, rfl⟩)
  rw [HE.out]
  go_loop [8, 9] (fun x y => Rel (turned f neg) 0 ((n + 63) / 64) x y) (fun x _ => (n + 63) / 64 - (intOf x).toNat)
  case atStart => exact ⟨0, by decide, hq, rfl, rfl, fun j p q => by omega⟩
  case round =>
    obtain ⟨k, hk1, hk2, rfl, rfl, hk3⟩ := hrel
    have HK := Lib.hid hk3
    clear hk3 h2
    by_cases hz : Bm.word (fromF (turned f neg) 0) k = 0
    · have HZ := Lib.hid hz
      rw [hz]
      clear hz
      by_cases hl : k + 1 < (n + 63) / 64
      · have h2 := S.word (k + 1) hl
        go_wp2
        go_round
        case rel =>
          refine ⟨k + 1, by omega, hl, by go_num, ?_, fun j p q => ?_⟩
          · rw [bits_xor_turn, word_fromF_later (by omega)]
          · by_cases hj : j < 64 * k
            · exact HK.out j p hj
            · have := word_zero HZ.out (j - 64 * k) (by omega)
              rwa [show 64 * k + (j - 64 * k) = j from by omega, fromF_from p] at this
        case measure => simp [intOf]; omega
      · have HN : Hid (findN (turned f neg) 0 n = none) := findN_none fun x p q => by
          by_cases hj : x < 64 * k
          · exact HK.out x p hj
          · have := word_zero HZ.out (x - 64 * k) (by omega)
            rwa [show 64 * k + (x - 64 * k) = x from by omega, fromF_from p] at this
        go_wp2
        go_ret2
        exact ⟨by rw [HN.out]; rfl, rfl⟩
    · have hlt := word_lt (fromF (turned f neg) 0) k
      have hz' : ((Bm.word (fromF (turned f neg) 0) k : Nat) : Int) ≠ 0 := by omega
      obtain ⟨c1, c2, c3⟩ := ctz_word hz
      have HC := Lib.hid (And.intro c2 c3)
      clear c2 c3
      go_wp2_with (fail)
      refine (tz_any _ hlt hz _ hT).mono ?_
      rintro e w' ⟨rfl, rfl⟩
      have HZ := Lib.hid hz
      clear hz hz' hlt
      generalize Bm.word (fromF (turned f neg) 0) k = W at *
      generalize hc : Lib.ctz 64 W = c at *
      clear hc
      have hge : 0 ≤ 64 * k + c := by
        have := HC.out.1
        simp only [fromF, Bool.and_eq_true, decide_eq_true_eq] at this
        exact this.1
      have HL : Hid (turned f neg (64 * k + c) = true ∧ ∀ x, 0 ≤ x → x < 64 * k + c → turned f neg x = false) := by
        obtain ⟨d1, d2⟩ := HC.out
        rw [fromF_from hge] at d1
        refine ⟨d1, fun x p q => ?_⟩
        by_cases hj : x < 64 * k
        · exact HK.out x p hj
        · have := d2 (x - 64 * k) (by omega)
          rwa [show 64 * k + (x - 64 * k) = x from by omega, fromF_from p] at this
      by_cases hn : 64 * k + c < n
      · have HN : Hid (findN (turned f neg) 0 n = some (64 * k + c)) := findN_some hge hn HL.out.1 HL.out.2
        go_wp2_with (go_at_call 25; refine (owns_yes p n _ _ (by assumption) (by omega) (by omega)).mono ?_; rintro e w' ⟨rfl, rfl⟩)
        go_ret2
        exact ⟨by rw [HN.out]; simp [fnd]; omega, rfl⟩
      · have HN : Hid (findN (turned f neg) 0 n = none) := findN_none fun x p q => HL.out.2 x p (by omega)
        go_wp2_with (go_at_call 25; refine (owns_no p n _ _ (by assumption) (by omega)).mono ?_; rintro e w' ⟨rfl, rfl⟩)
        go_ret2
        exact ⟨by rw [HN.out]; rfl, rfl⟩


theorem find_any (p wb n : Nat) (f : Nat → Bool) (i : Int) (neg : Bool) (w : World) (S : SetAt w p wb n f) (hT : TabAt 0 Lib.deBruijn64tab w) :
    Calls Tryd.prog 27 #[.pointer (some ⟨p, 0, none⟩), .int .i64 i, .int .u64 (turnI neg)] w fun e w' => e = fnd (findN (turned f neg) i.toNat n) ∧ w = w' := by
  by_cases h : (n : Int) ≤ i ∨ n = 0
  · rw [findN_none fun x p q => by omega]
    exact find_no p n i _ w S.size h
  · by_cases hi : i < 0
    · rw [show i.toNat = 0 from by omega]
      exact find_low p wb n f i neg w S (by omega) hi hT
    · obtain ⟨a, rfl⟩ := Int.eq_ofNat_of_zero_le (show 0 ≤ i by omega)
      exact find_in p wb n f a neg w S (by omega) hT

theorem free_any (p wb n : Nat) (f : Nat → Bool) (i : Int) (w : World) (S : SetAt w p wb n f) (hT : TabAt 0 Lib.deBruijn64tab w) :
    Calls Tryd.prog 14 #[.pointer (some ⟨p, 0, none⟩), .int .i64 i] w fun e w' => e = fnd (findN (turned f true) i.toNat n) ∧ w = w' := by
  go_enter Tryd.func14, Tryd.ntmps14
  go_wp2_with (fail)
  refine (find_any p wb n f i true w S hT).mono ?_
  rintro e w' ⟨rfl, rfl⟩
  cases hf : findN (turned f true) i.toNat n
  all_goals
    have HF := Lib.hid hf
    clear hf
    unfold fnd
    go_wp2
    go_ret2
    exact ⟨by rw [HF.out]; rfl, rfl⟩
theorem free_nil (i : Int) (w : World) :
    Calls Tryd.prog 14 #[.pointer none, .int .i64 i] w fun e w' => e = fnd none ∧ w = w' := by
  go_enter Tryd.func14, Tryd.ntmps14
  go_wp2_with (fail)
  refine (find_nil _ _ _).mono ?_
  rintro e w' ⟨rfl, rfl⟩
  unfold fnd
  go_wp2
  go_ret2
  exact ⟨rfl, rfl⟩
theorem free_no (p n : Nat) (i : Int) (w : World) (h0 : w.cell? ⟨p, 0, none⟩ = some (.int .i64 n)) (h : (n : Int) ≤ i ∨ n = 0) :
    Calls Tryd.prog 14 #[.pointer (some ⟨p, 0, none⟩), .int .i64 i] w fun e w' => e = fnd none ∧ w = w' := by
  have H := Lib.hid h
  clear h
  go_enter Tryd.func14, Tryd.ntmps14
  go_wp2_with (fail)
  refine (find_no p n _ _ _ h0 H.out).mono ?_
  rintro e w' ⟨rfl, rfl⟩
  unfold fnd
  go_wp2
  go_ret2
  exact ⟨rfl, rfl⟩
theorem next_any (p wb n : Nat) (f : Nat → Bool) (i : Int) (w : World) (S : SetAt w p wb n f) (hT : TabAt 0 Lib.deBruijn64tab w) :
    Calls Tryd.prog 16 #[.pointer (some ⟨p, 0, none⟩), .int .i64 i] w fun e w' => e = fnd (findN (turned f false) i.toNat n) ∧ w = w' := by
  go_enter Tryd.func16, Tryd.ntmps16
  go_wp2_with (fail)
  refine (find_any p wb n f i false w S hT).mono ?_
  rintro e w' ⟨rfl, rfl⟩
  cases hf : findN (turned f false) i.toNat n
  all_goals
    have HF := Lib.hid hf
    clear hf
    unfold fnd
    go_wp2
    go_ret2
    exact ⟨by rw [HF.out]; rfl, rfl⟩
theorem next_nil (i : Int) (w : World) :
    Calls Tryd.prog 16 #[.pointer none, .int .i64 i] w fun e w' => e = fnd none ∧ w = w' := by
  go_enter Tryd.func16, Tryd.ntmps16
  go_wp2_with (fail)
  refine (find_nil _ _ _).mono ?_
  rintro e w' ⟨rfl, rfl⟩
  unfold fnd
  go_wp2
  go_ret2
  exact ⟨rfl, rfl⟩
theorem next_no (p n : Nat) (i : Int) (w : World) (h0 : w.cell? ⟨p, 0, none⟩ = some (.int .i64 n)) (h : (n : Int) ≤ i ∨ n = 0) :
    Calls Tryd.prog 16 #[.pointer (some ⟨p, 0, none⟩), .int .i64 i] w fun e w' => e = fnd none ∧ w = w' := by
  have H := Lib.hid h
  clear h
  go_enter Tryd.func16, Tryd.ntmps16
  go_wp2_with (fail)
  refine (find_no p n _ _ _ h0 H.out).mono ?_
  rintro e w' ⟨rfl, rfl⟩
  unfold fnd
  go_wp2
  go_ret2
  exact ⟨rfl, rfl⟩
end Go.Proofs.YtkecmoljaopgbaaDoor
