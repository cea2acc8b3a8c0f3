/-
  chain's document: Mark, At.
-/
import Derived.Test.YtlimbcpghfddkaaChRef
namespace Go.Proofs.Ytlimbcpghfddkaa
open Go.RowKit Go

section
variable {w : World} {r bb bc : Nat} {S : Sl} {v : Value}
set_option maxRecDepth 100000 in
set_option maxHeartbeats 2000000 in
theorem rmark_any (R : CRef w r bb bc S v) (I : SlI S) (i t : Int) :
    Calls Try.prog 24 #[.pointer (some ⟨r, 0, none⟩), .int .i64 i, .int .u64 t] w (CPost w r bb bc v (S.mark i t)) := by
  have c3 := R.c3
  have hn := I.parts.2.2.2.1
  by_cases h0 : i < 0
  · have hz : S.mark i t = (2, S) := by unfold Sl.mark; rw [if_pos (.inl (has_no.2 (.inl h0)))]
    rw [hz]
    have HP := Lib.hid (CPost.same (q := 2) R)
    clear hz I R
    generalize S.n = n at *
    go_enter Try.func24, Try.ntmps24
    go_wp2_with (fail)
    go_ret
    exact HP.out
  · obtain ⟨k, rfl⟩ : ∃ k : Nat, i = k := ⟨i.toNat, by omega⟩
    by_cases h1 : k < S.n
    · have hk32 : (k : Int) < 32 := by omega
      have h1I : ¬ (S.n : Int) ≤ (k : Int) := by omega
      have co := R.co (i := k) (by omega)
      have ct := R.ct (i := k) (by omega)
      have hh := has_nat.2 h1
      by_cases ht0 : t = 0
      · subst ht0
        have hz : S.mark k 0 = (2, S) := by unfold Sl.mark; rw [if_pos (.inr rfl)]
        rw [hz]
        have HP := Lib.hid (CPost.same (q := 2) R)
        clear hz I R hh ct co
        generalize S.n = n at *
        go_enter Try.func24, Try.ntmps24
        go_wp2_with (fail)
        go_ret
        exact HP.out
      · have ht0b : (t == 0) = false := by simpa using ht0
        cases ho : S.out k with
        | false =>
          have hz : S.mark k t = (7, S) := by unfold Sl.mark; rw [if_neg (by rw [hh]; simp [ht0]), if_pos (by rw [Int.toNat_natCast]; exact ho)]
          rw [hz]
          rw [ho] at co
          have HP := Lib.hid (CPost.same (q := 7) R)
          clear hz I R hh ct ho ht0
          generalize S.n = n at *
          go_enter Try.func24, Try.ntmps24
          go_wp2_with (fail)
          go_ret
          exact HP.out
        | true =>
          rw [ho] at co
          by_cases ht : S.tu k = 0
          · have hz : S.mark k t = (0, { S with tu := updC S.tu k t }) := by unfold Sl.mark; rw [if_neg (by rw [hh]; simp [ht0]), if_neg (by rw [Int.toNat_natCast, ho]; decide), if_neg (by rw [Int.toNat_natCast]; exact fun h => h ht), Int.toNat_natCast]
            rw [hz]
            rw [ht] at ct
            have fr : w.frozen? ⟨r, 37 + k, none⟩ = false := R.row.frozen _
            have hs := R.setTu (i := k) (by omega) t
            have HP := Lib.hid (show CPost w r bb bc v (0, { S with tu := updC S.tu k t }) (.returned (.int .i64 0)) (w.setCell ⟨r, 37 + k, none⟩ (.int .u64 t)) from ⟨rfl, hs.1, hs.2⟩)
            clear hz I R hh hs ho ht0 ht
            generalize S.n = n at *
            go_enter Try.func24, Try.ntmps24
            go_wp2_with (fail)
            go_ret
            exact HP.out
          · have hz : S.mark k t = (8, S) := by unfold Sl.mark; rw [if_neg (by rw [hh]; simp [ht0]), if_neg (by rw [Int.toNat_natCast, ho]; decide), if_pos (by rw [Int.toNat_natCast]; exact ht)]
            rw [hz]
            have htb : (S.tu k == 0) = false := by simpa using ht
            have HP := Lib.hid (CPost.same (q := 8) R)
            clear hz I R hh ho ht0 ht
            generalize S.n = n at *
            generalize S.tu k = u at *
            go_enter Try.func24, Try.ntmps24
            go_wp2_with (fail)
            go_ret
            exact HP.out
    · have hz : S.mark k t = (2, S) := by unfold Sl.mark; rw [if_pos (.inl (has_no.2 (.inr (by omega))))]
      rw [hz]
      have HP := Lib.hid (CPost.same (q := 2) R)
      have h1I : (S.n : Int) ≤ (k : Int) := by omega
      clear hz I R
      generalize S.n = n at *
      go_enter Try.func24, Try.ntmps24
      go_wp2_with (fail)
      go_ret
      exact HP.out
end
end Go.Proofs.Ytlimbcpghfddkaa
