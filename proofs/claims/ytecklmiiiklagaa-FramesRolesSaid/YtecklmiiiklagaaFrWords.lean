/-
  The walk of FramesWords: it returns true, and below the old heap nothing has turned.
-/
import Derived.Test.YtecklmiiiklagaaFrKnown
import Derived.Test.YtecklmiiiklagaaFrWord
namespace Go.Proofs.Ytecklmiiiklagaa
open Go.RowKit Go

theorem total_nat {g : Nat → Int} (G : Good g) : ∃ T : Nat, totalI g = T ∧ T ≤ 1024 := by
  have n1 := G.n1
  have n8 := G.n2
  have hb := sumF_bd g (g 0).toNat (fun i hi => by have := G.frames i (by omega); omega)
  have hT : totalI g = sumF g (g 0).toNat := if_pos ((good_iff g).2 G)
  exact ⟨(totalI g).toNat, by omega, by omega⟩

theorem numB_put (B : Nat → UInt8) (o x : Nat) : ∀ k, k ≤ 8 → numB (putB B o 8 (byteOf x)) o k = x % 2 ^ (8 * k)
  | 0, _ => by simp [numB, Nat.mod_one]
  | k + 1, hk => by
    have h1 := numB_put B o x k (by omega)
    have h2 : putB B o 8 (byteOf x) (o + k) = byteOf x k := by
      unfold putB; rw [if_pos (by omega), Nat.add_sub_cancel_left]
    unfold numB
    rw [h1, h2, byteOf_nat, show 8 * (k + 1) = 8 * k + 8 by omega, Nat.pow_add, Nat.mod_mul, Nat.mul_comm (2 ^ (8 * k))]
theorem numB_whole (B : Nat → UInt8) (o x : Nat) (hx : x < 18446744073709551616) : numB (putB B o 8 (byteOf x)) o 8 = x := by
  rw [numB_put B o x 8 (Nat.le_refl _)]
  exact Nat.mod_eq_of_lt hx
/-- The bytes of the frame behind SetWord. -/
theorem word_here (f i x k : Nat) (h : k / 8 = i) : putB (fun _ => 0) (f * 256 + i * 8) 8 (byteOf x) (f * 256 + 0 + k) = byteOf x (k % 8) := by
  unfold putB
  rw [if_pos (by omega), show f * 256 + 0 + k - (f * 256 + i * 8) = k % 8 by omega]
theorem word_aside (f i x k : Nat) (h : k / 8 ≠ i) : putB (fun _ => 0) (f * 256 + i * 8) 8 (byteOf x) (f * 256 + 0 + k) = 0 := by
  unfold putB
  rw [if_neg (by omega)]
theorem word_else (f f2 i x k : Nat) (h : f2 ≠ f) (hi : i < 32) (hk : k < 256) : putB (fun _ => 0) (f * 256 + i * 8) 8 (byteOf x) (f2 * 256 + 0 + k) = 0 := by
  unfold putB
  rw [if_neg (by omega)]

/-- SetWord refuses. -/
theorem setword_no {w : World} {M : MB} {ST : Nat → Nat} {B : Nat → UInt8} {K : Nat → Mk} (H : MemAt w M ST B K) (f i x : Int) (h : ¬ ((0 ≤ f ∧ f < M.T) ∧ 0 ≤ i ∧ i ≤ 31)) :
    ∃ v : Int, v ≠ 0 ∧ Calls Try.prog 16 #[.pointer (some ⟨M.m, 0, none⟩), .int .i64 f, .int .i64 i, .int .u64 x] w fun e w' => e = .returned (.int .i64 v) ∧ w = w' := by
  by_cases hf : 0 ≤ f ∧ f < M.T
  · obtain ⟨f, rfl⟩ := Int.eq_ofNat_of_zero_le hf.1
    exact ⟨2, by decide, setword_err _ _ _ 2 _ _ (by decide) (eight_bad H f i (by omega) (fun hi => h ⟨hf, hi⟩))⟩
  · exact ⟨7, by decide, setword_err _ _ _ 7 _ _ (by decide) (eight_err _ _ _ 7 _ (by decide) (H.asked_no f hf))⟩

set_option maxRecDepth 100000 in
set_option maxHeartbeats 2000000 in
theorem lawWords_any (A : Array Value) (g : Nat → Int) (f i : Int) (x : Nat) (w : World) (hA : Cfg A g) (hx : x < 18446744073709551616) :
    Calls Try.prog 4 #[.agg A, .int .i64 f, .int .i64 i, .int .u64 x] w fun e w' => e = .returned (.bool true) ∧ Below w.heap.size w w' := by
  have C0 := CfgAt.new w hA
  have HA := Lib.hid hA
  have HX := Lib.hid hx
  have hB0 : Below w.heap.size w (w.alloc (.cells A 57)) := (Below.refl _ _).alloc (Nat.le_refl _) _
  have HB0 := Lib.hid hB0
  clear hA hB0 hx
  cases hm : mayB g with
  | false =>
    have HM := Lib.hid hm
    clear hm
    go_enter Try.func4, Try.ntmps4
    go_wp2_with (refine wpList_load_cfg rfl _ rfl _ rfl C0 ?_)
    refine (fnew_no A g _ HA.out HM.out).mono ?_
    rintro e w1 ⟨rfl, hb⟩
    have HB1 := Lib.hid (HB0.out.trans (hb.mono HB0.out.size))
    clear hb
    go_wp2_with (fail)
    refine (known_any w1).mono ?_
    rintro e w2 ⟨rfl, hb⟩
    have HB2 := Lib.hid (HB1.out.trans (hb.mono HB1.out.size))
    clear hb
    go_wp2_with (fail)
    go_ret
    exact ⟨rfl, HB2.out⟩
  | true =>
    have G := (good_iff g).1 hm
    obtain ⟨T, hT, hT1⟩ := total_nat G
    have HN := Lib.hid (fun w => fnew_ok A g T w HA.out G hT hT1)
    clear hm hT G
    go_enter Try.func4, Try.ntmps4
    go_wp2_with (refine wpList_load_cfg rfl _ rfl _ rfl C0 ?_)
    generalize w.alloc (.cells A 57) = w1 at HB0 C0 ⊢
    refine (HN.out w1).mono ?_
    rintro e w2 ⟨M, rfl, H, hn, hT, m1, m2, m3, m4, hb2⟩
    have hs := HB0.out.size
    have HB2 := Lib.hid (HB0.out.trans (hb2.mono hs))
    have H2 := Lib.hid H
    have HT4 := Lib.hid H.T4
    clear hn hT hb2 HN C0
    by_cases hin : (0 ≤ f ∧ f < M.T) ∧ 0 ≤ i ∧ i ≤ 31
    · obtain ⟨⟨f0, f1⟩, i0, i1⟩ := hin
      obtain ⟨f, rfl⟩ := Int.eq_ofNat_of_zero_le f0
      obtain ⟨i, rfl⟩ := Int.eq_ofNat_of_zero_le i0
      have hf : f < M.T := by omega
      have hi : i < 32 := by omega
      have T1 := H.T1
      clear f0 f1 i0 i1 H
      go_wp2_with (fail)
      refine (setword_ok H2.out f i x hf hi).mono ?_
      rintro e w3 ⟨rfl, H, ho⟩
      have H3 := Lib.hid H
      have HB3 := Lib.hid (ho.below HB2.out HB2.out.size (fun k hk => by omega))
      have hw := word_ok H f i hf hi
      rw [numB_whole _ _ _ HX.out] at hw
      have HW := Lib.hid hw
      have HR := Lib.hid (read_ok H f 0 256 hf (by omega))
      clear H ho hw
      go_wp2_with (fail)
      refine HW.out.mono ?_
      rintro e w' ⟨rfl, rfl⟩
      go_wp2_with (fail)
      refine HR.out.mono ?_
      rintro e w4 ⟨rfl, hr4, hb4⟩
      have H4 := Lib.hid (H3.out.later hb4)
      have HB4 := Lib.hid (HB3.out.trans (hb4.mono HB3.out.size))
      have HR4 := Lib.hid hr4
      clear hr4 hb4 HR HW
      go_wp2_with (fail)
      go_loop [71] (fun j => ∃ k : Nat, k ≤ 256 ∧ j = .int .i64 k) (fun j => 256 - (intOf j).toNat)
      case atStart => exact ⟨0, Nat.zero_le _, rfl⟩
      case round =>
        obtain ⟨k, hk, rfl⟩ := hrel
        by_cases hlt : k < 256
        · have c := HR4.out.cell k hlt
          unfold byV at c
          by_cases hki : k / 8 = i
          · rw [word_here f i x k hki] at c
            have hb : ((k : Int) / 8 == (i : Int)) = true := by simp; omega
            have hcmp : (((byteOf x (k % 8)).toNat : Int) != (x : Int) / 2 ^ (8 * (k % 8)) % 256) = false := by rw [byteOf_int]; simp
            clear hki
            go_wp2_with (fail)
            go_round
            case rel => exact ⟨k + 1, hlt, by go_num⟩
            case measure => simp [intOf]; omega
          · rw [word_aside f i x k hki] at c
            have c : w4.cell? ⟨w3.heap.size, k, none⟩ = some (.int .u8 0) := c
            have hb : ((k : Int) / 8 == (i : Int)) = false := by simp; omega
            clear hki
            go_wp2_with (fail)
            go_round
            case rel => exact ⟨k + 1, hlt, by go_num⟩
            case measure => simp [intOf]; omega
        · obtain rfl : k = 256 := by omega
          obtain ⟨k2, _, hk2⟩ := H4.out.c2
          have HF := Lib.hid (frames_at M.m _ M.T k2 w4 hk2)
          have hT4 := HT4.out
          have hlt2 : (f + 1) % M.T < M.T := Nat.mod_lt _ (by omega)
          have hne : (f + 1) % M.T ≠ f := by
            by_cases e : f + 1 = M.T
            · rw [e, Nat.mod_self]; omega
            · rw [Nat.mod_eq_of_lt (by omega)]; omega
          have hr := read_ok H4.out ((f + 1) % M.T) 0 256 hlt2 (by omega)
          have HZ := Lib.hid (show ∀ k, k < 256 → byV (putB (fun _ => 0) (f * 256 + i * 8) 8 (byteOf x)) ((f + 1) % M.T * 256 + 0 + k) = .int .u8 0 from fun k hk => by
            unfold byV; rw [word_else f _ i x k hne hi hk]; rfl)
          rw [Int.natCast_emod, Int.natCast_add] at hr
          have HR := Lib.hid hr
          clear hk2 hr hlt2 hne
          go_wp2_with (fail)
          refine HF.out.mono ?_
          rintro e w' ⟨rfl, rfl⟩
          go_wp2_with (fail)
          refine HR.out.mono ?_
          rintro e w5 ⟨rfl, hr5, hb5⟩
          have HB5 := Lib.hid (HB4.out.trans (hb5.mono HB4.out.size))
          have HR5 := Lib.hid hr5
          clear hr5 hb5
          go_wp2_with (fail)
          go_loop [104] (fun j => ∃ k : Nat, k ≤ 256 ∧ j = .int .i64 k) (fun j => 256 - (intOf j).toNat)
          case atStart => exact ⟨0, Nat.zero_le _, rfl⟩
          case round =>
            obtain ⟨k, hk, rfl⟩ := hrel
            by_cases hlt : k < 256
            · have c := HR5.out.cell k hlt
              rw [HZ.out k hlt] at c
              go_wp2_with (fail)
              go_round
              case rel => exact ⟨k + 1, hlt, by go_num⟩
              case measure => simp [intOf]; omega
            · obtain rfl : k = 256 := by omega
              go_wp2_with (fail)
              refine (known_any w5).mono ?_
              rintro e w6 ⟨rfl, hb⟩
              have HB6 := Lib.hid (HB5.out.trans (hb.mono HB5.out.size))
              clear hb
              go_wp2_with (fail)
              go_ret
              exact ⟨rfl, HB6.out⟩
    · obtain ⟨v, hv, hc⟩ := setword_no H f i x hin
      have hvb : (v != 0) = true := by simpa using hv
      have HC := Lib.hid hc
      clear hin hv hc H
      go_wp2_with (fail)
      refine HC.out.mono ?_
      rintro e w' ⟨rfl, rfl⟩
      go_wp2_with (fail)
      refine (known_any w2).mono ?_
      rintro e w3 ⟨rfl, hb⟩
      have HB3 := Lib.hid (HB2.out.trans (hb.mono HB2.out.size))
      clear hb
      go_wp2_with (fail)
      go_ret
      exact ⟨rfl, HB3.out⟩
end Go.Proofs.Ytecklmiiiklagaa
