/-
  The walk of FramesMoves: it returns true, and below the old heap nothing has turned.
-/
import Derived.Test.YtecklmiiiklagaaFrCopies
namespace Go.Proofs.Ytecklmiiiklagaa
open Go.RowKit Go

/-- The bytes behind both writes, and behind the move. -/
def wroteB (f t a l : Nat) (x : Nat → UInt8) : Nat → UInt8 := putB (putB (fun _ => 0) (f * 256 + a) l x) (t * 256 + 0) 1 (fun _ => 77)
def movedB (f t a l : Nat) (x : Nat → UInt8) : Nat → UInt8 := putB (wroteB f t a l x) (t * 256) 256 (fun i => wroteB f t a l x (f * 256 + i))
theorem moved_to (f t a l : Nat) (x : Nat → UInt8) (k : Nat) (hk : k < 256) : movedB f t a l x (t * 256 + 0 + k) = wroteB f t a l x (f * 256 + 0 + k) := by
  unfold movedB putB
  rw [if_pos (by omega), show t * 256 + 0 + k - t * 256 = k by omega, Nat.add_zero]
theorem moved_from (f t a l : Nat) (x : Nat → UInt8) (k : Nat) (hk : k < 256) : movedB f t a l x (f * 256 + 0 + k) = wroteB f t a l x (f * 256 + 0 + k) := by
  by_cases h : f = t
  · subst h; exact moved_to f f a l x k hk
  · unfold movedB putB
    rw [if_neg (by omega)]
theorem moved_else (f t a l : Nat) (x : Nat → UInt8) (i k : Nat) (hk : k < 256) (hl : a + l ≤ 256) (h1 : i ≠ f) (h2 : i ≠ t) : movedB f t a l x (i * 256 + 0 + k) = 0 := by
  unfold movedB wroteB putB
  rw [if_neg (by omega), if_neg (by omega), if_neg (by omega)]

set_option maxRecDepth 100000 in
set_option maxHeartbeats 4000000 in
theorem lawMoves_any (A : Array Value) (g : Nat → Int) (f t a : Int) (b : Option Addr) (l c : Nat) (x : Nat → UInt8) (w : World) (hA : Cfg A g) (ha : a ≤ 9223372036854775807)
    (hx : 0 < l → ∃ ad, b = some ad ∧ ∀ j, j < l → w.cell? (ad.add j) = some (byV x j)) :
    Calls Try.prog 6 #[.agg A, .int .i64 f, .int .i64 t, .int .i64 a, .slice b l c] w fun e w' => e = .returned (.bool true) ∧ Below w.heap.size w w' := by
  have C0 := CfgAt.new w hA
  have HA := Lib.hid hA
  have HX := Lib.hid hx
  have hB0 : Below w.heap.size w (w.alloc (.cells A 57)) := (Below.refl _ _).alloc (Nat.le_refl _) _
  have HB0 := Lib.hid hB0
  clear hA hB0 hx
  cases hm : mayB g with
  | false =>
    have HM := Lib.hid hm
    clear hm
    go_enter Try.func6, Try.ntmps6
    go_wp2_with (refine wpList_load_cfg rfl _ rfl _ rfl C0 ?_)
    refine (fnew_no A g _ HA.out HM.out).mono ?_
    rintro e w1 ⟨rfl, hb⟩
    have HB1 := Lib.hid (HB0.out.trans (hb.mono HB0.out.size))
    clear hb
    go_wp2_with (fail)
    refine (known_any w1).mono ?_
    rintro e w2 ⟨rfl, hb⟩
    have HB2 := Lib.hid (HB1.out.trans (hb.mono HB1.out.size))
    clear hb
    go_wp2_with (fail)
    go_ret
    exact ⟨rfl, HB2.out⟩
  | true =>
    have G := (good_iff g).1 hm
    obtain ⟨T, hT, hT1⟩ := total_nat G
    have HN := Lib.hid (fun w => fnew_ok A g T w HA.out G hT hT1)
    clear hm hT G
    go_enter Try.func6, Try.ntmps6
    go_wp2_with (refine wpList_load_cfg rfl _ rfl _ rfl C0 ?_)
    generalize w.alloc (.cells A 57) = w1 at HB0 C0 ⊢
    refine (HN.out w1).mono ?_
    rintro e w2 ⟨M, rfl, H, hn, hT, m1, m2, m3, m4, hb2⟩
    have hs := HB0.out.size
    have HB2 := Lib.hid (HB0.out.trans (hb2.mono hs))
    have H2 := Lib.hid H
    clear hn hT hb2 HN C0 H
    by_cases hl : 256 < l
    · go_wp2_with (fail)
      refine (known_any w2).mono ?_
      rintro e w3 ⟨rfl, hb⟩
      have HB3 := Lib.hid (HB2.out.trans (hb.mono HB2.out.size))
      clear hb
      go_wp2_with (fail)
      go_ret
      exact ⟨rfl, HB3.out⟩
    · by_cases hin : (0 ≤ f ∧ f < M.T) ∧ fits a l
      rotate_left
      · obtain ⟨v, hv, hc⟩ := write_no H2.out f a b l c ha hin
        have hvb : (v != 0) = true := by simpa using hv
        have HC := Lib.hid hc
        clear hin hv hc ha
        go_wp2_with (fail)
        refine HC.out.mono ?_
        rintro e w' ⟨rfl, rfl⟩
        clear HC
        go_wp2_with (fail)
        refine (known_any w2).mono ?_
        rintro e w4 ⟨rfl, hb⟩
        have HB3 := Lib.hid (HB2.out.trans (hb.mono HB2.out.size))
        clear hb
        go_wp2_with (fail)
        go_ret
        exact ⟨rfl, HB3.out⟩
      · obtain ⟨⟨f0, f1⟩, a0, _, a1⟩ := hin
        obtain ⟨f, rfl⟩ := Int.eq_ofNat_of_zero_le f0
        obtain ⟨a, rfl⟩ := Int.eq_ofNat_of_zero_le a0
        have hf : f < M.T := by omega
        have haa : a + l ≤ 256 := by omega
        have W1 := Lib.hid (write_ok H2.out f a l hf haa b c x (fun hl => by
          obtain ⟨ad, e1, e2⟩ := HX.out hl
          refine ⟨ad, e1, fun j hj => ?_⟩
          rw [HB2.out.cell (World.block_lt_of_cell? _ _ (e2 j hj))]; exact e2 j hj))
        clear f0 f1 a0 a1 ha
        go_wp2_with (fail)
        refine W1.out.mono ?_
        rintro e w3 ⟨rfl, H, ho⟩
        have HB3 := ho.below HB2.out HB2.out.size (fun k hk => by omega)
        have HB4 := Lib.hid (HB3.alloc HB3.size (.cells #[Value.int .u8 (77 : UInt8).toNat] 5))
        have H4 := Lib.hid (H.later ((Below.refl _ w3).alloc (Nat.le_refl _) (.cells #[Value.int .u8 (77 : UInt8).toNat] 5)))
        clear H ho W1 HB3 hs
        by_cases ht : 0 ≤ t ∧ t < M.T
        rotate_left
        · obtain ⟨v, hv, hc⟩ := write_no H4.out t 0 (some ⟨w3.heap.size, 0, none⟩) 1 1 (by decide) (fun h => ht h.1)
          have hvb : (v != 0) = true := by simpa using hv
          have HC := Lib.hid hc
          clear hv hc ht
          go_wp2_with (fail)
          refine HC.out.mono ?_
          rintro e w' ⟨rfl, rfl⟩
          clear HC
          have HB5 := Lib.hid HB4.out
          generalize w3.alloc (.cells #[Value.int .u8 (77 : UInt8).toNat] 5) = w4 at HB5 ⊢
          go_wp2_with (fail)
          refine (known_any w4).mono ?_
          rintro e w5 ⟨rfl, hb⟩
          have HB6 := Lib.hid (HB5.out.trans (hb.mono HB5.out.size))
          clear hb
          go_wp2_with (fail)
          go_ret
          exact ⟨rfl, HB6.out⟩
        · obtain ⟨t0, t1⟩ := ht
          obtain ⟨t, rfl⟩ := Int.eq_ofNat_of_zero_le t0
          have ht : t < M.T := by omega
          have W2 := Lib.hid (write_ok H4.out t 0 1 ht (by decide) (some ⟨w3.heap.size, 0, none⟩) 1 (fun _ => 77) (fun _ => ⟨_, rfl, byte_new w3 77⟩))
          clear t0 t1
          go_wp2_with (fail)
          refine W2.out.mono ?_
          rintro e w5 ⟨rfl, H, ho⟩
          have H5 : MemAt w5 M (stN g) (wroteB f t a l x) (fun _ => ⟨1, 0, 0, 0, 0⟩) := H
          have HB5 := Lib.hid (ho.below HB4.out HB4.out.size (fun k hk => by have := HB0.out.size; omega))
          have R1 := Lib.hid (read_ok H5 f 0 256 hf (by decide))
          have HH5 := Lib.hid H5
          clear H ho W2 H5
          go_wp2_with (fail)
          refine R1.out.mono ?_
          rintro e w6 ⟨rfl, hr6, hb6⟩
          have H6 := HH5.out.later hb6
          have HB6 := Lib.hid (HB5.out.trans (hb6.mono HB5.out.size))
          have V1 := Lib.hid (move_ok H6 f t hf ht)
          obtain ⟨l1, l2, l3, l4⟩ := HH5.out.lt
          have hr6' := Lib.hid hr6
          clear hb6 R1 H6 hr6
          go_wp2_with (fail)
          refine V1.out.mono ?_
          rintro e w7 ⟨rfl, H, ho⟩
          have H7 : MemAt w7 M (stN g) (movedB f t a l x) (fun _ => ⟨1, 0, 0, 0, 0⟩) := H
          have HR7 := Lib.hid (hr6'.out.only ho (by omega))
          have HB7 := Lib.hid (ho.below HB6.out HB6.out.size (fun k hk => by have := HB0.out.size; omega))
          obtain ⟨k2, _, hk2⟩ := H7.c2
          have F1 := Lib.hid (frames_at M.m _ M.T k2 w7 hk2)
          have HH7 := Lib.hid H7
          have T4 := H7.T4
          have T1 := H7.T1
          clear H ho V1 H7 hk2 l1 l2 l3 l4
          go_wp2_with (fail)
          refine F1.out.mono ?_
          rintro e w' ⟨rfl, rfl⟩
          go_wp2_with (fail)
          all_goals
            go_loopw [69] (fun i wr => ∃ k : Nat, k ≤ M.T ∧ i = .int .i64 k ∧ Below w7.heap.size w7 wr) (fun i _ => M.T - (intOf i).toNat)
            case atStart => exact ⟨0, Nat.zero_le _, rfl, Below.refl _ _⟩
            case round =>
              obtain ⟨k, hk, rfl, hbr⟩ := hrel
              have HWr := Lib.hid hbr
              by_cases hlt : k < M.T ∧ k < 40
              · obtain ⟨hlt, hlt40⟩ := hlt
                have R2 := Lib.hid (read_ok (HH7.out.later hbr) k 0 256 hlt (by decide))
                have hk1 : k + 1 ≤ M.T := hlt
                clear hbr
                go_wp2_with (fail)
                refine R2.out.mono ?_
                rintro e w8 ⟨rfl, hr8, hb8⟩
                have HW8 := Lib.hid (HWr.out.trans (hb8.mono HWr.out.size))
                have HS := HR7.out.below HW8.out HR7.out.lt
                clear hb8 R2
                by_cases hkf : k = f
                · subst hkf
                  have q1 := run_string (c := 256) (f := fun i => wroteB k t a l x (k * 256 + 0 + i)) HS
                  have q2 := run_string (c := 256) (f := fun i => wroteB k t a l x (k * 256 + 0 + i)) (hr8.ext (fun i hi => by unfold byV; rw [moved_from k t a l x i hi]))
                  clear hr8 HS
                  go_wp2_with (fail)
                  go_loop [102] (fun j => ∃ jj : Nat, jj ≤ 256 ∧ j = .int .i64 jj) (fun j => 256 - (intOf j).toNat)
                  case atStart => exact ⟨0, Nat.zero_le _, rfl⟩
                  case round =>
                    obtain ⟨jj, hjj, rfl⟩ := hrel
                    by_cases hj : jj < 256
                    · go_wp2_with (fail)
                      go_round
                      case rel => exact ⟨jj + 1, hj, by go_num⟩
                      case measure => simp [intOf]; omega
                    · obtain rfl : jj = 256 := by omega
                      go_wp2_with (fail)
                      go_roundw
                      case rel => exact ⟨k + 1, hk1, by go_num, HW8.out⟩
                      case measure => simp [intOf]; omega
                · by_cases hkt : k = t
                  · subst hkt
                    have b1 : ((k : Int) == (f : Int)) = false := by simp; omega
                    have b2 : ((k : Int) != (f : Int)) = true := by simp; omega
                    have q1 := run_string (c := 256) (f := fun i => wroteB f k a l x (f * 256 + 0 + i)) HS
                    have q2 := run_string (c := 256) (f := fun i => wroteB f k a l x (f * 256 + 0 + i)) (hr8.ext (fun i hi => by unfold byV; rw [moved_to f k a l x i hi]))
                    clear hr8 HS hkf
                    go_wp2_with (fail)
                    go_loop [102] (fun j => ∃ jj : Nat, jj ≤ 256 ∧ j = .int .i64 jj) (fun j => 256 - (intOf j).toNat)
                    case atStart => exact ⟨0, Nat.zero_le _, rfl⟩
                    case round =>
                      obtain ⟨jj, hjj, rfl⟩ := hrel
                      by_cases hj : jj < 256
                      · go_wp2_with (fail)
                        go_round
                        case rel => exact ⟨jj + 1, hj, by go_num⟩
                        case measure => simp [intOf]; omega
                      · obtain rfl : jj = 256 := by omega
                        go_wp2_with (fail)
                        go_roundw
                        case rel => exact ⟨k + 1, hk1, by go_num, HW8.out⟩
                        case measure => simp [intOf]; omega
                  · have b1 : ((k : Int) == (f : Int)) = false := by simp; omega
                    have b2 : ((k : Int) != (f : Int)) = true := by simp; omega
                    have b3 : ((k : Int) == (t : Int)) = false := by simp; omega
                    have b4 : ((k : Int) != (t : Int)) = true := by simp; omega
                    have HZ := Lib.hid (show ∀ j, j < 256 → byV (movedB f t a l x) (k * 256 + 0 + j) = .int .u8 0 from fun j hj => by
                      unfold byV; rw [moved_else f t a l x k j hj haa hkf hkt]; rfl)
                    have HR8 := Lib.hid hr8
                    clear hr8 HS hkf hkt
                    go_wp2_with (fail)
                    go_loop [102] (fun j => ∃ jj : Nat, jj ≤ 256 ∧ j = .int .i64 jj) (fun j => 256 - (intOf j).toNat)
                    case atStart => exact ⟨0, Nat.zero_le _, rfl⟩
                    case round =>
                      obtain ⟨jj, hjj, rfl⟩ := hrel
                      by_cases hj : jj < 256
                      · have c := HR8.out.cell jj hj
                        rw [HZ.out jj hj] at c
                        go_wp2_with (fail)
                        go_round
                        case rel => exact ⟨jj + 1, hj, by go_num⟩
                        case measure => simp [intOf]; omega
                      · obtain rfl : jj = 256 := by omega
                        go_wp2_with (fail)
                        go_roundw
                        case rel => exact ⟨k + 1, hk1, by go_num, HW8.out⟩
                        case measure => simp [intOf]; omega
              · first
                  | (have hge : M.T ≤ k := by omega
                     clear hlt)
                  | (have hge : 40 ≤ k := by omega
                     clear hlt)
                have HB9 := Lib.hid (HB7.out.trans (hbr.mono HB7.out.size))
                clear hbr
                go_wp2_with (fail)
                refine (known_any wr).mono ?_
                rintro e w9 ⟨rfl, hb⟩
                have HB10 := Lib.hid (HB9.out.trans (hb.mono HB9.out.size))
                clear hb
                go_wp2_with (fail)
                go_ret
                exact ⟨rfl, HB10.out⟩
end Go.Proofs.Ytecklmiiiklagaa
