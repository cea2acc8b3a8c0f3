/-
  The walk of FramesCopies: it returns true, and below the old heap nothing has turned.
-/
import Derived.Test.YtecklmiiiklagaaFrWords
import Derived.Test.YtecklmiiiklagaaFrCopy
namespace Go.Proofs.Ytecklmiiiklagaa
open Go.RowKit Go

theorem MemAt.lt {w : World} {M : MB} {ST : Nat → Nat} {B : Nat → UInt8} {K : Nat → Mk} (H : MemAt w M ST B K) : M.m < w.heap.size ∧ M.sb < w.heap.size ∧ M.bb < w.heap.size ∧ M.kb < w.heap.size := by
  obtain ⟨k0, e0⟩ := H.c0
  exact ⟨World.block_lt_of_cell? _ _ e0, H.starts.lt, H.bytes.lt, H.marks.lt⟩

/-- Write refuses. -/
theorem write_no {w : World} {M : MB} {ST : Nat → Nat} {B : Nat → UInt8} {K : Nat → Mk} (H : MemAt w M ST B K) (f a : Int) (b : Option Addr) (n c : Nat) (ha : a ≤ 9223372036854775807) (h : ¬ ((0 ≤ f ∧ f < M.T) ∧ fits a n)) :
    ∃ v : Int, v ≠ 0 ∧ Calls Try.prog 12 #[.pointer (some ⟨M.m, 0, none⟩), .int .i64 f, .int .i64 a, .slice b n c] w fun e w' => e = .returned (.int .i64 v) ∧ w = w' := by
  by_cases hf : 0 ≤ f ∧ f < M.T
  · obtain ⟨f, rfl⟩ := Int.eq_ofNat_of_zero_le hf.1
    exact ⟨2, by decide, write_err _ _ _ 2 _ _ _ _ (by decide) (part_bad H f a n (by omega) ha (fun hi => h ⟨hf, hi⟩))⟩
  · exact ⟨7, by decide, write_err _ _ _ 7 _ _ _ _ (by decide) (part_err _ _ _ _ 7 _ (by decide) (H.asked_no f hf))⟩

/-- One byte, in a block of its own. -/
theorem byte_new (w : World) (x : UInt8) : ∀ j, j < 1 → (w.alloc (.cells #[Value.int .u8 x.toNat] 5)).cell? ((⟨w.heap.size, 0, none⟩ : Addr).add j) = some (byV (fun _ => x) j) := by
  intro j hj
  obtain rfl : j = 0 := by omega
  rw [Addr.add_mid, Nat.zero_add]; simp [go_sem]; rfl
theorem byte_next (b : UInt8) : ((b.toNat : Int) + 1) % 256 = ((b + 1).toNat : Int) := by
  rw [UInt8.toNat_add]; simp
theorem put_one (B : Nat → UInt8) (o : Nat) (x : UInt8) : putB B o 1 (fun _ => x) o = x := by
  unfold putB; rw [if_pos (by omega)]

set_option maxRecDepth 100000 in
set_option maxHeartbeats 4000000 in
theorem lawCopies_any (A : Array Value) (g : Nat → Int) (f a : Int) (b : UInt8) (w : World) (hA : Cfg A g) (ha : a ≤ 9223372036854775807) :
    Calls Try.prog 7 #[.agg A, .int .i64 f, .int .i64 a, .int .u8 b.toNat] w fun e w' => e = .returned (.bool true) ∧ Below w.heap.size w w' := by
  have C0 := CfgAt.new w hA
  have HA := Lib.hid hA
  have hB0 : Below w.heap.size w (w.alloc (.cells A 57)) := (Below.refl _ _).alloc (Nat.le_refl _) _
  have HB0 := Lib.hid hB0
  clear hA hB0
  cases hm : mayB g with
  | false =>
    have HM := Lib.hid hm
    clear hm
    go_enter Try.func7, Try.ntmps7
    go_wp2_with (refine wpList_load_cfg rfl _ rfl _ rfl C0 ?_)
    refine (fnew_no A g _ HA.out HM.out).mono ?_
    rintro e w1 ⟨rfl, hb⟩
    have HB1 := Lib.hid (HB0.out.trans (hb.mono HB0.out.size))
    clear hb
    go_wp2_with (fail)
    refine (known_any w1).mono ?_
    rintro e w2 ⟨rfl, hb⟩
    have HB2 := Lib.hid (HB1.out.trans (hb.mono HB1.out.size))
    clear hb
    go_wp2_with (fail)
    go_ret
    exact ⟨rfl, HB2.out⟩
  | true =>
    have G := (good_iff g).1 hm
    obtain ⟨T, hT, hT1⟩ := total_nat G
    have HN := Lib.hid (fun w => fnew_ok A g T w HA.out G hT hT1)
    clear hm hT G
    go_enter Try.func7, Try.ntmps7
    go_wp2_with (refine wpList_load_cfg rfl _ rfl _ rfl C0 ?_)
    generalize w.alloc (.cells A 57) = w1 at HB0 C0 ⊢
    refine (HN.out w1).mono ?_
    rintro e w2 ⟨M, rfl, H, hn, hT, m1, m2, m3, m4, hb2⟩
    have hs := HB0.out.size
    have HB2 := Lib.hid ((HB0.out.trans (hb2.mono hs)).alloc (by have := HB0.out.size; have := hb2.size; omega) (.cells #[Value.int .u8 b.toNat] 5))
    have H2 := Lib.hid (H.later ((Below.refl _ w2).alloc (Nat.le_refl _) (.cells #[Value.int .u8 b.toNat] 5)))
    clear hn hT hb2 HN C0 H
    by_cases hin : (0 ≤ f ∧ f < M.T) ∧ fits a (1 : Nat)
    · obtain ⟨⟨f0, f1⟩, a0, _, a1⟩ := hin
      obtain ⟨f, rfl⟩ := Int.eq_ofNat_of_zero_le f0
      obtain ⟨a, rfl⟩ := Int.eq_ofNat_of_zero_le a0
      have hf : f < M.T := by omega
      have haa : a + 1 ≤ 256 := by omega
      have W1 := Lib.hid (write_ok H2.out f a 1 hf haa (some ⟨w2.heap.size, 0, none⟩) 1 (fun _ => b) (fun _ => ⟨_, rfl, byte_new w2 b⟩))
      clear f0 f1 a0 a1 ha
      go_wp2_with (fail)
      refine W1.out.mono ?_
      rintro e w3 ⟨rfl, H, ho⟩
      have H3 := Lib.hid H
      have HB3 := Lib.hid (ho.below HB2.out HB2.out.size (fun k hk => by omega))
      clear H ho W1
      go_wp2_with (fail)
      refine (copy_ok H3.out).mono ?_
      rintro e w4 ⟨N, rfl, HN, nn, nT, n1, n2, n3, n4, hb4⟩
      have H4 := H3.out.later hb4
      obtain ⟨l1, l2, l3, l4⟩ := H3.out.lt
      obtain ⟨j2, _, hj2⟩ := HN.c2
      rw [nT] at hj2
      obtain ⟨k2, _, hk2⟩ := H4.c2
      have F1 := Lib.hid (frames_at N.m _ M.T j2 w4 hj2)
      have F2 := Lib.hid (frames_at M.m _ M.T k2 w4 hk2)
      have HB4 := Lib.hid (HB3.out.trans (hb4.mono HB3.out.size))
      have HN4 := Lib.hid HN
      have HH4 := Lib.hid H4
      clear hb4 HN H4 hj2 hk2
      go_wp2_with (fail)
      refine F1.out.mono ?_
      rintro e w' ⟨rfl, rfl⟩
      go_wp2_with (fail)
      refine F2.out.mono ?_
      rintro e w' ⟨rfl, rfl⟩
      clear F1 F2
      go_wp2_with (fail)
      rw [byte_next b]
      have H5 := HH4.out.later ((Below.refl _ w4).alloc (Nat.le_refl _) (.cells #[Value.int .u8 (b + 1).toNat] 5))
      have N5 := HN4.out.later ((Below.refl _ w4).alloc (Nat.le_refl _) (.cells #[Value.int .u8 (b + 1).toNat] 5))
      have HB5 := HB4.out.alloc HB4.out.size (.cells #[Value.int .u8 (b + 1).toNat] 5)
      have hs5 : w3.heap.size ≤ w4.heap.size := by have := (HN4.out.lt).1; omega
      refine (write_ok H5 f a 1 hf haa (some ⟨w4.heap.size, 0, none⟩) 1 (fun _ => b + 1) (fun _ => ⟨_, rfl, byte_new w4 (b + 1)⟩)).mono ?_
      rintro e w6 ⟨rfl, H6, ho⟩
      have N6 := N5.only ho (by omega) (by omega) (by omega) (by omega)
      have HB6 := Lib.hid (ho.below HB5 HB5.size (fun k hk => by omega))
      have S1 := Lib.hid (setmark_ok N6 f (by omega) ⟨2, 0, 0, 0, 5⟩ rfl)
      have H6 := Lib.hid H6
      clear H5 N5 HB5 ho N6
      go_wp2_with (fail)
      refine S1.out.mono ?_
      rintro e w7 ⟨rfl, N7, ho⟩
      have H7 := H6.out.only ho (by omega) (by omega) (by omega) (by omega)
      have HB7 := Lib.hid (ho.below HB6.out HB6.out.size (fun k hk => by omega))
      have R1 := Lib.hid (read_ok N7 f a 1 (by omega) haa)
      have HH7 := Lib.hid H7
      clear ho H7 N7 S1
      go_wp2_with (fail)
      refine R1.out.mono ?_
      rintro e w8 ⟨rfl, hr8, hb8⟩
      have H8 := HH7.out.later hb8
      have HB8 := Lib.hid (HB7.out.trans (hb8.mono HB7.out.size))
      have R2 := Lib.hid (read_ok H8 f a 1 hf haa)
      have HH8 := Lib.hid H8
      have HR8 := Lib.hid hr8
      clear hb8 H8 R1 hr8
      go_wp2_with (fail)
      refine R2.out.mono ?_
      rintro e w9 ⟨rfl, hr9, hb9⟩
      have H9 := HH8.out.later hb9
      have HB9 := Lib.hid (HB8.out.trans (hb9.mono HB8.out.size))
      have c1 := HR8.out.cell 0 (by decide)
      rw [← hb9.cell (p := ⟨w7.heap.size, 0, none⟩) HR8.out.lt] at c1
      have c2 := hr9.cell 0 (by decide)
      have M1 := Lib.hid (mark_ok H9 f hf)
      clear hr9 hb9 H9 R2
      go_wp2_with (fail)
      refine M1.out.mono ?_
      rintro e w10 ⟨rfl, hb10⟩
      have d1 : w10.cell? ⟨w7.heap.size, 0, none⟩ = some (.int .u8 b.toNat) := by
        rw [hb10.cell (World.block_lt_of_cell? _ _ c1), c1]; unfold byV; rw [Nat.add_zero, put_one]
      have d2 : w10.cell? ⟨w8.heap.size, 0, none⟩ = some (.int .u8 (b + 1).toNat) := by
        rw [hb10.cell (World.block_lt_of_cell? _ _ c2), c2]; unfold byV; rw [Nat.add_zero, put_one]
      have HB10 := Lib.hid (HB9.out.trans (hb10.mono HB9.out.size))
      have hcmp : (((b + 1).toNat : Int) == ((b.toNat : Int) + 1) % 256) = true := by rw [byte_next]; simp
      have d3 := Lib.cell?_alloc_some (.cells #[Value.int .u8 1, .int .i64 0, .int .i64 0, .int .i64 0, .int .i64 0] 25) d1
      have d4 := Lib.cell?_alloc_some (.cells #[Value.int .u8 1, .int .i64 0, .int .i64 0, .int .i64 0, .int .i64 0] 25) d2
      clear c1 c2 hb10 M1 d1 d2
      unfold Mk.cells
      go_wp2_with (fail)
      refine (known_any _).mono ?_
      rintro e w11 ⟨rfl, hb⟩
      have HB11 := Lib.hid ((HB10.out.alloc HB10.out.size _).trans (hb.mono (by have := HB10.out.size; simp; omega)))
      clear hb
      go_wp2_with (fail)
      go_ret
      exact ⟨rfl, HB11.out⟩
    · obtain ⟨v, hv, hc⟩ := write_no H2.out f a (some ⟨w2.heap.size, 0, none⟩) 1 1 ha hin
      have hvb : (v != 0) = true := by simpa using hv
      have HC := Lib.hid hc
      clear hin hv hc ha
      go_wp2_with (fail)
      refine HC.out.mono ?_
      rintro e w' ⟨rfl, rfl⟩
      clear HC
      generalize w2.alloc (.cells #[Value.int .u8 b.toNat] 5) = w3 at HB2 H2 ⊢
      go_wp2_with (fail)
      refine (known_any w3).mono ?_
      rintro e w4 ⟨rfl, hb⟩
      have HB3 := Lib.hid (HB2.out.trans (hb.mono HB2.out.size))
      clear hb
      go_wp2_with (fail)
      go_ret
      exact ⟨rfl, HB3.out⟩
end Go.Proofs.Ytecklmiiiklagaa
