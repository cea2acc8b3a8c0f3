/-
  The walk of ConfigLeast: it returns true, and below the old heap nothing has turned.
-/
import Derived.Test.YtkckmdmpbhkgpaaKnown
namespace Go.Proofs.Ytkckmdmpbhkgpaa
open Go.RowKit Go

theorem clampF_bd (n : Int) : 4 ≤ clampF n ∧ clampF n ≤ 128 := by unfold clampF; split <;> (try split) <;> omega
theorem least_good {x : Int} (h1 : 4 ≤ x) (h2 : x ≤ 128) : Good (leastG x) where
  n1 := by show (1 : Int) ≤ 1; decide
  n2 := by show (1 : Int) ≤ 8; decide
  c1 := by show (1 : Int) ≤ 1; decide
  c2 := by show (1 : Int) ≤ 16; decide
  s1 := by show 0 ≤ x; omega
  s2 := by show x ≤ 1024; omega
  home i hi := by
    have : (i : Int) < 1 := hi
    obtain rfl : i = 0 := by omega
    show (0 : Int) ≤ 0 ∧ (0 : Int) ≤ 1 - 1
    decide
  frames i hi := by
    have : (i : Int) < 1 := hi
    obtain rfl : i = 0 := by omega
    exact ⟨h1, h2⟩
  self a ha := by
    have : (a : Int) < 1 := ha
    obtain rfl : a = 0 := by omega
    rfl
  dist a b ha hb := by
    have : (a : Int) < 1 := ha
    omega
  min0 := by show (0 : Int) ≤ 0; decide
  low := by show (0 : Int) ≤ 0; decide
  high := by show (0 : Int) ≤ 0; decide
  least i hi := by
    have : (i : Int) < 1 := hi
    obtain rfl : i = 0 := by omega
    show 0 ≤ x; omega
  behind i hi := by
    show leastG x i = bareR (leastG x) 1 1 1 i
    unfold bareR leastG
    by_cases a0 : i = 0
    · subst a0; rfl
    · by_cases a1 : i = 1
      · subst a1; rfl
      · by_cases a2 : i = 90
        · subst a2; rfl
        · by_cases a3 : i = 18
          · subst a3; rfl
          · simp only [a0, a1, a2, a3, if_false, ite_self]

theorem least_facts {x : Int} (h1 : 4 ≤ x) (h2 : x ≤ 128) : mayB (leastG x) = true ∧ totalI (leastG x) = x ∧ firstI (leastG x) 0 = 0 ∧ askI (leastG x) 0 = 0 := by
  have G := least_good h1 h2
  have h0 : askI (leastG x) 0 = 0 := ask_zero.2 ⟨G, by decide, show (0 : Int) < 1 by decide⟩
  refine ⟨(good_iff _).2 G, ?_, ?_, h0⟩
  · unfold totalI
    rw [if_pos ((good_iff _).2 G)]
    show sumF (leastG x) 1 = x
    unfold sumF sumF
    show 0 + x = x
    omega
  · unfold firstI
    rw [if_pos h0]; rfl

set_option maxHeartbeats 1000000 in
set_option maxRecDepth 100000 in
theorem lawLeast_any (n : Int) (w : World) :
    Calls Try.prog 7 #[.int .i64 n] w fun e w' => e = .returned (.bool true) ∧ Below w.heap.size w w' := by
  obtain ⟨x, hx⟩ : ∃ x, x = clampF n := ⟨_, rfl⟩
  obtain ⟨x1, x2⟩ := clampF_bd n
  rw [← hx] at x1 x2
  obtain ⟨f1, f2, f3, f4⟩ := least_facts x1 x2
  have G := least_good x1 x2
  have HG := Lib.hid G
  have F1 := Lib.hid f1
  have F2 := Lib.hid f2
  have F3 := Lib.hid f3
  have F4 := Lib.hid f4
  obtain ⟨Z, hz, hZ⟩ := zeroCfg
  have HZ := Lib.hid hz
  have HX := Lib.hid hx
  clear hz f1 f2 f3 f4 G
  have hmm : min (max n 4) 128 = x := by rw [hx]; unfold clampF; split <;> (try split) <;> omega
  have hcs : (n < 4 ∧ x = 4) ∨ (128 < n ∧ x = 128) ∨ (4 ≤ n ∧ n ≤ 128 ∧ n = x) := by
    rw [hx]; unfold clampF
    by_cases h1 : n < 4
    · rw [if_pos h1]; exact .inl ⟨h1, rfl⟩
    · rw [if_neg h1]
      by_cases h2 : 128 < n
      · rw [if_pos h2]; exact .inr (.inl ⟨h2, rfl⟩)
      · rw [if_neg h2]; exact .inr (.inr ⟨by omega, by omega, rfl⟩)
  clear hx
  rcases hcs with ⟨h1, rfl⟩ | ⟨h1, rfl⟩ | ⟨h1, h2, rfl⟩
  all_goals
    go_enter Try.func7, Try.ntmps7
    go_wp2_with (fail)
    refine (least_any n w).mono ?_
    rintro e w1 ⟨T, rfl, hT, hb1⟩
    rw [← HX.out] at hT
    have HT := Lib.hid hT
    have HS := Lib.hid (store_last w1 HZ.out hT)
    have C1 := CfgAt.new w1 hT
    have hB : Below w.heap.size w (w1.alloc (.cells T 26)) := hb1.alloc hb1.size _
    clear hT hb1
    go_wp2_with (first
      | (refine wpList_store_run rfl 26 _ _ rfl w1.heap.size T _ rfl rfl HS.out ?_)
      | (refine wpList_load_cfg rfl _ rfl _ rfl C1 ?_))
    generalize w1.alloc (.cells T 26) = v1 at C1 hB
    refine (first_any T _ 0 v1 HT.out).mono ?_
    rintro e w2 ⟨rfl, hb⟩
    rw [F3.out, F4.out]
    have C2 := C1.later hb
    have hB2 := hB.trans (hb.mono hB.size)
    clear hb hB C1
    go_wp2_with (refine wpList_load_cfg rfl _ rfl _ rfl C2 ?_)
    refine (order_yes T _ 0 1 w2 HT.out HG.out rfl (by decide)).mono ?_
    rintro e w3 ⟨ob, rfl, d1, d2, hb⟩
    clear d1 d2
    have C3 := C2.later hb
    have hB3 := hB2.trans (hb.mono hB2.size)
    clear hb hB2 C2
    go_wp2_with (refine wpList_load_cfg rfl _ rfl _ rfl C3 ?_)
    refine (may_any T _ w3 HT.out).mono ?_
    rintro e w4 ⟨rfl, hb⟩
    rw [F1.out]
    have C4 := C3.later hb
    have hB4 := hB3.trans (hb.mono hB3.size)
    clear hb hB3 C3
    go_wp2_with (refine wpList_load_cfg rfl _ rfl _ rfl C4 ?_)
    refine (total_any T _ w4 HT.out).mono ?_
    rintro e w5 ⟨rfl, hb⟩
    rw [F2.out]
    have C5 := C4.later hb
    have hB5 := hB4.trans (hb.mono hB4.size)
    clear hb hB4 C4 hZ x1 x2
    have c0 := C5.cell 0 (by decide)
    rw [show leastG _ 0 = 1 from rfl] at c0
    go_wp2_with (fail)
    refine (known_any w5).mono ?_
    rintro e w6 ⟨rfl, hb⟩
    have hB6 := hB5.trans (hb.mono hB5.size)
    clear hb hB5 C5 c0
    go_wp2_with (fail)
    go_ret
    exact ⟨rfl, hB6⟩
end Go.Proofs.Ytkckmdmpbhkgpaa
