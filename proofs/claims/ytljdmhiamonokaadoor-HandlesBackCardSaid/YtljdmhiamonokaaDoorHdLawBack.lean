/-
  The walk of HandlesBack: it returns true, and below the old heap nothing has turned.
-/
import Derived.Test.YtljdmhiamonokaaDoorHdPure
namespace Go.Proofs.YtljdmhiamonokaaDoor
open Go.RowKit Go
set_option maxRecDepth 100000 in
set_option maxHeartbeats 4000000 in
theorem lawBack_any (t : Nat) (f x : Int) (h : Nat) (hh : h < 18446744073709551616) (w : World) (hg : BegAt w) :
    Calls Tryd.prog 4 #[.int .u64 t, .agg #[.int .i64 f, .int .i64 x], .int .u64 h] w (BoolB w true) := by
  obtain ⟨hr1, hb1, hg1, hl⟩ := box_obj (Below.refl w.heap.size w) (Nat.le_refl _) hg f x
  clear hl
  obtain ⟨w1, hw1⟩ : ∃ w1, w.alloc (.cells #[.int .i64 f, .int .i64 x] TO) = w1 := ⟨_, rfl⟩
  rw [hw1] at hr1 hb1 hg1
  have HR1 := Lib.hid hr1
  have HB1 := Lib.hid hb1
  have HG1 := Lib.hid hg1
  have HW := Lib.hid hw1
  have HH := Lib.hid hh
  have c0 : w1.cell? ⟨w.heap.size, 0, none⟩ = some (.int .i64 f) := hr1.cell 0 (by decide)
  have c1 : w1.cell? ⟨w.heap.size, 1, none⟩ = some (.int .i64 x) := hr1.cell 1 (by decide)
  clear hr1 hb1 hg1 hw1 hg hh
  go_enter Tryd.func4, Tryd.ntmps4
  go_wp2_with (fail)
  rw [HW.out]
  refine (make_any t f x w1 HG1.out).mono ?_
  rintro e w2 ⟨rfl, h2⟩
  have HB2 := Lib.hid (HB1.out.trans (h2.mono HB1.out.size))
  have HG2 := Lib.hid (HG1.out.later h2)
  have HR2 := Lib.hid (HR1.out.later h2)
  clear h2 c0 c1
  by_cases hm : May t f x
  · obtain ⟨n, e1, n1, n2, b1, b2, b3, b4⟩ := read_made hm
    have N1 := Lib.hid n1
    have B1 := Lib.hid b1
    have B2 := Lib.hid b2
    have B3 := Lib.hid b3
    have B4 := Lib.hid b4
    rw [(mk_yes hm).1, e1]
    have hn0 : ((n : Int) == 0) = false := by simp; omega
    clear hm e1 n1 n2 b1 b2 b3 b4
    go_wp2_with (fail)
    refine (read_any n N1.out w2 HG2.out).mono ?_
    rintro e w3 ⟨rfl, h3⟩
    have HB3 := Lib.hid (HB2.out.trans (h3.mono HB2.out.size))
    have HG3 := Lib.hid (HG2.out.later h3)
    have HR3 := Lib.hid (HR2.out.later h3)
    rw [B1.out, B2.out, B3.out, B4.out]
    have HST := Lib.hid (store_obj w3 f x)
    obtain ⟨hr5, hb5, hg5, hl⟩ := box_obj HB3.out HB3.out.size HG3.out f x
    have hq5 := HR3.out.later ((Below.refl _ w3).alloc (Nat.le_refl _) (.cells #[.int .i64 f, .int .i64 x] TO))
    clear hl
    obtain ⟨w4, hw5⟩ : ∃ wz, w3.alloc (.cells #[.int .i64 f, .int .i64 x] TO) = wz := ⟨_, rfl⟩
    rw [hw5] at hr5 hb5 hg5 HST hq5
    have HB4 := Lib.hid hb5
    have HG4 := Lib.hid hg5
    have c0 : w4.cell? ⟨w3.heap.size, 0, none⟩ = some (.int .i64 f) := hr5.cell 0 (by decide)
    have c1 : w4.cell? ⟨w3.heap.size, 1, none⟩ = some (.int .i64 x) := hr5.cell 1 (by decide)
    have d0 : w4.cell? ⟨w.heap.size, 0, none⟩ = some (.int .i64 f) := hq5.cell 0 (by decide)
    have d1 : w4.cell? ⟨w.heap.size, 1, none⟩ = some (.int .i64 x) := hq5.cell 1 (by decide)
    clear hr5 hb5 hg5 hw5 hq5 h3
    go_wp2_with (first | (refine wpList_store_run rfl TO _ _ rfl _ _ _ rfl rfl HST.out ?_) | fail)
    clear c0 c1 d0 d1 HST
    go_wp2_with (fail)
    refine (read_any h HH.out w4 HG4.out).mono ?_
    rintro e w5 ⟨rfl, h4⟩
    have HB5 := Lib.hid (HB4.out.trans (h4.mono HB4.out.size))
    have HG5 := Lib.hid (HG4.out.later h4)
    clear h4
    have HST := Lib.hid (store_obj w5 (rdF h) (rdX h))
    obtain ⟨hr5, hb5, hg5, hl⟩ := box_obj HB5.out HB5.out.size HG5.out (rdF h) (rdX h)
    clear hl
    obtain ⟨w6, hw5⟩ : ∃ wz, w5.alloc (.cells #[.int .i64 (rdF h), .int .i64 (rdX h)] TO) = wz := ⟨_, rfl⟩
    rw [hw5] at hr5 hb5 hg5 HST
    have HR6 := Lib.hid hr5
    have HB6 := Lib.hid hb5
    have HG6 := Lib.hid hg5
    have c0 : w6.cell? ⟨w5.heap.size, 0, none⟩ = some (.int .i64 (rdF h)) := hr5.cell 0 (by decide)
    have c1 : w6.cell? ⟨w5.heap.size, 1, none⟩ = some (.int .i64 (rdX h)) := hr5.cell 1 (by decide)
    clear hr5 hb5 hg5 hw5
    by_cases hok : rdOk h = true
    · obtain ⟨a1, a2, a3⟩ := made_read hok
      have A2 := Lib.hid a2
      have A3 := Lib.hid a3
      rw [a1]
      clear a1 a2 a3 hok
      go_wp2_with (first | (refine wpList_store_run rfl TO _ _ rfl _ _ _ rfl rfl HST.out ?_) | fail)
      refine (make_any (rdT h) (rdF h) (rdX h) w6 HG6.out).mono ?_
      rintro e w7 ⟨rfl, h6⟩
      have HB7 := Lib.hid (HB6.out.trans (h6.mono HB6.out.size))
      have HG7 := Lib.hid (HG6.out.later h6)
      clear h6 c0 c1
      rw [A2.out, A3.out]
      go_wp2_with (go_at_call 11; refine (known_any w7 HG7.out).mono ?_; rintro e w9 ⟨rfl, h8⟩; have HB9 := Lib.hid (HB7.out.trans (h8.mono HB7.out.size)); clear h8)
      go_ret
      exact ⟨rfl, HB9.out⟩
    · obtain ⟨a1, a2, a3, a4⟩ := none_read hok
      clear hok
      rw [a1, a2, a3, a4]
      rw [a3, a4] at HST
      rw [a3] at c0
      rw [a4] at c1
      clear a1 a2 a3 a4
      go_wp2_with (first | (refine wpList_store_run rfl TO _ _ rfl _ _ _ rfl rfl HST.out ?_) | (go_at_call 11; refine (known_any w6 HG6.out).mono ?_; rintro e w9 ⟨rfl, h8⟩; have HB9 := Lib.hid (HB6.out.trans (h8.mono HB6.out.size)); clear h8) | fail)
      go_ret
      exact ⟨rfl, HB9.out⟩
  · obtain ⟨a1, a2⟩ := mk_no hm
    rw [a1, a2]
    clear hm a1 a2
    go_wp2_with (fail)
    refine (read_any h HH.out w2 HG2.out).mono ?_
    rintro e w3 ⟨rfl, h4⟩
    have HB3 := Lib.hid (HB2.out.trans (h4.mono HB2.out.size))
    have HG3 := Lib.hid (HG2.out.later h4)
    clear h4
    have HST := Lib.hid (store_obj w3 (rdF h) (rdX h))
    obtain ⟨hr5, hb5, hg5, hl⟩ := box_obj HB3.out HB3.out.size HG3.out (rdF h) (rdX h)
    clear hl
    obtain ⟨w4, hw5⟩ : ∃ wz, w3.alloc (.cells #[.int .i64 (rdF h), .int .i64 (rdX h)] TO) = wz := ⟨_, rfl⟩
    rw [hw5] at hr5 hb5 hg5 HST
    have HR4 := Lib.hid hr5
    have HB4 := Lib.hid hb5
    have HG4 := Lib.hid hg5
    have c0 : w4.cell? ⟨w3.heap.size, 0, none⟩ = some (.int .i64 (rdF h)) := hr5.cell 0 (by decide)
    have c1 : w4.cell? ⟨w3.heap.size, 1, none⟩ = some (.int .i64 (rdX h)) := hr5.cell 1 (by decide)
    clear hr5 hb5 hg5 hw5
    by_cases hok : rdOk h = true
    · obtain ⟨a1, a2, a3⟩ := made_read hok
      have A2 := Lib.hid a2
      have A3 := Lib.hid a3
      rw [a1]
      clear a1 a2 a3 hok
      go_wp2_with (first | (refine wpList_store_run rfl TO _ _ rfl _ _ _ rfl rfl HST.out ?_) | fail)
      refine (make_any (rdT h) (rdF h) (rdX h) w4 HG4.out).mono ?_
      rintro e w5 ⟨rfl, h6⟩
      have HB5 := Lib.hid (HB4.out.trans (h6.mono HB4.out.size))
      have HG5 := Lib.hid (HG4.out.later h6)
      clear h6 c0 c1
      rw [A2.out, A3.out]
      go_wp2_with (go_at_call 11; refine (known_any w5 HG5.out).mono ?_; rintro e w9 ⟨rfl, h8⟩; have HB9 := Lib.hid (HB5.out.trans (h8.mono HB5.out.size)); clear h8)
      go_ret
      exact ⟨rfl, HB9.out⟩
    · obtain ⟨a1, a2, a3, a4⟩ := none_read hok
      clear hok
      rw [a1, a2, a3, a4]
      rw [a3, a4] at HST
      rw [a3] at c0
      rw [a4] at c1
      clear a1 a2 a3 a4
      go_wp2_with (first | (refine wpList_store_run rfl TO _ _ rfl _ _ _ rfl rfl HST.out ?_) | (go_at_call 11; refine (known_any w4 HG4.out).mono ?_; rintro e w9 ⟨rfl, h8⟩; have HB9 := Lib.hid (HB4.out.trans (h8.mono HB4.out.size)); clear h8) | fail)
      go_ret
      exact ⟨rfl, HB9.out⟩
end Go.Proofs.YtljdmhiamonokaaDoor
