/-
  The walk of HandlesMakes: it returns true, and below the old heap nothing has turned.
-/
import Derived.Test.YtljdmhiamonokaaDoorHdKnown
import Derived.Test.YtljdmhiamonokaaDoorHdRef
namespace Go.Proofs.YtljdmhiamonokaaDoor
open Go.RowKit Go
set_option maxRecDepth 100000 in
set_option maxHeartbeats 4000000 in
theorem lawMakes_any (t : Nat) (f x : Int) (h : Nat) (hh : h < 18446744073709551616) (w : World) (hg : BegAt w) :
    Calls Tryd.prog 3 #[.int .u64 t, .agg #[.int .i64 f, .int .i64 x], .int .u64 h] w (BoolB w true) := by
  obtain ⟨hr1, hb1, hg1, _⟩ := box_obj (Below.refl w.heap.size w) (Nat.le_refl _) hg f x
  obtain ⟨w1, hw1⟩ : ∃ w1, w.alloc (.cells #[.int .i64 f, .int .i64 x] TO) = w1 := ⟨_, rfl⟩
  rw [hw1] at hr1 hb1 hg1
  have HR1 := Lib.hid hr1
  have HB1 := Lib.hid hb1
  have HG1 := Lib.hid hg1
  have HW := Lib.hid hw1
  have HH := Lib.hid hh
  have c0 : w1.cell? ⟨w.heap.size, 0, none⟩ = some (.int .i64 f) := hr1.cell 0 (by decide)
  have c1 : w1.cell? ⟨w.heap.size, 1, none⟩ = some (.int .i64 x) := hr1.cell 1 (by decide)
  clear hr1 hb1 hg1 hw1 hg hh
  go_enter Tryd.func3, Tryd.ntmps3
  go_wp2_with (fail)
  rw [HW.out]
  refine (make_any t f x w1 HG1.out).mono ?_
  rintro e w2 ⟨rfl, h2⟩
  have HB2 := Lib.hid (HB1.out.trans (h2.mono HB1.out.size))
  have HG2 := Lib.hid (HG1.out.later h2)
  have HR2 := Lib.hid (HR1.out.later h2)
  clear h2 c0 c1
  have c0 : w2.cell? ⟨w.heap.size, 0, none⟩ = some (.int .i64 f) := HR2.out.cell 0 (by decide)
  have c1 : w2.cell? ⟨w.heap.size, 1, none⟩ = some (.int .i64 x) := HR2.out.cell 1 (by decide)
  go_wp2_with (fail)
  refine (rmake_any t f x w2).mono ?_
  rintro e w3 ⟨rfl, h3⟩
  have HB3 := Lib.hid (HB2.out.trans (h3.mono HB2.out.size))
  have HG3 := Lib.hid (HG2.out.later h3)
  clear h3 c0 c1
  go_wp2_with (fail)
  refine (read_any h HH.out w3 HG3.out).mono ?_
  rintro e w4 ⟨rfl, h4⟩
  have HB4 := Lib.hid (HB3.out.trans (h4.mono HB3.out.size))
  have HG4 := Lib.hid (HG3.out.later h4)
  clear h4
  have HST := Lib.hid (store_obj w4 (rdF h) (rdX h))
  obtain ⟨hr5, hb5, hg5, _⟩ := box_obj HB4.out HB4.out.size HG4.out (rdF h) (rdX h)
  obtain ⟨w5, hw5⟩ : ∃ w5, w4.alloc (.cells #[.int .i64 (rdF h), .int .i64 (rdX h)] TO) = w5 := ⟨_, rfl⟩
  rw [hw5] at hr5 hb5 hg5 HST
  have HR5 := Lib.hid hr5
  have HB5 := Lib.hid hb5
  have HG5 := Lib.hid hg5
  clear hr5 hb5 hg5 hw5
  go_wp2_with (first | (refine wpList_store_run rfl TO _ _ rfl _ _ _ rfl rfl HST.out ?_) | fail)
  clear HST
  generalize w4.heap.size = g at *
  refine (rread_any h HH.out w5).mono ?_
  rintro e w6 ⟨rfl, h6⟩
  have HB6 := Lib.hid (HB5.out.trans (h6.mono HB5.out.size))
  have HG6 := Lib.hid (HG5.out.later h6)
  have HR6 := Lib.hid (HR5.out.later h6)
  clear h6
  have HST := Lib.hid (store_obj w6 (rdF h) (rdX h))
  obtain ⟨hr7, hb7, hg7, _⟩ := box_obj HB6.out HB6.out.size HG6.out (rdF h) (rdX h)
  have hq7 := HR6.out.later ((Below.refl _ w6).alloc (Nat.le_refl _) (.cells #[.int .i64 (rdF h), .int .i64 (rdX h)] TO))
  obtain ⟨w7, hw7⟩ : ∃ w7, w6.alloc (.cells #[.int .i64 (rdF h), .int .i64 (rdX h)] TO) = w7 := ⟨_, rfl⟩
  rw [hw7] at hr7 hb7 hg7 HST hq7
  have HR7 := Lib.hid hr7
  have HQ7 := Lib.hid hq7
  have HB7 := Lib.hid hb7
  have HG7 := Lib.hid hg7
  have c0 : w7.cell? ⟨g, 0, none⟩ = some (.int .i64 (rdF h)) := hq7.cell 0 (by decide)
  have c1 : w7.cell? ⟨g, 1, none⟩ = some (.int .i64 (rdX h)) := hq7.cell 1 (by decide)
  have d0 : w7.cell? ⟨w6.heap.size, 0, none⟩ = some (.int .i64 (rdF h)) := hr7.cell 0 (by decide)
  have d1 : w7.cell? ⟨w6.heap.size, 1, none⟩ = some (.int .i64 (rdX h)) := hr7.cell 1 (by decide)
  clear hr7 hb7 hg7 hw7 hq7
  go_wp2_with (first | (refine wpList_store_run rfl TO _ _ rfl _ _ _ rfl rfl HST.out ?_) | (go_at_call 11; refine (known_any w7 HG7.out).mono ?_; rintro e w8 ⟨rfl, h8⟩; have HB8 := Lib.hid (HB7.out.trans (h8.mono HB7.out.size)); clear h8) | fail)
  go_ret
  exact ⟨rfl, HB8.out⟩
end Go.Proofs.YtljdmhiamonokaaDoor
