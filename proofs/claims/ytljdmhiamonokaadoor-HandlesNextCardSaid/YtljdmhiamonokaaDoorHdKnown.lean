/-
  The known case of handles' laws; a result that is stored in a law's own box.
-/
import Derived.Test.YtljdmhiamonokaaDoorHdRead
namespace Go.Proofs.YtljdmhiamonokaaDoor
open Go.RowKit Go
theorem store_obj (w : World) (x y : Int) :
    (storeVar TO ⟨w.heap.size, 0, none⟩ (.agg #[.int .i64 x, .int .i64 y])).run Tryd.prog (w.alloc (.cells #[.int .i64 0, .int .i64 0] TO)) = .ok () (w.alloc (.cells #[.int .i64 x, .int .i64 y] TO)) :=
  run_storeVar_new (P := Tryd.prog) w TO #[.int .i64 0, .int .i64 0] _ sizeObj rfl (by simp [Value.oneCell'])
theorem k1 : mkV 3 2 1 = 98369 ∧ mkE 3 2 1 = 0 := by decide
theorem k2 : rdT 98369 = 3 ∧ rdF 98369 = 2 ∧ rdX 98369 = 1 ∧ rdE 98369 = 0 := by decide
theorem k3 : rdE 32767 = 120 := by decide
/-- Behind a box: what lies there, the rest as it was. -/
theorem box_obj {B : Nat} {a w : World} (hb : Below B a w) (hB : B ≤ w.heap.size) (hg : BegAt w) (x y : Int) :
    RowAt (w.alloc (.cells #[.int .i64 x, .int .i64 y] TO)) w.heap.size 2 (obV x y) ∧ Below B a (w.alloc (.cells #[.int .i64 x, .int .i64 y] TO)) ∧ BegAt (w.alloc (.cells #[.int .i64 x, .int .i64 y] TO)) ∧
      B ≤ (w.alloc (.cells #[.int .i64 x, .int .i64 y] TO)).heap.size :=
  ⟨obj_row w x y, hb.alloc hB _, hg.later ((Below.refl _ _).alloc (Nat.le_refl _) _), by simp; omega⟩
set_option maxRecDepth 100000 in
set_option maxHeartbeats 2000000 in
theorem known_any (w : World) (hg : BegAt w) : Calls Tryd.prog 11 #[] w (BoolB w true) := by
  have HG := Lib.hid hg
  clear hg
  have K1 := Lib.hid k1
  have K2 := Lib.hid k2
  have K3 := Lib.hid k3
  go_enter Tryd.func11, Tryd.ntmps11
  go_wp2_with (fail)
  refine (make_any 3 2 1 w HG.out).mono ?_
  rintro e w1 ⟨rfl, h1⟩
  have HB1 := Lib.hid h1
  have HG1 := Lib.hid (HG.out.later h1)
  rw [K1.out.1, K1.out.2]
  clear h1
  go_wp2_with (fail)
  refine (read_any 98369 (by decide) w1 HG1.out).mono ?_
  rintro e w2 ⟨rfl, h2⟩
  have HB2 := Lib.hid (HB1.out.trans (h2.mono HB1.out.size))
  have HG2 := Lib.hid (HG1.out.later h2)
  rw [K2.out.1, K2.out.2.1, K2.out.2.2.1, K2.out.2.2.2]
  have HST := Lib.hid (store_obj w2 2 1)
  clear h2
  go_wp2_with (first | (refine wpList_store_run rfl TO _ _ rfl _ _ _ rfl rfl HST.out ?_) | fail)
  obtain ⟨hr3, hb3, hg3, _⟩ := box_obj HB2.out HB2.out.size HG2.out 2 1
  have HR3 := Lib.hid hr3
  have HB3 := Lib.hid hb3
  have HG3 := Lib.hid hg3
  clear hr3 hb3 hg3 HST
  generalize w2.alloc (.cells #[.int .i64 2, .int .i64 1] TO) = w3 at *
  generalize w2.heap.size = g at *
  refine (read_any 32767 (by decide) w3 HG3.out).mono ?_
  rintro e w4 ⟨rfl, h4⟩
  have HB4 := Lib.hid (HB3.out.trans (h4.mono HB3.out.size))
  have HR4 := Lib.hid (HR3.out.later h4)
  rw [K3.out]
  have HST := Lib.hid (store_obj w4 (rdF 32767) (rdX 32767))
  obtain ⟨hr5, hb5, _, _⟩ := box_obj HB4.out HB4.out.size (HG3.out.later h4) (rdF 32767) (rdX 32767)
  have HB5 := Lib.hid hb5
  have HR5 := Lib.hid (HR4.out.later ((Below.refl _ w4).alloc (Nat.le_refl _) (.cells #[.int .i64 (rdF 32767), .int .i64 (rdX 32767)] TO)))
  have c0 : (w4.alloc (.cells #[.int .i64 (rdF 32767), .int .i64 (rdX 32767)] TO)).cell? ⟨g, 0, none⟩ = some (.int .i64 2) := HR5.out.cell 0 (by decide)
  have c1 : (w4.alloc (.cells #[.int .i64 (rdF 32767), .int .i64 (rdX 32767)] TO)).cell? ⟨g, 1, none⟩ = some (.int .i64 1) := HR5.out.cell 1 (by decide)
  clear hr5 hb5 h4 HR5
  go_wp2_with (first | (refine wpList_store_run rfl TO _ _ rfl _ _ _ rfl rfl HST.out ?_; generalize w4.alloc (.cells #[.int .i64 (rdF 32767), .int .i64 (rdX 32767)] TO) = w5 at *) | fail)
  go_ret
  exact ⟨rfl, HB5.out⟩
end Go.Proofs.YtljdmhiamonokaaDoor
