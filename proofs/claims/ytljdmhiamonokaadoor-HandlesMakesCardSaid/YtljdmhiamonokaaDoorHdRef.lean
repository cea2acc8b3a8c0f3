/-
  The document's handles: Make, Read.
-/
import Derived.Test.YtljdmhiamonokaaDoorHdRead
namespace Go.Proofs.YtljdmhiamonokaaDoor
open Go.RowKit Go
set_option maxRecDepth 100000 in
set_option maxHeartbeats 2000000 in
theorem rmake_any (t : Nat) (f x : Int) (w : World) : Calls Tryd.prog 8 #[.int .u64 t, .agg #[.int .i64 f, .int .i64 x]] w (MadeP w t f x) := by
  have HB := Lib.hid (show Below w.heap.size w (w.alloc (.cells #[.int .i64 f, .int .i64 x] 24)) from (Below.refl w.heap.size w).alloc (Nat.le_refl _) _)
  unfold MadeP mkV mkE
  by_cases h : May t f x
  · rw [if_pos h, if_pos h]
    obtain ⟨⟨ht1, ht2⟩, ⟨hf1, hf2⟩, hx1, hx2⟩ := h
    have h1 : (1 : Int) ≤ t := by omega
    have h2 : (t : Int) ≤ 1099511627776 := by omega
    have e1 : IntKind.u64.wrap (f : Int) = f := by rw [wrap64u]; omega
    have e2 : IntKind.u64.wrap (x : Int) = x := by rw [wrap64u]; omega
    have h3 : ¬ 1023 < f := by omega
    have h4 : ¬ 31 < x := by omega
    clear ht1 ht2
    go_enter Tryd.func8, Tryd.ntmps8
    go_wp2_with (fail)
    go_ret2
    exact ⟨rfl, HB.out⟩
  · rw [if_neg h, if_neg h]
    by_cases k0 : (t : Int) < 1
    · clear h
      go_enter Tryd.func8, Tryd.ntmps8
      go_wp2_with (fail)
      go_ret2
      exact ⟨rfl, HB.out⟩
    · skip
      by_cases k1 : 1099511627776 < (t : Int)
      · clear h
        go_enter Tryd.func8, Tryd.ntmps8
        go_wp2_with (fail)
        go_ret2
        exact ⟨rfl, HB.out⟩
      · skip
        by_cases k2 : f < 0
        · clear h
          go_enter Tryd.func8, Tryd.ntmps8
          go_wp2_with (fail)
          go_ret2
          exact ⟨rfl, HB.out⟩
        · skip
          by_cases k3 : 1023 < f
          · clear h
            go_enter Tryd.func8, Tryd.ntmps8
            go_wp2_with (fail)
            go_ret2
            exact ⟨rfl, HB.out⟩
          · skip
            by_cases k4 : x < 0
            · clear h
              go_enter Tryd.func8, Tryd.ntmps8
              go_wp2_with (fail)
              go_ret2
              exact ⟨rfl, HB.out⟩
            · skip
              by_cases k5 : 31 < x
              · clear h
                go_enter Tryd.func8, Tryd.ntmps8
                go_wp2_with (fail)
                go_ret2
                exact ⟨rfl, HB.out⟩
              · exact absurd ⟨⟨by omega, by omega⟩, ⟨by omega, by omega⟩, by omega, by omega⟩ h
set_option maxRecDepth 100000 in
set_option maxHeartbeats 2000000 in
theorem rread_any (h : Nat) (hh : h < 18446744073709551616) (w : World) : Calls Tryd.prog 10 #[.int .u64 h] w (ReadP w h) := by
  have HB := Lib.hid (show Below w.heap.size w (w.alloc (.cells #[.int .i64 0, .int .i64 0] TO)) from (Below.refl w.heap.size w).alloc (Nat.le_refl _) _)
  have HR := Lib.hid (obj_row w 0 0)
  have HS := Lib.hid (show (w.alloc (.cells #[.int .i64 0, .int .i64 0] TO)).heap.size = w.heap.size + 1 by simp)
  obtain ⟨w0, hw0⟩ : ∃ w0, w.alloc (.cells #[.int .i64 0, .int .i64 0] TO) = w0 := ⟨_, rfl⟩
  rw [hw0] at HB HR HS
  have HW := Lib.hid hw0
  clear hw0
  unfold ReadP rdT rdF rdX rdE rdOk
  obtain ⟨l0, l1⟩ := fld_lt h
  have e2 : (h : Int) / 32768 = (fldN 2 h : Nat) := by simp [fldN]
  have e1 : (h : Int) % 32768 / 32 = (fldN 1 h : Nat) := by simp [fldN]
  have e0 : (h : Int) % 32 = (fldN 0 h : Nat) := by simp [fldN]
  generalize fldN 0 h = x at *
  generalize fldN 1 h = f at *
  generalize fldN 2 h = t at *
  have hf : IntKind.i64.wrap (f : Int) = f := by rw [IntKind.wrap_i64]; omega
  have hx : IntKind.i64.wrap (x : Int) = x := by rw [IntKind.wrap_i64]; omega
  have E0 := Lib.hid e0
  have E1 := Lib.hid e1
  have E2 := Lib.hid e2
  clear l0 l1 e0 e1 e2
  generalize hD : decide (May t (f : Int) (x : Int)) = D
  have HE := Lib.hid (show mkE t f x = if D = true then 0 else 2 by rw [← hD]; unfold mkE; simp)
  clear hD
  cases D with
  | true =>
    go_enter Tryd.func10, Tryd.ntmps10
    go_wp2_with (fail)
    rw [HW.out, E0.out, E1.out, E2.out]
    have HR1 := Lib.hid (show RowAt (w0.alloc (.cells #[.int .i64 f, .int .i64 x] TO)) (w.heap.size + 1) 2 (obV f x) from HS.out ▸ obj_row w0 f x)
    have HQ1 := Lib.hid (HR.out.later ((Below.refl w0.heap.size w0).alloc (Nat.le_refl _) (.cells #[.int .i64 f, .int .i64 x] TO)))
    have HB1 := Lib.hid (HB.out.trans (((Below.refl w0.heap.size w0).alloc (Nat.le_refl _) (.cells #[.int .i64 f, .int .i64 x] TO)).mono HB.out.size))
    generalize w0.alloc (.cells #[.int .i64 f, .int .i64 x] TO) = w1 at *
    refine (rmake_any t f x w1).mono ?_
    rintro e w2 ⟨rfl, h2⟩
    have HR2 := Lib.hid (HR1.out.later h2)
    have HQ2 := Lib.hid (HQ1.out.later h2)
    have HB2 := Lib.hid (HB1.out.trans (h2.mono HB1.out.size))
    have c0 : w2.cell? ⟨w.heap.size + 1, 0, none⟩ = some (.int .i64 f) := HR2.out.cell 0 (by decide)
    have c1 : w2.cell? ⟨w.heap.size + 1, 1, none⟩ = some (.int .i64 x) := HR2.out.cell 1 (by decide)
    have d0 : w2.cell? ⟨w.heap.size, 0, none⟩ = some (.int .i64 0) := HQ2.out.cell 0 (by decide)
    have d1 : w2.cell? ⟨w.heap.size, 1, none⟩ = some (.int .i64 0) := HQ2.out.cell 1 (by decide)
    have z0 := HQ2.out.frozen 0
    have z1 := HQ2.out.frozen 1
    rw [HE.out]
    clear h2
    go_wp2_with (fail)
    go_region
    have HR3 := Lib.hid ((set_obj HQ2.out (f : Int) (x : Int)).later (Below.refl _ _).drew)
    have HB3 := Lib.hid (((HB2.out.setCell (p := ⟨w.heap.size, 0, none⟩) (Nat.le_refl _) (.int .i64 f)).setCell (p := ⟨w.heap.size, 1, none⟩) (Nat.le_refl _) (.int .i64 x)).drew)
    clear c0 c1 z0 z1 d0 d1
    generalize ((w2.setCell ⟨w.heap.size, 0, none⟩ (.int .i64 f)).setCell ⟨w.heap.size, 1, none⟩ (.int .i64 x)).drew = w3 at *
    go_wp2_with (fail)
    exact ret_tct rfl rfl rfl rfl rfl HR3.out ⟨rfl, HB3.out⟩
  | false =>
    go_enter Tryd.func10, Tryd.ntmps10
    go_wp2_with (fail)
    rw [HW.out, E0.out, E1.out, E2.out]
    have HR1 := Lib.hid (show RowAt (w0.alloc (.cells #[.int .i64 f, .int .i64 x] TO)) (w.heap.size + 1) 2 (obV f x) from HS.out ▸ obj_row w0 f x)
    have HQ1 := Lib.hid (HR.out.later ((Below.refl w0.heap.size w0).alloc (Nat.le_refl _) (.cells #[.int .i64 f, .int .i64 x] TO)))
    have HB1 := Lib.hid (HB.out.trans (((Below.refl w0.heap.size w0).alloc (Nat.le_refl _) (.cells #[.int .i64 f, .int .i64 x] TO)).mono HB.out.size))
    generalize w0.alloc (.cells #[.int .i64 f, .int .i64 x] TO) = w1 at *
    refine (rmake_any t f x w1).mono ?_
    rintro e w2 ⟨rfl, h2⟩
    have HR2 := Lib.hid (HR1.out.later h2)
    have HQ2 := Lib.hid (HQ1.out.later h2)
    have HB2 := Lib.hid (HB1.out.trans (h2.mono HB1.out.size))
    have c0 : w2.cell? ⟨w.heap.size + 1, 0, none⟩ = some (.int .i64 f) := HR2.out.cell 0 (by decide)
    have c1 : w2.cell? ⟨w.heap.size + 1, 1, none⟩ = some (.int .i64 x) := HR2.out.cell 1 (by decide)
    have d0 : w2.cell? ⟨w.heap.size, 0, none⟩ = some (.int .i64 0) := HQ2.out.cell 0 (by decide)
    have d1 : w2.cell? ⟨w.heap.size, 1, none⟩ = some (.int .i64 0) := HQ2.out.cell 1 (by decide)
    have z0 := HQ2.out.frozen 0
    have z1 := HQ2.out.frozen 1
    rw [HE.out]
    clear h2
    have HR3 := Lib.hid (set_obj HQ2.out 0 0)
    have HB3 := Lib.hid ((HB2.out.setCell (p := ⟨w.heap.size, 0, none⟩) (Nat.le_refl _) (.int .i64 0)).setCell (p := ⟨w.heap.size, 1, none⟩) (Nat.le_refl _) (.int .i64 0))
    go_wp2_with (fail)
    exact ret_tct rfl rfl rfl rfl rfl HR3.out ⟨rfl, HB3.out⟩
end Go.Proofs.YtljdmhiamonokaaDoor
