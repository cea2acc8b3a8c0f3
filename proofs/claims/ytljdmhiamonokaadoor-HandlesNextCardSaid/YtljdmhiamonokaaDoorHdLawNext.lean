/-
  The walk of HandlesNext: it returns true, and below the old heap nothing has turned.
-/
import Derived.Test.YtljdmhiamonokaaDoorHdPure
namespace Go.Proofs.YtljdmhiamonokaaDoor
open Go.RowKit Go
/-- The next one is refused, or it is so much more. -/
theorem next_two {t u : Nat} {f x g y : Int} {d : Int} (h : May t f x) (hd : May u g y → (u : Int) * 32768 + g * 32 + y = (t : Int) * 32768 + f * 32 + x + d) (h0 : 0 ≤ d) (h1 : d ≤ 32768) :
    mkE u g y = 2 ∨ mkE u g y = 0 ∧ IntKind.u64.wrap (mkV u g y - mkV t f x) = d := by
  by_cases k : May u g y
  · refine .inr ⟨(mk_yes k).1, ?_⟩
    rw [(mk_yes k).2, (mk_yes h).2, hd k, wrap64u]
    omega
  · exact .inl (mk_no k).1
set_option maxRecDepth 100000 in
set_option maxHeartbeats 4000000 in
theorem lawNext_any (t : Nat) (ht : t < 18446744073709551616) (f x : Int) (w : World) (hg : BegAt w) :
    Calls Tryd.prog 6 #[.int .u64 t, .agg #[.int .i64 f, .int .i64 x]] w (BoolB w true) := by
  obtain ⟨hr1, hb1, hg1, hl⟩ := box_obj (Below.refl w.heap.size w) (Nat.le_refl _) hg f x
  clear hl
  obtain ⟨w1, hw1⟩ : ∃ w1, w.alloc (.cells #[.int .i64 f, .int .i64 x] TO) = w1 := ⟨_, rfl⟩
  rw [hw1] at hr1 hb1 hg1
  have HR1 := Lib.hid hr1
  have HB1 := Lib.hid hb1
  have HG1 := Lib.hid hg1
  have HW := Lib.hid hw1
  have HT := Lib.hid ht
  have c0 : w1.cell? ⟨w.heap.size, 0, none⟩ = some (.int .i64 f) := hr1.cell 0 (by decide)
  have c1 : w1.cell? ⟨w.heap.size, 1, none⟩ = some (.int .i64 x) := hr1.cell 1 (by decide)
  obtain ⟨u, hu⟩ : ∃ u : Nat, IntKind.u64.wrap ((t : Int) + 1) = u := ⟨(t + 1) % 18446744073709551616, by rw [wrap64u]; omega⟩
  obtain ⟨x1, hx1⟩ : ∃ x1, wrap64 (x + 1) = x1 := ⟨_, rfl⟩
  obtain ⟨f1, hf1⟩ : ∃ f1, wrap64 (f + 1) = f1 := ⟨_, rfl⟩
  have HU := Lib.hid hu
  have HX := Lib.hid hx1
  have HF := Lib.hid hf1
  clear hr1 hb1 hg1 hw1 hg ht hu hx1 hf1
  go_enter Tryd.func6, Tryd.ntmps6
  go_wp2_with (fail)
  rw [HW.out]
  refine (make_any t f x w1 HG1.out).mono ?_
  rintro e w2 ⟨rfl, h2⟩
  have HB2 := Lib.hid (HB1.out.trans (h2.mono HB1.out.size))
  have HG2 := Lib.hid (HG1.out.later h2)
  have HR2 := Lib.hid (HR1.out.later h2)
  clear h2 c0 c1
  have c0 : w2.cell? ⟨w.heap.size, 0, none⟩ = some (.int .i64 f) := HR2.out.cell 0 (by decide)
  have c1 : w2.cell? ⟨w.heap.size, 1, none⟩ = some (.int .i64 x) := HR2.out.cell 1 (by decide)
  go_wp2_with (fail)
  rw [HU.out]
  refine (make_any u f x w2 HG2.out).mono ?_
  rintro e w3 ⟨rfl, h2⟩
  have HB3 := Lib.hid (HB2.out.trans (h2.mono HB2.out.size))
  have HG3 := Lib.hid (HG2.out.later h2)
  have HR3 := Lib.hid (HR2.out.later h2)
  clear h2 c0 c1
  have c0 : w3.cell? ⟨w.heap.size, 0, none⟩ = some (.int .i64 f) := HR3.out.cell 0 (by decide)
  have c1 : w3.cell? ⟨w.heap.size, 1, none⟩ = some (.int .i64 x) := HR3.out.cell 1 (by decide)
  go_wp2_with (fail)
  rw [HX.out]
  refine (make_any t f x1 w3 HG3.out).mono ?_
  rintro e w4 ⟨rfl, h2⟩
  have HB4 := Lib.hid (HB3.out.trans (h2.mono HB3.out.size))
  have HG4 := Lib.hid (HG3.out.later h2)
  have HR4 := Lib.hid (HR3.out.later h2)
  clear h2 c0 c1
  have c0 : w4.cell? ⟨w.heap.size, 0, none⟩ = some (.int .i64 f) := HR4.out.cell 0 (by decide)
  have c1 : w4.cell? ⟨w.heap.size, 1, none⟩ = some (.int .i64 x) := HR4.out.cell 1 (by decide)
  go_wp2_with (fail)
  rw [HF.out]
  refine (make_any t f1 x w4 HG4.out).mono ?_
  rintro e w5 ⟨rfl, h2⟩
  have HB5 := Lib.hid (HB4.out.trans (h2.mono HB4.out.size))
  have HG5 := Lib.hid (HG4.out.later h2)
  clear h2 c0 c1
  by_cases hm : May t f x
  · have hb := hm
    obtain ⟨⟨ht1, ht2⟩, ⟨hf1, hf2⟩, hx1, hx2⟩ := hb
    have eu : (u : Int) = t + 1 := by rw [← HU.out, wrap64u]; omega
    have ex : x1 = x + 1 := by rw [← HX.out]; exact IntWalk.wrap64_in _ (by omega)
    have ef : f1 = f + 1 := by rw [← HF.out]; exact IntWalk.wrap64_in _ (by omega)
    have n1 := next_two (u := u) (g := f) (y := x) (d := 32768) hm (fun _ => by omega) (by decide) (by decide)
    have n2 := next_two (u := t) (g := f) (y := x1) (d := 1) hm (fun _ => by omega) (by decide) (by decide)
    have n3 := next_two (u := t) (g := f1) (y := x) (d := 32) hm (fun _ => by omega) (by decide) (by decide)
    rw [(mk_yes hm).1]
    generalize mkV t f x = V at *
    generalize mkV u f x = V1 at *
    generalize mkV t f x1 = V2 at *
    generalize mkV t f1 x = V3 at *
    generalize mkE u f x = E1 at *
    generalize mkE t f x1 = E2 at *
    generalize mkE t f1 x = E3 at *
    clear eu ex ef ht1 ht2 hf1 hf2 hx1 hx2 hm
    rcases n1 with rfl | ⟨rfl, n1⟩ <;> rcases n2 with rfl | ⟨rfl, n2⟩ <;> rcases n3 with rfl | ⟨rfl, n3⟩
    all_goals
      go_wp2_with (go_at_call 11; refine (known_any w5 HG5.out).mono ?_; rintro e w9 ⟨rfl, h8⟩; have HB9 := Lib.hid (HB5.out.trans (h8.mono HB5.out.size)); clear h8)
      go_ret
      exact ⟨rfl, HB9.out⟩
  · rw [(mk_no hm).1]
    clear hm
    go_wp2_with (go_at_call 11; refine (known_any w5 HG5.out).mono ?_; rintro e w9 ⟨rfl, h8⟩; have HB9 := Lib.hid (HB5.out.trans (h8.mono HB5.out.size)); clear h8)
    go_ret
    exact ⟨rfl, HB9.out⟩
end Go.Proofs.YtljdmhiamonokaaDoor
