/-
  The walk of HandlesRise: it returns true, and below the old heap nothing has turned.
-/
import Derived.Test.YtljdmhiamonokaaDoorHdPure
namespace Go.Proofs.YtljdmhiamonokaaDoor
open Go.RowKit Go
set_option maxRecDepth 100000 in
set_option maxHeartbeats 4000000 in
theorem lawRise_any (a b : Nat) (f x g y : Int) (w : World) (hg : BegAt w) :
    Calls Tryd.prog 5 #[.int .u64 a, .int .u64 b, .agg #[.int .i64 f, .int .i64 x], .agg #[.int .i64 g, .int .i64 y]] w (BoolB w true) := by
  obtain ⟨hr0, hb0, hg0, hl0⟩ := box_obj (Below.refl w.heap.size w) (Nat.le_refl _) hg f x
  have hs0 : (w.alloc (.cells #[.int .i64 f, .int .i64 x] TO)).heap.size = w.heap.size + 1 := by simp
  obtain ⟨w0, hw0⟩ : ∃ w1, w.alloc (.cells #[.int .i64 f, .int .i64 x] TO) = w1 := ⟨_, rfl⟩
  rw [hw0] at hr0 hb0 hg0 hl0 hs0
  obtain ⟨hr1, hb1, hg1, hl1⟩ := box_obj hb0 hl0 hg0 g y
  have hq1 := hr0.later ((Below.refl _ w0).alloc (Nat.le_refl _) (.cells #[.int .i64 g, .int .i64 y] TO))
  obtain ⟨w1, hw1⟩ : ∃ w1, w0.alloc (.cells #[.int .i64 g, .int .i64 y] TO) = w1 := ⟨_, rfl⟩
  rw [hw1] at hr1 hb1 hg1 hl1 hq1
  rw [hs0] at hr1
  have HR1 := Lib.hid hr1
  have HQ1 := Lib.hid hq1
  have HB1 := Lib.hid hb1
  have HG1 := Lib.hid hg1
  have HW := Lib.hid (show (w.alloc (.cells #[.int .i64 f, .int .i64 x] TO)).alloc (.cells #[.int .i64 g, .int .i64 y] TO) = w1 by rw [hw0, hw1])
  have c0 : w1.cell? ⟨w.heap.size, 0, none⟩ = some (.int .i64 f) := hq1.cell 0 (by decide)
  have c1 : w1.cell? ⟨w.heap.size, 1, none⟩ = some (.int .i64 x) := hq1.cell 1 (by decide)
  clear hr0 hb0 hg0 hl0 hs0 hw0 hr1 hb1 hg1 hl1 hq1 hw1 hg
  go_enter Tryd.func5, Tryd.ntmps5
  go_wp2_with (fail)
  rw [HW.out]
  refine (make_any a f x w1 HG1.out).mono ?_
  rintro e w2 ⟨rfl, h2⟩
  have HB2 := Lib.hid (HB1.out.trans (h2.mono HB1.out.size))
  have HG2 := Lib.hid (HG1.out.later h2)
  have HR2 := Lib.hid (HR1.out.later h2)
  have HQ2 := Lib.hid (HQ1.out.later h2)
  clear h2 c0 c1
  have c0 : w2.cell? ⟨w.heap.size + 1, 0, none⟩ = some (.int .i64 g) := HR2.out.cell 0 (by decide)
  have c1 : w2.cell? ⟨w.heap.size + 1, 1, none⟩ = some (.int .i64 y) := HR2.out.cell 1 (by decide)
  go_wp2_with (fail)
  refine (make_any b g y w2 HG2.out).mono ?_
  rintro e w3 ⟨rfl, h3⟩
  have HB3 := Lib.hid (HB2.out.trans (h3.mono HB2.out.size))
  have HG3 := Lib.hid (HG2.out.later h3)
  have HR3 := Lib.hid (HR2.out.later h3)
  have HQ3 := Lib.hid (HQ2.out.later h3)
  clear h3 c0 c1
  have c0 : w3.cell? ⟨w.heap.size, 0, none⟩ = some (.int .i64 f) := HQ3.out.cell 0 (by decide)
  have c1 : w3.cell? ⟨w.heap.size, 1, none⟩ = some (.int .i64 x) := HQ3.out.cell 1 (by decide)
  have d0 : w3.cell? ⟨w.heap.size + 1, 0, none⟩ = some (.int .i64 g) := HR3.out.cell 0 (by decide)
  have d1 : w3.cell? ⟨w.heap.size + 1, 1, none⟩ = some (.int .i64 y) := HR3.out.cell 1 (by decide)
  by_cases hm : May a f x
  · by_cases km : May b g y
    · rw [(mk_yes hm).1, (mk_yes km).1]
      rcases Nat.lt_trichotomy a b with hab | hab | hab
      · have hv := mk_lt hm km hab
        have habI : (a : Int) < b := by omega
        generalize mkV a f x = V1 at *
        generalize mkV b g y = V2 at *
        clear hm km hab
        go_wp2_with (go_at_call 11; refine (known_any w3 HG3.out).mono ?_; rintro e w9 ⟨rfl, h8⟩; have HB9 := Lib.hid (HB3.out.trans (h8.mono HB3.out.size)); clear h8)
        go_ret
        exact ⟨rfl, HB9.out⟩
      · subst hab
        have hv := mk_eq hm km
        have h1 : ¬ (a : Int) < a := by omega
        generalize mkV a f x = V1 at *
        generalize mkV a g y = V2 at *
        clear hm km
        by_cases e : f = g ∧ x = y
        · obtain rfl := hv.2 e
          obtain ⟨rfl, rfl⟩ := e
          clear hv
          go_wp2_with (go_at_call 11; refine (known_any w3 HG3.out).mono ?_; rintro e w9 ⟨rfl, h8⟩; have HB9 := Lib.hid (HB3.out.trans (h8.mono HB3.out.size)); clear h8)
          go_ret
          exact ⟨rfl, HB9.out⟩
        · have ev : (V1 == V2) = false := by simp; exact fun z => e (hv.1 z)
          by_cases e1 : f = g
          · subst e1
            have e2 : (x == y) = false := by simp; exact fun z => e ⟨rfl, z⟩
            clear e hv
            go_wp2_with (go_at_call 11; refine (known_any w3 HG3.out).mono ?_; rintro e w9 ⟨rfl, h8⟩; have HB9 := Lib.hid (HB3.out.trans (h8.mono HB3.out.size)); clear h8)
            go_ret
            exact ⟨rfl, HB9.out⟩
          · have e2 : (f == g) = false := by simp; exact e1
            clear e hv e1
            go_wp2_with (go_at_call 11; refine (known_any w3 HG3.out).mono ?_; rintro e w9 ⟨rfl, h8⟩; have HB9 := Lib.hid (HB3.out.trans (h8.mono HB3.out.size)); clear h8)
            go_ret
            exact ⟨rfl, HB9.out⟩
      · have hv := mk_lt km hm hab
        have habI : (b : Int) < a := by omega
        have habJ : ¬ (a : Int) < b := by omega
        generalize mkV a f x = V1 at *
        generalize mkV b g y = V2 at *
        clear hm km hab
        go_wp2_with (go_at_call 11; refine (known_any w3 HG3.out).mono ?_; rintro e w9 ⟨rfl, h8⟩; have HB9 := Lib.hid (HB3.out.trans (h8.mono HB3.out.size)); clear h8)
        go_ret
        exact ⟨rfl, HB9.out⟩
    · rw [(mk_yes hm).1, (mk_no km).1]
      clear hm km
      go_wp2_with (go_at_call 11; refine (known_any w3 HG3.out).mono ?_; rintro e w9 ⟨rfl, h8⟩; have HB9 := Lib.hid (HB3.out.trans (h8.mono HB3.out.size)); clear h8)
      go_ret
      exact ⟨rfl, HB9.out⟩
  · rw [(mk_no hm).1]
    clear hm
    go_wp2_with (go_at_call 11; refine (known_any w3 HG3.out).mono ?_; rintro e w9 ⟨rfl, h8⟩; have HB9 := Lib.hid (HB3.out.trans (h8.mono HB3.out.size)); clear h8)
    go_ret
    exact ⟨rfl, HB9.out⟩
end Go.Proofs.YtljdmhiamonokaaDoor
