/-
  The walk of RmapFill, for whatever map.
-/
import Derived.Test.YtjjcbbnnilafdaaRmKp
import Derived.Test.YtjjcbbnnilafdaaRmFillP
import Derived.Test.YtjjcbbnnilafdaaRangeP
import Derived.Deep.LoopGhost
namespace Go.Proofs.Ytjjcbbnnilafdaa
open Go.RowKit Go.Shelf Go
attribute [local go_sem] Oper.semAt_some

theorem capN_of {F : Nat} (h : F ≤ 1024) : capN (F : Int) = F := by
  unfold capN
  rw [if_neg (by omega), if_neg (by omega), Int.toNat_natCast]
section
variable {IsR : Thg → Nat → Nat → (Nat → Ownr) → Prop} (ok : RmOk IsR)
include ok
set_option maxRecDepth 100000 in
set_option maxHeartbeats 8000000 in
theorem lawRFill_in (q : Nat) (hm : 8 ≤ q) (frames pid fr0 : Int) (w : World) (hI : InI frames) :
    CallsIn Fence.wide q Try.prog 7 #[.int .i64 frames, .int .i64 pid, .int .i64 fr0] w fun e w' => e = .returned (.bool true) ∧ Below w.heap.size w w' := by
  have h1 : 1 ≤ q := by omega
  refine callsIn_of_wp_marks Try.func7 rfl trivial ?_ rfl
  simp only [Try.ntmps7, List.size_toArray, List.length_cons, List.length_nil, Nat.reduceAdd, Nat.reduceSub, Array.replicate_succ, Array.replicate_zero, List.push_toArray, List.append_toArray, List.nil_append, List.cons_append]
  refine wpIn_wide.2 ?_
  obtain ⟨wa, hwa⟩ : ∃ wa, ((w.alloc (.cells #[.int .i64 frames] 3)).alloc (.cells #[.int .i64 fr0] 3)).alloc (.cells #[.bool false] 4) = wa := ⟨_, rfl⟩
  have HB0 := Lib.hid (show Below w.heap.size w wa from by rw [← hwa]; exact (((Below.refl _ w).alloc (Nat.le_refl _) _).alloc (by simp) _).alloc (by simp; omega) _)
  have HSA := Lib.hid (show wa.heap.size = w.heap.size + 3 from by rw [← hwa]; simp)
  have HRF := Lib.hid (show RowAt wa w.heap.size 1 (fun _ => .int .i64 frames) from by rw [← hwa]; exact ((bx_new w frames _).alloc _).alloc _)
  have HRO := Lib.hid (show RowAt wa (w.heap.size + 1) 1 (fun _ => .int .i64 fr0) from by
    rw [← hwa]
    have h := bx_new (w.alloc (.cells #[.int .i64 frames] 3)) fr0 3
    rw [World.size_alloc] at h
    exact h.alloc _)
  have HRC := Lib.hid (show RowAt wa (w.heap.size + 1 + 1) 1 (fun _ => .bool false) from by
    rw [← hwa]
    have h := RowAt.new ((w.alloc (.cells #[.int .i64 frames] 3)).alloc (.cells #[.int .i64 fr0] 3)) #[.bool false] 4 1 (fun _ => .bool false) (fun i hi => by
      obtain rfl : i = 0 := by omega
      rfl)
    rw [World.size_alloc, World.size_alloc] at h
    exact h)
  by_cases hin : 0 ≤ frames ∧ frames ≤ 200 ∧ 1 ≤ pid ∧ pid ≤ 8 ∧ 0 ≤ fr0 ∧ fr0 ≤ 800
  · obtain ⟨hf0, hf1, hp0, hp1, ho0, ho1⟩ := hin
    obtain ⟨F, rfl⟩ : ∃ F : Nat, frames = F := ⟨frames.toNat, by omega⟩
    obtain ⟨p, rfl⟩ : ∃ p : Nat, pid = p := ⟨pid.toNat, by omega⟩
    obtain ⟨r, rfl⟩ : ∃ r : Nat, fr0 = r := ⟨fr0.toNat, by omega⟩
    have HF2 := Lib.hid (show F ≤ 200 from by omega)
    have HP1 := Lib.hid (show 1 ≤ p from by omega)
    have HP8 := Lib.hid (show p ≤ 8 from by omega)
    have HR8 := Lib.hid (show r ≤ 800 from by omega)
    have g1 : ¬ (F : Int) < 0 := by omega
    have g2 : ¬ (200 : Int) < F := by omega
    have g3 : ¬ (p : Int) < 1 := by omega
    have g4 : ¬ (8 : Int) < p := by omega
    have g5 : ¬ (r : Int) < 0 := by omega
    have g6 : ¬ (800 : Int) < r := by omega
    clear hf0 hf1 hp0 hp1 ho0 ho1
    have cF : wa.cell? ⟨w.heap.size, 0, none⟩ = some (.int .i64 F) := HRF.out.cell 0 (by decide)
    have cO : wa.cell? ⟨w.heap.size + 1, 0, none⟩ = some (.int .i64 r) := HRO.out.cell 0 (by decide)
    go_wp2_with (fail)
    clear hwa g1 g2 g3 g4 g5 g6
    have hsa := HSA.out
    generalize hfb : w.heap.size = fb at *
    generalize hob : fb + 1 = ob at *
    generalize hrc : ob + 1 = rc at *
    refine (ok.new wa F hI).mono ?_
    rintro e w1 ⟨d, Y, rfl, hY, hT⟩
    rw [capN_of (by have := HF2.out; omega)] at hY
    have HK1 := Lib.hid (KPT.new (Is := fun X => IsR X d F (fun _ => (0, 0))) hY hT)
    have HL := Lib.hid (show fb < wa.heap.size ∧ ob < wa.heap.size ∧ rc < wa.heap.size ∧ fb ≤ rc from by omega)
    clear hY hT cF cO hsa HSA hI
    have cF : w1.cell? ⟨fb, 0, none⟩ = some (.int .i64 F) := (HRF.out.below HK1.out.bel HL.out.1).cell 0 (by decide)
    go_wp2_with (fail)
    go_loopw [39] (fun iv wr => ∃ i : Nat, iv = .int .i64 i ∧ i ≤ F ∧ Hid (KPT (fun X => IsR X d F (fillF F p r i)) wa (fun _ => False) wr)) (fun iv _ => F - (intOf iv).toNat)
    case atStart => exact ⟨0, rfl, Nat.zero_le _, by rw [fill_zero]; exact HK1⟩
    case round =>
      clear HK1 cF
      obtain ⟨i, rfl, hi, HK⟩ := hrel
      have cF : wr.cell? ⟨fb, 0, none⟩ = some (.int .i64 F) := (HRF.out.below HK.out.bel HL.out.1).cell 0 (by decide)
      have cO : wr.cell? ⟨ob, 0, none⟩ = some (.int .i64 r) := (HRO.out.below HK.out.bel HL.out.2.1).cell 0 (by decide)
      by_cases hlt : i < F
      · have b1 := HF2.out
        have b2 := HR8.out
        have b3 := HP8.out
        go_wp2_with (fail)
        refine (set_kp ok HK.out ((F : Int) - 1 - i) p ((r : Int) + i) ⟨by omega, by omega⟩ ⟨by omega, by omega⟩ ⟨by omega, by omega⟩ 0 _ (fill_set HF2.out HP1.out HP8.out HR8.out hlt).1 (fill_set HF2.out HP1.out HP8.out HR8.out hlt).2).mono ?_
        rintro e w2 ⟨rfl, hk, _⟩
        have HK2 := Lib.hid hk
        clear hk HK cF cO
        go_wp2_with (fail)
        go_roundw
        case rel => exact ⟨i + 1, by go_num, hlt, HK2⟩
        case measure => simp [intOf]; omega
      · obtain rfl : i = F := by omega
        clear cF cO
        have HA0 := Lib.hid (HK.out.add (Q := fun k => k = wr.heap.size) ((Below.refl _ _).alloc (Nat.le_refl _) (.cells #[.int .i64 0] 3)) (fun k hk => .inr ⟨Nat.le_of_eq hk.symm, by rw [hk]; simp⟩))
        have HN0 := Lib.hid (bx_new wr 0 3)
        have HLE := Lib.hid HK.out.bel.size
        go_wp2_with (fail)
        clear HK
        generalize wr.alloc (.cells #[.int .i64 0] 3) = W0 at *
        generalize wr.heap.size = nb at *
        have b2 := HP8.out
        refine (of_kp ok HA0.out p ⟨by omega, by omega⟩ _ (fill_all HF2.out HP1.out HR8.out)).mono ?_
        rintro e W1 ⟨g0, lb0, own0, rfl, hb, _, hnil0, _, _⟩
        have HA1 := Lib.hid (HA0.out.later hb)
        have HN1 := Lib.hid (HN0.out.later hb)
        clear hb HA0 HN0
        go_wp2_with (fail)
        clear hnil0
        refine (of_kp ok HA1.out p ⟨by omega, by omega⟩ _ (fill_all HF2.out HP1.out HR8.out)).mono ?_
        rintro e W2 ⟨g1, lb1, own1, rfl, hb, hent1, _, hown1, hT1⟩
        have HA2 := Lib.hid (HA1.out.later hb)
        have HN2 := Lib.hid (HN1.out.later hb)
        have HENT := Lib.hid hent1
        have HT1 := Lib.hid hT1
        have HOWN := Lib.hid hown1
        clear hb HA1 HN1 hent1 hT1 hown1
        go_wp2_with (fail)
        have hnb := HA2.out.lt (k := nb) rfl
        have hsq := HT1.out.solo (q - 1) (by omega) (fun k => k = nb) (fun k hk => by rw [hk]; exact hnb) HOWN.out
        have HNX := Lib.hid (show BxAt W2 nb (([] : List (Fin (fillL r i i).length)).length : Nat) W2 from ⟨HN2.out, Only.refl _ _⟩)
        have cF2 := (HRF.out.below HA2.out.bel HL.out.1).cell 0 (by decide)
        have cO2 := (HRO.out.below HA2.out.bel HL.out.2.1).cell 0 (by decide)
        have HCF := Lib.hid cF2
        have HCO := Lib.hid cO2
        have HNE := Lib.hid (show fb ≠ nb ∧ ob ≠ nb ∧ rc ≠ nb from by have := HL.out; have := HLE.out; omega)
        clear HN2 HOWN cF2 cO2
        refine (wpIn_wide (n := q)).1 ?_
        refine range_o2 rfl h1 (gf := g1) (lb := lb1) (by simp [go_sem]) trivial HENT.out hsq (fun x => .int .i64 (((fillL r i i)[x.val]'x.isLt).1 : Nat)) (fun x => .int .i64 (((fillL r i i)[x.val]'x.isLt).2 : Nat)) (fun x => rfl) KpZ.trans (fun W l o o' _ _ _ => KpZ.put W l o') (fun pre W => BxAt W2 nb (pre.length : Nat) W) (fun _ _ _ => False) (bx_own (n := fun (pre : List (Fin (fillL r i i).length)) => (pre.length : Nat)) hnb) (fun _ _ _ _ _ h _ _ => h) HNX.out
          10 11 ?assign1 ?body1 ?done1 (fun _ _ _ _ _ _ hIx _ => hIx.elim)
        case assign1 =>
          intro l' pre x V K hl' hI hK
          have HK := Lib.hid hK
          have HI := Lib.hid hI
          clear hK hI hsq
          gi_wp2_with (fail)
          have h9 := HK.out V (KeepsFrom.refl _ _) HI.out (KpZ.of_below (Below.refl _ _))
          simpa using h9
        case body1 =>
          rintro l' pre x U0 V hl' hI hk0 hlen2
          obtain ⟨hxl, _⟩ := next_of_some hlen2
          have HK0 := Lib.hid hk0
          have hpl : pre.length < i := by have h := Nat.lt_of_lt_of_eq x.isLt (fillL_len r i i); omega
          have e1 : (((fillL r i i)[x.val]'x.isLt).1 : Int) = (r : Int) + pre.length := by rw [fillL_get, hxl]; simp
          have e2 : (((fillL r i i)[x.val]'x.isLt).2 : Int) = (i : Int) - 1 - pre.length := by rw [fillL_get, hxl]; simp; omega
          have HNO := Lib.hid hI.only
          have kn : V.cell? ⟨nb, 0, none⟩ = some (.int .i64 (pre.length : Nat)) := hI.row.cell 0 (by decide)
          have kf : V.frozen? ⟨nb, 0, none⟩ = false := hI.row.frozen 0
          have kF : V.cell? ⟨fb, 0, none⟩ = some (.int .i64 i) := hI.only.cell HNE.out.1 HCF.out
          have kO : V.cell? ⟨ob, 0, none⟩ = some (.int .i64 r) := hI.only.cell HNE.out.2.1 HCO.out
          have HI2 := Lib.hid (hI.step ((pre ++ [x]).length : Nat))
          have hl2 : (((pre ++ [x]).length : Nat) : Int) = (pre.length : Int) + 1 := by simp
          rw [hl2] at HI2
          rw [e1, e2]
          clear hsq hk0 hI hxl hlen2 e1 e2
          have HP2 := Lib.hid hl2
          clear hl2
          generalize hjl : pre.length = j at *
          have HJL := Lib.hid hjl
          have b3 := HF2.out
          have b4 := HR8.out
          clear hjl
          gi_wp2_with (fail)
          have HON := Lib.hid (show Only (fun k => k = nb) V (V.setCell ⟨nb, 0, none⟩ (.int .i64 ((j : Int) + 1))) from Only.setCell (S := fun k => k = nb) _ ⟨nb, 0, none⟩ rfl _)
          refine ⟨⟨HON.out.size, fun i o hB hi hc => (HON.out.block i (Array.getElem?_eq_some_iff.1 hi).1 (by omega)).trans hi⟩, HK0.out.trans (KpZ.of_only HON.out), ?_⟩
          show BxAt W2 nb (((pre ++ [x]).length : Nat) : Int) _
          rw [HP2.out]
          exact HI2.out
        case done1 =>
          rintro D xs V hD hxs hI hDk
          have hxl : xs.length = i := by
            have := congrArg List.length hxs
            rw [List.length_map, List.length_range] at this
            exact this.trans (fillL_len r i i)
          rw [hxl] at hI
          have kn : V.cell? ⟨nb, 0, none⟩ = some (.int .i64 i) := hI.row.cell 0 (by decide)
          have kF : V.cell? ⟨fb, 0, none⟩ = some (.int .i64 i) := hI.only.cell HNE.out.1 HCF.out
          have hDlt := (Array.getElem?_eq_some_iff.1 hDk).1
          have HA3 := Lib.hid (HA2.out.more (Q := fun k => k = D) hI.only (fun k hk => hk) (fun k hk => by rw [hk]; exact HLE.out) (fun k hk => .inr ⟨by rw [hk]; exact hD, by rw [hk]; exact hDlt⟩))
          have HDK := Lib.hid hDk
          have HDG := Lib.hid (show wa.heap.size ≤ D from by have := HA2.out.bel.size; omega)
          clear hsq hI hxs hxl hDk HA2 HNX HT1 HENT
          have HG := Lib.hid (fill_again (F := i) (fr := r) HP1.out HP8.out)
          go_wp2_with (fail)
          refine (set_kp ok HA3.out 0 p 1023 (by decide) ⟨by omega, by omega⟩ (by decide) _ _ HG.out.1 HG.out.2).mono ?_
          rintro e W4 ⟨rfl, hk, ho⟩
          have HA4 := Lib.hid (hk.imp (Is' := fun X => IsR X d i (clrF i p r 0)) (fun X h => by rw [← fill_clr]; exact h))
          have HDK4 := Lib.hid ((ho.block D hDlt (fun h => h rfl)).trans HDK.out)
          clear hk ho HA3 HDK kn kF HG hDlt
          have cF : W4.cell? ⟨fb, 0, none⟩ = some (.int .i64 i) := (HRF.out.below HA4.out.bel HL.out.1).cell 0 (by decide)
          rcases (show (0 < i ∧ (0 : Int) < i) ∨ (¬ 0 < i ∧ ¬ (0 : Int) < i) by omega) with ⟨hF0, hF1⟩ | ⟨hF0, hF1⟩
          all_goals
            first | rw [if_pos hF0] | rw [if_neg hF0]
            go_wp2_with (fail)
            clear hF0 hF1
            go_loopw [92] (fun iv wr => ∃ j : Nat, iv = .int .i64 j ∧ j ≤ i ∧ Hid (KPT (fun X => IsR X d i (clrF i p r j)) wa (fun k => k = D) wr) ∧ Hid (wr.heap[D]? = some (.deferred (some [])))) (fun iv _ => i - (intOf iv).toNat)
            case atStart => exact ⟨0, rfl, Nat.zero_le _, HA4, HDK4⟩
            case round =>
              clear HA4 HDK4 cF
              obtain ⟨j, rfl, hj, HK, HDJ⟩ := hrel
              by_cases hlt : j < i
              · have b1 := HF2.out
                go_wp2_with (fail)
                refine (clear_kp ok HK.out j ⟨by omega, by omega⟩ 0 _ (clr_clear HP1.out hlt).1 (clr_clear HP1.out hlt).2).mono ?_
                rintro e w2 ⟨rfl, hk, ho⟩
                have HK2 := Lib.hid hk
                have HDJ2 := Lib.hid ((ho.block D (Array.getElem?_eq_some_iff.1 HDJ.out).1 (fun h => h rfl)).trans HDJ.out)
                clear hk ho HK HDJ
                go_wp2_with (fail)
                go_roundw
                case rel => exact ⟨j + 1, by go_num, hlt, HK2, HDJ2⟩
                case measure => simp [intOf]; omega
              · obtain rfl : j = i := by omega
                go_wp2_with (fail)
                refine (of_kp ok HK.out p ⟨by omega, by omega⟩ [] (by rw [clr_all]; exact none_ofL _ _ _)).mono ?_
                rintro e W5 ⟨g3, lb3, own3, rfl, hb, _, hnil3, _, _⟩
                have HA5 := Lib.hid (HK.out.later hb)
                have HDK5 := Lib.hid ((hb.block D (Array.getElem?_eq_some_iff.1 HDJ.out).1).trans HDJ.out)
                clear hb HK HDJ
                go_wp2_with (fail)
                clear hnil3
                refine (of_kp ok HA5.out p ⟨by omega, by omega⟩ [] (by rw [clr_all]; exact none_ofL _ _ _)).mono ?_
                rintro e W6 ⟨g4, lb4, own4, rfl, hb, hent4, _, hown4, hT4⟩
                have HA6 := Lib.hid (HA5.out.later hb)
                have HDK6 := Lib.hid ((hb.block D (Array.getElem?_eq_some_iff.1 HDK5.out).1).trans HDK5.out)
                clear hb HA5 HDK5
                go_wp2_with (fail)
                refine (wpIn_wide (n := q)).1 ?_
                refine range_nilT q hm hT4 hent4 (fun k hk => (hown4 k hk).1) (fun _ => rfl) (by simp [go_sem]) (fun D2 W7 hD2 hb7 hk7 => ?_)
                have HA7 := Lib.hid (HA6.out.later hb7)
                have hDlt := (Array.getElem?_eq_some_iff.1 HDK6.out).1
                have HDK7 := Lib.hid ((hb7.block D hDlt).trans HDK6.out)
                have HND := Lib.hid (show D2 ≠ D ∧ wa.heap.size ≤ D2 from ⟨by omega, by have := HA6.out.bel.size; omega⟩)
                clear hT4 hent4 hown4 HA6 hb7 hD2 HDK6 hDlt
                go_wp2_with (fail)
                refine (known_any ok W7).mono ?_
                rintro e W8 ⟨rfl, hb⟩
                have HDK8 := Lib.hid ((hb.block D (Array.getElem?_eq_some_iff.1 HDK7.out).1).trans HDK7.out)
                have HDK9 := Lib.hid ((hb.block D2 (Array.getElem?_eq_some_iff.1 hk7).1).trans hk7)
                have HA8 := Lib.hid ((HA7.out.later hb).bel)
                have HRC8 := Lib.hid (HRC.out.below HA8.out HL.out.2.2.1)
                have HB8 := Lib.hid (HB0.out.trans (HA8.out.mono (Nat.le_of_lt HL.out.1)))
                clear hb hk7 HA7 HDK7
                have cr : W8.cell? ⟨rc, 0, none⟩ = some (.bool false) := HRC8.out.cell 0 (by decide)
                have fr : W8.frozen? ⟨rc, 0, none⟩ = false := HRC8.out.frozen 0
                have HRC9 := Lib.hid (HRC8.out.setCell 0 (.bool true))
                have HB9 := Lib.hid (HB8.out.setCell (p := ⟨rc, 0, none⟩) HL.out.2.2.2 (.bool true))
                have hrl := HL.out
                go_wp2_with (fail)
                refine leaves_many [D2, D] _ ?_ (fun E hE => ?_) (fun W' ho2 hs2 => ⟨.bool true, ?_, rfl, ?_⟩)
                · simp [HND.out.1]
                · have hne : E = D2 ∨ E = D := by simpa using hE
                  rcases hne with rfl | rfl
                  · rw [Below.heap_setCell _ _ _ _ (by show E ≠ rc; have := HND.out.2; omega)]
                    exact HDK9.out
                  · rw [Below.heap_setCell _ _ _ _ (by show E ≠ rc; have := HDG.out; omega)]
                    exact HDK8.out
                · have hc := ho2.cell (b := rc) (o := 0) (v := .bool true) (fun hE => by
                    have hne : rc = D2 ∨ rc = D := by simpa using hE
                    have := HND.out.2
                    have := HDG.out
                    omega) (HRC9.out.cell 0 (by decide))
                  simp [results, Try.f7, go_sem, hc]
                · rw [hfb]
                  refine ho2.below HB9.out (by rw [← hfb]; exact HB9.out.size) (fun E hE => ?_)
                  have hne : E = D2 ∨ E = D := by simpa using hE
                  have := HND.out.2
                  have := HDG.out
                  omega
  · have cF : wa.cell? ⟨w.heap.size, 0, none⟩ = some (.int .i64 frames) := HRF.out.cell 0 (by decide)
    have cO : wa.cell? ⟨w.heap.size + 1, 0, none⟩ = some (.int .i64 fr0) := HRO.out.cell 0 (by decide)
    rcases (show frames < 0 ∨ (0 ≤ frames ∧ 200 < frames) ∨ (0 ≤ frames ∧ frames ≤ 200 ∧ pid < 1) ∨ (0 ≤ frames ∧ frames ≤ 200 ∧ 1 ≤ pid ∧ 8 < pid) ∨ (0 ≤ frames ∧ frames ≤ 200 ∧ 1 ≤ pid ∧ pid ≤ 8 ∧ fr0 < 0) ∨ (0 ≤ frames ∧ frames ≤ 200 ∧ 1 ≤ pid ∧ pid ≤ 8 ∧ 0 ≤ fr0 ∧ 800 < fr0) by omega) with g1 | ⟨g1, g2⟩ | ⟨g1, g2, g3⟩ | ⟨g1, g2, g3, g4⟩ | ⟨g1, g2, g3, g4, g5⟩ | ⟨g1, g2, g3, g4, g5, g6⟩
    all_goals
      clear hin
      go_wp2_with (fail)
      clear hwa cF cO
      refine (known_any ok wa).mono ?_
      rintro e w4 ⟨rfl, hb⟩
      have HB4 := Lib.hid (HB0.out.trans (hb.mono HB0.out.size))
      have HRC4 := Lib.hid (HRC.out.later hb)
      clear hb
      have cr : w4.cell? ⟨w.heap.size + 1 + 1, 0, none⟩ = some (.bool false) := HRC4.out.cell 0 (by decide)
      have fr : w4.frozen? ⟨w.heap.size + 1 + 1, 0, none⟩ = false := HRC4.out.frozen 0
      have HRC5 := Lib.hid (HRC4.out.setCell 0 (.bool true))
      have HB5 := Lib.hid (HB4.out.setCell (p := ⟨w.heap.size + 1 + 1, 0, none⟩) (by show w.heap.size ≤ w.heap.size + 1 + 1; omega) (.bool true))
      go_wp2_with (fail)
      refine ⟨.bool true, ?_, rfl, HB5.out⟩
      have hc := HRC5.out.cell 0 (by decide)
      simp [results, Try.f7, go_sem, hc, updV]
theorem lawRFill_any (frames pid fr0 : Int) (w : World) (hI : InI frames) :
    Calls Try.prog 7 #[.int .i64 frames, .int .i64 pid, .int .i64 fr0] w fun e w' => e = .returned (.bool true) ∧ Below w.heap.size w w' :=
  callsIn_wide.1 (lawRFill_in ok 8 (Nat.le_refl _) frames pid fr0 w hI)
end
end Go.Proofs.Ytjjcbbnnilafdaa
