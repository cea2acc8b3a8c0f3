/-
  The walk of AreasBack: it returns true, and below the old heap nothing has turned.
-/
import Derived.Test.YthnkbipdlepbaaaArGrow
namespace Go.Proofs.Ythnkbipdlepbaaa
open Go.RowKit Go.Shelf Go
attribute [local go_sem] Oper.semAt_some
section
variable {IsA : Thg → Nat → (Nat → Nat) → Prop} (ok : AreasOk IsA)
include ok
set_option maxRecDepth 100000 in
set_option maxHeartbeats 8000000 in
theorem lawABack_in (m : Nat) (hm : 8 ≤ m) (a : Option Addr) (len cap : Nat) (O : Nat → OpA) (p c : Int) (r : Nat) (hr8 : Okp p r) (w : World) (hO : OpsAt w a len O) :
    CallsIn Fence.wide m Try.prog 6 #[.slice a len cap, .int .i64 p, .int .i64 c, .int .u8 r] w fun e w' => e = .returned (.bool true) ∧ Below w.heap.size w w' := by
  have h1 : 1 ≤ m := by omega
  obtain ⟨i0, hi, hz0, hz1, hz2⟩ := info_parts infoRun
  have HO := Lib.hid hO
  have HR8 := Lib.hid hr8
  clear hO hr8
  refine callsIn_of_wp_marks Try.func6 rfl trivial ?_ rfl
  simp only [Try.ntmps6, List.size_toArray, List.length_cons, List.length_nil, Nat.reduceAdd, Nat.reduceSub, Array.replicate_succ, Array.replicate_zero, List.push_toArray, List.append_toArray, List.nil_append, List.cons_append]
  refine wpIn_wide.2 ?_
  go_wp2_with (fail)
  refine (new_ak ok w).mono ?_
  rintro e w1 ⟨d, rfl, hK⟩
  have HK := Lib.hid hK
  clear hK
  by_cases hlen : len ≤ 100
  · have hlenI : ¬ (100 < (len : Int)) := by omega
    go_wp2_with (fail)
    go_loopw [31] (fun i wr => ∃ (k : Nat) (f : Nat → Nat), k ≤ len ∧ i = .int .i64 k ∧ Hid (AK IsA w d f wr)) (fun i _ => len - (intOf i).toNat)
    case atStart => exact ⟨0, _, Nat.zero_le _, rfl, HK⟩
    case round =>
      clear HK
      obtain ⟨k, f, hk, rfl, HD⟩ := hrel
      by_cases hlt : k < len
      · obtain ⟨b, o, rfl, hbl, hok, hc⟩ := HO.out.one k hlt
        obtain ⟨c0, c1, c2, c3⟩ := hc wr HD.out.bel
        have hltI : (k : Int) < (len : Int) := by omega
        have HOK := Lib.hid hok
        clear hc hbl hok
        generalize O k = op at *
        go_wp2_with (fail)
        refine (play_ak ok HD.out op HOK.out).mono ?_
        rintro e w2 ⟨rfl, hK⟩
        have HK2 := Lib.hid hK
        clear hK c0 c1 c2 c3
        go_wp2_with (fail)
        go_roundw
        case rel => exact ⟨k + 1, _, hlt, by go_num, HK2⟩
        case measure => simp [intOf]; omega
      · obtain rfl : k = len := by omega
        clear hlen hlenI hlt hk HO
        have HINV := Lib.hid (HD.out.inv ok)
        obtain ⟨X, hX, hA, hB, hlo⟩ := HD.out
        have HX := Lib.hid hX
        have HA := Lib.hid hA
        have HB := Lib.hid hB
        have HLO := Lib.hid hlo
        have HLT := Lib.hid (X.lt wr hA)
        clear hX hA hB hlo HD
        obtain ⟨L, hL⟩ : ∃ L, rns f = L := ⟨_, rfl⟩
        have HLL := Lib.hid hL
        have HLNz := Lib.hid (show L.length ≤ 32 from by rw [← hL]; exact HINV.out.2.2)
        clear hL
        go_wp2_with (fail)
        obtain ⟨W0, hW0⟩ : ∃ W0, (wr.alloc (.cells #[.slice none 0 0] TRs)).alloc (.cells #[.slice none 0 0] TRs) = W0 := ⟨_, rfl⟩
        have hb0 : Below wr.heap.size wr W0 := by rw [← hW0]; exact ((Below.refl _ _).alloc (Nat.le_refl _) _).alloc (by simp) _
        have hx0 : Boxed W0 wr.heap.size TRs (.slice none 0 0) := by rw [← hW0]; exact (Boxed.new wr _ _).alloc _
        have hy0 : Boxed W0 (wr.heap.size + 1) TRs (.slice none 0 0) := by
          have h := Boxed.new (wr.alloc (.cells #[.slice none 0 0] TRs)) TRs (.slice none 0 0)
          rw [World.size_alloc] at h
          rw [← hW0]
          exact h
        have hs0 : W0.heap.size = wr.heap.size + 2 := by rw [← hW0]; simp
        rw [hW0]
        have HA0 := Lib.hid (X.later HA.out hb0)
        have HB0 := Lib.hid (HB.out.trans (hb0.mono HB.out.size))
        have HX0 := Lib.hid hx0
        have HY0 := Lib.hid hy0
        have HWBX := Lib.hid HB.out.size
        clear hW0 hb0 hx0 hy0 HA HB
        generalize wr.heap.size = bx at *
        refine (ok.runs HX.out HA0.out).mono ?_
        rintro e W1 ⟨g0, lb0, own0, rfl, hb, _, hnil0, _, _⟩
        have HA1 := Lib.hid (X.later HA0.out hb)
        have HB1 := Lib.hid (HB0.out.trans (hb.mono HB0.out.size))
        have HX1 := Lib.hid (show Boxed W1 bx TRs (.slice none 0 0) from (hb.block bx HX0.out.lt).trans HX0.out)
        have HY1 := Lib.hid (show Boxed W1 (bx + 1) TRs (.slice none 0 0) from (hb.block (bx + 1) HY0.out.lt).trans HY0.out)
        have hs1 := hb.size
        clear hb
        go_wp2_with (fail)
        refine (ok.runs HX.out HA1.out).mono ?_
        rintro e W2 ⟨g1, lb1, own1, rfl, hb, hent1, hnil1, hown1, hT1⟩
        rw [show rns f = L from HLL.out] at hT1
        have HA2 := Lib.hid (X.later HA1.out hb)
        have HB2 := Lib.hid (HB1.out.trans (hb.mono HB1.out.size))
        have HBX2 := Lib.hid (show Boxed W2 bx TRs (.slice none 0 0) from (hb.block bx HX1.out.lt).trans HX1.out)
        have HBY2 := Lib.hid (show Boxed W2 (bx + 1) TRs (.slice none 0 0) from (hb.block (bx + 1) HY1.out.lt).trans HY1.out)
        have HT1 := Lib.hid hT1
        have HENT1 := Lib.hid hent1
        have HLN1 := Lib.hid HLNz.out
        have HOWN1 := Lib.hid (show ∀ k, own1 k → k < W2.heap.size ∧ k ≠ bx from fun k hk => by
          obtain ⟨h1, h2⟩ := hown1 k hk
          refine ⟨h2, fun e => ?_⟩
          rcases h1 with h1 | h1
          · have := HLT.out k h1; omega
          · omega)
        clear hb hent1 hown1 hT1 hnil0 hnil1 HA0 HA1 HB0 HB1 HX0 HX1 HY0 HY1
        go_wp2_with (fail)
        have hbxW1 : bx < W2.heap.size := HBX2.out.lt
        have hsq1 := HT1.out.grow (m - 1) (by omega) bx hbxW1 (by rw [boxOwn_of HBX2.out.cell]; rfl) HOWN1.out
        refine (wpIn_wide (n := m)).1 ?_
        refine range_oB rfl h1 (gf := g1) (lb := lb1) (by simp [go_sem]) trivial HENT1.out hsq1 KpG.trans (fun W l o o' hl h hc => KpG.put l o' hbxW1 hl h hc) (fun x => rfl)
          (GrowR W2 bx L) (fun _ _ _ => False) (growR_own L hbxW1) (fun _ _ _ _ _ h _ _ => h.elim) ⟨_, HBX2.out, World.ownsRow_nil _ _ _ _, Only.refl _ _⟩
          13 (fun l U0 x zb W' => RowAt W' zb 3 (rnV (L[x.val]'x.isLt)) ∧ KpG bx W2.heap.size U0 W') (fun l U0 x zb W o o' hl R hk ho => ⟨row_put o' R.1 hk ho, R.2.trans (KpG.put l o' hbxW1 hl hk ho)⟩) ?assign1 ?body1 ?done1 (fun _ _ _ _ _ _ h _ => h.elim)
        case assign1 =>
          intro l pre x W K hl hI hK
          have HK := Lib.hid hK
          have HI := Lib.hid hI
          have HR := Lib.hid (run_row W (L[x.val]'x.isLt))
          have HST := Lib.hid (store_run W (L[x.val]'x.isLt))
          have HW := Lib.hid ((Below.refl _ W).alloc (Nat.le_refl _) (.cells #[.int .i64 (L[x.val]'x.isLt).1, .int .i64 (L[x.val]'x.isLt).2.1, .int .u8 (L[x.val]'x.isLt).2.2] TRun))
          clear hK hI hsq1
          unfold runV at HST
          simp only [runV]
          gi_wp2_with (fail)
          have h9 := HK.out W.heap.size _ ((KeepsOthers.alloc W _).from _) (HI.out.later HW.out) ⟨HR.out, KpG.of_below (by have := HI.out.le; omega) HW.out⟩
          simpa [runV] using h9
        case body1 =>
          rintro l pre x zb U0 W hl ⟨v, hv, hr, ho⟩ ⟨hz, hkp0⟩ hlen
          obtain ⟨hxl, _⟩ := next_of_some hlen
          have HKP0 := Lib.hid hkp0
          have hpl : pre.length < L.length := by rw [← hxl]; exact x.isLt
          obtain ⟨va, vc, hve, _⟩ := owns_slice hr
          subst hve
          have HV := Lib.hid hv
          have HR := Lib.hid hr
          have HO := Lib.hid ho
          have hle := ho.size
          have hlp : pre.length ≤ 1000 := by have := HLN1.out; omega
          have cv := hv.cell
          have fv := hv.frozen
          have z0 : W.cell? ⟨zb, 0, none⟩ = some (.int .i64 (L[x.val]'x.isLt).1) := hz.cell 0 (by decide)
          have z1 : W.cell? ⟨zb, 1, none⟩ = some (.int .i64 (L[x.val]'x.isLt).2.1) := hz.cell 1 (by decide)
          have z2 : W.cell? ⟨zb, 2, none⟩ = some (.int .u8 (L[x.val]'x.isLt).2.2) := hz.cell 2 (by decide)
          clear hv hr ho hz hlen hsq1 hkp0 hxl hpl
          simp only [runV]
          gi_wp2_with (gi_at_builtin; refine wpListIn_append_one W rfl _ _ TRs rfl W2.heap.size TRun i0 _ 3 24 Try.underlying49 hi hz0 hz1 hz2 rfl (by decide) _ _ _ #[.int .i64 (L[x.val]'x.isLt).1, .int .i64 (L[x.val]'x.isLt).2.1, .int .u8 (L[x.val]'x.isLt).2.2] HR.out hle rfl rfl rfl (run_one _ _ _) hlp (by decide) ?_)
          intro v' w1 hown hg hat
          obtain ⟨hv1, ⟨hb2, hr2, ho2⟩, hkf, hkp⟩ := grow_step HV.out hteR HR.out HO.out hown hg hat
          obtain ⟨va2, vc2, hve, _⟩ := owns_slice hown
          subst hve
          have HB2 := Lib.hid hb2
          have HR2 := Lib.hid hr2
          have HO2 := Lib.hid ho2
          have HKF := Lib.hid hkf
          have HKP := Lib.hid hkp
          have cv := hv1.cell
          have fv := hv1.frozen
          clear hv1 hb2 hr2 ho2 hkf hkp hown hg hat z0 z1 z2
          gi_wp2_with (fail)
          exact ⟨HKF.out, HKP0.out.trans HKP.out, _, HB2.out, by
            rw [List.length_append, toldL_one, recV_append, recV_single]
            exact HR2.out, HO2.out⟩
        case done1 =>
          rintro D xs V hD hxs hI hK
          have hlx : xs.length = L.length := by
            have := congrArg List.length hxs
            simpa using this
          obtain ⟨v, hv, hr, ho⟩ := hI
          rw [toldL_all hxs, hlx] at hr
          clear hlx hxs hsq1
          obtain ⟨va, vc, hve⟩ := ownR_slice hr
          subst hve
          have HV := Lib.hid hv
          have HR := Lib.hid hr
          have hDV : D < V.heap.size := (Array.getElem?_eq_some_iff.1 hK).1
          have HAV := Lib.hid (X.only _ _ _ HA2.out ho (fun k hk h => by have := HLT.out k hk; omega))
          have HBV := Lib.hid (ho.below HB2.out HB2.out.size (fun k hk => by have := HWBX.out; omega))
          have HYV := Lib.hid (show Boxed V (bx + 1) TRs (.slice none 0 0) from (ho.block (bx + 1) HBY2.out.lt (by omega)).trans HBY2.out)
          have HSV := Lib.hid (show ∀ k, (k = bx ∨ k = bx + 1 ∨ k = D ∨ (Value.slice va L.length vc).ownBlock = some k) → bx ≤ k ∧ k < V.heap.size from by
            have hl1 := HV.out.lt
            have hl2 := HYV.out.lt
            have hw2 := HB2.out.size
            have hbw := HBX2.out.lt
            rintro k (h | h | h | h)
            · omega
            · omega
            · omega
            · have := hr.lt k h; omega)
          have HDV := Lib.hid (show w.heap.size ≤ D from by have := HB2.out.size; omega)
          have HDK := Lib.hid hK
          have HNX := Lib.hid (show ∀ k, X.has k → ¬ (k = bx ∨ k = bx + 1 ∨ k = D ∨ (Value.slice va L.length vc).ownBlock = some k) from fun k hk h => by
            have h1 := HSV.out k h
            have h2 := HLT.out k hk
            omega)
          clear hv hr ho hK
          generalize hSS : (fun k => k = bx ∨ k = bx + 1 ∨ k = D ∨ (Value.slice va L.length vc).ownBlock = some k) = SS
          have HSS := Lib.hid hSS
          clear hSS
          have HNX1 := Lib.hid (show ∀ k, X.has k → ¬ SS k from by rw [← HSS.out]; exact HNX.out)
          have HSV1 := Lib.hid (show ∀ k, SS k → bx ≤ k ∧ k < V.heap.size from by rw [← HSS.out]; exact HSV.out)
          clear HNX HSV
          go_wp2_with (fail)
          refine (ok.map p c r HR8.out HX.out HAV.out).mono ?_
          rintro e V1 ⟨Y, rfl, hY, hT⟩
          have HY := Lib.hid hY
          have HAY := Lib.hid hT.at'
          have HO1 := Lib.hid (show Only (fun k => ¬ SS k) V V1 from hT.only.mono HNX1.out)
          have HBL1 := Lib.hid (show Below w.heap.size w V1 from hT.only.below HBV.out HBV.out.size (fun k hk => HLO.out k hk))
          have HNY := Lib.hid (show ∀ k, Y.has k → ¬ SS k ∧ w.heap.size ≤ k from fun k hk => by
            rcases hT.new k hk with h | h
            · exact ⟨HNX1.out k h, HLO.out k h⟩
            · refine ⟨fun hs => by have := (HSV1.out k hs).2; omega, Nat.le_trans HBV.out.size h⟩)
          clear hY hT
          by_cases hE : mapE f p c r = 0
          · obtain ⟨m1, m2, m3, m4⟩ := map_back hE HINV.out.2.2
            rw [hE]
            have M1 := Lib.hid m1
            have M2 := Lib.hid m2
            have M3 := Lib.hid m3
            have M4 := Lib.hid m4
            clear m1 m2 m3 m4 hE
            go_wp2_with (fail)
            refine (ok.mapped p c HR8.out.2 HY.out HAY.out).mono ?_
            rintro e V2 ⟨rfl, hb⟩
            rw [M1.out]
            have HO2 := Lib.hid (HO1.out.trans (Only.of_below hb))
            have HBL2 := Lib.hid (HBL1.out.trans (hb.mono HBL1.out.size))
            have HAY2 := Lib.hid (Y.later HAY.out hb)
            clear hb
            go_wp2_with (fail)
            refine (ok.unmap p c HR8.out.2 HY.out HAY2.out).mono ?_
            rintro e V3 ⟨Z, rfl, hZ, hT⟩
            rw [M2.out]
            rw [M3.out] at hZ
            have HZ := Lib.hid hZ
            have HAZ := Lib.hid hT.at'
            have HO3 := Lib.hid (show Only (fun k => ¬ SS k) V V3 from HO2.out.trans (hT.only.mono fun k hk => (HNY.out k hk).1))
            have HBL3 := Lib.hid (show Below w.heap.size w V3 from hT.only.below HBL2.out HBL2.out.size (fun k hk => (HNY.out k hk).2))
            have HNZ := Lib.hid (show ∀ k, Z.has k → ¬ SS k ∧ w.heap.size ≤ k from fun k hk => by
              rcases hT.new k hk with h | h
              · exact HNY.out k h
              · refine ⟨fun hs => by have h1 := (HSV1.out k hs).2; have h2 := HO2.out.size; omega, Nat.le_trans HBL2.out.size h⟩)
            clear hZ hT
            go_wp2_with (fail)
            refine (ok.mapped p 1 HR8.out.2 HZ.out HAZ.out).mono ?_
            rintro e V4 ⟨rfl, hb⟩
            rw [M4.out]
            have HO4 := Lib.hid (HO3.out.trans (Only.of_below hb))
            have HBL4 := Lib.hid (HBL3.out.trans (hb.mono HBL3.out.size))
            have HAZ4 := Lib.hid (Z.later HAZ.out hb)
            clear hb
            go_wp2_with (fail)
            refine (ok.runs HZ.out HAZ4.out).mono ?_
            rintro e V5 ⟨g3, lb3, own3, rfl, hb, _, hnil3, _, _⟩
            have HO5 := Lib.hid (HO4.out.trans (Only.of_below hb))
            have HBL5 := Lib.hid (HBL4.out.trans (hb.mono HBL4.out.size))
            have HAZ5 := Lib.hid (Z.later HAZ4.out hb)
            clear hb
            go_wp2_with (fail)
            have HLZ := Lib.hid (Z.lt V5 HAZ5.out)
            refine (ok.runs HZ.out HAZ5.out).mono ?_
            rintro e W5 ⟨g2, lb2, own2, rfl, hb, hent2, hnil2, hown2, hT2⟩
            rw [show rns f = L from HLL.out] at hT2
            have HO6 := Lib.hid (HO5.out.trans (Only.of_below hb))
            have HB5 := Lib.hid (HBL5.out.trans (hb.mono HBL5.out.size))
            have HT2 := Lib.hid hT2
            have HENT2 := Lib.hid hent2
            have hsb : SS (bx + 1) := by rw [← HSS.out]; exact .inr (.inl rfl)
            have hsx : SS bx := by rw [← HSS.out]; exact .inl rfl
            have hsd : SS D := by rw [← HSS.out]; exact .inr (.inr (.inl rfl))
            have hso : ∀ k, (Value.slice va L.length vc).ownBlock = some k → SS k := fun k hk => by rw [← HSS.out]; exact .inr (.inr (.inr hk))
            have HOWN2 := Lib.hid (show ∀ k, own2 k → k < W5.heap.size ∧ k ≠ bx + 1 from fun k hk => by
              obtain ⟨h1, h2⟩ := hown2 k hk
              refine ⟨h2, fun e => ?_⟩
              rcases h1 with h1 | h1
              · exact (HNZ.out k h1).1 (e ▸ hsb)
              · have h3 := (HSV1.out (bx + 1) hsb).2
                have h4 := HO5.out.size
                omega)
            have HLN2 := Lib.hid HLNz.out
            have HBY5 := Lib.hid (show Boxed W5 (bx + 1) TRs (.slice none 0 0) from (HO6.out.block (bx + 1) HYV.out.lt (fun h => h hsb)).trans HYV.out)
            have HBX5 := Lib.hid (show Boxed W5 bx TRs (.slice va L.length vc) from (HO6.out.block bx HV.out.lt (fun h => h hsx)).trans HV.out)
            have HR5 := Lib.hid (owns_only HR.out HO6.out (fun k hk h => h (hso k hk)))
            have HOB5 := Lib.hid (show ∀ k, (Value.slice va L.length vc).ownBlock = some k → k ≠ bx + 1 from fun k hk e => HYV.out.not_row hteR HR.out (by rw [← e]; exact hk.symm))
            have HD5 := Lib.hid ((HO6.out.block D (HSV1.out D hsd).2 (fun h => h hsd)).trans HDK.out)
            have HDV5 := Lib.hid (show bx + 1 < D ∧ D < W5.heap.size from ⟨by have := HBY2.out.lt; omega, Nat.lt_of_lt_of_le (HSV1.out D hsd).2 HO6.out.size⟩)
            have HDW := HDV
            clear hb hent2 hown2 hT2 hnil3 hnil2 hsb hsx hsd hso HAZ5 HAZ4 HAZ HAY HAY2 HO1 HO2 HO3 HO4 HO5 M1 M2 M3 M4
            go_wp2_with (fail)
            have hbxW2 : (bx + 1) < W5.heap.size := HBY5.out.lt
            have hsq2 := HT2.out.grow (m - 1) (by omega) (bx + 1) hbxW2 (by rw [boxOwn_of HBY5.out.cell]; rfl) HOWN2.out
            refine (wpIn_wide (n := m)).1 ?_
            refine range_oB rfl h1 (gf := g2) (lb := lb2) (by simp [go_sem]) trivial HENT2.out hsq2 KpG.trans (fun W l o o' hl h hc => KpG.put l o' hbxW2 hl h hc) (fun x => rfl)
              (GrowR W5 (bx + 1) L) (fun _ _ _ => False) (growR_own L hbxW2) (fun _ _ _ _ _ h _ _ => h.elim) ⟨_, HBY5.out, World.ownsRow_nil _ _ _ _, Only.refl _ _⟩
              14 (fun l U0 x zb W' => RowAt W' zb 3 (rnV (L[x.val]'x.isLt)) ∧ KpG (bx + 1) W5.heap.size U0 W') (fun l U0 x zb W o o' hl R hk ho => ⟨row_put o' R.1 hk ho, R.2.trans (KpG.put l o' hbxW2 hl hk ho)⟩) ?assign2 ?body2 ?done2 (fun _ _ _ _ _ _ h _ => h.elim)
            case assign2 =>
              intro l pre x W K hl hI hK
              have HK := Lib.hid hK
              have HI := Lib.hid hI
              have HR := Lib.hid (run_row W (L[x.val]'x.isLt))
              have HST := Lib.hid (store_run W (L[x.val]'x.isLt))
              have HW := Lib.hid ((Below.refl _ W).alloc (Nat.le_refl _) (.cells #[.int .i64 (L[x.val]'x.isLt).1, .int .i64 (L[x.val]'x.isLt).2.1, .int .u8 (L[x.val]'x.isLt).2.2] TRun))
              clear hK hI hsq2
              unfold runV at HST
              simp only [runV]
              gi_wp2_with (fail)
              have h9 := HK.out W.heap.size _ ((KeepsOthers.alloc W _).from _) (HI.out.later HW.out) ⟨HR.out, KpG.of_below (by have := HI.out.le; omega) HW.out⟩
              simpa [runV] using h9
            case body2 =>
              rintro l pre x zb U0 W hl ⟨v, hv, hr, ho⟩ ⟨hz, hkp0⟩ hlen
              obtain ⟨hxl, _⟩ := next_of_some hlen
              have HKP0 := Lib.hid hkp0
              have hpl : pre.length < L.length := by rw [← hxl]; exact x.isLt
              obtain ⟨va, vc, hve, _⟩ := owns_slice hr
              subst hve
              have HV := Lib.hid hv
              have HR := Lib.hid hr
              have HO := Lib.hid ho
              have hle := ho.size
              have hlp : pre.length ≤ 1000 := by have := HLN2.out; omega
              have cv := hv.cell
              have fv := hv.frozen
              have z0 : W.cell? ⟨zb, 0, none⟩ = some (.int .i64 (L[x.val]'x.isLt).1) := hz.cell 0 (by decide)
              have z1 : W.cell? ⟨zb, 1, none⟩ = some (.int .i64 (L[x.val]'x.isLt).2.1) := hz.cell 1 (by decide)
              have z2 : W.cell? ⟨zb, 2, none⟩ = some (.int .u8 (L[x.val]'x.isLt).2.2) := hz.cell 2 (by decide)
              clear hv hr ho hz hlen hsq2 hkp0 hxl hpl
              simp only [runV]
              gi_wp2_with (gi_at_builtin; refine wpListIn_append_one W rfl _ _ TRs rfl W5.heap.size TRun i0 _ 3 24 Try.underlying49 hi hz0 hz1 hz2 rfl (by decide) _ _ _ #[.int .i64 (L[x.val]'x.isLt).1, .int .i64 (L[x.val]'x.isLt).2.1, .int .u8 (L[x.val]'x.isLt).2.2] HR.out hle rfl rfl rfl (run_one _ _ _) hlp (by decide) ?_)
              intro v' w1 hown hg hat
              obtain ⟨hv1, ⟨hb2, hr2, ho2⟩, hkf, hkp⟩ := grow_step HV.out hteR HR.out HO.out hown hg hat
              obtain ⟨va2, vc2, hve, _⟩ := owns_slice hown
              subst hve
              have HB2 := Lib.hid hb2
              have HR2 := Lib.hid hr2
              have HO2 := Lib.hid ho2
              have HKF := Lib.hid hkf
              have HKP := Lib.hid hkp
              have cv := hv1.cell
              have fv := hv1.frozen
              clear hv1 hb2 hr2 ho2 hkf hkp hown hg hat z0 z1 z2
              gi_wp2_with (fail)
              exact ⟨HKF.out, HKP0.out.trans HKP.out, _, HB2.out, by
                rw [List.length_append, toldL_one, recV_append, recV_single]
                exact HR2.out, HO2.out⟩
            case done2 =>
              rintro D2 ys U hD2 hys hI hK2
              have hly : ys.length = L.length := by
                have := congrArg List.length hys
                simpa using this
              obtain ⟨v2, hv2, hr2, ho2⟩ := hI
              rw [toldL_all hys, hly] at hr2
              clear hly hys hsq2
              obtain ⟨vb, vd, hve⟩ := ownR_slice hr2
              subst hve
              have HBY9 := Lib.hid hv2
              have HR29 := Lib.hid hr2
              have HBX9 := Lib.hid (show Boxed U bx TRs (.slice va L.length vc) from (ho2.block bx (by have := HBX5.out.lt; omega) (by omega)).trans HBX5.out)
              have HR9 := Lib.hid (owns_only HR5.out ho2 (fun k hk e => HOB5.out k hk e))
              have HBU := Lib.hid (ho2.below HB5.out HB5.out.size (fun k hk => by have := HWBX.out; omega))
              have HDU := Lib.hid ((ho2.block D HDV5.out.2 (by have := HDV5.out.1; omega)).trans HD5.out)
              have HD2U := Lib.hid hK2
              have HDL := Lib.hid (Nat.lt_of_lt_of_le HDV5.out.2 ho2.size)
              have HDL2 := Lib.hid (Array.getElem?_eq_some_iff.1 hK2).1
              have HDD := Lib.hid (show D2 ≠ D by have := HDV5.out.2; omega)
              have HDW2 := Lib.hid (show w.heap.size ≤ D2 from Nat.le_trans HB5.out.size hD2)
              clear hv2 hr2 ho2 hK2
              have cx := HBX9.out.cell
              have cy := HBY9.out.cell
              go_wp2_with (fail)
              clear cx cy
              go_loopw [93] (fun i wr => ∃ (j q : Nat), j ≤ L.length ∧ i = .int .i64 j ∧ wr = U.drewN q) (fun i _ => L.length - (intOf i).toNat)
              case atStart => exact ⟨0, 0, Nat.zero_le _, rfl, rfl⟩
              case round =>
                obtain ⟨j, q, hj, rfl, rfl⟩ := hrel
                have hdu : Below U.heap.size U (U.drewN q) := below_drewN (Below.refl _ _) q
                by_cases hlt : j < L.length
                · have hltI : (j : Int) < (L.length : Int) := by omega
                  obtain ⟨g1, c1, e1, a0, a1, a2⟩ := ownR_at HR9.out j hlt
                  obtain ⟨g2, c2, e2, b0, b1, b2⟩ := ownR_at HR29.out j hlt
                  have cx : (U.drewN q).cell? ⟨bx, 0, none⟩ = some (.slice (some ⟨g1, 0, none⟩) L.length c1) := by rw [← e1]; exact HBX9.out.cell
                  have cy : (U.drewN q).cell? ⟨bx + 1, 0, none⟩ = some (.slice (some ⟨g2, 0, none⟩) L.length c2) := by rw [← e2]; exact HBY9.out.cell
                  obtain ⟨⟨x1, x2, x3⟩, hx⟩ : ∃ x, L[j]'hlt = x := ⟨_, rfl⟩
                  rw [hx] at a0 a1 a2 b0 b1 b2
                  dsimp only at a0 a1 a2 b0 b1 b2
                  replace a0 : (U.drewN q).cell? ⟨g1, j * 3, none⟩ = some (.int .i64 x1) := a0
                  replace a1 : (U.drewN q).cell? ⟨g1, j * 3 + 1, none⟩ = some (.int .i64 x2) := a1
                  replace a2 : (U.drewN q).cell? ⟨g1, j * 3 + 2, none⟩ = some (.int .u8 x3) := a2
                  replace b0 : (U.drewN q).cell? ⟨g2, j * 3, none⟩ = some (.int .i64 x1) := b0
                  replace b1 : (U.drewN q).cell? ⟨g2, j * 3 + 1, none⟩ = some (.int .i64 x2) := b1
                  replace b2 : (U.drewN q).cell? ⟨g2, j * 3 + 2, none⟩ = some (.int .u8 x3) := b2
                  have hjl : j ≤ 1000 := by have := HLNz.out; omega
                  have Lx := Lib.hid (show ∀ V, V = (U.drewN q).drew → (loadVar TRs ⟨bx, 0, none⟩).run Try.prog V = .ok (.slice (some ⟨g1, 0, none⟩) L.length c1) V from fun V hV => run_loadVar_cell (fun _ => by kernel_rfl) (by rw [hV]; exact cx))
                  have Ly := Lib.hid (show ∀ V, V = (U.drewN q).drew → (loadVar TRs ⟨bx + 1, 0, none⟩).run Try.prog V = .ok (.slice (some ⟨g2, 0, none⟩) L.length c2) V from fun V hV => run_loadVar_cell (fun _ => by kernel_rfl) (by rw [hV]; exact cy))
                  have La := Lib.hid (show ∀ V, V = (U.drewN q).drew → (loadVar TRun ⟨g1, j * 3, none⟩).run Try.prog V = .ok (.agg #[.int .i64 x1, .int .i64 x2, .int .u8 x3]) V from fun V hV => load_run (by rw [hV]; exact a0) (by rw [hV]; exact a1) (by rw [hV]; exact a2))
                  have Lb := Lib.hid (show ∀ V, V = (U.drewN q).drew → (loadVar TRun ⟨g2, j * 3, none⟩).run Try.prog V = .ok (.agg #[.int .i64 x1, .int .i64 x2, .int .u8 x3]) V from fun V hV => load_run (by rw [hV]; exact b0) (by rw [hV]; exact b1) (by rw [hV]; exact b2))
                  clear hx e1 e2 hdu cx cy a0 a1 a2 b0 b1 b2
                  go_wp2_with (fail)
                  refine wp_region_lex1 (fun V => V = (U.drewN q).drew) [(0, false), (1, false), (2, false), (3, false), (4, false), (5, false), (6, false), (7, false), (8, false)] (by kernel_rfl) (by kernel_rfl) rfl (by kernel_rfl) rfl ?_
                  intro V0 hV0 hK0
                  clear hK0
                  subst hV0
                  refine lexH_load rfl rfl _ _ rfl rfl Lx.out ?_
                  simp only [List.getElem_toArray, List.getElem_cons_zero, Act.put, List.setIfInBounds_toArray, List.set_cons_zero, List.set_cons_succ]
                  refine lexH_yieldE rfl rfl ?_
                  apply Exists.intro
                  refine ⟨fun W hW => ?_, ?_⟩
                  focus (go_simp; exact rfl)
                  simp only [List.getElem_toArray, List.getElem_cons_succ, List.getElem_cons_zero, Act.put, List.setIfInBounds_toArray, List.set_cons_zero, List.set_cons_succ]
                  refine lexH_yieldE rfl rfl ?_
                  apply Exists.intro
                  refine ⟨fun W hW => ?_, ?_⟩
                  focus (go_simp; exact rfl)
                  simp only [List.getElem_toArray, List.getElem_cons_succ, List.getElem_cons_zero, Act.put, List.setIfInBounds_toArray, List.set_cons_zero, List.set_cons_succ]
                  refine lexH_load rfl rfl _ _ rfl rfl La.out ?_
                  simp only [List.getElem_toArray, List.getElem_cons_succ, List.getElem_cons_zero, Act.put, List.setIfInBounds_toArray, List.set_cons_zero, List.set_cons_succ]
                  refine lexH_load rfl rfl _ _ rfl rfl Ly.out ?_
                  simp only [List.getElem_toArray, List.getElem_cons_succ, List.getElem_cons_zero, Act.put, List.setIfInBounds_toArray, List.set_cons_zero, List.set_cons_succ]
                  refine lexH_yieldE rfl rfl ?_
                  apply Exists.intro
                  refine ⟨fun W hW => ?_, ?_⟩
                  focus (go_simp; exact rfl)
                  simp only [List.getElem_toArray, List.getElem_cons_succ, List.getElem_cons_zero, Act.put, List.setIfInBounds_toArray, List.set_cons_zero, List.set_cons_succ]
                  refine lexH_yieldE rfl rfl ?_
                  apply Exists.intro
                  refine ⟨fun W hW => ?_, ?_⟩
                  focus (go_simp; exact rfl)
                  simp only [List.getElem_toArray, List.getElem_cons_succ, List.getElem_cons_zero, Act.put, List.setIfInBounds_toArray, List.set_cons_zero, List.set_cons_succ]
                  refine lexH_load rfl rfl _ _ rfl rfl Lb.out ?_
                  simp only [List.getElem_toArray, List.getElem_cons_succ, List.getElem_cons_zero, Act.put, List.setIfInBounds_toArray, List.set_cons_zero, List.set_cons_succ]
                  refine lexH_yieldE rfl rfl ?_
                  apply Exists.intro
                  refine ⟨fun W hW => ?_, ?_⟩
                  focus (go_simp; exact rfl)
                  simp only [List.getElem_toArray, List.getElem_cons_succ, List.getElem_cons_zero, Act.put, List.setIfInBounds_toArray, List.set_cons_zero, List.set_cons_succ]
                  refine lexH_nil ?_
                  clear Lx Ly La Lb
                  rw [show (U.drewN q).drew = U.drewN (q + 1) from rfl]
                  go_wp2_with (fail)
                  go_roundw
                  case rel => exact ⟨j + 1, q + 1, hlt, by go_num, rfl⟩
                  case measure => simp [intOf]; omega
                · obtain rfl : j = L.length := by omega
                  go_wp2_with (fail)
                  refine (known_any ok _).mono ?_
                  rintro e w9 ⟨rfl, hb9⟩
                  have HB9 := Lib.hid (HBU.out.trans ((hdu.trans hb9).mono HBU.out.size))
                  have HD9 := Lib.hid ((((hdu.trans hb9).block D HDL.out)).trans HDU.out)
                  have HD29 := Lib.hid ((((hdu.trans hb9).block D2 HDL2.out)).trans HD2U.out)
                  clear hb9 hdu
                  go_wp2_with (fail)
                  refine leaves_many [D2, D] w9 ?_ (fun E hE => ?_) (fun W' ho2 hs2 => ⟨.bool true, ?_, rfl, ?_⟩)
                  · simp only [List.nodup_cons, List.mem_singleton, List.not_mem_nil, not_false_eq_true, List.nodup_nil, and_true]
                    exact HDD.out
                  · rcases List.mem_cons.1 hE with rfl | hE
                    · exact HD29.out
                    · rw [List.mem_singleton] at hE
                      subst hE
                      exact HD9.out
                  · simp [results, Try.f6, go_sem]
                  · exact ho2.below HB9.out HB9.out.size (fun k hk => by
                      have h1 := HDW.out
                      have h2 := HDW2.out
                      rcases List.mem_cons.1 hk with h | h
                      · omega
                      · rw [List.mem_singleton] at h
                        omega)
          · have hEI : (mapE f p c r == 0) = false := beq_eq_false_iff_ne.2 hE
            generalize mapE f p c r = EE at *
            go_wp2_with (fail)
            refine (known_any ok _).mono ?_
            rintro e w9 ⟨rfl, hb9⟩
            have HB9 := Lib.hid (HBL1.out.trans (hb9.mono HBL1.out.size))
            have hsd : SS D := by rw [← HSS.out]; exact .inr (.inr (.inl rfl))
            have HD9 := Lib.hid (show w9.heap[D]? = some (.deferred (some [])) from (hb9.block D (Nat.lt_of_lt_of_le (HSV1.out D hsd).2 HO1.out.size)).trans ((HO1.out.block D (HSV1.out D hsd).2 (fun h => h hsd)).trans HDK.out))
            have HDW := HDV
            clear hb9
            go_wp2_with (fail)
            refine leaves_many [D] w9 (by simp) (fun E hE => ?_) (fun W' ho2 hs2 => ⟨.bool true, ?_, rfl, ?_⟩)
            · rw [List.mem_singleton] at hE
              subst hE
              exact HD9.out
            · simp [results, Try.f6, go_sem]
            · exact ho2.below HB9.out HB9.out.size (fun k hk => by
                rw [List.mem_singleton] at hk
                have := HDW.out
                omega)
  · have hlenI : 100 < (len : Int) := by omega
    go_wp2_with (fail)
    refine (known_any ok _).mono ?_
    rintro e w3 ⟨rfl, hb⟩
    have HB3 := Lib.hid (HK.out.bel.trans (hb.mono HK.out.bel.size))
    clear hb
    go_wp2_with (fail)
    refine ⟨.bool true, ?_, rfl, HB3.out⟩
    simp [results, Try.f6, go_sem]
theorem lawABack_any (a : Option Addr) (len cap : Nat) (O : Nat → OpA) (p c : Int) (r : Nat) (hr8 : Okp p r) (w : World) (hO : OpsAt w a len O) :
    Calls Try.prog 6 #[.slice a len cap, .int .i64 p, .int .i64 c, .int .u8 r] w fun e w' => e = .returned (.bool true) ∧ Below w.heap.size w w' :=
  callsIn_wide.1 (lawABack_in ok 8 (Nat.le_refl _) a len cap O p c r hr8 w hO)
end
end Go.Proofs.Ythnkbipdlepbaaa
