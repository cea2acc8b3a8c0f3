/-
  The walk of AreasHole: it returns true, and below the old heap nothing has turned.
-/
import Derived.Test.YthnkbipdlepbaaaArHole
namespace Go.Proofs.Ythnkbipdlepbaaa
open Go.RowKit Go.Shelf Go
attribute [local go_sem] Oper.semAt_some
section
variable {IsA : Thg → Nat → (Nat → Nat) → Prop} (ok : AreasOk IsA)
include ok
set_option maxRecDepth 100000 in
set_option maxHeartbeats 8000000 in
theorem lawAHole_in (m : Nat) (hm : 8 ≤ m) (p c at' many : Int) (r o : Nat) (hr8 : Okp p r) (ho8 : o < 256) (w : World) :
    CallsIn Fence.wide m Try.prog 8 #[.int .i64 p, .int .i64 c, .int .i64 at', .int .i64 many, .int .u8 r, .int .u8 o] w fun e w' => e = .returned (.bool true) ∧ Below w.heap.size w w' := by
  have h1 : 1 ≤ m := by omega
  have HR8 := Lib.hid hr8
  have HO8 := Lib.hid ho8
  clear hr8 ho8
  refine callsIn_of_wp_marks Try.func8 rfl trivial ?_ rfl
  simp only [Try.ntmps8, List.size_toArray, List.length_cons, List.length_nil, Nat.reduceAdd, Nat.reduceSub, Array.replicate_succ, Array.replicate_zero, List.push_toArray, List.append_toArray, List.nil_append, List.cons_append]
  refine wpIn_wide.2 ?_
  have ha : Below w.heap.size w (w.alloc (.cells #[.bool false] 4)) := (Below.refl _ w).alloc (Nat.le_refl _) _
  have HRC := Lib.hid (RowAt.new w #[.bool false] 4 1 (fun _ => .bool false) (fun i hi => by
    obtain rfl : i = 0 := by omega
    rfl))
  have HB1 := Lib.hid ha
  have hs1 : (w.alloc (.cells #[.bool false] 4)).heap.size = w.heap.size + 1 := by simp
  clear ha
  go_wp2_with (fail)
  generalize w.alloc (.cells #[.bool false] 4) = w1 at *
  refine (new_ak ok w1).mono ?_
  rintro e w2 ⟨d, rfl, hK⟩
  have HK := Lib.hid hK
  clear hK
  go_wp2_with (fail)
  refine (new_p2 ok HK.out).mono ?_
  rintro e w3 ⟨d2, rfl, hP⟩
  have HP3 := Lib.hid hP
  clear hP HK
  go_wp2_with (fail)
  refine (map_p2 ok HP3.out p c r HR8.out).mono ?_
  rintro e w4 ⟨rfl, hP⟩
  have HP4 := Lib.hid hP
  clear hP HP3
  by_cases hE : mapE (fun _ => 0) p c r = 0
  · rw [hE]
    go_wp2_with (fail)
    refine (map_p2 ok HP4.out.swap p c r HR8.out).mono ?_
    rw [hE]
    rintro e w5 ⟨rfl, hP⟩
    have HP5 := Lib.hid hP.swap
    clear hP HP4
    have HRW := Lib.hid (HRC.out.later HP5.out.bel)
    have HBW := Lib.hid (HB1.out.trans (HP5.out.bel.mono HB1.out.size))
    obtain ⟨⟨q1, q2, q3, q4, q5⟩, _⟩ := map_yes hE
    by_cases b1 : p < at'
    · by_cases b2 : at' ≤ 1024
      · by_cases b3 : 1 ≤ many
        · by_cases b4 : many ≤ 1024
          · by_cases b5 : at' + many < p + c
            · by_cases b6 : o = r
              · subst b6
                clear hE
                have n5 : ¬ p + c ≤ at' + many := by omega
                go_wp2_with (fail)
                refine (known_any ok _).mono ?_
                rintro e w9 ⟨rfl, hb9⟩
                have HB9 := Lib.hid (HBW.out.trans (hb9.mono HBW.out.size))
                have hrow := HRW.out.later hb9
                have c9 := hrow.cell 0 (by decide)
                have z9 := hrow.frozen 0
                have HR9 := Lib.hid (hrow.setCell 0 (.bool true))
                have HB9 := Lib.hid (HB9.out.setCell (p := ⟨w.heap.size, 0, none⟩) (Nat.le_refl _) (.bool true))
                clear hb9 hrow
                go_wp2_with (fail)
                refine ⟨.bool true, ?_, rfl, HB9.out⟩
                have hc := HR9.out.cell 0 (by decide)
                simp [results, Try.f8, go_sem, hc, updV]
              · have b6I : ((o : Int) == (r : Int)) = false := by simp; omega
                obtain ⟨P, x, M, y, eP, eA, eM, eC, hfit, hu, hL, hthree⟩ := hole hE b1 b3 b5 b6
                have HU := Lib.hid hu
                have HH3 := Lib.hid hthree
                clear hu hthree
                obtain ⟨L, hLL⟩ : ∃ L, rns (unmA (mapA (fun _ => 0) p c r) at' many) = L := ⟨_, rfl⟩
                rw [hLL] at hL
                have HLL := Lib.hid hLL
                have HLV := Lib.hid hL
                have HL2 := Lib.hid (show L.length = 2 from by rw [hL]; rfl)
                have n1 : ¬ at' ≤ p := by omega
                have n2 : ¬ 1024 < at' := by omega
                have n3 : ¬ many < 1 := by omega
                have n4 : ¬ 1024 < many := by omega
                have n5 : ¬ p + c ≤ at' + many := by omega
                have EQ := Lib.hid (show p = P ∧ at' - p = x ∧ at' + many = ((P + x + M : Nat) : Int) ∧ p + c - at' - many = y from by omega)
                clear hE HRW HBW hLL hL eP eA eM eC
                go_wp2_with (fail)
                refine (unm_p2 ok HP5.out at' _ (show at' ≤ 9223372036854775807 by omega)).mono ?_
                rw [HU.out]
                rintro e w6 ⟨rfl, hP⟩
                obtain ⟨X, Y, hX, hA, hY, hAY, hbel, hXlo, hlo⟩ := hP
                have HX := Lib.hid hX
                have HA := Lib.hid hA
                have HY := Lib.hid hY
                have HAY := Lib.hid hAY
                have HBL6 := Lib.hid hbel
                have HLO := Lib.hid (show ∀ k, Y.has k → w.heap.size < k from fun k hk => by have := hlo k hk; omega)
                have HLX := Lib.hid (X.lt w6 hA)
                have HLY6 := Lib.hid (Y.lt w6 hAY)
                clear hX hA hY hAY hbel hXlo hlo HP5
                go_wp2_with (fail)
                obtain ⟨W0, hW0⟩ : ∃ W0, (w6.alloc (.cells #[.int .i64 p, .int .i64 (at' - p), .int .u8 r, .int .i64 (at' + many), .int .i64 (p + c - at' - many), .int .u8 r] 52)).alloc (.cells #[.int .i64 0] 3) = W0 := ⟨_, rfl⟩
                have hb0 : Below w6.heap.size w6 W0 := by rw [← hW0]; exact ((Below.refl _ _).alloc (Nat.le_refl _) _).alloc (by simp) _
                have hs0 : W0.heap.size = w6.heap.size + 2 := by rw [← hW0]; simp
                have k0 : W0.cell? ⟨w6.heap.size, 0, none⟩ = some (.int .i64 p) := by rw [← hW0]; simp [go_sem]
                have k1 : W0.cell? ⟨w6.heap.size, 1, none⟩ = some (.int .i64 (at' - p)) := by rw [← hW0]; simp [go_sem]
                have k2 : W0.cell? ⟨w6.heap.size, 2, none⟩ = some (.int .u8 r) := by rw [← hW0]; simp [go_sem]
                have k3 : W0.cell? ⟨w6.heap.size, 3, none⟩ = some (.int .i64 (at' + many)) := by rw [← hW0]; simp [go_sem]
                have k4 : W0.cell? ⟨w6.heap.size, 4, none⟩ = some (.int .i64 (p + c - at' - many)) := by rw [← hW0]; simp [go_sem]
                have k5 : W0.cell? ⟨w6.heap.size, 5, none⟩ = some (.int .u8 r) := by rw [← hW0]; simp [go_sem]
                have kn : W0.cell? ⟨w6.heap.size + 1, 0, none⟩ = some (.int .i64 0) := by rw [← hW0]; simp [go_sem]
                have kf : W0.frozen? ⟨w6.heap.size + 1, 0, none⟩ = false := by rw [← hW0]; simp [go_sem]
                rw [hW0]
                have HW0 := Lib.hid (show ∀ V, Below W0.heap.size W0 V → ∀ j (hj : j < L.length), V.cell? ⟨w6.heap.size, j * 3, none⟩ = some (.int .i64 (L[j]'hj).1) ∧ V.cell? ⟨w6.heap.size, j * 3 + 1, none⟩ = some (.int .i64 (L[j]'hj).2.1) ∧ V.cell? ⟨w6.heap.size, j * 3 + 2, none⟩ = some (.int .u8 (L[j]'hj).2.2) from fun V hV j hj => by
                  have hL := HLV.out
                  have hj2 := HL2.out
                  have hc : ∀ i v, W0.cell? ⟨w6.heap.size, i, none⟩ = some v → V.cell? ⟨w6.heap.size, i, none⟩ = some v := fun i v h => by rw [hV.cell (World.block_lt_of_cell? _ _ h)]; exact h
                  obtain ⟨e1, e2, e3, e4⟩ := EQ.out
                  rw [e1] at k0
                  rw [e2] at k1
                  rw [e3] at k3
                  rw [e4] at k4
                  subst hL
                  rcases (show j = 0 ∨ j = 1 by omega) with rfl | rfl
                  · exact ⟨hc _ _ k0, hc _ _ k1, hc _ _ k2⟩
                  · exact ⟨hc _ _ k3, hc _ _ k4, hc _ _ k5⟩)
                have HKN := Lib.hid kn
                have HKF := Lib.hid kf
                have HB0 := Lib.hid (HBL6.out.trans (hb0.mono HBL6.out.size))
                have HA0 := Lib.hid (X.later HA.out hb0)
                have HAY0 := Lib.hid (Y.later HAY.out hb0)
                have HWB := Lib.hid (show w.heap.size < w6.heap.size from by have := HBL6.out.size; omega)
                clear hW0 hb0 k0 k1 k2 k3 k4 k5 kn kf HA HAY n1 n2 n3 n4 n5
                generalize w6.heap.size = wb at *
                refine (ok.runs HX.out HA0.out).mono ?_
                rintro e W1 ⟨g0, lb0, own0, rfl, hb, _, hnil0, _, _⟩
                have HA1 := Lib.hid (X.later HA0.out hb)
                have HAY1 := Lib.hid (Y.later HAY0.out hb)
                have HB01 := Lib.hid hb
                have hs1' := hb.size
                clear hb
                go_wp2_with (fail)
                refine (ok.runs HX.out HA1.out).mono ?_
                rintro e W2 ⟨g1, lb1, own1, rfl, hb, hent1, hnil1, hown1, hT1⟩
                rw [show rns (unmA (mapA (fun _ => 0) p c r) at' many) = L from HLL.out] at hT1
                have HAY2 := Lib.hid (Y.later HAY1.out hb)
                have HB02 := Lib.hid (show Below W0.heap.size W0 W2 from HB01.out.trans (hb.mono HB01.out.size))
                have HBW2 := Lib.hid (show Below w.heap.size w W2 from (HB1.out.trans (HB0.out.mono HB1.out.size)).trans (HB02.out.mono (by have := HB1.out.size; have := HB0.out.size; omega)))
                have HRW2 := Lib.hid (HRC.out.later (HB0.out.trans (HB02.out.mono HB0.out.size)))
                have HT1 := Lib.hid hT1
                have HENT1 := Lib.hid hent1
                have HBL := Lib.hid (show wb + 2 ≤ W2.heap.size from by have := HB02.out.size; omega)
                have HLY := Lib.hid (show ∀ k, Y.has k → k < wb from HLY6.out)
                have HWANT := Lib.hid (HW0.out W2 HB02.out)
                have HN0 := Lib.hid (show CnAt W2 (wb + 1) ([] : List (Fin L.length)) W2 from
                  ⟨by rw [HB02.out.cell (World.block_lt_of_cell? _ _ HKN.out)]; exact HKN.out, by rw [HB02.out.frozen (World.block_lt_of_cell? _ _ HKN.out)]; exact HKF.out, Only.refl _ _⟩)
                have HOWN1 := Lib.hid (show ∀ k, own1 k → k < W2.heap.size ∧ ¬ k = wb + 1 from fun k hk => by
                  obtain ⟨h1, h2⟩ := hown1 k hk
                  refine ⟨h2, fun e => ?_⟩
                  rcases h1 with h1 | h1
                  · have := HLX.out k h1; omega
                  · omega)
                clear hb hent1 hown1 hT1 hnil0 hnil1 HA0 HA1 HB0 HB01 HAY0 HAY1
                go_wp2_with (fail)
                have hsq1 := HT1.out.solo (m - 1) (by omega) (fun k => k = wb + 1) (fun k hk => by have := HN0.out.only.size; have := World.block_lt_of_cell? _ _ HN0.out.cn; subst hk; exact this) HOWN1.out
                refine (wpIn_wide (n := m)).1 ?_
                refine range_oB rfl h1 (gf := g1) (lb := lb1) (by simp [go_sem]) trivial HENT1.out hsq1 KpZ.trans (fun W l o o' _ _ _ => KpZ.put W l o') (fun x => rfl) (CnAt W2 (wb + 1)) (fun _ _ _ => False) (cn_own (World.block_lt_of_cell? _ _ HN0.out.cn)) (fun _ _ _ _ _ h _ _ => h) HN0.out
                  17 (fun l U0 x zb W' => RowAt W' zb 3 (rnV (L[x.val]'x.isLt)) ∧ W2.heap.size ≤ zb ∧ KpZ (fun k => k = wb + 1) l U0 W') (fun l U0 x zb W o o' _ R hl ho => ⟨row_put o' R.1 hl ho, R.2.1, R.2.2.trans (KpZ.put _ _ _)⟩) ?assign1 ?body1 ?done1 (fun _ _ _ _ _ _ hIx _ => hIx.elim)
                case assign1 =>
                  intro l pre x V K hl hI hK
                  have HK := Lib.hid hK
                  have HI := Lib.hid hI
                  have HR := Lib.hid (run_row V (L[x.val]'x.isLt))
                  have HST := Lib.hid (store_run V (L[x.val]'x.isLt))
                  have HW := Lib.hid ((Below.refl _ V).alloc (Nat.le_refl _) (.cells #[.int .i64 (L[x.val]'x.isLt).1, .int .i64 (L[x.val]'x.isLt).2.1, .int .u8 (L[x.val]'x.isLt).2.2] TRun))
                  clear hK hI hsq1
                  unfold runV at HST
                  simp only [runV]
                  gi_wp2_with (fail)
                  have h9 := HK.out V.heap.size _ ((KeepsOthers.alloc V _).from _) (HI.out.later HW.out) ⟨HR.out, HI.out.only.size, KpZ.of_below HW.out⟩
                  simpa [runV] using h9
                case body1 =>
                  rintro l pre x zb U0 V hl hI ⟨hz, hzb, hk0⟩ hlen
                  obtain ⟨hxl, _⟩ := next_of_some hlen
                  have HK0 := Lib.hid hk0
                  have hpl : pre.length < L.length := by rw [← hxl]; exact x.isLt
                  obtain ⟨q1, hq1⟩ : ∃ q, L[pre.length]'hpl = q := ⟨_, rfl⟩
                  have hq2 : L[x.val]'x.isLt = q1 := by rw [← hq1]; exact getElem_congr_idx hxl
                  have hsz := hI.only.size
                  obtain ⟨y1, y2, y3⟩ := q1
                  rw [hq2] at hz
                  obtain ⟨k0, k1, k2⟩ := HWANT.out pre.length hpl
                  rw [hq1] at k0 k1 k2
                  dsimp only at k0 k1 k2
                  have kV : ∀ o v, W2.cell? ⟨wb, o, none⟩ = some v → V.cell? ⟨wb, o, none⟩ = some v := fun o v h => hI.only.cell (by omega) h
                  have Ln := Lib.hid (show ∀ U, U = V.drew → (loadVar 3 ⟨wb + 1, 0, none⟩).run Try.prog U = .ok (.int .i64 pre.length) U from fun U hU => run_loadVar_cell (fun _ => by kernel_rfl) (by rw [hU]; exact hI.cn))
                  have Lz := Lib.hid (show ∀ U, U = V.drew → (loadVar TRun ⟨zb, 0, none⟩).run Try.prog U = .ok (.agg #[.int .i64 y1, .int .i64 y2, .int .u8 y3]) U from fun U hU => load_run (by rw [hU]; exact hz.cell 0 (by decide)) (by rw [hU]; exact hz.cell 1 (by decide)) (by rw [hU]; exact hz.cell 2 (by decide)))
                  have Lf := Lib.hid (show ∀ U, U = V.drew → (loadVar TRun ⟨wb, pre.length * 3, none⟩).run Try.prog U = .ok (.agg #[.int .i64 y1, .int .i64 y2, .int .u8 y3]) U from fun U hU => load_run (by rw [hU]; exact kV _ _ k0) (by rw [hU]; exact kV _ _ k1) (by rw [hU]; exact kV _ _ k2))
                  have hl2 := HL2.out
                  have hd0 : decide ((2 : Int) ≤ (pre.length : Int)) = false := decide_eq_false (by omega)
                  have hd1 : decide (2 ≤ pre.length) = false := decide_eq_false (by omega)
                  have hltI : (pre.length : Int) < 2 := by omega
                  have hpb : pre.length ≤ 1024 := by omega
                  have hblw := HBL.out
                  clear k0 k1 k2 kV hl2
                  have HI := Lib.hid hI
                  have cn : V.drew.cell? ⟨wb + 1, 0, none⟩ = some (.int .i64 pre.length) := HI.out.cn
                  have fn : V.drew.frozen? ⟨wb + 1, 0, none⟩ = false := HI.out.fn
                  have HO := Lib.hid (show Only (fun k => k = wb + 1) V (V.drew.setCell ⟨wb + 1, 0, none⟩ (.int .i64 ((pre.length : Int) + 1))) from
                    (Only.of_below (Below.refl V.heap.size V).drew).trans (Only.setCell (S := fun k => k = wb + 1) _ ⟨wb + 1, 0, none⟩ rfl _))
                  have HS := Lib.hid (show CnAt W2 (wb + 1) (pre ++ [x]) (V.drew.setCell ⟨wb + 1, 0, none⟩ (.int .i64 ((pre.length : Int) + 1))) from
                    ⟨by
                      rw [World.cell?_setCell_same' _ _ _ (by rw [cn]; rfl), List.length_append]
                      rfl, by rw [World.frozen?_setCell]; exact fn, HI.out.only.trans HO.out⟩)
                  simp only [runV, hq2]
                  clear hsq1 hz hk0 hq1 hq2 hI hxl hlen
                  gi_wp2_with (fail)
                  go_simp
                  refine wpIn_region_lex1 (fun U => U = V.drew) [(0, false), (1, false), (2, false), (3, false), (4, false), (5, false), (6, false), (7, false), (8, false)]
                    (by kernel_rfl) (by kernel_rfl) (by kernel_rfl) rfl (by kernel_rfl) rfl ?_
                  intro V0 hV0 hK0
                  clear hK0
                  subst hV0
                  refine lexH_load rfl rfl _ _ rfl rfl Ln.out ?_
                  simp only [List.getElem_toArray, List.getElem_cons_zero, Act.put, List.setIfInBounds_toArray, List.set_cons_zero, List.set_cons_succ]
                  refine lexH_yieldE rfl rfl ?_
                  apply Exists.intro
                  refine ⟨fun W hW => ?_, ?_⟩
                  focus (go_simp; exact rfl)
                  simp only [List.getElem_toArray, List.getElem_cons_succ, List.getElem_cons_zero, Act.put, List.setIfInBounds_toArray, List.set_cons_zero, List.set_cons_succ]
                  refine lexH_yieldE rfl rfl ?_
                  apply Exists.intro
                  refine ⟨fun W hW => ?_, ?_⟩
                  focus (go_simp; exact rfl)
                  simp only [List.getElem_toArray, List.getElem_cons_succ, List.getElem_cons_zero, Act.put, List.setIfInBounds_toArray, List.set_cons_zero, List.set_cons_succ]
                  refine lexH_load rfl rfl _ _ rfl rfl Lz.out ?_
                  simp only [List.getElem_toArray, List.getElem_cons_succ, List.getElem_cons_zero, Act.put, List.setIfInBounds_toArray, List.set_cons_zero, List.set_cons_succ]
                  refine lexH_load rfl rfl _ _ rfl rfl Ln.out ?_
                  simp only [List.getElem_toArray, List.getElem_cons_succ, List.getElem_cons_zero, Act.put, List.setIfInBounds_toArray, List.set_cons_zero, List.set_cons_succ]
                  refine lexH_yieldE rfl rfl ?_
                  apply Exists.intro
                  refine ⟨fun W hW => ?_, ?_⟩
                  focus (go_simp; exact rfl)
                  simp only [List.getElem_toArray, List.getElem_cons_succ, List.getElem_cons_zero, Act.put, List.setIfInBounds_toArray, List.set_cons_zero, List.set_cons_succ]
                  refine lexH_load rfl rfl _ _ rfl rfl Lf.out ?_
                  simp only [List.getElem_toArray, List.getElem_cons_succ, List.getElem_cons_zero, Act.put, List.setIfInBounds_toArray, List.set_cons_zero, List.set_cons_succ]
                  refine lexH_yieldE rfl rfl ?_
                  apply Exists.intro
                  refine ⟨fun W hW => ?_, ?_⟩
                  focus (go_simp; exact rfl)
                  simp only [List.getElem_toArray, List.getElem_cons_succ, List.getElem_cons_zero, Act.put, List.setIfInBounds_toArray, List.set_cons_zero, List.set_cons_succ]
                  refine lexH_yieldE rfl rfl ?_
                  apply Exists.intro
                  refine ⟨fun W hW => ?_, ?_⟩
                  focus (go_simp; exact rfl)
                  simp only [List.getElem_toArray, List.getElem_cons_succ, List.getElem_cons_zero, Act.put, List.setIfInBounds_toArray, List.set_cons_zero, List.set_cons_succ]
                  refine lexI_nil ?_
                  clear Ln Lz Lf hd0 hd1 hltI
                  gi_wp2_with (fail)
                  exact ⟨⟨HO.out.size, fun k o hB hk hc => (HO.out.block k (Array.getElem?_eq_some_iff.1 hk).1 (by omega)).trans hk⟩, HK0.out.trans (KpZ.of_only (HO.out.mono (fun k h => h))), HS.out⟩
                case done1 =>
                  rintro D xs V hD hxs hI hDk
                  have hxl : xs.length = L.length := by
                    have := congrArg List.length hxs
                    simpa using this
                  have hcn := hI.cn
                  rw [hxl, HL2.out] at hcn
                  have HAV := Lib.hid (Y.only _ _ _ HAY2.out hI.only (fun k hk h => by have := HLY.out k hk; omega))
                  have HBV := Lib.hid (hI.only.below HBW2.out HBW2.out.size (fun k hk => by have := HWB.out; omega))
                  have HRV := Lib.hid (HRW2.out.only hI.only (by have := HWB.out; omega))
                  have HDV := Lib.hid hDk
                  have HDW := Lib.hid (show w.heap.size < D from by have := HWB.out; have := HBL.out; omega)
                  have hNYD : ¬ Y.has D := fun h => by have := HLY.out D h; have := HBL.out; omega
                  have hNYR : ¬ Y.has w.heap.size := fun h => by have := HLO.out _ h; omega
                  clear hxl hxs hI hDk hsq1
                  go_wp2_with (fail)
                  refine (ok.protect at' _ o ⟨HO8.out, show at' ≤ 9223372036854775807 by omega⟩ HY.out HAV.out).mono ?_
                  rintro e V1 ⟨Y2, rfl, hY, hT⟩
                  have HY2 := Lib.hid hY
                  have HAY3 := Lib.hid hT.at'
                  have hbl : Below w.heap.size w V1 := hT.only.below HBV.out HBV.out.size (fun k hk => by have := HLO.out k hk; omega)
                  have HP1 := Lib.hid (show Below w.heap.size w V1 ∧ RowAt V1 w.heap.size 1 (fun _ => .bool false) ∧ V1.heap[D]? = some (.deferred (some [])) from ⟨hbl, HRV.out.only hT.only hNYR, (hT.only.block D (Array.getElem?_eq_some_iff.1 HDV.out).1 hNYD).trans HDV.out⟩)
                  clear hY hT hbl hcn
                  by_cases hE : proE (mapA (fun _ => 0) p c r) at' many o = 0
                  · obtain ⟨e1, e2, e3⟩ := HH3.out hE
                    have E1 := Lib.hid e1
                    have E2 := Lib.hid e2
                    rw [hE]
                    have e3I : ((o : Int) == 0) = false := by simp; omega
                    have e3B : (o != 0) = true := by simpa using e3
                    have E3 := Lib.hid e3B
                    clear e1 e2 e3 e3B hE
                    go_wp2_with (fail)
                    refine (ok.rights _ HY2.out HAY3.out).mono ?_
                    rintro e V2 ⟨rfl, hb⟩
                    rw [E2.out, E3.out]
                    have HP2 := Lib.hid (show Below w.heap.size w V2 ∧ RowAt V2 w.heap.size 1 (fun _ => .bool false) ∧ V2.heap[D]? = some (.deferred (some [])) from ⟨HP1.out.1.trans (hb.mono HP1.out.1.size), HP1.out.2.1.later hb, (hb.block D (Array.getElem?_eq_some_iff.1 HP1.out.2.2).1).trans HP1.out.2.2⟩)
                    have HAY4 := Lib.hid (Y2.later HAY3.out hb)
                    clear hb
                    go_wp2_with (fail)
                    refine (ok.len HY2.out HAY4.out).mono ?_
                    rintro e V3 ⟨rfl, hb⟩
                    rw [E1.out]
                    have HP3 := Lib.hid (show Below w.heap.size w V3 ∧ RowAt V3 w.heap.size 1 (fun _ => .bool false) ∧ V3.heap[D]? = some (.deferred (some [])) from ⟨HP2.out.1.trans (hb.mono HP2.out.1.size), HP2.out.2.1.later hb, (hb.block D (Array.getElem?_eq_some_iff.1 HP2.out.2.2).1).trans HP2.out.2.2⟩)
                    clear hb
                    go_wp2_with (fail)
                    refine (known_any ok _).mono ?_
                    rintro e w9 ⟨rfl, hb9⟩
                    have HB9 := Lib.hid ((HP3.out).1.trans (hb9.mono (HP3.out).1.size))
                    have hrow := (HP3.out).2.1.later hb9
                    have c9 := hrow.cell 0 (by decide)
                    have z9 := hrow.frozen 0
                    have HR9 := Lib.hid (hrow.setCell 0 (.bool true))
                    have HB9 := Lib.hid (HB9.out.setCell (p := ⟨w.heap.size, 0, none⟩) (Nat.le_refl _) (.bool true))
                    have HD9 := Lib.hid ((hb9.block D (Array.getElem?_eq_some_iff.1 (HP3.out).2.2).1).trans (HP3.out).2.2)
                    clear hb9 hrow
                    go_wp2_with (fail)
                    have hDn : D ≠ w.heap.size := by have := HDW.out; omega
                    refine leaves_many [D] _ (by simp) (fun E hE => ?_) (fun W' ho2 hs2 => ⟨.bool true, ?_, rfl, ?_⟩)
                    · rw [List.mem_singleton] at hE
                      subst hE
                      rw [Below.heap_setCell _ _ _ _ hDn]
                      exact HD9.out
                    · have hc := ho2.cell (b := w.heap.size) (o := 0) (v := .bool true) (fun h => hDn (List.mem_singleton.1 h).symm) (HR9.out.cell 0 (by decide))
                      simp [results, Try.f8, go_sem, hc]
                    · exact ho2.below HB9.out HB9.out.size (fun k hk => by
                        rw [List.mem_singleton] at hk
                        have := HDW.out
                        omega)
                  · have hEI : (proE (mapA (fun _ => 0) p c r) at' many o == 0) = false := beq_eq_false_iff_ne.2 hE
                    generalize proE (mapA (fun _ => 0) p c r) at' many o = EE at *
                    go_wp2_with (fail)
                    refine (known_any ok _).mono ?_
                    rintro e w9 ⟨rfl, hb9⟩
                    have HB9 := Lib.hid ((HP1.out).1.trans (hb9.mono (HP1.out).1.size))
                    have hrow := (HP1.out).2.1.later hb9
                    have c9 := hrow.cell 0 (by decide)
                    have z9 := hrow.frozen 0
                    have HR9 := Lib.hid (hrow.setCell 0 (.bool true))
                    have HB9 := Lib.hid (HB9.out.setCell (p := ⟨w.heap.size, 0, none⟩) (Nat.le_refl _) (.bool true))
                    have HD9 := Lib.hid ((hb9.block D (Array.getElem?_eq_some_iff.1 (HP1.out).2.2).1).trans (HP1.out).2.2)
                    clear hb9 hrow
                    go_wp2_with (fail)
                    have hDn : D ≠ w.heap.size := by have := HDW.out; omega
                    refine leaves_many [D] _ (by simp) (fun E hE => ?_) (fun W' ho2 hs2 => ⟨.bool true, ?_, rfl, ?_⟩)
                    · rw [List.mem_singleton] at hE
                      subst hE
                      rw [Below.heap_setCell _ _ _ _ hDn]
                      exact HD9.out
                    · have hc := ho2.cell (b := w.heap.size) (o := 0) (v := .bool true) (fun h => hDn (List.mem_singleton.1 h).symm) (HR9.out.cell 0 (by decide))
                      simp [results, Try.f8, go_sem, hc]
                    · exact ho2.below HB9.out HB9.out.size (fun k hk => by
                        rw [List.mem_singleton] at hk
                        have := HDW.out
                        omega)
            · have n5 : p + c ≤ at' + many := by omega
              have bP : p ≤ 1024 := by omega
              go_wp2_with (fail)
              refine (known_any ok _).mono ?_
              rintro e w9 ⟨rfl, hb9⟩
              have HB9 := Lib.hid (HBW.out.trans (hb9.mono HBW.out.size))
              have hrow := HRW.out.later hb9
              have c9 := hrow.cell 0 (by decide)
              have z9 := hrow.frozen 0
              have HR9 := Lib.hid (hrow.setCell 0 (.bool true))
              have HB9 := Lib.hid (HB9.out.setCell (p := ⟨w.heap.size, 0, none⟩) (Nat.le_refl _) (.bool true))
              clear hb9 hrow
              go_wp2_with (fail)
              refine ⟨.bool true, ?_, rfl, HB9.out⟩
              have hc := HR9.out.cell 0 (by decide)
              simp [results, Try.f8, go_sem, hc, updV]
          · have n4 : 1024 < many := by omega
            go_wp2_with (fail)
            refine (known_any ok _).mono ?_
            rintro e w9 ⟨rfl, hb9⟩
            have HB9 := Lib.hid (HBW.out.trans (hb9.mono HBW.out.size))
            have hrow := HRW.out.later hb9
            have c9 := hrow.cell 0 (by decide)
            have z9 := hrow.frozen 0
            have HR9 := Lib.hid (hrow.setCell 0 (.bool true))
            have HB9 := Lib.hid (HB9.out.setCell (p := ⟨w.heap.size, 0, none⟩) (Nat.le_refl _) (.bool true))
            clear hb9 hrow
            go_wp2_with (fail)
            refine ⟨.bool true, ?_, rfl, HB9.out⟩
            have hc := HR9.out.cell 0 (by decide)
            simp [results, Try.f8, go_sem, hc, updV]
        · have n3 : many < 1 := by omega
          go_wp2_with (fail)
          refine (known_any ok _).mono ?_
          rintro e w9 ⟨rfl, hb9⟩
          have HB9 := Lib.hid (HBW.out.trans (hb9.mono HBW.out.size))
          have hrow := HRW.out.later hb9
          have c9 := hrow.cell 0 (by decide)
          have z9 := hrow.frozen 0
          have HR9 := Lib.hid (hrow.setCell 0 (.bool true))
          have HB9 := Lib.hid (HB9.out.setCell (p := ⟨w.heap.size, 0, none⟩) (Nat.le_refl _) (.bool true))
          clear hb9 hrow
          go_wp2_with (fail)
          refine ⟨.bool true, ?_, rfl, HB9.out⟩
          have hc := HR9.out.cell 0 (by decide)
          simp [results, Try.f8, go_sem, hc, updV]
      · have n2 : 1024 < at' := by omega
        go_wp2_with (fail)
        refine (known_any ok _).mono ?_
        rintro e w9 ⟨rfl, hb9⟩
        have HB9 := Lib.hid (HBW.out.trans (hb9.mono HBW.out.size))
        have hrow := HRW.out.later hb9
        have c9 := hrow.cell 0 (by decide)
        have z9 := hrow.frozen 0
        have HR9 := Lib.hid (hrow.setCell 0 (.bool true))
        have HB9 := Lib.hid (HB9.out.setCell (p := ⟨w.heap.size, 0, none⟩) (Nat.le_refl _) (.bool true))
        clear hb9 hrow
        go_wp2_with (fail)
        refine ⟨.bool true, ?_, rfl, HB9.out⟩
        have hc := HR9.out.cell 0 (by decide)
        simp [results, Try.f8, go_sem, hc, updV]
    · have n1 : at' ≤ p := by omega
      go_wp2_with (fail)
      refine (known_any ok _).mono ?_
      rintro e w9 ⟨rfl, hb9⟩
      have HB9 := Lib.hid (HBW.out.trans (hb9.mono HBW.out.size))
      have hrow := HRW.out.later hb9
      have c9 := hrow.cell 0 (by decide)
      have z9 := hrow.frozen 0
      have HR9 := Lib.hid (hrow.setCell 0 (.bool true))
      have HB9 := Lib.hid (HB9.out.setCell (p := ⟨w.heap.size, 0, none⟩) (Nat.le_refl _) (.bool true))
      clear hb9 hrow
      go_wp2_with (fail)
      refine ⟨.bool true, ?_, rfl, HB9.out⟩
      have hc := HR9.out.cell 0 (by decide)
      simp [results, Try.f8, go_sem, hc, updV]
  · have hEI : (mapE (fun _ => 0) p c r == 0) = false := beq_eq_false_iff_ne.2 hE
    have HRW := Lib.hid (HRC.out.later HP4.out.bel)
    have HBW := Lib.hid (HB1.out.trans (HP4.out.bel.mono HB1.out.size))
    generalize mapE (fun _ => 0) p c r = EE at *
    clear HP4
    go_wp2_with (fail)
    refine (known_any ok _).mono ?_
    rintro e w9 ⟨rfl, hb9⟩
    have HB9 := Lib.hid (HBW.out.trans (hb9.mono HBW.out.size))
    have hrow := HRW.out.later hb9
    have c9 := hrow.cell 0 (by decide)
    have z9 := hrow.frozen 0
    have HR9 := Lib.hid (hrow.setCell 0 (.bool true))
    have HB9 := Lib.hid (HB9.out.setCell (p := ⟨w.heap.size, 0, none⟩) (Nat.le_refl _) (.bool true))
    clear hb9 hrow
    go_wp2_with (fail)
    refine ⟨.bool true, ?_, rfl, HB9.out⟩
    have hc := HR9.out.cell 0 (by decide)
    simp [results, Try.f8, go_sem, hc, updV]
theorem lawAHole_any (p c at' many : Int) (r o : Nat) (hr8 : Okp p r) (ho8 : o < 256) (w : World) :
    Calls Try.prog 8 #[.int .i64 p, .int .i64 c, .int .i64 at', .int .i64 many, .int .u8 r, .int .u8 o] w fun e w' => e = .returned (.bool true) ∧ Below w.heap.size w w' :=
  callsIn_wide.1 (lawAHole_in ok 8 (Nat.le_refl _) p c at' many r o hr8 ho8 w)
end
end Go.Proofs.Ythnkbipdlepbaaa
