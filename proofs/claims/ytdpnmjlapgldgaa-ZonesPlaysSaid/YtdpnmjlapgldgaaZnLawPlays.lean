/-
  The walk of ZonesPlays: it returns true, and below the old heap nothing has turned.
-/
import Derived.Test.YtdpnmjlapgldgaaZpAt
import Derived.Test.YtdpnmjlapgldgaaM02
import Derived.Deep.DeepCutAuto
import Derived.Deep.CutBlock
namespace Go.Proofs.Ytdpnmjlapgldgaa
open Go.RowKit Go

theorem intInfoP : (Try.prog.info? 3).map (fun i => (i.zero, i.size, i.bytes)) = some (some (.int .i64 0), 1, 8) := by kernel_rfl
set_option maxRecDepth 100000 in
set_option maxHeartbeats 8000000 in
theorem lawZPlays_any (A : Array Value) (g : Nat → Int) (a : Option Addr) (len cap : Nat) (O : Nat → OpZ) (w : World) (hA : Cfg A g) (hO : OpsZ w a len O) :
    Calls Try.prog 3 #[.agg A, .slice a len cap] w fun e w' => e = .returned (.bool true) ∧ Below w.heap.size w w' := by
  obtain rfl : A = ofG g := Cfg.unique hA (cfg_ofG g)
  have C0 := CfgAt.new w hA
  have HA := Lib.hid hA
  have HO := Lib.hid hO
  have HB0 := Lib.hid ((Below.refl _ w).alloc (Nat.le_refl _) (.cells (ofG g) 26))
  have hs1 : (w.alloc (.cells (ofG g) 26)).heap.size = w.heap.size + 1 := by simp
  clear hA hO
  by_cases hm : mayB g = true
  · have HM := Lib.hid hm
    clear hm
    go_enter Try.func3, Try.ntmps3
    go_wp2_with (refine wpList_load_cfg rfl _ rfl _ rfl C0 ?_)
    have HC0 := Lib.hid C0
    clear C0
    generalize w.alloc (.cells (ofG g) 26) = w1 at *
    refine (znew6_any (ofG g) g w1 HA.out HM.out).mono ?_
    rintro e w2 ⟨Z, rfl, hZ, hb2, hall⟩
    have HZ := Lib.hid hZ
    have HLO := Lib.hid (show ∀ k, Z.all k → w.heap.size ≤ k from fun k hk => by have := hall k hk; omega)
    have HB2 := Lib.hid (HB0.out.trans (hb2.mono (by omega)))
    have C2 := HC0.out.later hb2
    have hs2 := hb2.size
    clear hZ hb2 hall HB0
    go_wp2_with (refine wpList_load_cfg rfl _ rfl _ rfl C2 ?_)
    have HC2 := Lib.hid C2
    clear C2 HC0
    refine (refmay_any (ofG g) g w2 HA.out).mono ?_
    rintro e w3 ⟨rfl, hb⟩
    rw [HM.out]
    have HZ3 := Lib.hid (HZ.out.later hb)
    have HB3 := Lib.hid (HB2.out.trans (hb.mono HB2.out.size))
    have C3 := HC2.out.later hb
    clear hb HZ HB2 HC2 hs1 hs2
    by_cases hlen : len ≤ 150
    · have hlen2 : ¬ (150 < (len : Int)) := by omega
      go_wp2_with (refine wpList_load_cfg rfl _ rfl _ rfl C3 ?_)
      clear C3
      refine (znew_any (ofG g) g w3 HA.out HM.out).mono ?_
      rintro e w4 ⟨Zr, rfl, hR, hb, hr, hro⟩
      have hbs := HB3.out.size
      have HP4 := Lib.hid (show PzAt w.heap.size Z Zr g (fun i => newL (frN g i)) (fun _ => []) (fun i => newL (frN g i)) (fun _ => []) w w4 from
        ⟨HZ3.out.later hb, hR, HB3.out.trans (hb.mono hbs), HLO.out, fun k hk => Nat.le_trans hbs (hro k hk), Nat.le_trans hbs hb.size⟩)
      clear hR hb hr hro hbs HZ3 HB3 HLO
      go_wp2_with (fail)
      refine (callsIn_wide.1 (zsame_any 5 (Nat.le_refl _) HP4.out.zn HP4.out.ref)).mono ?_
      rintro e w5 ⟨rfl, hb⟩
      have HP5 := Lib.hid (HP4.out.later hb)
      clear hb HP4
      go_wp2_with (fail)
      obtain ⟨i0, hi, hz0, hz1, hz2⟩ := info_parts intInfoP
      go_loopw [5, 57] (fun t i wr => ∃ (k : Nat) (Z : ZC) (L T : Nat → List (Int × Int)), k ≤ len ∧ t = .pointer (some ⟨Z.z, 0, none⟩) ∧ i = .int .i64 k ∧ Hid (tkLe Z.N T k) ∧ Hid (PzAt w.heap.size Z Zr g L T L T w wr)) (fun _ i _ => len - (intOf i).toNat)
      case atStart => exact ⟨0, Z, _, _, Nat.zero_le _, rfl, rfl, fun i _ => Nat.le_refl _, HP5.out⟩
      case round =>
        clear HP5
        obtain ⟨k, Z, L, T, hk, rfl, rfl, HTK, HP⟩ := hrel
        by_cases hlt : k < len
        · obtain ⟨b, o, rfl, hbl, hok, hc⟩ := HO.out.one k hlt
          obtain ⟨c0, c1, c2, c3, c4, c5⟩ := hc wr HP.out.bel
          unfold OpZ.ok at hok
          obtain ⟨hok1, hok2⟩ := hok
          have HOK := Lib.hid hok1
          have HIN := Lib.hid hok2
          have hltI : (k : Int) < (len : Int) := by omega
          clear hc hbl hok1 hok2
          generalize O k = op at c0 c1 c2 c3 c4 c5 HOK HIN
          obtain ⟨kind, node, order, floor, nds, olen, ocap, high, oz⟩ := op
          dsimp only at c0 c1 c2 c3 c4 c5 HOK HIN
          have HST := Lib.hid (store_opz wr #[.int .i64 0, .int .i64 0, .int .i64 0, .int .i64 0, .slice none 0 0, .bool false] rfl ⟨kind, node, order, floor, nds, olen, ocap, high, oz⟩)
          have hba : Below wr.heap.size wr (wr.alloc (.cells (OpZ.arr ⟨kind, node, order, floor, nds, olen, ocap, high, oz⟩) 39)) := (Below.refl _ _).alloc (Nat.le_refl _) _
          have HR := Lib.hid (opz_row wr ⟨kind, node, order, floor, nds, olen, ocap, high, oz⟩)
          have HP1 := Lib.hid (HP.out.later hba)
          clear hba HP
          unfold OpZ.arr at HST HR HP1
          dsimp only at HST HR HP1
          by_cases h50 : olen ≤ 50
          · have hn50 : ¬ (50 < (olen : Int)) := by omega
            go_upto_block 2 with (refine wpList_store_run rfl 39 _ _ rfl wr.heap.size _ _ rfl rfl HST.out ?_)
            clear c0 c1 c2 c3 c4 c5 HST HO
            generalize wr.heap.size = ob at HR ⊢
            generalize wr.alloc (.cells #[.int .i64 kind, .int .i64 node, .int .i64 order, .int .i64 floor, .slice nds olen ocap, .bool high] 39) = W at HR HP1 ⊢
            have HNN := Lib.hid HP1.out.num
            go_cut [5, 10] (fun t q wc => ∃ (Z : ZC) (L T : Nat → List (Int × Int)), t = .pointer (some ⟨Z.z, 0, none⟩) ∧ q = .bool true ∧ Hid (tkLe Z.N T (k + 1)) ∧ Hid (PzAt w.heap.size Z Zr g L T L T w wc))
            case first =>
              obtain ⟨c0, c1, c2, c3, c4, c5⟩ := opz_six HR.out
              dsimp only at c0 c1 c2 c3 c4 c5
              have HINW := Lib.hid (show IntsIn W nds olen oz from HIN.out.later HP1.out.bel)
              by_cases hk1 : kind = 1
              · subst hk1
                have L3 := Lib.hid (show ∀ V, RowAt V ob 6 (ozV ⟨1, node, order, floor, nds, olen, ocap, high, oz⟩) → (loadVar 3 ⟨ob, 3, none⟩).run Try.prog V = .ok (.int .i64 floor) V from fun V hV => run_loadVar_cell (fun _ => by kernel_rfl) (opz_six hV).2.2.2.1)
                have L4 := Lib.hid (show ∀ V, RowAt V ob 6 (ozV ⟨1, node, order, floor, nds, olen, ocap, high, oz⟩) → (loadVar 37 ⟨ob, 4, none⟩).run Try.prog V = .ok (.slice nds olen ocap) V from fun V hV => run_loadVar_cell (fun _ => by kernel_rfl) (opz_six hV).2.2.2.2.1)
                have L5 := Lib.hid (show ∀ V, RowAt V ob 6 (ozV ⟨1, node, order, floor, nds, olen, ocap, high, oz⟩) → (loadVar 4 ⟨ob, 5, none⟩).run Try.prog V = .ok (.bool high) V from fun V hV => run_loadVar_cell (fun _ => by kernel_rfl) (opz_six hV).2.2.2.2.2)
                go_wp2_with (fail)
                refine wp_region_lex1 (fun V => RowAt V ob 6 (ozV ⟨1, node, order, floor, nds, olen, ocap, high, oz⟩)) [(0, false), (2, false), (3, false), (5, false), (6, false), (7, false), (8, false), (1, true), (4, true), (9, true), (10, false), (11, false), (12, false), (13, false), (14, false)]
                  (by kernel_rfl) (by kernel_rfl) rfl (by kernel_rfl) (HR.out.later (Below.refl _ W).drew) ?_
                intro W0 hW0 hK0
                clear hK0
                have HP0 := Lib.hid (show PzAt w.heap.size Z Zr g L T L T w W0 by rw [hW0]; exact HP1.out.later (Below.refl _ W).drew)
                have HR0 := Lib.hid (show RowAt W0 ob 6 (ozV ⟨1, node, order, floor, nds, olen, ocap, high, oz⟩) by rw [hW0]; exact HR.out.later (Below.refl _ W).drew)
                have HI0 := Lib.hid (show IntsIn W0 nds olen oz by rw [hW0]; exact HINW.out.later (Below.refl _ W).drew)
                clear hW0 HP1 HR HINW c0 c1 c2 c3 c4 c5
                refine lexH_yieldE rfl rfl ?_
                apply Exists.intro
                refine ⟨fun W hW => ?_, ?_⟩
                focus (go_simp; exact rfl)
                simp only [List.getElem_toArray, List.getElem_cons_zero, Act.put, List.setIfInBounds_toArray, List.set_cons_zero, List.set_cons_succ]
                refine lexH_yieldE rfl rfl ?_
                apply Exists.intro
                refine ⟨fun W hW => ?_, ?_⟩
                focus (go_simp; exact rfl)
                simp only [List.getElem_toArray, List.getElem_cons_succ, List.getElem_cons_zero, Act.put, List.setIfInBounds_toArray, List.set_cons_zero, List.set_cons_succ]
                refine lexH_load rfl rfl _ _ rfl rfl L4.out ?_
                simp only [List.getElem_toArray, List.getElem_cons_succ, List.getElem_cons_zero, Act.put, List.setIfInBounds_toArray, List.set_cons_zero, List.set_cons_succ]
                refine lexH_yieldE rfl rfl ?_
                apply Exists.intro
                refine ⟨fun W hW => ?_, ?_⟩
                focus (go_simp; exact rfl)
                simp only [List.getElem_toArray, List.getElem_cons_succ, List.getElem_cons_zero, Act.put, List.setIfInBounds_toArray, List.set_cons_zero, List.set_cons_succ]
                refine lexH_load rfl rfl _ _ rfl rfl L3.out ?_
                simp only [List.getElem_toArray, List.getElem_cons_succ, List.getElem_cons_zero, Act.put, List.setIfInBounds_toArray, List.set_cons_zero, List.set_cons_succ]
                refine lexH_yieldE rfl rfl ?_
                apply Exists.intro
                refine ⟨fun W hW => ?_, ?_⟩
                focus (go_simp; exact rfl)
                simp only [List.getElem_toArray, List.getElem_cons_succ, List.getElem_cons_zero, Act.put, List.setIfInBounds_toArray, List.set_cons_zero, List.set_cons_succ]
                refine lexH_load rfl rfl _ _ rfl rfl L5.out ?_
                simp only [List.getElem_toArray, List.getElem_cons_succ, List.getElem_cons_zero, Act.put, List.setIfInBounds_toArray, List.set_cons_zero, List.set_cons_succ]
                refine lexH_eff rfl rfl ?_
                unfold Oper.wp
                go_simp
                have hba : Below W0.heap.size W0 (W0.alloc (.cells #[] 3)) := (Below.refl _ _).alloc (Nat.le_refl _) _
                have HB1 := Lib.hid hba
                have HR1 := Lib.hid (HR0.out.later hba)
                have HI1 := Lib.hid (HI0.out.later hba)
                have HO1 := Lib.hid (World.ownsRow_made W0 (e := 3) (base := W0.heap.size) (size := 1) #[] 0 (Nat.le_refl _) (Nat.zero_le _) (by simp))
                refine ⟨HR1.out, ?_⟩
                clear hba HR1
                generalize W0.alloc (.cells #[] 3) = W1 at HB1 HI1 HO1 ⊢
                refine lexH_append_src _ rfl rfl _ _ 37 rfl W0.heap.size 3 i0 _ 1 8 Try.underlying37 hi hz0 hz1 hz2 rfl (by decide) _ _ _ HO1.out HB1.out.size nds olen ocap (intsV oz olen) rfl rfl ?q1 HI1.out.src (intsV_one oz olen) ?q3 (by decide) ?_
                case q1 => rw [intsV_len, Nat.mul_one]
                case q3 => omega
                intro v2 W2 hown2 ho2 _
                rw [Nat.zero_add, List.nil_append] at hown2
                obtain ⟨na, ncap, rfl, hI2⟩ := IntsIn.of_owns hown2 HI1.out.bd
                have hb2 := ho2.below HB1.out HB1.out.size (fun j hj => (HO1.out.lt j hj).1)
                have HP2 := Lib.hid (HP0.out.later hb2)
                have HR2 := Lib.hid (HR0.out.later hb2)
                have HI2 := Lib.hid hI2
                have HIN2 := Lib.hid (HI0.out.later hb2)
                refine ⟨HR2.out, ?_⟩
                clear hown2 ho2 hb2 hI2 HB1 HI1 HO1 HP0 HR0 HI0
                simp only [List.getElem_toArray, List.getElem_cons_succ, List.getElem_cons_zero, Act.put, List.setIfInBounds_toArray, List.set_cons_zero, List.set_cons_succ]
                refine lexH_call 13 #[.pointer (some ⟨Z.z, 0, none⟩), .slice na olen ncap, .int .i64 floor, .bool high] rfl rfl ?_ ?_
                focus (go_simp; done)
                refine (ztake6_any HP2.out.zn na olen ncap oz (by omega) HI2.out floor high).mono ?_
                rintro e w3 ⟨rfl, hA3, ho3⟩
                have HR3 := Lib.hid (HP2.out.opN HR2.out ho3)
                have HP3 := Lib.hid (HP2.out.turn hA3 ho3)
                have HIN3 := Lib.hid (show IntsIn w3 nds olen oz from HIN.out.later HP3.out.bel)
                have HTK3 := Lib.hid (tkLe_take HTK.out HP2.out.zn.inv (nodesL oz olen) floor high)
                have HIV := Lib.hid (HP2.out.inv)
                refine ⟨_, rfl, HR3.out, ?_⟩
                clear hA3 ho3 HP2 HR2 HI2 HIN2
                simp only [List.getElem_toArray, List.getElem_cons_succ, List.getElem_cons_zero, Act.put, List.setIfInBounds_toArray, List.set_cons_zero, List.set_cons_succ]
                refine lexH_yieldE rfl rfl ?_
                apply Exists.intro
                refine ⟨fun W hW => ?_, ?_⟩
                focus (go_simp; exact rfl)
                simp only [List.getElem_toArray, List.getElem_cons_succ, List.getElem_cons_zero, Act.put, List.setIfInBounds_toArray, List.set_cons_zero, List.set_cons_succ]
                refine lexH_yieldE rfl rfl ?_
                apply Exists.intro
                refine ⟨fun W hW => ?_, ?_⟩
                focus (go_simp; exact rfl)
                simp only [List.getElem_toArray, List.getElem_cons_succ, List.getElem_cons_zero, Act.put, List.setIfInBounds_toArray, List.set_cons_zero, List.set_cons_succ]
                refine lexH_yieldE rfl rfl ?_
                apply Exists.intro
                refine ⟨fun W hW => ?_, ?_⟩
                focus (go_simp; exact rfl)
                simp only [List.getElem_toArray, List.getElem_cons_succ, List.getElem_cons_zero, Act.put, List.setIfInBounds_toArray, List.set_cons_zero, List.set_cons_succ]
                refine lexH_yieldE rfl rfl ?_
                apply Exists.intro
                refine ⟨fun W hW => ?_, ?_⟩
                focus (go_simp; exact rfl)
                simp only [List.getElem_toArray, List.getElem_cons_succ, List.getElem_cons_zero, Act.put, List.setIfInBounds_toArray, List.set_cons_zero, List.set_cons_succ]
                refine lexH_yieldE rfl rfl ?_
                apply Exists.intro
                refine ⟨fun W hW => ?_, ?_⟩
                focus (go_simp; exact rfl)
                simp only [List.getElem_toArray, List.getElem_cons_succ, List.getElem_cons_zero, Act.put, List.setIfInBounds_toArray, List.set_cons_zero, List.set_cons_succ]
                refine lexH_nil ?_
                clear L3 L4 L5
                obtain ⟨c0, c1, c2, c3, c4, c5⟩ := opz_six HR3.out
                dsimp only at c0 c1 c2 c3 c4 c5
                go_wp2_with (fail)
                refine (ztake_any HP3.out.ref HIV.out (fun i hi => Nat.le_trans (HTK.out i (by rw [← HNN.out]; exact hi)) (by omega)) nds olen ocap oz (by omega) HIN3.out floor high).mono ?_
                rintro e w4 ⟨rfl, hR4, ho4⟩
                rw [HNN.out] at hR4 ⊢
                have HP4 := Lib.hid (HP3.out.turnR hR4 ho4)
                clear hR4 ho4 c0 c1 c2 c3 c4 c5 HP3 HR3 HIN3 HIV
                generalize zTake g Z.N L T (nodesL oz olen) floor high = q at *
                obtain ⟨q1, q2, q3, q4⟩ := q
                dsimp only at HP4 HTK3
                go_wp2_with (fail)
                go_meet
                exact ⟨Z, q3, q4, rfl, rfl, HTK3, HP4⟩
              · by_cases hk2 : kind = 2
                · subst hk2
                  go_wp2_with (fail)
                  refine (ztakeof6_any HP1.out.zn node order high).mono ?_
                  rintro e w3 ⟨rfl, hA3, ho3⟩
                  have HR3 := Lib.hid (HP1.out.opN HR.out ho3)
                  have HP3 := Lib.hid (HP1.out.turn hA3 ho3)
                  have HTK3 := Lib.hid (tkLe_takeOf HTK.out HP1.out.zn.inv node order high)
                  have HIV := Lib.hid (HP1.out.inv)
                  clear hA3 ho3 c0 c1 c2 c3 c4 c5 HP1 HR HINW
                  obtain ⟨c0, c1, c2, c3, c4, c5⟩ := opz_six HR3.out
                  dsimp only at c0 c1 c2 c3 c4 c5
                  go_wp2_with (fail)
                  refine (ztakeof_any HP3.out.ref HIV.out (fun i hi => Nat.le_trans (HTK.out i (by rw [← HNN.out]; exact hi)) (by omega)) node order high).mono ?_
                  rintro e w4 ⟨rfl, hR4, ho4⟩
                  rw [HNN.out] at hR4 ⊢
                  have HP4 := Lib.hid (HP3.out.turnR hR4 ho4)
                  clear hR4 ho4 c0 c1 c2 c3 c4 c5 HP3 HR3 HIV
                  generalize zTakeOf g Z.N L T node order high = q at *
                  obtain ⟨q1, q2, q3, q4⟩ := q
                  dsimp only at HP4 HTK3
                  go_wp2_with (fail)
                  go_meet
                  exact ⟨Z, q3, q4, rfl, rfl, HTK3, HP4⟩
                · by_cases hk3 : kind = 3
                  · subst hk3
                    have L1 := Lib.hid (show ∀ V, RowAt V ob 6 (ozV ⟨3, node, order, floor, nds, olen, ocap, high, oz⟩) → (loadVar 3 ⟨ob, 1, none⟩).run Try.prog V = .ok (.int .i64 node) V from fun V hV => run_loadVar_cell (fun _ => by kernel_rfl) (opz_six hV).2.1)
                    have L2 := Lib.hid (show ∀ V, RowAt V ob 6 (ozV ⟨3, node, order, floor, nds, olen, ocap, high, oz⟩) → (loadVar 3 ⟨ob, 2, none⟩).run Try.prog V = .ok (.int .i64 order) V from fun V hV => run_loadVar_cell (fun _ => by kernel_rfl) (opz_six hV).2.2.1)
                    go_wp2_with (fail)
                    refine wp_region_lex1 (fun V => RowAt V ob 6 (ozV ⟨3, node, order, floor, nds, olen, ocap, high, oz⟩)) [(0, false), (1, false), (2, false), (3, false), (4, false), (6, false), (7, false), (8, false), (9, false), (10, false), (5, true), (11, true), (12, false), (13, false)]
                      (by kernel_rfl) (by kernel_rfl) rfl (by kernel_rfl) (HR.out.later (Below.refl _ W).drew) ?_
                    intro W0 hW0 hK0
                    clear hK0
                    have HP0 := Lib.hid (show PzAt w.heap.size Z Zr g L T L T w W0 by rw [hW0]; exact HP1.out.later (Below.refl _ W).drew)
                    have HR0 := Lib.hid (show RowAt W0 ob 6 (ozV ⟨3, node, order, floor, nds, olen, ocap, high, oz⟩) by rw [hW0]; exact HR.out.later (Below.refl _ W).drew)
                    clear hW0 HP1 HR HINW c0 c1 c2 c3 c4 c5
                    refine lexH_yieldE rfl rfl ?_
                    apply Exists.intro
                    refine ⟨fun W hW => ?_, ?_⟩
                    focus (go_simp; exact rfl)
                    simp only [List.getElem_toArray, List.getElem_cons_zero, Act.put, List.setIfInBounds_toArray, List.set_cons_zero, List.set_cons_succ]
                    refine lexH_yieldE rfl rfl ?_
                    apply Exists.intro
                    refine ⟨fun W hW => ?_, ?_⟩
                    focus (go_simp; exact rfl)
                    simp only [List.getElem_toArray, List.getElem_cons_succ, List.getElem_cons_zero, Act.put, List.setIfInBounds_toArray, List.set_cons_zero, List.set_cons_succ]
                    refine lexH_load rfl rfl _ _ rfl rfl L1.out ?_
                    simp only [List.getElem_toArray, List.getElem_cons_succ, List.getElem_cons_zero, Act.put, List.setIfInBounds_toArray, List.set_cons_zero, List.set_cons_succ]
                    refine lexH_yieldE rfl rfl ?_
                    apply Exists.intro
                    refine ⟨fun W hW => ?_, ?_⟩
                    focus (go_simp; exact rfl)
                    simp only [List.getElem_toArray, List.getElem_cons_succ, List.getElem_cons_zero, Act.put, List.setIfInBounds_toArray, List.set_cons_zero, List.set_cons_succ]
                    refine lexH_load rfl rfl _ _ rfl rfl L2.out ?_
                    simp only [List.getElem_toArray, List.getElem_cons_succ, List.getElem_cons_zero, Act.put, List.setIfInBounds_toArray, List.set_cons_zero, List.set_cons_succ]
                    refine lexH_yieldE rfl rfl ?_
                    apply Exists.intro
                    refine ⟨fun W hW => ?_, ?_⟩
                    focus (go_simp; exact rfl)
                    simp only [List.getElem_toArray, List.getElem_cons_succ, List.getElem_cons_zero, Act.put, List.setIfInBounds_toArray, List.set_cons_zero, List.set_cons_succ]
                    refine lexH_yieldE rfl rfl ?_
                    apply Exists.intro
                    refine ⟨fun W hW => ?_, ?_⟩
                    focus (go_simp; exact rfl)
                    simp only [List.getElem_toArray, List.getElem_cons_succ, List.getElem_cons_zero, Act.put, List.setIfInBounds_toArray, List.set_cons_zero, List.set_cons_succ]
                    refine lexH_load rfl rfl _ _ rfl rfl L1.out ?_
                    simp only [List.getElem_toArray, List.getElem_cons_succ, List.getElem_cons_zero, Act.put, List.setIfInBounds_toArray, List.set_cons_zero, List.set_cons_succ]
                    refine lexH_yieldE rfl rfl ?_
                    apply Exists.intro
                    refine ⟨fun W hW => ?_, ?_⟩
                    focus (go_simp; exact rfl)
                    simp only [List.getElem_toArray, List.getElem_cons_succ, List.getElem_cons_zero, Act.put, List.setIfInBounds_toArray, List.set_cons_zero, List.set_cons_succ]
                    refine lexH_load rfl rfl _ _ rfl rfl L2.out ?_
                    simp only [List.getElem_toArray, List.getElem_cons_succ, List.getElem_cons_zero, Act.put, List.setIfInBounds_toArray, List.set_cons_zero, List.set_cons_succ]
                    refine lexH_call 17 #[.pointer (some ⟨Z.z, 0, none⟩), .int .i64 node, .int .i64 order] rfl rfl ?_ ?_
                    focus (go_simp; done)
                    refine (zgive6_any HP0.out.zn node order HOK.out.2).mono ?_
                    rintro e w3 ⟨rfl, hA3, ho3⟩
                    have HR3 := Lib.hid (HP0.out.opN HR0.out ho3)
                    have HP3 := Lib.hid (HP0.out.turn hA3 ho3)
                    have HTK3 := Lib.hid ((tkLe_give (g := g) (L := L) HTK.out node order).mono (Nat.le_succ k))
                    have HIV := Lib.hid (HP0.out.inv)
                    refine ⟨_, rfl, HR3.out, ?_⟩
                    clear hA3 ho3 HP0 HR0
                    simp only [List.getElem_toArray, List.getElem_cons_succ, List.getElem_cons_zero, Act.put, List.setIfInBounds_toArray, List.set_cons_zero, List.set_cons_succ]
                    refine lexH_call 18 #[.pointer (some ⟨Zr.r, 0, none⟩), .int .i64 node, .int .i64 order] rfl rfl ?_ ?_
                    focus (go_simp; done)
                    refine (zgive_any HP3.out.ref HIV.out (fun i hi => Nat.le_trans (HTK.out i (by rw [← HNN.out]; exact hi)) (by omega)) node order).mono ?_
                    rintro e w4 ⟨rfl, hR4, ho4⟩
                    rw [HNN.out] at hR4 ⊢
                    have HP4 := Lib.hid (HP3.out.turnR hR4 ho4)
                    refine ⟨_, rfl, HP3.out.opR HR3.out ho4, ?_⟩
                    clear hR4 ho4 HP3 HR3 HIV L1 L2
                    generalize zGive g Z.N L T node order = q at *
                    obtain ⟨q1, q3, q4⟩ := q
                    dsimp only at HP4 HTK3
                    simp only [List.getElem_toArray, List.getElem_cons_succ, List.getElem_cons_zero, Act.put, List.setIfInBounds_toArray, List.set_cons_zero, List.set_cons_succ]
                    refine lexH_yieldE rfl rfl ?_
                    apply Exists.intro
                    refine ⟨fun W hW => ?_, ?_⟩
                    focus (go_simp; exact rfl)
                    simp only [List.getElem_toArray, List.getElem_cons_succ, List.getElem_cons_zero, Act.put, List.setIfInBounds_toArray, List.set_cons_zero, List.set_cons_succ]
                    refine lexH_yieldE rfl rfl ?_
                    apply Exists.intro
                    refine ⟨fun W hW => ?_, ?_⟩
                    focus (go_simp; exact rfl)
                    simp only [List.getElem_toArray, List.getElem_cons_succ, List.getElem_cons_zero, Act.put, List.setIfInBounds_toArray, List.set_cons_zero, List.set_cons_succ]
                    refine lexH_nil ?_
                    go_wp2_with (fail)
                    go_meet
                    exact ⟨Z, q3, q4, rfl, rfl, HTK3, HP4⟩
                  · by_cases hk4 : kind = 4
                    · subst hk4
                      go_wp2_with (fail)
                      refine (zcopy6_any HP1.out.zn).mono ?_
                      rintro e w3 ⟨Z2, rfl, hA2, hb, hlo⟩
                      have HR3 := Lib.hid (HR.out.later hb)
                      have HP3 := Lib.hid (HP1.out.later hb)
                      have HA2 := Lib.hid hA2
                      have HLO := Lib.hid (show (∀ q, Z2.all q → w.heap.size ≤ q) ∧ ∀ q, Z2.all q → ¬ Z.maps q from ⟨fun q hq => Nat.le_trans HP1.out.le (hlo q hq), fun q hq hm => by
                        have h1 := HP1.out.zn.lt (ZC.maps_all hm)
                        have h2 := hlo q hq
                        omega⟩)
                      have HTK2 := Lib.hid (show tkLe Z2.N T (k + 1) by
                        have e1 := hA2.num
                        have e2 := HP1.out.zn.num
                        rw [show Z2.N = Z.N by omega]
                        exact HTK.out.mono (Nat.le_succ k))
                      clear hA2 hb hlo c0 c1 c2 c3 c4 c5 HP1 HR HINW
                      obtain ⟨c0, c1, c2, c3, c4, c5⟩ := opz_six HR3.out
                      dsimp only at c0 c1 c2 c3 c4 c5
                      go_wp2_with (fail)
                      refine (ztakeof6_any HP3.out.zn 0 0 true).mono ?_
                      rintro e w4 ⟨rfl, hA4, ho4⟩
                      have HR4 := Lib.hid (HP3.out.opN HR3.out ho4)
                      have HP4 := Lib.hid (HP3.out.turn hA4 ho4)
                      have HA4 := Lib.hid (HA2.out.only ho4 HLO.out.2)
                      clear hA4 ho4 c0 c1 c2 c3 c4 c5 HP3 HR3 HA2
                      obtain ⟨c0, c1, c2, c3, c4, c5⟩ := opz_six HR4.out
                      dsimp only at c0 c1 c2 c3 c4 c5
                      go_wp2_with (fail)
                      refine (zgive6_any HP4.out.zn node order HOK.out.2).mono ?_
                      rintro e w5 ⟨rfl, hA5, ho5⟩
                      have hP5 := HP4.out.turn hA5 ho5
                      have HP5 := Lib.hid (hP5.swap (HA4.out.only ho5 HLO.out.2) HLO.out.1)
                      clear hA5 ho5 hP5 c0 c1 c2 c3 c4 c5 HP4 HR4 HA4
                      go_wp2_with (fail)
                      go_meet
                      exact ⟨Z2, L, T, rfl, rfl, HTK2, HP5⟩
                    · have e1 : (kind == 1) = false := by simpa using hk1
                      have e2 : (kind == 2) = false := by simpa using hk2
                      have e3 : (kind == 3) = false := by simpa using hk3
                      have e4 : (kind == 4) = false := by simpa using hk4
                      clear hk1 hk2 hk3 hk4
                      go_wp2_with (fail)
                      go_meet
                      exact ⟨Z, L, T, rfl, rfl, HTK.out.mono (Nat.le_succ k), HP1⟩
            case rest =>
              obtain ⟨Z', L', T', rfl, rfl, HTK', HP'⟩ := hcut
              clear HP1 HR HTK HNN
              go_wp2_with (fail)
              refine (callsIn_wide.1 (zsame_any 5 (Nat.le_refl _) HP'.out.zn HP'.out.ref)).mono ?_
              rintro e w5 ⟨rfl, hb⟩
              have HP5 := Lib.hid (HP'.out.later hb)
              clear hb HP'
              go_wp2_with (fail)
              go_roundw
              case rel => exact ⟨k + 1, Z', L', T', by omega, rfl, by go_num, HTK', HP5⟩
              case measure => simp [intOf]; omega
          · have hn50 : 50 < (olen : Int) := by omega
            go_wp2_with (refine wpList_store_run rfl 39 _ _ rfl wr.heap.size _ _ rfl rfl HST.out ?_)
            go_roundw
            case rel => exact ⟨k + 1, Z, L, T, by omega, rfl, by go_num, HTK.out.mono (Nat.le_succ k), HP1⟩
            case measure => simp [intOf]; omega
        · obtain rfl : k = len := by omega
          go_wp2_with (fail)
          refine (zknown_any _).mono ?_
          rintro e w6 ⟨rfl, hb⟩
          have HB6 := Lib.hid (HP.out.bel.trans (hb.mono HP.out.le))
          clear hb
          go_wp2_with (fail)
          go_ret
          exact ⟨rfl, HB6.out⟩
    · have hlen2 : 150 < (len : Int) := by omega
      clear C3
      go_wp2_with (fail)
      refine (zknown_any _).mono ?_
      rintro e w4 ⟨rfl, hb⟩
      have HB4 := Lib.hid (HB3.out.trans (hb.mono HB3.out.size))
      clear hb
      go_wp2_with (fail)
      go_ret
      exact ⟨rfl, HB4.out⟩
  · have HM := Lib.hid (show mayB g = false by simpa using hm)
    clear hm
    go_enter Try.func3, Try.ntmps3
    go_wp2_with (refine wpList_load_cfg rfl _ rfl _ rfl C0 ?_)
    have HC0 := Lib.hid C0
    clear C0
    generalize w.alloc (.cells (ofG g) 26) = w1 at *
    refine (znew6_no (ofG g) g w1 HA.out HM.out).mono ?_
    rintro e w2 ⟨rfl, hb⟩
    have HB := Lib.hid (HB0.out.trans (hb.mono HB0.out.size))
    have C2 := HC0.out.later hb
    clear hb
    go_wp2_with (refine wpList_load_cfg rfl _ rfl _ rfl C2 ?_)
    clear C2
    refine (refmay_any (ofG g) g w2 HA.out).mono ?_
    rintro e w3 ⟨rfl, hb⟩
    rw [HM.out]
    have HB2 := Lib.hid (HB.out.trans (hb.mono HB.out.size))
    clear hb
    go_wp2_with (fail)
    refine (zknown_any w3).mono ?_
    rintro e w4 ⟨rfl, hb⟩
    have HB3 := Lib.hid (HB2.out.trans (hb.mono HB2.out.size))
    clear hb
    go_wp2_with (fail)
    go_ret
    exact ⟨rfl, HB3.out⟩
end Go.Proofs.Ytdpnmjlapgldgaa
