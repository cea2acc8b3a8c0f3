/-
  The walk of CachePlays: it returns true, and below the old heap nothing has turned.
-/
import Derived.Test.YtlimbcpghfddkaaCaPo
import Derived.Test.YtlimbcpghfddkaaCaSame
import Derived.Test.YtlimbcpghfddkaaAppAt
import Derived.Test.YtlimbcpghfddkaaLexApp
import Derived.Deep.DeepCutAuto
import Derived.Deep.CutBlock
namespace Go.Proofs.Ytlimbcpghfddkaa
open Go.RowKit Go Go.Maps

set_option maxRecDepth 100000 in
set_option maxHeartbeats 32000000 in
theorem lawKPlays_any (size : Int) (la : Option Addr) (len cap : Nat) (O : Nat → OpA) (w : World) (hO : OpsA w la len O) :
    Calls Try.prog 3 #[.int .i64 size, .slice la len cap] w fun e w' => e = .returned (.bool true) ∧ Below w.heap.size w w' := by
  have HO := Lib.hid hO
  clear hO
  by_cases hlen : len ≤ 150
  · have hlenI : ¬ 150 < (len : Int) := by omega
    cases hm : mayC size 0 with
    | false =>
      have HN := Lib.hid (knew_no size w hm)
      have HM := Lib.hid hm
      clear hm
      go_enter Try.func3, Try.ntmps3
      go_wp2_with (fail)
      refine HN.out.mono ?_
      rintro e w1 ⟨rfl, hb⟩
      have HB := Lib.hid hb
      clear hb HN
      go_wp2_with (fail)
      refine (dnew_no size w1 HM.out).mono ?_
      rintro e w2 ⟨rfl, rfl⟩
      go_wp2_with (fail)
      refine (kknown_any w1).mono ?_
      rintro e w3 ⟨rfl, hb⟩
      have HB2 := Lib.hid (HB.out.trans (hb.mono HB.out.size))
      clear hb HB
      go_wp2_with (fail)
      go_ret
      exact ⟨rfl, HB2.out⟩
    | true =>
      have hm' := hm
      unfold mayC at hm'
      obtain ⟨m1, m2, m3, m4, m5, m6⟩ := of_decide_eq_true hm'
      obtain ⟨sz, rfl⟩ : ∃ sz : Nat, size = sz := ⟨size.toNat, by omega⟩
      have HM := Lib.hid hm
      have HN := Lib.hid (knew_any sz w hm)
      clear hm hm' m1 m2 m3 m4 m5 m6
      obtain ⟨i0, hi, hz0, hz1, hz2⟩ := info_parts infoBytes
      go_enter Try.func3, Try.ntmps3
      go_wp2_with (fail)
      refine HN.out.mono ?_
      intro e1 w1 h
      obtain ⟨K0, rfl, hK, _⟩ := KAt.of_new (Below.refl w.heap.size w) (Nat.le_refl _) h
      have HK0 := Lib.hid hK
      clear hK h HN
      go_wp2_with (fail)
      refine (dnew_any sz w1 HM.out).mono ?_
      rintro e2 w2 ⟨D0, rfl, hD, hb, hn⟩
      have HP0 := Lib.hid (PlC.first HK0.out hD hb hn)
      clear hD hb hn HK0
      go_wp2_with (fail)
      go_loopw [51, 9, 10] (fun i x y wr => ∃ (k : Nat) (K : KC) (D : DC) (A : Ca) (R : List Rc) (u v : Value), k ≤ len ∧ i = .int .i64 k ∧ u = x ∧ v = y ∧ K.c = K0.c ∧ D.d = D0.d ∧ R.length ≤ k ∧ Hid (PlC w.heap.size w K D A u v R R R wr)) (fun i _ _ _ => len - (intOf i).toNat)
      case atStart => exact ⟨0, K0, D0, _, [], _, _, Nat.zero_le _, rfl, rfl, rfl, rfl, rfl, Nat.le_refl _, HP0⟩
      case round =>
        clear HP0
        obtain ⟨k, K, D, A, R, u, v, hk, rfl, rfl, rfl, hKc, hDd, hRk, HP⟩ := hrel
        by_cases hlt : k < len
        · obtain ⟨b, o, rfl, hbl, hfr, hix, hc⟩ := HO.out.one k hlt
          obtain ⟨q0, q1, q2, q3, q4⟩ := hc wr HP.out.ends
          have hltI : (k : Int) < (len : Int) := by omega
          have hwf0 := int_wfK hfr.1 hfr.2
          have HLT := Lib.hid hlt
          clear hc hbl hfr hix hlt
          generalize O k = op at q0 q1 q2 q3 q4 hwf0
          obtain ⟨kind, fr, ix, fill, short⟩ := op
          dsimp only at q0 q1 q2 q3 q4 hwf0
          have hwf := Lib.hid hwf0
          have HST := Lib.hid (store_opa wr #[.int .i64 0, .int .i64 0, .int .i64 0, .int .u8 0, .bool false] rfl ⟨kind, fr, ix, fill, short⟩)
          have hba : Below wr.heap.size wr (wr.alloc (.cells (OpA.arr ⟨kind, fr, ix, fill, short⟩) 33)) := (Below.refl _ _).alloc (Nat.le_refl _) _
          have HR := Lib.hid (opa_row wr ⟨kind, fr, ix, fill, short⟩)
          have HP1 := Lib.hid (HP.out.later hba)
          have hkob := Lib.hid (show ∀ j, K.all A.L j → j < wr.heap.size from HP.out.k.at_.lt)
          have hdob := Lib.hid (show ∀ j, D.all A.L j → j < wr.heap.size from HP.out.d.lt)
          have HAL := Lib.hid (show A.L.length ≤ 150 by have := HP.out.len; omega)
          clear hba HP hwf0
          unfold OpA.arr at HST HR HP1
          dsimp only at HST HR HP1
          go_upto_block 2 with (refine wpList_store_run rfl 33 _ _ rfl wr.heap.size _ _ rfl rfl HST.out ?_)
          clear q0 q1 q2 q3 q4 HST HO
          generalize wr.heap.size = ob at HR hkob hdob ⊢
          generalize wr.alloc (.cells #[.int .i64 kind, .int .i64 fr, .int .i64 ix, .int .u8 (fill.toNat : Nat), .bool short] 33) = W at HR HP1 ⊢
          go_cut [9, 10] (fun x y wc => ∃ (K : KC) (D : DC) (A : Ca) (R : List Rc) (u v : Value), u = x ∧ v = y ∧ K.c = K0.c ∧ D.d = D0.d ∧ R.length ≤ k + 1 ∧ Hid (PlC w.heap.size w K D A u v R R R wc))
          case first =>
            obtain ⟨q0, q1, q2, q3, q4⟩ := opa_five HR.out
            dsimp only at q0 q1 q2 q3 q4
            by_cases hk0 : kind = 0
            -- [SCAN
            · as_aux_lemma =>
                subst hk0
                have LO := Lib.hid (show ∀ V, RowAt V ob 5 (oaV ⟨0, fr, ix, fill, short⟩) → (loadVar 33 ⟨ob, 0, none⟩).run Try.prog V = .ok (.agg (OpA.arr ⟨0, fr, ix, fill, short⟩)) V from fun V hV => load_opa hV)
                have L1 := Lib.hid (show ∀ V, RowAt V ob 5 (oaV ⟨0, fr, ix, fill, short⟩) → (loadVar 3 ⟨ob, 1, none⟩).run Try.prog V = .ok (.int .i64 fr) V from fun V hV => run_loadVar_cell (fun _ => by kernel_rfl) (opa_five hV).2.1)
                go_wp2_with (fail)
                refine wp_region_lex1 (fun V => RowAt V ob 5 (oaV ⟨0, fr, ix, fill, short⟩)) [(0, false), (2, false), (1, true), (3, true), (4, false), (5, false)]
                  (by kernel_rfl) (by kernel_rfl) rfl (by kernel_rfl) (HR.out.later (Below.refl _ W).drew) ?_
                intro W0 hW0 hK0
                clear hK0
                have HP0 := Lib.hid (show PlC w.heap.size w K D A u v R R R W0 by rw [hW0]; exact HP1.out.later (Below.refl _ W).drew)
                have HR0 := Lib.hid (show RowAt W0 ob 5 (oaV ⟨0, fr, ix, fill, short⟩) by rw [hW0]; exact HR.out.later (Below.refl _ W).drew)
                have hs0 : W.heap.size ≤ W0.heap.size := by rw [hW0]; exact (Below.refl W.heap.size W).drew.size
                have HROB := Lib.hid (show ob < W.heap.size from HR.out.lt)
                clear hW0 HR q0 q1 q2 q3 q4
                refine lexH_load rfl rfl _ _ rfl rfl LO.out ?_
                simp only [List.getElem_toArray, List.getElem_cons_zero, Act.put, List.setIfInBounds_toArray, List.set_cons_zero, List.set_cons_succ]
                refine lexH_load rfl rfl _ _ rfl rfl LO.out ?_
                simp only [List.getElem_toArray, List.getElem_cons_succ, List.getElem_cons_zero, Act.put, List.setIfInBounds_toArray, List.set_cons_zero, List.set_cons_succ]
                refine lexH_call 12 #[.agg (OpA.arr ⟨0, fr, ix, fill, short⟩)] rfl rfl ?_ ?_
                focus (go_simp; done)
                refine (bytes_any ⟨0, fr, ix, fill, short⟩ W0).mono ?_
                rintro e W1 ⟨ba, rfl, hba, hra, hb⟩
                have HP2 := Lib.hid (HP0.out.later hb)
                have HR2 := Lib.hid (HR0.out.later hb)
                have HA2 := Lib.hid hra
                have HBa := Lib.hid (show W0.heap.size ≤ ba ∧ ba < W1.heap.size ∧ Below W0.heap.size W0 W1 from ⟨hba, hra.lt, hb⟩)
                refine ⟨_, rfl, HR2.out, ?_⟩
                clear hba hra hb HR0
                simp only [List.getElem_toArray, List.getElem_cons_succ, List.getElem_cons_zero, Act.put, List.setIfInBounds_toArray, List.set_cons_zero, List.set_cons_succ]
                refine lexH_call 12 #[.agg (OpA.arr ⟨0, fr, ix, fill, short⟩)] rfl rfl ?_ ?_
                focus (go_simp; done)
                refine (bytes_any ⟨0, fr, ix, fill, short⟩ W1).mono ?_
                rintro e W2 ⟨bb, rfl, hbb, hrb, hb⟩
                have HP3 := Lib.hid (HP2.out.later hb)
                have HR3 := Lib.hid (HR2.out.later hb)
                obtain ⟨nn, hnn⟩ : ∃ nn, OpA.n ⟨0, fr, ix, fill, short⟩ = nn := ⟨_, rfl⟩
                have HNR := Lib.hid (show NewR w.heap.size K D A u v R W2 (fun _ => fill) ⟨ba, bb, nn⟩ from by
                  have h0 := HBa.out
                  have h1 := HA2.out.later hb
                  have h2 := hrb
                  rw [hnn] at h1 h2
                  refine HP0.out.fresh (r := ⟨ba, bb, nn⟩) h1 h2 (show ba ≠ bb by omega) (fun j hj => ?_)
                  have hs := HBa.out.2.2.size
                  rcases hj with rfl | rfl
                  · exact h0.1
                  · exact Nat.le_trans hs hbb)
                have HOF := Lib.hid (show ob < ba ∧ ob < bb from by
                  have h0 := HBa.out
                  exact ⟨Nat.lt_of_lt_of_le HROB.out (Nat.le_trans hs0 h0.1), Nat.lt_of_lt_of_le HROB.out (Nat.le_trans hs0 (Nat.le_trans h0.2.2.size hbb))⟩)
                refine ⟨_, rfl, HR3.out, ?_⟩
                clear hbb hrb hb HR2 HA2 HBa HP2 HP1 hs0 HP0 LO HROB
                simp only [List.getElem_toArray, List.getElem_cons_succ, List.getElem_cons_zero, Act.put, List.setIfInBounds_toArray, List.set_cons_zero, List.set_cons_succ]
                rw [hnn]
                clear hnn
                refine lexH_yieldE rfl rfl ?_
                apply Exists.intro
                refine ⟨fun W hW => ?_, ?_⟩
                focus (go_simp; exact rfl)
                simp only [List.getElem_toArray, List.getElem_cons_succ, List.getElem_cons_zero, Act.put, List.setIfInBounds_toArray, List.set_cons_zero, List.set_cons_succ]
                refine lexH_yieldE rfl rfl ?_
                apply Exists.intro
                refine ⟨fun W hW => ?_, ?_⟩
                focus (go_simp; exact rfl)
                simp only [List.getElem_toArray, List.getElem_cons_succ, List.getElem_cons_zero, Act.put, List.setIfInBounds_toArray, List.set_cons_zero, List.set_cons_succ]
                refine lexH_nil ?_
                go_wp2_with (fail)
                refine wp_region_lex1 (fun V => RowAt V ob 5 (oaV ⟨0, fr, ix, fill, short⟩)) [(0, false), (1, false), (2, false), (3, false), (5, false), (6, false), (7, false), (8, false), (4, true), (9, true), (10, false)]
                  (by kernel_rfl) (by kernel_rfl) rfl (by kernel_rfl) (HR3.out.later (Below.refl _ W2).drew) ?_
                intro W3 hW3 hK3
                clear hK3
                have HP4 := Lib.hid (show PlC w.heap.size w K D A u v R R R W3 by rw [hW3]; exact HP3.out.later (Below.refl _ W2).drew)
                have HR4 := Lib.hid (show RowAt W3 ob 5 (oaV ⟨0, fr, ix, fill, short⟩) by rw [hW3]; exact HR3.out.later (Below.refl _ W2).drew)
                have HN4 := Lib.hid (show NewR w.heap.size K D A u v R W3 (fun _ => fill) ⟨ba, bb, nn⟩ by rw [hW3]; exact HNR.out.later (Below.refl _ W2).drew)
                clear hW3 HP3 HR3 HNR
                refine lexH_yieldE rfl rfl ?_
                apply Exists.intro
                refine ⟨fun W hW => ?_, ?_⟩
                focus (go_simp; exact rfl)
                simp only [List.getElem_toArray, List.getElem_cons_zero, Act.put, List.setIfInBounds_toArray, List.set_cons_zero, List.set_cons_succ]
                refine lexH_yieldE rfl rfl ?_
                apply Exists.intro
                refine ⟨fun W hW => ?_, ?_⟩
                focus (go_simp; exact rfl)
                simp only [List.getElem_toArray, List.getElem_cons_succ, List.getElem_cons_zero, Act.put, List.setIfInBounds_toArray, List.set_cons_zero, List.set_cons_succ]
                refine lexH_load rfl rfl _ _ rfl rfl L1.out ?_
                simp only [List.getElem_toArray, List.getElem_cons_succ, List.getElem_cons_zero, Act.put, List.setIfInBounds_toArray, List.set_cons_zero, List.set_cons_succ]
                refine lexH_yieldE rfl rfl ?_
                apply Exists.intro
                refine ⟨fun W hW => ?_, ?_⟩
                focus (go_simp; exact rfl)
                simp only [List.getElem_toArray, List.getElem_cons_succ, List.getElem_cons_zero, Act.put, List.setIfInBounds_toArray, List.set_cons_zero, List.set_cons_succ]
                refine lexH_yieldE rfl rfl ?_
                apply Exists.intro
                refine ⟨fun W hW => ?_, ?_⟩
                focus (go_simp; exact rfl)
                simp only [List.getElem_toArray, List.getElem_cons_succ, List.getElem_cons_zero, Act.put, List.setIfInBounds_toArray, List.set_cons_zero, List.set_cons_succ]
                refine lexH_yieldE rfl rfl ?_
                apply Exists.intro
                refine ⟨fun W hW => ?_, ?_⟩
                focus (go_simp; exact rfl)
                simp only [List.getElem_toArray, List.getElem_cons_succ, List.getElem_cons_zero, Act.put, List.setIfInBounds_toArray, List.set_cons_zero, List.set_cons_succ]
                refine lexH_load rfl rfl _ _ rfl rfl L1.out ?_
                simp only [List.getElem_toArray, List.getElem_cons_succ, List.getElem_cons_zero, Act.put, List.setIfInBounds_toArray, List.set_cons_zero, List.set_cons_succ]
                refine lexH_yieldE rfl rfl ?_
                apply Exists.intro
                refine ⟨fun W hW => ?_, ?_⟩
                focus (go_simp; exact rfl)
                simp only [List.getElem_toArray, List.getElem_cons_succ, List.getElem_cons_zero, Act.put, List.setIfInBounds_toArray, List.set_cons_zero, List.set_cons_succ]
                refine lexH_call 13 #[.pointer (some ⟨K0.c, 0, none⟩), .int .i64 fr, .slice (some ⟨ba, 0, none⟩) nn nn] rfl rfl ?_ ?_
                focus (go_simp; done)
                have hcc := HP4.out.addK HN4.out hwf.out (Nat.le_trans HAL.out (by decide)) nn rfl
                rw [hKc] at hcc
                have HCC := Lib.hid hcc
                clear hcc
                refine HCC.out.mono ?_
                clear HCC
                rintro e W4 ⟨q, K', rfl, hA⟩
                have HR5 := Lib.hid (HR4.out.only hA.only (fun h => h.elim (fun h => Nat.lt_irrefl _ (hkob.out _ h)) (fun h => Nat.ne_of_lt HOF.out.1 h)))
                have HA5 := Lib.hid hA
                have HKc5 := hA.c.trans hKc
                refine ⟨_, rfl, HR5.out, ?_⟩
                clear hA HR4
                simp only [List.getElem_toArray, List.getElem_cons_succ, List.getElem_cons_zero, Act.put, List.setIfInBounds_toArray, List.set_cons_zero, List.set_cons_succ]
                refine lexH_call 14 #[.pointer (some ⟨D0.d, 0, none⟩), .int .i64 fr, .slice (some ⟨bb, 0, none⟩) nn nn] rfl rfl ?_ ?_
                focus (go_simp; done)
                have hcc := HP4.out.addD HN4.out HA5.out (Nat.le_trans HAL.out (by decide)) nn rfl
                rw [hDd] at hcc
                have HCC := Lib.hid hcc
                clear hcc
                refine HCC.out.mono ?_
                clear HCC
                rintro e W5 ⟨rfl, D', A', hDd', ho, hP⟩
                have HR6 := Lib.hid (HR5.out.only ho (fun h => h.elim (fun h => Nat.lt_irrefl _ (hdob.out _ h)) (fun h => Nat.ne_of_lt HOF.out.2 h)))
                have HP6 := Lib.hid hP
                have HDd6 := hDd'
                refine ⟨_, rfl, HR6.out, ?_⟩
                clear ho hP HR5 HA5 HP4 HN4 L1
                simp only [List.getElem_toArray, List.getElem_cons_succ, List.getElem_cons_zero, Act.put, List.setIfInBounds_toArray, List.set_cons_zero, List.set_cons_succ]
                refine lexH_yieldE rfl rfl ?_
                apply Exists.intro
                refine ⟨fun W hW => ?_, ?_⟩
                focus (go_simp; exact rfl)
                simp only [List.getElem_toArray, List.getElem_cons_succ, List.getElem_cons_zero, Act.put, List.setIfInBounds_toArray, List.set_cons_zero, List.set_cons_succ]
                refine lexH_nil ?_
                have hR150 : R.length ≤ 149 := by have := HLT.out; omega
                clear HR6 HOF
                go_wp2_with (first | (at_builtin; refine wpList_append_where _ rfl _ _ 31 rfl w.heap.size 34 i0 _ 1 24 Try.underlying31 hi hz0 hz1 hz2 rfl (by decide) u R.length (R.map rcA) #[rcA ⟨ba, bb, nn⟩] HP6.out.ou HP6.out.le rfl rfl rfl (by intro x hx; rw [List.mem_singleton.1 hx]; rfl) (by omega) (by decide) ?_; intro u' W6 hown ho hw; have HP7 := Lib.hid (HP6.out.appU hown ho hw); clear hown ho hw HP6) | (at_builtin; refine wpList_append_where _ rfl _ _ 31 rfl w.heap.size 34 i0 _ 1 24 Try.underlying31 hi hz0 hz1 hz2 rfl (by decide) v R.length (R.map rcB) #[rcB ⟨ba, bb, nn⟩] HP7.out.ov HP7.out.le rfl rfl rfl (by intro x hx; rw [List.mem_singleton.1 hx]; rfl) (by omega) (by decide) ?_; intro v' W7 hown ho hw; have HP8 := Lib.hid (HP7.out.appV hown ho hw); clear hown ho hw HP7) | fail)
                go_meet
                exact ⟨K', D', A', R ++ [⟨ba, bb, nn⟩], _, _, rfl, rfl, HKc5, HDd6, by rw [List.length_append]; exact Nat.succ_le_succ hRk, HP8⟩
            -- SCAN]
            by_cases hk1 : kind = 1
            -- [SCAN
            · as_aux_lemma =>
                subst hk1
                clear q1 q2 q3 q4
                go_wp2_with (fail)
                have hcc := ktake_any HP1.out.k.at_ (Nat.le_trans HAL.out (by decide))
                rw [hKc] at hcc
                have HCC := Lib.hid hcc
                clear hcc
                refine HCC.out.mono ?_
                clear HCC
                rintro e W3 ⟨rfl, K', T⟩
                have HT := Lib.hid T
                clear T q0 HR
                go_wp2_with (fail)
                have hcc := dtake_any (HP1.out.doc HT.out (fun _ h => h.elim)) (Nat.le_trans HAL.out (by decide))
                rw [hDd] at hcc
                have HCC := Lib.hid hcc
                clear hcc
                refine HCC.out.mono ?_
                clear HCC
                rintro e W4 ⟨rfl, D', U⟩
                have HP4 := Lib.hid (HP1.out.take HT.out U)
                have hKc' := HT.out.c.trans hKc
                have hDd' := U.d.trans hDd
                clear HP1 HT U
                generalize A.take = q at *
                obtain ⟨e1, e2, e3, A'⟩ := q
                dsimp only at HP4
                go_wp2_with (fail)
                go_meet
                exact ⟨K', D', A', R, _, _, rfl, rfl, hKc', hDd', Nat.le_succ_of_le hRk, HP4⟩
            -- SCAN]
            by_cases hk2 : kind = 2
            -- [SCAN
            · as_aux_lemma =>
                subst hk2
                have L1 := Lib.hid (show ∀ V, RowAt V ob 5 (oaV ⟨2, fr, ix, fill, short⟩) → (loadVar 3 ⟨ob, 1, none⟩).run Try.prog V = .ok (.int .i64 fr) V from fun V hV => run_loadVar_cell (fun _ => by kernel_rfl) (opa_five hV).2.1)
                have L2 := Lib.hid (show ∀ V, RowAt V ob 5 (oaV ⟨2, fr, ix, fill, short⟩) → (loadVar 3 ⟨ob, 2, none⟩).run Try.prog V = .ok (.int .i64 ix) V from fun V hV => run_loadVar_cell (fun _ => by kernel_rfl) (opa_five hV).2.2.1)
                go_wp2_with (fail)
                refine wp_region_lex1 (fun V => RowAt V ob 5 (oaV ⟨2, fr, ix, fill, short⟩)) [(0, false), (1, false), (2, false), (3, false), (4, false), (6, false), (7, false), (8, false), (9, false), (10, false), (5, true), (11, true), (12, false)]
                  (by kernel_rfl) (by kernel_rfl) rfl (by kernel_rfl) (HR.out.later (Below.refl _ W).drew) ?_
                intro W0 hW0 hK0
                clear hK0
                have HP0 := Lib.hid (show PlC w.heap.size w K D A u v R R R W0 by rw [hW0]; exact HP1.out.later (Below.refl _ W).drew)
                have HR0 := Lib.hid (show RowAt W0 ob 5 (oaV ⟨2, fr, ix, fill, short⟩) by rw [hW0]; exact HR.out.later (Below.refl _ W).drew)
                clear hW0 HP1 HR q0 q1 q2 q3 q4
                refine lexH_yieldE rfl rfl ?_
                apply Exists.intro
                refine ⟨fun W hW => ?_, ?_⟩
                focus (go_simp; exact rfl)
                simp only [List.getElem_toArray, List.getElem_cons_zero, Act.put, List.setIfInBounds_toArray, List.set_cons_zero, List.set_cons_succ]
                refine lexH_yieldE rfl rfl ?_
                apply Exists.intro
                refine ⟨fun W hW => ?_, ?_⟩
                focus (go_simp; exact rfl)
                simp only [List.getElem_toArray, List.getElem_cons_succ, List.getElem_cons_zero, Act.put, List.setIfInBounds_toArray, List.set_cons_zero, List.set_cons_succ]
                refine lexH_load rfl rfl _ _ rfl rfl L1.out ?_
                simp only [List.getElem_toArray, List.getElem_cons_succ, List.getElem_cons_zero, Act.put, List.setIfInBounds_toArray, List.set_cons_zero, List.set_cons_succ]
                refine lexH_yieldE rfl rfl ?_
                apply Exists.intro
                refine ⟨fun W hW => ?_, ?_⟩
                focus (go_simp; exact rfl)
                simp only [List.getElem_toArray, List.getElem_cons_succ, List.getElem_cons_zero, Act.put, List.setIfInBounds_toArray, List.set_cons_zero, List.set_cons_succ]
                refine lexH_load rfl rfl _ _ rfl rfl L2.out ?_
                simp only [List.getElem_toArray, List.getElem_cons_succ, List.getElem_cons_zero, Act.put, List.setIfInBounds_toArray, List.set_cons_zero, List.set_cons_succ]
                refine lexH_yieldE rfl rfl ?_
                apply Exists.intro
                refine ⟨fun W hW => ?_, ?_⟩
                focus (go_simp; exact rfl)
                simp only [List.getElem_toArray, List.getElem_cons_succ, List.getElem_cons_zero, Act.put, List.setIfInBounds_toArray, List.set_cons_zero, List.set_cons_succ]
                refine lexH_yieldE rfl rfl ?_
                apply Exists.intro
                refine ⟨fun W hW => ?_, ?_⟩
                focus (go_simp; exact rfl)
                simp only [List.getElem_toArray, List.getElem_cons_succ, List.getElem_cons_zero, Act.put, List.setIfInBounds_toArray, List.set_cons_zero, List.set_cons_succ]
                refine lexH_load rfl rfl _ _ rfl rfl L1.out ?_
                simp only [List.getElem_toArray, List.getElem_cons_succ, List.getElem_cons_zero, Act.put, List.setIfInBounds_toArray, List.set_cons_zero, List.set_cons_succ]
                refine lexH_yieldE rfl rfl ?_
                apply Exists.intro
                refine ⟨fun W hW => ?_, ?_⟩
                focus (go_simp; exact rfl)
                simp only [List.getElem_toArray, List.getElem_cons_succ, List.getElem_cons_zero, Act.put, List.setIfInBounds_toArray, List.set_cons_zero, List.set_cons_succ]
                refine lexH_load rfl rfl _ _ rfl rfl L2.out ?_
                simp only [List.getElem_toArray, List.getElem_cons_succ, List.getElem_cons_zero, Act.put, List.setIfInBounds_toArray, List.set_cons_zero, List.set_cons_succ]
                refine lexH_call 17 #[.pointer (some ⟨K0.c, 0, none⟩), .int .i64 fr, .int .i64 ix] rfl rfl ?_ ?_
                focus (go_simp; done)
                have hcc := kgive_any HP0.out.k.at_ fr ix hwf.out
                rw [hKc] at hcc
                have HCC := Lib.hid hcc
                clear hcc
                refine HCC.out.mono ?_
                clear HCC
                rintro e W3 ⟨rfl, K', T⟩
                have HR3 := Lib.hid (HR0.out.only T.only (fun h => h.elim (fun h => Nat.lt_irrefl _ (hkob.out _ h)) (fun h => h.elim)))
                have HT := Lib.hid T
                refine ⟨_, rfl, HR3.out, ?_⟩
                clear T HR0
                simp only [List.getElem_toArray, List.getElem_cons_succ, List.getElem_cons_zero, Act.put, List.setIfInBounds_toArray, List.set_cons_zero, List.set_cons_succ]
                refine lexH_call 18 #[.pointer (some ⟨D0.d, 0, none⟩), .int .i64 fr, .int .i64 ix] rfl rfl ?_ ?_
                focus (go_simp; done)
                have hcc := dgive_any (HP0.out.doc HT.out (fun _ h => h.elim)) (Nat.le_trans HAL.out (by decide)) fr ix
                rw [hDd] at hcc
                have HCC := Lib.hid hcc
                clear hcc
                refine HCC.out.mono ?_
                clear HCC
                rintro e W4 ⟨rfl, D', U⟩
                have HR4 := Lib.hid (HR3.out.only U.only (fun h => h.elim (fun h => Nat.lt_irrefl _ (hdob.out _ h)) (fun h => h.elim)))
                have HP4 := Lib.hid (HP0.out.give HT.out U)
                have hKc' := HT.out.c.trans hKc
                have hDd' := U.d.trans hDd
                refine ⟨_, rfl, HR4.out, ?_⟩
                clear HP0 HT U HR3 HR4 L1 L2
                generalize A.give fr ix = q at *
                obtain ⟨e1, A'⟩ := q
                dsimp only at HP4
                simp only [List.getElem_toArray, List.getElem_cons_succ, List.getElem_cons_zero, Act.put, List.setIfInBounds_toArray, List.set_cons_zero, List.set_cons_succ]
                refine lexH_yieldE rfl rfl ?_
                apply Exists.intro
                refine ⟨fun W hW => ?_, ?_⟩
                focus (go_simp; exact rfl)
                simp only [List.getElem_toArray, List.getElem_cons_succ, List.getElem_cons_zero, Act.put, List.setIfInBounds_toArray, List.set_cons_zero, List.set_cons_succ]
                refine lexH_nil ?_
                go_wp2_with (fail)
                go_meet
                exact ⟨K', D', A', R, _, _, rfl, rfl, hKc', hDd', Nat.le_succ_of_le hRk, HP4⟩
            -- SCAN]
            by_cases hk3 : kind = 3
            -- [SCAN
            · as_aux_lemma =>
                subst hk3
                have L1 := Lib.hid (show ∀ V, RowAt V ob 5 (oaV ⟨3, fr, ix, fill, short⟩) → (loadVar 3 ⟨ob, 1, none⟩).run Try.prog V = .ok (.int .i64 fr) V from fun V hV => run_loadVar_cell (fun _ => by kernel_rfl) (opa_five hV).2.1)
                go_wp2_with (fail)
                refine wp_region_lex1 (fun V => RowAt V ob 5 (oaV ⟨3, fr, ix, fill, short⟩)) [(0, false), (1, false), (2, false), (4, false), (5, false), (6, false), (3, true), (7, true), (8, false)]
                  (by kernel_rfl) (by kernel_rfl) rfl (by kernel_rfl) (HR.out.later (Below.refl _ W).drew) ?_
                intro W0 hW0 hK0
                clear hK0
                have HP0 := Lib.hid (show PlC w.heap.size w K D A u v R R R W0 by rw [hW0]; exact HP1.out.later (Below.refl _ W).drew)
                have HR0 := Lib.hid (show RowAt W0 ob 5 (oaV ⟨3, fr, ix, fill, short⟩) by rw [hW0]; exact HR.out.later (Below.refl _ W).drew)
                clear hW0 HP1 HR q0 q1 q2 q3 q4
                refine lexH_yieldE rfl rfl ?_
                apply Exists.intro
                refine ⟨fun W hW => ?_, ?_⟩
                focus (go_simp; exact rfl)
                simp only [List.getElem_toArray, List.getElem_cons_zero, Act.put, List.setIfInBounds_toArray, List.set_cons_zero, List.set_cons_succ]
                refine lexH_yieldE rfl rfl ?_
                apply Exists.intro
                refine ⟨fun W hW => ?_, ?_⟩
                focus (go_simp; exact rfl)
                simp only [List.getElem_toArray, List.getElem_cons_succ, List.getElem_cons_zero, Act.put, List.setIfInBounds_toArray, List.set_cons_zero, List.set_cons_succ]
                refine lexH_load rfl rfl _ _ rfl rfl L1.out ?_
                simp only [List.getElem_toArray, List.getElem_cons_succ, List.getElem_cons_zero, Act.put, List.setIfInBounds_toArray, List.set_cons_zero, List.set_cons_succ]
                refine lexH_yieldE rfl rfl ?_
                apply Exists.intro
                refine ⟨fun W hW => ?_, ?_⟩
                focus (go_simp; exact rfl)
                simp only [List.getElem_toArray, List.getElem_cons_succ, List.getElem_cons_zero, Act.put, List.setIfInBounds_toArray, List.set_cons_zero, List.set_cons_succ]
                refine lexH_yieldE rfl rfl ?_
                apply Exists.intro
                refine ⟨fun W hW => ?_, ?_⟩
                focus (go_simp; exact rfl)
                simp only [List.getElem_toArray, List.getElem_cons_succ, List.getElem_cons_zero, Act.put, List.setIfInBounds_toArray, List.set_cons_zero, List.set_cons_succ]
                refine lexH_load rfl rfl _ _ rfl rfl L1.out ?_
                simp only [List.getElem_toArray, List.getElem_cons_succ, List.getElem_cons_zero, Act.put, List.setIfInBounds_toArray, List.set_cons_zero, List.set_cons_succ]
                refine lexH_call 19 #[.pointer (some ⟨K0.c, 0, none⟩), .int .i64 fr] rfl rfl ?_ ?_
                focus (go_simp; done)
                have hcc := kdropH_any HP0.out.k.at_ fr hwf.out
                rw [hKc] at hcc
                have HCC := Lib.hid hcc
                clear hcc
                refine HCC.out.mono ?_
                clear HCC
                intro e W3 hD3
                obtain ⟨⟨rfl, K2, T⟩, _⟩ := id hD3
                have HR3 := Lib.hid (HR0.out.only T.only (fun h => h.elim (fun h => Nat.lt_irrefl _ (hkob.out _ h)) (fun h => h.elim)))
                have HD3 := Lib.hid hD3
                have HDD := Lib.hid (HP0.out.doc T (fun _ h => h.elim))
                refine ⟨_, rfl, HR3.out, ?_⟩
                clear T HR0 hD3
                simp only [List.getElem_toArray, List.getElem_cons_succ, List.getElem_cons_zero, Act.put, List.setIfInBounds_toArray, List.set_cons_zero, List.set_cons_succ]
                refine lexH_call 20 #[.pointer (some ⟨D0.d, 0, none⟩), .int .i64 fr] rfl rfl ?_ ?_
                focus (go_simp; done)
                have hcc := ddrop_any HDD.out (Nat.le_trans HAL.out (by decide)) fr
                rw [hDd] at hcc
                have HCC := Lib.hid hcc
                clear hcc
                refine HCC.out.mono ?_
                clear HCC
                intro e W4 hD4
                obtain ⟨rfl, D2, U, _⟩ := id hD4
                have HR4 := Lib.hid (HR3.out.only U.only (fun h => h.elim (fun h => Nat.lt_irrefl _ (hdob.out _ h)) (fun h => h.elim)))
                obtain ⟨K', D', h1, h2, h3⟩ := HP0.out.drop (A' := (A.drop fr).2) (q1 := (A.drop fr).1) (q2 := (A.drop fr).1) rfl HD3.out hD4 rfl
                have HP4 := Lib.hid h3
                have hKc' := h1.trans hKc
                have hDd' := h2.trans hDd
                refine ⟨_, rfl, HR4.out, ?_⟩
                clear HP0 HD3 hD4 U HR3 HR4 L1 h1 h2 h3 HDD
                generalize A.drop fr = q at *
                obtain ⟨e1, A'⟩ := q
                dsimp only at HP4
                simp only [List.getElem_toArray, List.getElem_cons_succ, List.getElem_cons_zero, Act.put, List.setIfInBounds_toArray, List.set_cons_zero, List.set_cons_succ]
                refine lexH_yieldE rfl rfl ?_
                apply Exists.intro
                refine ⟨fun W hW => ?_, ?_⟩
                focus (go_simp; exact rfl)
                simp only [List.getElem_toArray, List.getElem_cons_succ, List.getElem_cons_zero, Act.put, List.setIfInBounds_toArray, List.set_cons_zero, List.set_cons_succ]
                refine lexH_nil ?_
                go_wp2_with (fail)
                go_meet
                exact ⟨K', D', A', R, _, _, rfl, rfl, hKc', hDd', Nat.le_succ_of_le hRk, HP4⟩
            -- SCAN]
            by_cases hk4 : kind = 4
            -- [SCAN
            · as_aux_lemma =>
                subst hk4
                have hs := kslab_any HP1.out.k.at_ fr hwf.out
                have hd := dfind_any HP1.out.d (Nat.le_trans HAL.out (by decide)) fr
                unfold KSlab at hs
                rw [hKc] at hs
                rw [hDd] at hd
                cases hf : findL A.L fr with
                | none =>
                  as_aux_lemma =>
                    rw [hf] at hs hd
                    unfold ptrF at hs hd
                    have HS := Lib.hid hs
                    have HD := Lib.hid hd
                    clear hs hd hf
                    go_wp2_with (fail)
                    refine HS.out.mono ?_
                    rintro e W3 ⟨rfl, hw⟩
                    subst hw
                    clear HS
                    go_wp2_with (fail)
                    refine HD.out.mono ?_
                    rintro e W4 ⟨rfl, hw⟩
                    subst hw
                    clear HD
                    have HP2 := Lib.hid (HP1.out.later (Below.refl W.heap.size W).drew)
                    go_wp2_with (fail)
                    refine wp_region_lex1 (fun V => V = W.drew) [(0, false), (1, false), (2, false), (3, false), (4, false), (5, false), (6, false), (7, false), (8, false), (9, false), (10, false), (11, false), (12, false), (14, false), (15, false), (16, false), (17, false), (18, false), (19, false), (13, true), (20, true), (21, false), (22, false), (23, false), (24, false), (25, false), (26, false), (27, false), (28, false), (29, false), (30, false), (32, false), (33, false), (34, false), (31, true), (35, true), (36, false), (37, false), (38, false), (39, false)]
                      (by kernel_rfl) (by kernel_rfl) rfl (by kernel_rfl) rfl ?_
                    intro V0 hV0 hK0
                    clear hK0
                    subst hV0
                    clear HP1 HR q0 q1 q2 q3 q4
                    refine lexH_yieldE rfl rfl ?_
                    apply Exists.intro
                    refine ⟨fun W hW => ?_, ?_⟩
                    focus (go_simp; exact rfl)
                    simp only [List.getElem_toArray, List.getElem_cons_zero, Act.put, List.setIfInBounds_toArray, List.set_cons_zero, List.set_cons_succ]
                    refine lexH_yieldE rfl rfl ?_
                    apply Exists.intro
                    refine ⟨fun W hW => ?_, ?_⟩
                    focus (go_simp; exact rfl)
                    simp only [List.getElem_toArray, List.getElem_cons_succ, List.getElem_cons_zero, Act.put, List.setIfInBounds_toArray, List.set_cons_zero, List.set_cons_succ]
                    refine lexH_yieldE rfl rfl ?_
                    apply Exists.intro
                    refine ⟨fun W hW => ?_, ?_⟩
                    focus (go_simp; exact rfl)
                    simp only [List.getElem_toArray, List.getElem_cons_succ, List.getElem_cons_zero, Act.put, List.setIfInBounds_toArray, List.set_cons_zero, List.set_cons_succ]
                    refine lexH_skip rfl rfl ?_
                    simp only [List.getElem_toArray, List.getElem_cons_succ, List.getElem_cons_zero, Act.put, List.setIfInBounds_toArray, List.set_cons_zero, List.set_cons_succ]
                    refine lexH_skip rfl rfl ?_
                    simp only [List.getElem_toArray, List.getElem_cons_succ, List.getElem_cons_zero, Act.put, List.setIfInBounds_toArray, List.set_cons_zero, List.set_cons_succ]
                    refine lexH_skip rfl rfl ?_
                    simp only [List.getElem_toArray, List.getElem_cons_succ, List.getElem_cons_zero, Act.put, List.setIfInBounds_toArray, List.set_cons_zero, List.set_cons_succ]
                    refine lexH_skip rfl rfl ?_
                    simp only [List.getElem_toArray, List.getElem_cons_succ, List.getElem_cons_zero, Act.put, List.setIfInBounds_toArray, List.set_cons_zero, List.set_cons_succ]
                    refine lexH_skip rfl rfl ?_
                    simp only [List.getElem_toArray, List.getElem_cons_succ, List.getElem_cons_zero, Act.put, List.setIfInBounds_toArray, List.set_cons_zero, List.set_cons_succ]
                    refine lexH_skip rfl rfl ?_
                    simp only [List.getElem_toArray, List.getElem_cons_succ, List.getElem_cons_zero, Act.put, List.setIfInBounds_toArray, List.set_cons_zero, List.set_cons_succ]
                    refine lexH_skip rfl rfl ?_
                    simp only [List.getElem_toArray, List.getElem_cons_succ, List.getElem_cons_zero, Act.put, List.setIfInBounds_toArray, List.set_cons_zero, List.set_cons_succ]
                    refine lexH_skip rfl rfl ?_
                    simp only [List.getElem_toArray, List.getElem_cons_succ, List.getElem_cons_zero, Act.put, List.setIfInBounds_toArray, List.set_cons_zero, List.set_cons_succ]
                    refine lexH_skip rfl rfl ?_
                    simp only [List.getElem_toArray, List.getElem_cons_succ, List.getElem_cons_zero, Act.put, List.setIfInBounds_toArray, List.set_cons_zero, List.set_cons_succ]
                    refine lexH_skip rfl rfl ?_
                    simp only [List.getElem_toArray, List.getElem_cons_succ, List.getElem_cons_zero, Act.put, List.setIfInBounds_toArray, List.set_cons_zero, List.set_cons_succ]
                    refine lexH_skip rfl rfl ?_
                    simp only [List.getElem_toArray, List.getElem_cons_succ, List.getElem_cons_zero, Act.put, List.setIfInBounds_toArray, List.set_cons_zero, List.set_cons_succ]
                    refine lexH_skip rfl rfl ?_
                    simp only [List.getElem_toArray, List.getElem_cons_succ, List.getElem_cons_zero, Act.put, List.setIfInBounds_toArray, List.set_cons_zero, List.set_cons_succ]
                    refine lexH_skip rfl rfl ?_
                    simp only [List.getElem_toArray, List.getElem_cons_succ, List.getElem_cons_zero, Act.put, List.setIfInBounds_toArray, List.set_cons_zero, List.set_cons_succ]
                    refine lexH_skip rfl rfl ?_
                    simp only [List.getElem_toArray, List.getElem_cons_succ, List.getElem_cons_zero, Act.put, List.setIfInBounds_toArray, List.set_cons_zero, List.set_cons_succ]
                    refine lexH_skip rfl rfl ?_
                    simp only [List.getElem_toArray, List.getElem_cons_succ, List.getElem_cons_zero, Act.put, List.setIfInBounds_toArray, List.set_cons_zero, List.set_cons_succ]
                    refine lexH_skip rfl rfl ?_
                    simp only [List.getElem_toArray, List.getElem_cons_succ, List.getElem_cons_zero, Act.put, List.setIfInBounds_toArray, List.set_cons_zero, List.set_cons_succ]
                    refine lexH_pass rfl rfl rfl ?_
                    simp only [List.getElem_toArray, List.getElem_cons_succ, List.getElem_cons_zero, Act.put, List.setIfInBounds_toArray, List.set_cons_zero, List.set_cons_succ]
                    refine lexH_pass rfl rfl rfl ?_
                    simp only [List.getElem_toArray, List.getElem_cons_succ, List.getElem_cons_zero, Act.put, List.setIfInBounds_toArray, List.set_cons_zero, List.set_cons_succ]
                    refine lexH_skip rfl rfl ?_
                    simp only [List.getElem_toArray, List.getElem_cons_succ, List.getElem_cons_zero, Act.put, List.setIfInBounds_toArray, List.set_cons_zero, List.set_cons_succ]
                    refine lexH_skip rfl rfl ?_
                    simp only [List.getElem_toArray, List.getElem_cons_succ, List.getElem_cons_zero, Act.put, List.setIfInBounds_toArray, List.set_cons_zero, List.set_cons_succ]
                    refine lexH_skip rfl rfl ?_
                    simp only [List.getElem_toArray, List.getElem_cons_succ, List.getElem_cons_zero, Act.put, List.setIfInBounds_toArray, List.set_cons_zero, List.set_cons_succ]
                    refine lexH_skip rfl rfl ?_
                    simp only [List.getElem_toArray, List.getElem_cons_succ, List.getElem_cons_zero, Act.put, List.setIfInBounds_toArray, List.set_cons_zero, List.set_cons_succ]
                    refine lexH_skip rfl rfl ?_
                    simp only [List.getElem_toArray, List.getElem_cons_succ, List.getElem_cons_zero, Act.put, List.setIfInBounds_toArray, List.set_cons_zero, List.set_cons_succ]
                    refine lexH_skip rfl rfl ?_
                    simp only [List.getElem_toArray, List.getElem_cons_succ, List.getElem_cons_zero, Act.put, List.setIfInBounds_toArray, List.set_cons_zero, List.set_cons_succ]
                    refine lexH_skip rfl rfl ?_
                    simp only [List.getElem_toArray, List.getElem_cons_succ, List.getElem_cons_zero, Act.put, List.setIfInBounds_toArray, List.set_cons_zero, List.set_cons_succ]
                    refine lexH_skip rfl rfl ?_
                    simp only [List.getElem_toArray, List.getElem_cons_succ, List.getElem_cons_zero, Act.put, List.setIfInBounds_toArray, List.set_cons_zero, List.set_cons_succ]
                    refine lexH_skip rfl rfl ?_
                    simp only [List.getElem_toArray, List.getElem_cons_succ, List.getElem_cons_zero, Act.put, List.setIfInBounds_toArray, List.set_cons_zero, List.set_cons_succ]
                    refine lexH_skip rfl rfl ?_
                    simp only [List.getElem_toArray, List.getElem_cons_succ, List.getElem_cons_zero, Act.put, List.setIfInBounds_toArray, List.set_cons_zero, List.set_cons_succ]
                    refine lexH_skip rfl rfl ?_
                    simp only [List.getElem_toArray, List.getElem_cons_succ, List.getElem_cons_zero, Act.put, List.setIfInBounds_toArray, List.set_cons_zero, List.set_cons_succ]
                    refine lexH_skip rfl rfl ?_
                    simp only [List.getElem_toArray, List.getElem_cons_succ, List.getElem_cons_zero, Act.put, List.setIfInBounds_toArray, List.set_cons_zero, List.set_cons_succ]
                    refine lexH_skip rfl rfl ?_
                    simp only [List.getElem_toArray, List.getElem_cons_succ, List.getElem_cons_zero, Act.put, List.setIfInBounds_toArray, List.set_cons_zero, List.set_cons_succ]
                    refine lexH_pass rfl rfl rfl ?_
                    simp only [List.getElem_toArray, List.getElem_cons_succ, List.getElem_cons_zero, Act.put, List.setIfInBounds_toArray, List.set_cons_zero, List.set_cons_succ]
                    refine lexH_pass rfl rfl rfl ?_
                    simp only [List.getElem_toArray, List.getElem_cons_succ, List.getElem_cons_zero, Act.put, List.setIfInBounds_toArray, List.set_cons_zero, List.set_cons_succ]
                    refine lexH_skip rfl rfl ?_
                    simp only [List.getElem_toArray, List.getElem_cons_succ, List.getElem_cons_zero, Act.put, List.setIfInBounds_toArray, List.set_cons_zero, List.set_cons_succ]
                    refine lexH_skip rfl rfl ?_
                    simp only [List.getElem_toArray, List.getElem_cons_succ, List.getElem_cons_zero, Act.put, List.setIfInBounds_toArray, List.set_cons_zero, List.set_cons_succ]
                    refine lexH_skip rfl rfl ?_
                    simp only [List.getElem_toArray, List.getElem_cons_succ, List.getElem_cons_zero, Act.put, List.setIfInBounds_toArray, List.set_cons_zero, List.set_cons_succ]
                    refine lexH_yieldE rfl rfl ?_
                    apply Exists.intro
                    refine ⟨fun W hW => ?_, ?_⟩
                    focus (go_simp; exact rfl)
                    simp only [List.getElem_toArray, List.getElem_cons_succ, List.getElem_cons_zero, Act.put, List.setIfInBounds_toArray, List.set_cons_zero, List.set_cons_succ]
                    refine lexH_nil ?_
                    go_wp2_with (fail)
                    go_meet
                    exact ⟨K, D, A, R, _, _, rfl, rfl, hKc, hDd, Nat.le_succ_of_le hRk, HP2⟩
                | some S =>
                  as_aux_lemma =>
                    rw [hf] at hs hd
                    unfold ptrF at hs hd
                    have HS := Lib.hid hs
                    have HD := Lib.hid hd
                    have HF := Lib.hid hf
                    clear hs hd hf
                    go_wp2_with (fail)
                    refine HS.out.mono ?_
                    rintro e W3 ⟨rfl, hw⟩
                    subst hw
                    clear HS
                    go_wp2_with (fail)
                    refine HD.out.mono ?_
                    rintro e W4 ⟨rfl, hw⟩
                    subst hw
                    clear HD
                    have L0 := Lib.hid (show ∀ V, RowAt V ob 5 (oaV ⟨4, fr, ix, fill, short⟩) → (loadVar 3 ⟨ob, 0, none⟩).run Try.prog V = .ok (.int .i64 4) V from fun V hV => run_loadVar_cell (fun _ => by kernel_rfl) (opa_five hV).1)
                    have L2 := Lib.hid (show ∀ V, RowAt V ob 5 (oaV ⟨4, fr, ix, fill, short⟩) → (loadVar 3 ⟨ob, 2, none⟩).run Try.prog V = .ok (.int .i64 ix) V from fun V hV => run_loadVar_cell (fun _ => by kernel_rfl) (opa_five hV).2.2.1)
                    go_wp2_with (fail)
                    refine wp_region_lex1 (fun V => RowAt V ob 5 (oaV ⟨4, fr, ix, fill, short⟩)) [(0, false), (1, false), (2, false), (3, false), (4, false), (5, false), (6, false), (7, false), (8, false), (9, false), (10, false), (11, false), (12, false), (14, false), (15, false), (16, false), (17, false), (18, false), (19, false), (13, true), (20, true), (21, false), (22, false), (23, false), (24, false), (25, false), (26, false), (27, false), (28, false), (29, false), (30, false), (32, false), (33, false), (34, false), (31, true), (35, true), (36, false), (37, false), (38, false), (39, false)]
                      (by kernel_rfl) (by kernel_rfl) rfl (by kernel_rfl) (HR.out.later (Below.refl _ W).drew) ?_
                    intro W0 hW0 hK0
                    clear hK0
                    have HP0 := Lib.hid (show PlC w.heap.size w K D A u v R R R W0 by rw [hW0]; exact HP1.out.later (Below.refl _ W).drew)
                    have HR0 := Lib.hid (show RowAt W0 ob 5 (oaV ⟨4, fr, ix, fill, short⟩) by rw [hW0]; exact HR.out.later (Below.refl _ W).drew)
                    have HM := Lib.hid (findL_mem HF.out)
                    have HKF := Lib.hid (show ∀ j, (K.g fr).all j → j < ob from fun j hj => hkob.out j (.inr ⟨_, HM.out, hj⟩))
                    have HDF := Lib.hid (show (D.g fr).r < ob from hdob.out _ (.inr ⟨_, HM.out, .inl rfl⟩))
                    have HIS := Lib.hid (show SlI S from (HP1.out.d.inv.find HF.out).1)
                    clear hW0 HP1 HR q0 q1 q2 q3 q4
                    refine lexH_yieldE rfl rfl ?_
                    apply Exists.intro
                    refine ⟨fun W hW => ?_, ?_⟩
                    focus (go_simp; exact rfl)
                    simp only [List.getElem_toArray, List.getElem_cons_zero, Act.put, List.setIfInBounds_toArray, List.set_cons_zero, List.set_cons_succ]
                    refine lexH_yieldE rfl rfl ?_
                    apply Exists.intro
                    refine ⟨fun W hW => ?_, ?_⟩
                    focus (go_simp; exact rfl)
                    simp only [List.getElem_toArray, List.getElem_cons_succ, List.getElem_cons_zero, Act.put, List.setIfInBounds_toArray, List.set_cons_zero, List.set_cons_succ]
                    refine lexH_yieldE rfl rfl ?_
                    apply Exists.intro
                    refine ⟨fun W hW => ?_, ?_⟩
                    focus (go_simp; exact rfl)
                    simp only [List.getElem_toArray, List.getElem_cons_succ, List.getElem_cons_zero, Act.put, List.setIfInBounds_toArray, List.set_cons_zero, List.set_cons_succ]
                    refine lexH_yieldE rfl rfl ?_
                    apply Exists.intro
                    refine ⟨fun W hW => ?_, ?_⟩
                    focus (go_simp; exact rfl)
                    simp only [List.getElem_toArray, List.getElem_cons_succ, List.getElem_cons_zero, Act.put, List.setIfInBounds_toArray, List.set_cons_zero, List.set_cons_succ]
                    refine lexH_load rfl rfl _ _ rfl rfl L0.out ?_
                    simp only [List.getElem_toArray, List.getElem_cons_succ, List.getElem_cons_zero, Act.put, List.setIfInBounds_toArray, List.set_cons_zero, List.set_cons_succ]
                    refine lexH_yieldE rfl rfl ?_
                    apply Exists.intro
                    refine ⟨fun W hW => ?_, ?_⟩
                    focus (go_simp; exact rfl)
                    simp only [List.getElem_toArray, List.getElem_cons_succ, List.getElem_cons_zero, Act.put, List.setIfInBounds_toArray, List.set_cons_zero, List.set_cons_succ]
                    refine lexH_yieldE rfl rfl ?_
                    apply Exists.intro
                    refine ⟨fun W hW => ?_, ?_⟩
                    focus (go_simp; exact rfl)
                    simp only [List.getElem_toArray, List.getElem_cons_succ, List.getElem_cons_zero, Act.put, List.setIfInBounds_toArray, List.set_cons_zero, List.set_cons_succ]
                    refine lexH_yieldE rfl rfl ?_
                    apply Exists.intro
                    refine ⟨fun W hW => ?_, ?_⟩
                    focus (go_simp; exact rfl)
                    simp only [List.getElem_toArray, List.getElem_cons_succ, List.getElem_cons_zero, Act.put, List.setIfInBounds_toArray, List.set_cons_zero, List.set_cons_succ]
                    refine lexH_yieldE rfl rfl ?_
                    apply Exists.intro
                    refine ⟨fun W hW => ?_, ?_⟩
                    focus (go_simp; exact rfl)
                    simp only [List.getElem_toArray, List.getElem_cons_succ, List.getElem_cons_zero, Act.put, List.setIfInBounds_toArray, List.set_cons_zero, List.set_cons_succ]
                    refine lexH_load rfl rfl _ _ rfl rfl L2.out ?_
                    simp only [List.getElem_toArray, List.getElem_cons_succ, List.getElem_cons_zero, Act.put, List.setIfInBounds_toArray, List.set_cons_zero, List.set_cons_succ]
                    refine lexH_yieldE rfl rfl ?_
                    apply Exists.intro
                    refine ⟨fun W hW => ?_, ?_⟩
                    focus (go_simp; exact rfl)
                    simp only [List.getElem_toArray, List.getElem_cons_succ, List.getElem_cons_zero, Act.put, List.setIfInBounds_toArray, List.set_cons_zero, List.set_cons_succ]
                    refine lexH_load rfl rfl _ _ rfl rfl L2.out ?_
                    simp only [List.getElem_toArray, List.getElem_cons_succ, List.getElem_cons_zero, Act.put, List.setIfInBounds_toArray, List.set_cons_zero, List.set_cons_succ]
                    refine lexH_yieldE rfl rfl ?_
                    apply Exists.intro
                    refine ⟨fun W hW => ?_, ?_⟩
                    focus (go_simp; exact rfl)
                    simp only [List.getElem_toArray, List.getElem_cons_succ, List.getElem_cons_zero, Act.put, List.setIfInBounds_toArray, List.set_cons_zero, List.set_cons_succ]
                    refine lexH_yieldE rfl rfl ?_
                    apply Exists.intro
                    refine ⟨fun W hW => ?_, ?_⟩
                    focus (go_simp; exact rfl)
                    simp only [List.getElem_toArray, List.getElem_cons_succ, List.getElem_cons_zero, Act.put, List.setIfInBounds_toArray, List.set_cons_zero, List.set_cons_succ]
                    refine lexH_yieldE rfl rfl ?_
                    apply Exists.intro
                    refine ⟨fun W hW => ?_, ?_⟩
                    focus (go_simp; exact rfl)
                    simp only [List.getElem_toArray, List.getElem_cons_succ, List.getElem_cons_zero, Act.put, List.setIfInBounds_toArray, List.set_cons_zero, List.set_cons_succ]
                    refine lexH_load rfl rfl _ _ rfl rfl L2.out ?_
                    simp only [List.getElem_toArray, List.getElem_cons_succ, List.getElem_cons_zero, Act.put, List.setIfInBounds_toArray, List.set_cons_zero, List.set_cons_succ]
                    refine lexH_yieldE rfl rfl ?_
                    apply Exists.intro
                    refine ⟨fun W hW => ?_, ?_⟩
                    focus (go_simp; exact rfl)
                    simp only [List.getElem_toArray, List.getElem_cons_succ, List.getElem_cons_zero, Act.put, List.setIfInBounds_toArray, List.set_cons_zero, List.set_cons_succ]
                    refine lexH_load rfl rfl _ _ rfl rfl L2.out ?_
                    simp only [List.getElem_toArray, List.getElem_cons_succ, List.getElem_cons_zero, Act.put, List.setIfInBounds_toArray, List.set_cons_zero, List.set_cons_succ]
                    refine lexH_yieldE rfl rfl ?_
                    apply Exists.intro
                    refine ⟨fun W hW => ?_, ?_⟩
                    focus (go_simp; exact rfl)
                    simp only [List.getElem_toArray, List.getElem_cons_succ, List.getElem_cons_zero, Act.put, List.setIfInBounds_toArray, List.set_cons_zero, List.set_cons_succ]
                    have HC1 := Lib.hid (chain_ok.mark (w := W0) (C := K.g fr) (S := S) ix (IntKind.u64.wrap ix) (HP0.out.k.at_.fam.at_ _ HM.out))
                    refine lexH_call 23 #[.pointer (some ⟨(K.g fr).s, 0, none⟩), .int .i64 ix, .int .u64 (IntKind.u64.wrap ix)] rfl rfl ?_ ?_
                    focus (go_simp; done)
                    refine HC1.out.mono ?_
                    rintro e W1 ⟨rfl, hA, ho⟩
                    have HR1 := Lib.hid (HR0.out.only ho (fun h => Nat.lt_irrefl _ (HKF.out _ h)))
                    have HA := Lib.hid hA
                    have HO1 := Lib.hid ho
                    have HC2 := Lib.hid (show CRef W1 (D.g fr).r (D.g fr).b (D.g fr).bc S (D.g fr).v from (HP0.out.d.only ho (fun j hj h => HP0.out.ap j (.inr ⟨_, HM.out, h⟩) hj)).fam.at_ _ HM.out)
                    refine ⟨_, rfl, HR1.out, ?_⟩
                    clear hA ho HR0 HC1
                    simp only [List.getElem_toArray, List.getElem_cons_succ, List.getElem_cons_zero, Act.put, List.setIfInBounds_toArray, List.set_cons_zero, List.set_cons_succ]
                    refine lexH_call 24 #[.pointer (some ⟨(D.g fr).r, 0, none⟩), .int .i64 ix, .int .u64 (IntKind.u64.wrap ix)] rfl rfl ?_ ?_
                    focus (go_simp; done)
                    refine (rmark_any HC2.out HIS.out ix (IntKind.u64.wrap ix)).mono ?_
                    rintro e W2 ⟨rfl, hR, ho⟩
                    have HR2 := Lib.hid (HR1.out.only ho (fun h => Nat.ne_of_gt HDF.out h))
                    obtain ⟨D', hDd', hP⟩ := HP0.out.slab HF.out (HIS.out.mark ix (IntKind.u64.wrap ix)) (mark_sz S ix (IntKind.u64.wrap ix)) HA.out HO1.out hR ho
                    have HP3 := Lib.hid hP
                    refine ⟨_, rfl, HR2.out, ?_⟩
                    clear hR ho HR1 HA HO1 HC2 HP0 HF HM HIS hP HKF HDF
                    generalize S.mark ix (IntKind.u64.wrap ix) = q at *
                    obtain ⟨e1, S2⟩ := q
                    dsimp only at HP3
                    simp only [List.getElem_toArray, List.getElem_cons_succ, List.getElem_cons_zero, Act.put, List.setIfInBounds_toArray, List.set_cons_zero, List.set_cons_succ]
                    refine lexH_yieldE rfl rfl ?_
                    apply Exists.intro
                    refine ⟨fun W hW => ?_, ?_⟩
                    focus (go_simp; exact rfl)
                    simp only [List.getElem_toArray, List.getElem_cons_succ, List.getElem_cons_zero, Act.put, List.setIfInBounds_toArray, List.set_cons_zero, List.set_cons_succ]
                    refine lexH_yieldE rfl rfl ?_
                    apply Exists.intro
                    refine ⟨fun W hW => ?_, ?_⟩
                    focus (go_simp; exact rfl)
                    simp only [List.getElem_toArray, List.getElem_cons_succ, List.getElem_cons_zero, Act.put, List.setIfInBounds_toArray, List.set_cons_zero, List.set_cons_succ]
                    refine lexH_yieldE rfl rfl ?_
                    apply Exists.intro
                    refine ⟨fun W hW => ?_, ?_⟩
                    focus (go_simp; exact rfl)
                    simp only [List.getElem_toArray, List.getElem_cons_succ, List.getElem_cons_zero, Act.put, List.setIfInBounds_toArray, List.set_cons_zero, List.set_cons_succ]
                    refine lexH_yieldE rfl rfl ?_
                    apply Exists.intro
                    refine ⟨fun W hW => ?_, ?_⟩
                    focus (go_simp; exact rfl)
                    simp only [List.getElem_toArray, List.getElem_cons_succ, List.getElem_cons_zero, Act.put, List.setIfInBounds_toArray, List.set_cons_zero, List.set_cons_succ]
                    refine lexH_load rfl rfl _ _ rfl rfl L0.out ?_
                    simp only [List.getElem_toArray, List.getElem_cons_succ, List.getElem_cons_zero, Act.put, List.setIfInBounds_toArray, List.set_cons_zero, List.set_cons_succ]
                    refine lexH_yieldE rfl rfl ?_
                    apply Exists.intro
                    refine ⟨fun W hW => ?_, ?_⟩
                    focus (go_simp; exact rfl)
                    simp only [List.getElem_toArray, List.getElem_cons_succ, List.getElem_cons_zero, Act.put, List.setIfInBounds_toArray, List.set_cons_zero, List.set_cons_succ]
                    refine lexH_yieldE rfl rfl ?_
                    apply Exists.intro
                    refine ⟨fun W hW => ?_, ?_⟩
                    focus (go_simp; exact rfl)
                    simp only [List.getElem_toArray, List.getElem_cons_succ, List.getElem_cons_zero, Act.put, List.setIfInBounds_toArray, List.set_cons_zero, List.set_cons_succ]
                    refine lexH_skip rfl rfl ?_
                    simp only [List.getElem_toArray, List.getElem_cons_succ, List.getElem_cons_zero, Act.put, List.setIfInBounds_toArray, List.set_cons_zero, List.set_cons_succ]
                    refine lexH_skip rfl rfl ?_
                    simp only [List.getElem_toArray, List.getElem_cons_succ, List.getElem_cons_zero, Act.put, List.setIfInBounds_toArray, List.set_cons_zero, List.set_cons_succ]
                    refine lexH_skip rfl rfl ?_
                    simp only [List.getElem_toArray, List.getElem_cons_succ, List.getElem_cons_zero, Act.put, List.setIfInBounds_toArray, List.set_cons_zero, List.set_cons_succ]
                    refine lexH_skip rfl rfl ?_
                    simp only [List.getElem_toArray, List.getElem_cons_succ, List.getElem_cons_zero, Act.put, List.setIfInBounds_toArray, List.set_cons_zero, List.set_cons_succ]
                    refine lexH_skip rfl rfl ?_
                    simp only [List.getElem_toArray, List.getElem_cons_succ, List.getElem_cons_zero, Act.put, List.setIfInBounds_toArray, List.set_cons_zero, List.set_cons_succ]
                    refine lexH_skip rfl rfl ?_
                    simp only [List.getElem_toArray, List.getElem_cons_succ, List.getElem_cons_zero, Act.put, List.setIfInBounds_toArray, List.set_cons_zero, List.set_cons_succ]
                    refine lexH_pass rfl rfl HR2.out ?_
                    simp only [List.getElem_toArray, List.getElem_cons_succ, List.getElem_cons_zero, Act.put, List.setIfInBounds_toArray, List.set_cons_zero, List.set_cons_succ]
                    refine lexH_pass rfl rfl HR2.out ?_
                    simp only [List.getElem_toArray, List.getElem_cons_succ, List.getElem_cons_zero, Act.put, List.setIfInBounds_toArray, List.set_cons_zero, List.set_cons_succ]
                    refine lexH_skip rfl rfl ?_
                    simp only [List.getElem_toArray, List.getElem_cons_succ, List.getElem_cons_zero, Act.put, List.setIfInBounds_toArray, List.set_cons_zero, List.set_cons_succ]
                    refine lexH_yieldE rfl rfl ?_
                    apply Exists.intro
                    refine ⟨fun W hW => ?_, ?_⟩
                    focus (go_simp; exact rfl)
                    simp only [List.getElem_toArray, List.getElem_cons_succ, List.getElem_cons_zero, Act.put, List.setIfInBounds_toArray, List.set_cons_zero, List.set_cons_succ]
                    refine lexH_yieldE rfl rfl ?_
                    apply Exists.intro
                    refine ⟨fun W hW => ?_, ?_⟩
                    focus (go_simp; exact rfl)
                    simp only [List.getElem_toArray, List.getElem_cons_succ, List.getElem_cons_zero, Act.put, List.setIfInBounds_toArray, List.set_cons_zero, List.set_cons_succ]
                    refine lexH_yieldE rfl rfl ?_
                    apply Exists.intro
                    refine ⟨fun W hW => ?_, ?_⟩
                    focus (go_simp; exact rfl)
                    simp only [List.getElem_toArray, List.getElem_cons_succ, List.getElem_cons_zero, Act.put, List.setIfInBounds_toArray, List.set_cons_zero, List.set_cons_succ]
                    refine lexH_nil ?_
                    clear L0 L2 HR2
                    go_wp2_with (fail)
                    go_meet
                    exact ⟨K, D', A.turned fr S2, R, _, _, rfl, rfl, hKc, hDd'.trans hDd, Nat.le_succ_of_le hRk, HP3⟩
            -- SCAN]
            by_cases hk5 : kind = 5
            -- [SCAN
            · as_aux_lemma =>
                subst hk5
                have hs := kslab_any HP1.out.k.at_ fr hwf.out
                have hd := dfind_any HP1.out.d (Nat.le_trans HAL.out (by decide)) fr
                unfold KSlab at hs
                rw [hKc] at hs
                rw [hDd] at hd
                cases hf : findL A.L fr with
                | none =>
                  as_aux_lemma =>
                    rw [hf] at hs hd
                    unfold ptrF at hs hd
                    have HS := Lib.hid hs
                    have HD := Lib.hid hd
                    clear hs hd hf
                    go_wp2_with (fail)
                    refine HS.out.mono ?_
                    rintro e W3 ⟨rfl, hw⟩
                    subst hw
                    clear HS
                    go_wp2_with (fail)
                    refine HD.out.mono ?_
                    rintro e W4 ⟨rfl, hw⟩
                    subst hw
                    clear HD
                    have HP2 := Lib.hid (HP1.out.later (Below.refl W.heap.size W).drew)
                    go_wp2_with (fail)
                    refine wp_region_lex1 (fun V => V = W.drew) [(0, false), (1, false), (2, false), (3, false), (4, false), (5, false), (6, false), (7, false), (8, false), (9, false), (10, false), (11, false), (12, false), (14, false), (15, false), (16, false), (17, false), (18, false), (19, false), (13, true), (20, true), (21, false), (22, false), (23, false), (24, false), (25, false), (26, false), (27, false), (28, false), (29, false), (30, false), (32, false), (33, false), (34, false), (31, true), (35, true), (36, false), (37, false), (38, false), (39, false)]
                      (by kernel_rfl) (by kernel_rfl) rfl (by kernel_rfl) rfl ?_
                    intro V0 hV0 hK0
                    clear hK0
                    subst hV0
                    clear HP1 HR q0 q1 q2 q3 q4
                    refine lexH_yieldE rfl rfl ?_
                    apply Exists.intro
                    refine ⟨fun W hW => ?_, ?_⟩
                    focus (go_simp; exact rfl)
                    simp only [List.getElem_toArray, List.getElem_cons_zero, Act.put, List.setIfInBounds_toArray, List.set_cons_zero, List.set_cons_succ]
                    refine lexH_yieldE rfl rfl ?_
                    apply Exists.intro
                    refine ⟨fun W hW => ?_, ?_⟩
                    focus (go_simp; exact rfl)
                    simp only [List.getElem_toArray, List.getElem_cons_succ, List.getElem_cons_zero, Act.put, List.setIfInBounds_toArray, List.set_cons_zero, List.set_cons_succ]
                    refine lexH_yieldE rfl rfl ?_
                    apply Exists.intro
                    refine ⟨fun W hW => ?_, ?_⟩
                    focus (go_simp; exact rfl)
                    simp only [List.getElem_toArray, List.getElem_cons_succ, List.getElem_cons_zero, Act.put, List.setIfInBounds_toArray, List.set_cons_zero, List.set_cons_succ]
                    refine lexH_skip rfl rfl ?_
                    simp only [List.getElem_toArray, List.getElem_cons_succ, List.getElem_cons_zero, Act.put, List.setIfInBounds_toArray, List.set_cons_zero, List.set_cons_succ]
                    refine lexH_skip rfl rfl ?_
                    simp only [List.getElem_toArray, List.getElem_cons_succ, List.getElem_cons_zero, Act.put, List.setIfInBounds_toArray, List.set_cons_zero, List.set_cons_succ]
                    refine lexH_skip rfl rfl ?_
                    simp only [List.getElem_toArray, List.getElem_cons_succ, List.getElem_cons_zero, Act.put, List.setIfInBounds_toArray, List.set_cons_zero, List.set_cons_succ]
                    refine lexH_skip rfl rfl ?_
                    simp only [List.getElem_toArray, List.getElem_cons_succ, List.getElem_cons_zero, Act.put, List.setIfInBounds_toArray, List.set_cons_zero, List.set_cons_succ]
                    refine lexH_skip rfl rfl ?_
                    simp only [List.getElem_toArray, List.getElem_cons_succ, List.getElem_cons_zero, Act.put, List.setIfInBounds_toArray, List.set_cons_zero, List.set_cons_succ]
                    refine lexH_skip rfl rfl ?_
                    simp only [List.getElem_toArray, List.getElem_cons_succ, List.getElem_cons_zero, Act.put, List.setIfInBounds_toArray, List.set_cons_zero, List.set_cons_succ]
                    refine lexH_skip rfl rfl ?_
                    simp only [List.getElem_toArray, List.getElem_cons_succ, List.getElem_cons_zero, Act.put, List.setIfInBounds_toArray, List.set_cons_zero, List.set_cons_succ]
                    refine lexH_skip rfl rfl ?_
                    simp only [List.getElem_toArray, List.getElem_cons_succ, List.getElem_cons_zero, Act.put, List.setIfInBounds_toArray, List.set_cons_zero, List.set_cons_succ]
                    refine lexH_skip rfl rfl ?_
                    simp only [List.getElem_toArray, List.getElem_cons_succ, List.getElem_cons_zero, Act.put, List.setIfInBounds_toArray, List.set_cons_zero, List.set_cons_succ]
                    refine lexH_skip rfl rfl ?_
                    simp only [List.getElem_toArray, List.getElem_cons_succ, List.getElem_cons_zero, Act.put, List.setIfInBounds_toArray, List.set_cons_zero, List.set_cons_succ]
                    refine lexH_skip rfl rfl ?_
                    simp only [List.getElem_toArray, List.getElem_cons_succ, List.getElem_cons_zero, Act.put, List.setIfInBounds_toArray, List.set_cons_zero, List.set_cons_succ]
                    refine lexH_skip rfl rfl ?_
                    simp only [List.getElem_toArray, List.getElem_cons_succ, List.getElem_cons_zero, Act.put, List.setIfInBounds_toArray, List.set_cons_zero, List.set_cons_succ]
                    refine lexH_skip rfl rfl ?_
                    simp only [List.getElem_toArray, List.getElem_cons_succ, List.getElem_cons_zero, Act.put, List.setIfInBounds_toArray, List.set_cons_zero, List.set_cons_succ]
                    refine lexH_skip rfl rfl ?_
                    simp only [List.getElem_toArray, List.getElem_cons_succ, List.getElem_cons_zero, Act.put, List.setIfInBounds_toArray, List.set_cons_zero, List.set_cons_succ]
                    refine lexH_skip rfl rfl ?_
                    simp only [List.getElem_toArray, List.getElem_cons_succ, List.getElem_cons_zero, Act.put, List.setIfInBounds_toArray, List.set_cons_zero, List.set_cons_succ]
                    refine lexH_skip rfl rfl ?_
                    simp only [List.getElem_toArray, List.getElem_cons_succ, List.getElem_cons_zero, Act.put, List.setIfInBounds_toArray, List.set_cons_zero, List.set_cons_succ]
                    refine lexH_pass rfl rfl rfl ?_
                    simp only [List.getElem_toArray, List.getElem_cons_succ, List.getElem_cons_zero, Act.put, List.setIfInBounds_toArray, List.set_cons_zero, List.set_cons_succ]
                    refine lexH_pass rfl rfl rfl ?_
                    simp only [List.getElem_toArray, List.getElem_cons_succ, List.getElem_cons_zero, Act.put, List.setIfInBounds_toArray, List.set_cons_zero, List.set_cons_succ]
                    refine lexH_skip rfl rfl ?_
                    simp only [List.getElem_toArray, List.getElem_cons_succ, List.getElem_cons_zero, Act.put, List.setIfInBounds_toArray, List.set_cons_zero, List.set_cons_succ]
                    refine lexH_skip rfl rfl ?_
                    simp only [List.getElem_toArray, List.getElem_cons_succ, List.getElem_cons_zero, Act.put, List.setIfInBounds_toArray, List.set_cons_zero, List.set_cons_succ]
                    refine lexH_skip rfl rfl ?_
                    simp only [List.getElem_toArray, List.getElem_cons_succ, List.getElem_cons_zero, Act.put, List.setIfInBounds_toArray, List.set_cons_zero, List.set_cons_succ]
                    refine lexH_skip rfl rfl ?_
                    simp only [List.getElem_toArray, List.getElem_cons_succ, List.getElem_cons_zero, Act.put, List.setIfInBounds_toArray, List.set_cons_zero, List.set_cons_succ]
                    refine lexH_skip rfl rfl ?_
                    simp only [List.getElem_toArray, List.getElem_cons_succ, List.getElem_cons_zero, Act.put, List.setIfInBounds_toArray, List.set_cons_zero, List.set_cons_succ]
                    refine lexH_skip rfl rfl ?_
                    simp only [List.getElem_toArray, List.getElem_cons_succ, List.getElem_cons_zero, Act.put, List.setIfInBounds_toArray, List.set_cons_zero, List.set_cons_succ]
                    refine lexH_skip rfl rfl ?_
                    simp only [List.getElem_toArray, List.getElem_cons_succ, List.getElem_cons_zero, Act.put, List.setIfInBounds_toArray, List.set_cons_zero, List.set_cons_succ]
                    refine lexH_skip rfl rfl ?_
                    simp only [List.getElem_toArray, List.getElem_cons_succ, List.getElem_cons_zero, Act.put, List.setIfInBounds_toArray, List.set_cons_zero, List.set_cons_succ]
                    refine lexH_skip rfl rfl ?_
                    simp only [List.getElem_toArray, List.getElem_cons_succ, List.getElem_cons_zero, Act.put, List.setIfInBounds_toArray, List.set_cons_zero, List.set_cons_succ]
                    refine lexH_skip rfl rfl ?_
                    simp only [List.getElem_toArray, List.getElem_cons_succ, List.getElem_cons_zero, Act.put, List.setIfInBounds_toArray, List.set_cons_zero, List.set_cons_succ]
                    refine lexH_skip rfl rfl ?_
                    simp only [List.getElem_toArray, List.getElem_cons_succ, List.getElem_cons_zero, Act.put, List.setIfInBounds_toArray, List.set_cons_zero, List.set_cons_succ]
                    refine lexH_skip rfl rfl ?_
                    simp only [List.getElem_toArray, List.getElem_cons_succ, List.getElem_cons_zero, Act.put, List.setIfInBounds_toArray, List.set_cons_zero, List.set_cons_succ]
                    refine lexH_skip rfl rfl ?_
                    simp only [List.getElem_toArray, List.getElem_cons_succ, List.getElem_cons_zero, Act.put, List.setIfInBounds_toArray, List.set_cons_zero, List.set_cons_succ]
                    refine lexH_pass rfl rfl rfl ?_
                    simp only [List.getElem_toArray, List.getElem_cons_succ, List.getElem_cons_zero, Act.put, List.setIfInBounds_toArray, List.set_cons_zero, List.set_cons_succ]
                    refine lexH_pass rfl rfl rfl ?_
                    simp only [List.getElem_toArray, List.getElem_cons_succ, List.getElem_cons_zero, Act.put, List.setIfInBounds_toArray, List.set_cons_zero, List.set_cons_succ]
                    refine lexH_skip rfl rfl ?_
                    simp only [List.getElem_toArray, List.getElem_cons_succ, List.getElem_cons_zero, Act.put, List.setIfInBounds_toArray, List.set_cons_zero, List.set_cons_succ]
                    refine lexH_skip rfl rfl ?_
                    simp only [List.getElem_toArray, List.getElem_cons_succ, List.getElem_cons_zero, Act.put, List.setIfInBounds_toArray, List.set_cons_zero, List.set_cons_succ]
                    refine lexH_skip rfl rfl ?_
                    simp only [List.getElem_toArray, List.getElem_cons_succ, List.getElem_cons_zero, Act.put, List.setIfInBounds_toArray, List.set_cons_zero, List.set_cons_succ]
                    refine lexH_yieldE rfl rfl ?_
                    apply Exists.intro
                    refine ⟨fun W hW => ?_, ?_⟩
                    focus (go_simp; exact rfl)
                    simp only [List.getElem_toArray, List.getElem_cons_succ, List.getElem_cons_zero, Act.put, List.setIfInBounds_toArray, List.set_cons_zero, List.set_cons_succ]
                    refine lexH_nil ?_
                    go_wp2_with (fail)
                    go_meet
                    exact ⟨K, D, A, R, _, _, rfl, rfl, hKc, hDd, Nat.le_succ_of_le hRk, HP2⟩
                | some S =>
                  as_aux_lemma =>
                    rw [hf] at hs hd
                    unfold ptrF at hs hd
                    have HS := Lib.hid hs
                    have HD := Lib.hid hd
                    have HF := Lib.hid hf
                    clear hs hd hf
                    go_wp2_with (fail)
                    refine HS.out.mono ?_
                    rintro e W3 ⟨rfl, hw⟩
                    subst hw
                    clear HS
                    go_wp2_with (fail)
                    refine HD.out.mono ?_
                    rintro e W4 ⟨rfl, hw⟩
                    subst hw
                    clear HD
                    have L0 := Lib.hid (show ∀ V, RowAt V ob 5 (oaV ⟨5, fr, ix, fill, short⟩) → (loadVar 3 ⟨ob, 0, none⟩).run Try.prog V = .ok (.int .i64 5) V from fun V hV => run_loadVar_cell (fun _ => by kernel_rfl) (opa_five hV).1)
                    have L2 := Lib.hid (show ∀ V, RowAt V ob 5 (oaV ⟨5, fr, ix, fill, short⟩) → (loadVar 3 ⟨ob, 2, none⟩).run Try.prog V = .ok (.int .i64 ix) V from fun V hV => run_loadVar_cell (fun _ => by kernel_rfl) (opa_five hV).2.2.1)
                    go_wp2_with (fail)
                    refine wp_region_lex1 (fun V => RowAt V ob 5 (oaV ⟨5, fr, ix, fill, short⟩)) [(0, false), (1, false), (2, false), (3, false), (4, false), (5, false), (6, false), (7, false), (8, false), (9, false), (10, false), (11, false), (12, false), (14, false), (15, false), (16, false), (17, false), (18, false), (19, false), (13, true), (20, true), (21, false), (22, false), (23, false), (24, false), (25, false), (26, false), (27, false), (28, false), (29, false), (30, false), (32, false), (33, false), (34, false), (31, true), (35, true), (36, false), (37, false), (38, false), (39, false)]
                      (by kernel_rfl) (by kernel_rfl) rfl (by kernel_rfl) (HR.out.later (Below.refl _ W).drew) ?_
                    intro W0 hW0 hK0
                    clear hK0
                    have HP0 := Lib.hid (show PlC w.heap.size w K D A u v R R R W0 by rw [hW0]; exact HP1.out.later (Below.refl _ W).drew)
                    have HR0 := Lib.hid (show RowAt W0 ob 5 (oaV ⟨5, fr, ix, fill, short⟩) by rw [hW0]; exact HR.out.later (Below.refl _ W).drew)
                    have HM := Lib.hid (findL_mem HF.out)
                    have HKF := Lib.hid (show ∀ j, (K.g fr).all j → j < ob from fun j hj => hkob.out j (.inr ⟨_, HM.out, hj⟩))
                    have HDF := Lib.hid (show (D.g fr).r < ob from hdob.out _ (.inr ⟨_, HM.out, .inl rfl⟩))
                    have HIS := Lib.hid (show SlI S from (HP1.out.d.inv.find HF.out).1)
                    clear hW0 HP1 HR q0 q1 q2 q3 q4
                    refine lexH_yieldE rfl rfl ?_
                    apply Exists.intro
                    refine ⟨fun W hW => ?_, ?_⟩
                    focus (go_simp; exact rfl)
                    simp only [List.getElem_toArray, List.getElem_cons_zero, Act.put, List.setIfInBounds_toArray, List.set_cons_zero, List.set_cons_succ]
                    refine lexH_yieldE rfl rfl ?_
                    apply Exists.intro
                    refine ⟨fun W hW => ?_, ?_⟩
                    focus (go_simp; exact rfl)
                    simp only [List.getElem_toArray, List.getElem_cons_succ, List.getElem_cons_zero, Act.put, List.setIfInBounds_toArray, List.set_cons_zero, List.set_cons_succ]
                    refine lexH_yieldE rfl rfl ?_
                    apply Exists.intro
                    refine ⟨fun W hW => ?_, ?_⟩
                    focus (go_simp; exact rfl)
                    simp only [List.getElem_toArray, List.getElem_cons_succ, List.getElem_cons_zero, Act.put, List.setIfInBounds_toArray, List.set_cons_zero, List.set_cons_succ]
                    refine lexH_yieldE rfl rfl ?_
                    apply Exists.intro
                    refine ⟨fun W hW => ?_, ?_⟩
                    focus (go_simp; exact rfl)
                    simp only [List.getElem_toArray, List.getElem_cons_succ, List.getElem_cons_zero, Act.put, List.setIfInBounds_toArray, List.set_cons_zero, List.set_cons_succ]
                    refine lexH_load rfl rfl _ _ rfl rfl L0.out ?_
                    simp only [List.getElem_toArray, List.getElem_cons_succ, List.getElem_cons_zero, Act.put, List.setIfInBounds_toArray, List.set_cons_zero, List.set_cons_succ]
                    refine lexH_yieldE rfl rfl ?_
                    apply Exists.intro
                    refine ⟨fun W hW => ?_, ?_⟩
                    focus (go_simp; exact rfl)
                    simp only [List.getElem_toArray, List.getElem_cons_succ, List.getElem_cons_zero, Act.put, List.setIfInBounds_toArray, List.set_cons_zero, List.set_cons_succ]
                    refine lexH_yieldE rfl rfl ?_
                    apply Exists.intro
                    refine ⟨fun W hW => ?_, ?_⟩
                    focus (go_simp; exact rfl)
                    simp only [List.getElem_toArray, List.getElem_cons_succ, List.getElem_cons_zero, Act.put, List.setIfInBounds_toArray, List.set_cons_zero, List.set_cons_succ]
                    refine lexH_skip rfl rfl ?_
                    simp only [List.getElem_toArray, List.getElem_cons_succ, List.getElem_cons_zero, Act.put, List.setIfInBounds_toArray, List.set_cons_zero, List.set_cons_succ]
                    refine lexH_skip rfl rfl ?_
                    simp only [List.getElem_toArray, List.getElem_cons_succ, List.getElem_cons_zero, Act.put, List.setIfInBounds_toArray, List.set_cons_zero, List.set_cons_succ]
                    refine lexH_skip rfl rfl ?_
                    simp only [List.getElem_toArray, List.getElem_cons_succ, List.getElem_cons_zero, Act.put, List.setIfInBounds_toArray, List.set_cons_zero, List.set_cons_succ]
                    refine lexH_skip rfl rfl ?_
                    simp only [List.getElem_toArray, List.getElem_cons_succ, List.getElem_cons_zero, Act.put, List.setIfInBounds_toArray, List.set_cons_zero, List.set_cons_succ]
                    refine lexH_skip rfl rfl ?_
                    simp only [List.getElem_toArray, List.getElem_cons_succ, List.getElem_cons_zero, Act.put, List.setIfInBounds_toArray, List.set_cons_zero, List.set_cons_succ]
                    refine lexH_skip rfl rfl ?_
                    simp only [List.getElem_toArray, List.getElem_cons_succ, List.getElem_cons_zero, Act.put, List.setIfInBounds_toArray, List.set_cons_zero, List.set_cons_succ]
                    refine lexH_skip rfl rfl ?_
                    simp only [List.getElem_toArray, List.getElem_cons_succ, List.getElem_cons_zero, Act.put, List.setIfInBounds_toArray, List.set_cons_zero, List.set_cons_succ]
                    refine lexH_skip rfl rfl ?_
                    simp only [List.getElem_toArray, List.getElem_cons_succ, List.getElem_cons_zero, Act.put, List.setIfInBounds_toArray, List.set_cons_zero, List.set_cons_succ]
                    refine lexH_skip rfl rfl ?_
                    simp only [List.getElem_toArray, List.getElem_cons_succ, List.getElem_cons_zero, Act.put, List.setIfInBounds_toArray, List.set_cons_zero, List.set_cons_succ]
                    refine lexH_skip rfl rfl ?_
                    simp only [List.getElem_toArray, List.getElem_cons_succ, List.getElem_cons_zero, Act.put, List.setIfInBounds_toArray, List.set_cons_zero, List.set_cons_succ]
                    refine lexH_skip rfl rfl ?_
                    simp only [List.getElem_toArray, List.getElem_cons_succ, List.getElem_cons_zero, Act.put, List.setIfInBounds_toArray, List.set_cons_zero, List.set_cons_succ]
                    refine lexH_skip rfl rfl ?_
                    simp only [List.getElem_toArray, List.getElem_cons_succ, List.getElem_cons_zero, Act.put, List.setIfInBounds_toArray, List.set_cons_zero, List.set_cons_succ]
                    refine lexH_pass rfl rfl HR0.out ?_
                    simp only [List.getElem_toArray, List.getElem_cons_succ, List.getElem_cons_zero, Act.put, List.setIfInBounds_toArray, List.set_cons_zero, List.set_cons_succ]
                    refine lexH_pass rfl rfl HR0.out ?_
                    simp only [List.getElem_toArray, List.getElem_cons_succ, List.getElem_cons_zero, Act.put, List.setIfInBounds_toArray, List.set_cons_zero, List.set_cons_succ]
                    refine lexH_skip rfl rfl ?_
                    simp only [List.getElem_toArray, List.getElem_cons_succ, List.getElem_cons_zero, Act.put, List.setIfInBounds_toArray, List.set_cons_zero, List.set_cons_succ]
                    refine lexH_yieldE rfl rfl ?_
                    apply Exists.intro
                    refine ⟨fun W hW => ?_, ?_⟩
                    focus (go_simp; exact rfl)
                    simp only [List.getElem_toArray, List.getElem_cons_succ, List.getElem_cons_zero, Act.put, List.setIfInBounds_toArray, List.set_cons_zero, List.set_cons_succ]
                    refine lexH_yieldE rfl rfl ?_
                    apply Exists.intro
                    refine ⟨fun W hW => ?_, ?_⟩
                    focus (go_simp; exact rfl)
                    simp only [List.getElem_toArray, List.getElem_cons_succ, List.getElem_cons_zero, Act.put, List.setIfInBounds_toArray, List.set_cons_zero, List.set_cons_succ]
                    refine lexH_yieldE rfl rfl ?_
                    apply Exists.intro
                    refine ⟨fun W hW => ?_, ?_⟩
                    focus (go_simp; exact rfl)
                    simp only [List.getElem_toArray, List.getElem_cons_succ, List.getElem_cons_zero, Act.put, List.setIfInBounds_toArray, List.set_cons_zero, List.set_cons_succ]
                    refine lexH_load rfl rfl _ _ rfl rfl L0.out ?_
                    simp only [List.getElem_toArray, List.getElem_cons_succ, List.getElem_cons_zero, Act.put, List.setIfInBounds_toArray, List.set_cons_zero, List.set_cons_succ]
                    refine lexH_yieldE rfl rfl ?_
                    apply Exists.intro
                    refine ⟨fun W hW => ?_, ?_⟩
                    focus (go_simp; exact rfl)
                    simp only [List.getElem_toArray, List.getElem_cons_succ, List.getElem_cons_zero, Act.put, List.setIfInBounds_toArray, List.set_cons_zero, List.set_cons_succ]
                    refine lexH_yieldE rfl rfl ?_
                    apply Exists.intro
                    refine ⟨fun W hW => ?_, ?_⟩
                    focus (go_simp; exact rfl)
                    simp only [List.getElem_toArray, List.getElem_cons_succ, List.getElem_cons_zero, Act.put, List.setIfInBounds_toArray, List.set_cons_zero, List.set_cons_succ]
                    refine lexH_yieldE rfl rfl ?_
                    apply Exists.intro
                    refine ⟨fun W hW => ?_, ?_⟩
                    focus (go_simp; exact rfl)
                    simp only [List.getElem_toArray, List.getElem_cons_succ, List.getElem_cons_zero, Act.put, List.setIfInBounds_toArray, List.set_cons_zero, List.set_cons_succ]
                    refine lexH_yieldE rfl rfl ?_
                    apply Exists.intro
                    refine ⟨fun W hW => ?_, ?_⟩
                    focus (go_simp; exact rfl)
                    simp only [List.getElem_toArray, List.getElem_cons_succ, List.getElem_cons_zero, Act.put, List.setIfInBounds_toArray, List.set_cons_zero, List.set_cons_succ]
                    refine lexH_load rfl rfl _ _ rfl rfl L2.out ?_
                    simp only [List.getElem_toArray, List.getElem_cons_succ, List.getElem_cons_zero, Act.put, List.setIfInBounds_toArray, List.set_cons_zero, List.set_cons_succ]
                    refine lexH_yieldE rfl rfl ?_
                    apply Exists.intro
                    refine ⟨fun W hW => ?_, ?_⟩
                    focus (go_simp; exact rfl)
                    simp only [List.getElem_toArray, List.getElem_cons_succ, List.getElem_cons_zero, Act.put, List.setIfInBounds_toArray, List.set_cons_zero, List.set_cons_succ]
                    refine lexH_yieldE rfl rfl ?_
                    apply Exists.intro
                    refine ⟨fun W hW => ?_, ?_⟩
                    focus (go_simp; exact rfl)
                    simp only [List.getElem_toArray, List.getElem_cons_succ, List.getElem_cons_zero, Act.put, List.setIfInBounds_toArray, List.set_cons_zero, List.set_cons_succ]
                    refine lexH_load rfl rfl _ _ rfl rfl L2.out ?_
                    simp only [List.getElem_toArray, List.getElem_cons_succ, List.getElem_cons_zero, Act.put, List.setIfInBounds_toArray, List.set_cons_zero, List.set_cons_succ]
                    have HC1 := Lib.hid (chain_ok.clr (w := W0) (C := K.g fr) (S := S) ix (HP0.out.k.at_.fam.at_ _ HM.out))
                    refine lexH_call 25 #[.pointer (some ⟨(K.g fr).s, 0, none⟩), .int .i64 ix] rfl rfl ?_ ?_
                    focus (go_simp; done)
                    refine HC1.out.mono ?_
                    rintro e W1 ⟨rfl, hA, ho⟩
                    have HR1 := Lib.hid (HR0.out.only ho (fun h => Nat.lt_irrefl _ (HKF.out _ h)))
                    have HA := Lib.hid hA
                    have HO1 := Lib.hid ho
                    have HC2 := Lib.hid (show CRef W1 (D.g fr).r (D.g fr).b (D.g fr).bc S (D.g fr).v from (HP0.out.d.only ho (fun j hj h => HP0.out.ap j (.inr ⟨_, HM.out, h⟩) hj)).fam.at_ _ HM.out)
                    refine ⟨_, rfl, HR1.out, ?_⟩
                    clear hA ho HR0 HC1
                    simp only [List.getElem_toArray, List.getElem_cons_succ, List.getElem_cons_zero, Act.put, List.setIfInBounds_toArray, List.set_cons_zero, List.set_cons_succ]
                    refine lexH_call 26 #[.pointer (some ⟨(D.g fr).r, 0, none⟩), .int .i64 ix] rfl rfl ?_ ?_
                    focus (go_simp; done)
                    refine (rclear_any HC2.out HIS.out ix).mono ?_
                    rintro e W2 ⟨rfl, hR, ho⟩
                    have HR2 := Lib.hid (HR1.out.only ho (fun h => Nat.ne_of_gt HDF.out h))
                    obtain ⟨D', hDd', hP⟩ := HP0.out.slab HF.out (HIS.out.clr ix) (clr_sz S ix) HA.out HO1.out hR ho
                    have HP3 := Lib.hid hP
                    refine ⟨_, rfl, HR2.out, ?_⟩
                    clear hR ho HR1 HA HO1 HC2 HP0 HF HM HIS hP HKF HDF L0 L2 HR2
                    generalize S.clr ix = q at *
                    obtain ⟨e1, S2⟩ := q
                    dsimp only at HP3
                    simp only [List.getElem_toArray, List.getElem_cons_succ, List.getElem_cons_zero, Act.put, List.setIfInBounds_toArray, List.set_cons_zero, List.set_cons_succ]
                    refine lexH_yieldE rfl rfl ?_
                    apply Exists.intro
                    refine ⟨fun W hW => ?_, ?_⟩
                    focus (go_simp; exact rfl)
                    simp only [List.getElem_toArray, List.getElem_cons_succ, List.getElem_cons_zero, Act.put, List.setIfInBounds_toArray, List.set_cons_zero, List.set_cons_succ]
                    refine lexH_yieldE rfl rfl ?_
                    apply Exists.intro
                    refine ⟨fun W hW => ?_, ?_⟩
                    focus (go_simp; exact rfl)
                    simp only [List.getElem_toArray, List.getElem_cons_succ, List.getElem_cons_zero, Act.put, List.setIfInBounds_toArray, List.set_cons_zero, List.set_cons_succ]
                    refine lexH_yieldE rfl rfl ?_
                    apply Exists.intro
                    refine ⟨fun W hW => ?_, ?_⟩
                    focus (go_simp; exact rfl)
                    simp only [List.getElem_toArray, List.getElem_cons_succ, List.getElem_cons_zero, Act.put, List.setIfInBounds_toArray, List.set_cons_zero, List.set_cons_succ]
                    refine lexH_yieldE rfl rfl ?_
                    apply Exists.intro
                    refine ⟨fun W hW => ?_, ?_⟩
                    focus (go_simp; exact rfl)
                    simp only [List.getElem_toArray, List.getElem_cons_succ, List.getElem_cons_zero, Act.put, List.setIfInBounds_toArray, List.set_cons_zero, List.set_cons_succ]
                    refine lexH_nil ?_
                    go_wp2_with (fail)
                    go_meet
                    exact ⟨K, D', A.turned fr S2, R, _, _, rfl, rfl, hKc, hDd'.trans hDd, Nat.le_succ_of_le hRk, HP3⟩
            -- SCAN]
            have e0 : (kind == 0) = false := by simpa using hk0
            have e1 : (kind == 1) = false := by simpa using hk1
            have e2 : (kind == 2) = false := by simpa using hk2
            have e3 : (kind == 3) = false := by simpa using hk3
            have e4 : (kind == 4) = false := by simpa using hk4
            have e5 : (kind == 5) = false := by simpa using hk5
            clear hk0 hk1 hk2 hk3 hk4 hk5
            go_wp2_with (fail)
            go_meet
            exact ⟨K, D, A, R, _, _, rfl, rfl, hKc, hDd, Nat.le_succ_of_le hRk, HP1⟩
          case rest =>
            obtain ⟨K', D', A', R', u', v', rfl, rfl, hKc', hDd', hRk', HP'⟩ := hcut
            clear HP1 HR HAL
            have hcc := kdsame_any HP'.out.k.at_ HP'.out.d (by have := HP'.out.len; have := HLT.out; omega)
            rw [hKc', hDd'] at hcc
            have HCC := Lib.hid hcc
            clear hcc
            go_wp2_with (fail)
            refine HCC.out.mono ?_
            rintro e W5 ⟨rfl, hb⟩
            have HP5 := Lib.hid (HP'.out.later hb)
            clear hb HP' HCC
            go_wp2_with (fail)
            go_roundw
            case rel => exact ⟨k + 1, K', D', A', R', _, _, HLT.out, by go_num, rfl, rfl, hKc', hDd', hRk', HP5⟩
            case measure => have := HLT.out; simp [intOf]; omega
        · obtain rfl : k = len := by omega
          obtain ⟨a1, c1, rfl, _⟩ := owns_slice HP.out.ou
          obtain ⟨a2, c2, rfl, _⟩ := owns_slice HP.out.ov
          have hR150 : R.length ≤ 150 := by omega
          go_wp2_with (fail)
          go_loopw [212] (fun i wq => ∃ j : Nat, j ≤ R.length ∧ i = .int .i64 j ∧ Hid (PlC w.heap.size w K D A (.slice a1 R.length c1) (.slice a2 R.length c2) R R R wq)) (fun i _ => R.length - (intOf i).toNat)
          case atStart => exact ⟨0, Nat.zero_le _, rfl, HP⟩
          case round =>
            clear HP
            rename World => wq
            obtain ⟨j, hj, rfl, HP⟩ := hrel
            by_cases hlt : j < R.length
            · have hltI : (j : Int) < (R.length : Int) := by omega
              obtain ⟨g1, rfl, hc1⟩ := owns_at HP.out.ou hlt
              obtain ⟨g2, rfl, hc2⟩ := owns_at HP.out.ov hlt
              obtain ⟨f, r1, r2⟩ := HP.out.rows (List.getElem_mem hlt)
              rw [List.getElem?_map, List.getElem?_eq_getElem hlt] at hc1 hc2
              have HLT := Lib.hid hlt
              have HLR := Lib.hid hR150
              generalize R[j] = r at *
              obtain ⟨ra, rb, rn⟩ := r
              have d1 : wq.cell? ⟨g1, j, none⟩ = some (.slice (some ⟨ra, 0, none⟩) rn rn) := hc1
              have d2 : wq.cell? ⟨g2, j, none⟩ = some (.slice (some ⟨rb, 0, none⟩) rn rn) := hc2
              dsimp only at r1 r2
              have HP2 := Lib.hid (HP.out.later (Below.refl wq.heap.size wq).drew)
              have L1 := Lib.hid (show ∀ V, V = wq.drew → (loadVar 34 ⟨g1, j, none⟩).run Try.prog V = .ok (.slice (some ⟨ra, 0, none⟩) rn rn) V from fun V hV => run_loadVar_cell (fun _ => by kernel_rfl) (by rw [hV]; exact d1))
              have L2 := Lib.hid (show ∀ V, V = wq.drew → (loadVar 34 ⟨g2, j, none⟩).run Try.prog V = .ok (.slice (some ⟨rb, 0, none⟩) rn rn) V from fun V hV => run_loadVar_cell (fun _ => by kernel_rfl) (by rw [hV]; exact d2))
              have S1 := Lib.hid (show ∀ V, V = wq.drew → (convert 34 9 (.slice (some ⟨ra, 0, none⟩) rn rn)).run Try.prog V = .ok (.string (strB rn f)) V from fun V hV => run_string (by rw [hV]; exact r1.later (Below.refl _ wq).drew))
              have S2 := Lib.hid (show ∀ V, V = wq.drew → (convert 34 9 (.slice (some ⟨rb, 0, none⟩) rn rn)).run Try.prog V = .ok (.string (strB rn f)) V from fun V hV => run_string (by rw [hV]; exact r2.later (Below.refl _ wq).drew))
              clear hc1 hc2 d1 d2 r1 r2 HP hlt
              generalize strB rn f = st at *
              go_wp2_with (fail)
              refine wp_region_lex1 (fun V => V = wq.drew) [(0, false), (1, false), (2, false), (3, false), (4, false), (5, false), (6, false), (7, false), (8, false), (9, false), (10, false)]
                (by kernel_rfl) (by kernel_rfl) rfl (by kernel_rfl) rfl ?_
              intro V0 hV0 hK0
              clear hK0
              subst hV0
              refine lexH_yieldE rfl rfl ?_
              apply Exists.intro
              refine ⟨fun W hW => ?_, ?_⟩
              focus (go_simp; exact rfl)
              simp only [List.getElem_toArray, List.getElem_cons_zero, Act.put, List.setIfInBounds_toArray, List.set_cons_zero, List.set_cons_succ]
              refine lexH_yieldE rfl rfl ?_
              apply Exists.intro
              refine ⟨fun W hW => ?_, ?_⟩
              focus (go_simp; exact rfl)
              simp only [List.getElem_toArray, List.getElem_cons_succ, List.getElem_cons_zero, Act.put, List.setIfInBounds_toArray, List.set_cons_zero, List.set_cons_succ]
              refine lexH_yieldE rfl rfl ?_
              apply Exists.intro
              refine ⟨fun W hW => ?_, ?_⟩
              focus (go_simp; exact rfl)
              simp only [List.getElem_toArray, List.getElem_cons_succ, List.getElem_cons_zero, Act.put, List.setIfInBounds_toArray, List.set_cons_zero, List.set_cons_succ]
              refine lexH_load rfl rfl _ _ rfl rfl L1.out ?_
              simp only [List.getElem_toArray, List.getElem_cons_succ, List.getElem_cons_zero, Act.put, List.setIfInBounds_toArray, List.set_cons_zero, List.set_cons_succ]
              refine lexH_conv rfl rfl _ _ _ rfl rfl S1.out ?_
              simp only [List.getElem_toArray, List.getElem_cons_succ, List.getElem_cons_zero, Act.put, List.setIfInBounds_toArray, List.set_cons_zero, List.set_cons_succ]
              refine lexH_yieldE rfl rfl ?_
              apply Exists.intro
              refine ⟨fun W hW => ?_, ?_⟩
              focus (go_simp; exact rfl)
              simp only [List.getElem_toArray, List.getElem_cons_succ, List.getElem_cons_zero, Act.put, List.setIfInBounds_toArray, List.set_cons_zero, List.set_cons_succ]
              refine lexH_yieldE rfl rfl ?_
              apply Exists.intro
              refine ⟨fun W hW => ?_, ?_⟩
              focus (go_simp; exact rfl)
              simp only [List.getElem_toArray, List.getElem_cons_succ, List.getElem_cons_zero, Act.put, List.setIfInBounds_toArray, List.set_cons_zero, List.set_cons_succ]
              refine lexH_yieldE rfl rfl ?_
              apply Exists.intro
              refine ⟨fun W hW => ?_, ?_⟩
              focus (go_simp; exact rfl)
              simp only [List.getElem_toArray, List.getElem_cons_succ, List.getElem_cons_zero, Act.put, List.setIfInBounds_toArray, List.set_cons_zero, List.set_cons_succ]
              refine lexH_load rfl rfl _ _ rfl rfl L2.out ?_
              simp only [List.getElem_toArray, List.getElem_cons_succ, List.getElem_cons_zero, Act.put, List.setIfInBounds_toArray, List.set_cons_zero, List.set_cons_succ]
              refine lexH_conv rfl rfl _ _ _ rfl rfl S2.out ?_
              simp only [List.getElem_toArray, List.getElem_cons_succ, List.getElem_cons_zero, Act.put, List.setIfInBounds_toArray, List.set_cons_zero, List.set_cons_succ]
              refine lexH_yieldE rfl rfl ?_
              apply Exists.intro
              refine ⟨fun W hW => ?_, ?_⟩
              focus (go_simp; exact rfl)
              simp only [List.getElem_toArray, List.getElem_cons_succ, List.getElem_cons_zero, Act.put, List.setIfInBounds_toArray, List.set_cons_zero, List.set_cons_succ]
              refine lexH_nil ?_
              clear L1 L2 S1 S2
              go_wp2_with (fail)
              go_roundw
              case rel => exact ⟨j + 1, HLT.out, by go_num, HP2⟩
              case measure => have := HLT.out; simp [intOf]; omega
            · obtain rfl : j = R.length := by omega
              go_wp2_with (fail)
              refine (kknown_any _).mono ?_
              rintro e w6 ⟨rfl, hb⟩
              have HB6 := Lib.hid (HP.out.ends.trans (hb.mono HP.out.le))
              clear hb
              go_wp2_with (fail)
              go_ret
              exact ⟨rfl, HB6.out⟩
  · have hlenI : 150 < (len : Int) := by omega
    go_enter Try.func3, Try.ntmps3
    go_wp2_with (fail)
    refine (kknown_any w).mono ?_
    rintro e w1 ⟨rfl, hb⟩
    have HB := Lib.hid hb
    clear hb
    go_wp2_with (fail)
    go_ret
    exact ⟨rfl, HB.out⟩
end Go.Proofs.Ytlimbcpghfddkaa
