/-
  magazine: Put of the document's pair.
-/
import Derived.Test.YtaadjgnfihkaeaaMgPut
namespace Go.Proofs.Ytaadjgnfihkaeaa
open Go.RowKit Go
section
variable {w w' w1 w2 : World} {M M1 M2 : MP} {N X : Nat} {L O L' O' : Obs} {x y : Int}
set_option maxRecDepth 100000 in
set_option maxHeartbeats 8000000 in
theorem rput_any (h : MAt w M N L O) (x y : Int) : Calls Try.prog 13 #[.pointer (some ⟨M.p, 0, none⟩), .agg #[.int .i64 x, .int .i64 y]] w (PutP w M N (x, y) L O) := by
  obtain ⟨i0, hi, hz0, hz1, hz2⟩ := info_parts infoObj
  have hba : Below w.heap.size w (w.alloc (.cells #[.int .i64 x, .int .i64 y] 33)) := (Below.refl w.heap.size w).alloc (Nat.le_refl _) _
  have HM := Lib.hid (h.later hba)
  have HT := Lib.hid (MTurn.of_below (M := M) hba)
  have HX := Lib.hid (obj_row w x y)
  have HN := Lib.hid (show ¬ M.has w.heap.size from fun e => by have := h.lt e; omega)
  have h32 : N ≤ 32 := h.n2
  have hlN := h.hl
  have hoN := h.ho
  clear h hba
  obtain ⟨p, l, o⟩ := M
  go_enter Try.func13, Try.ntmps13
  go_wp2_with (fail)
  generalize w.alloc (.cells #[.int .i64 x, .int .i64 y] 33) = w1 at *
  generalize w.heap.size = X at HX HN ⊢
  obtain ⟨c0, c1, c2⟩ := lens HM.out
  obtain ⟨la1, lc1, c1⟩ := c1
  obtain ⟨la2, lc2, c2⟩ := c2
  by_cases hL : L.length = N
  · have eL := len_t hL
    by_cases hO : O.length = N
    · have eO : ¬ ((O.length : Int) < (N : Int)) := by omega
      have HG := Lib.hid (putM_full (x := (x, y)) hL hO)
      clear hL hO hlN hoN HX HN
      go_quiet (fail)
      have HMA := Lib.hid (HM.out.later (below_drewN (Below.refl _ _) nq))
      have HTA := Lib.hid (HT.out.later (below_drewN (Below.refl _ _) nq))
      clear HM HT c0 c1 c2
      generalize w1.drewN nq = wA at *
      obtain ⟨c0, c1, c2⟩ := lens HMA.out
      obtain ⟨la3, lc3, c1⟩ := c1
      clear c2
      go_wp2_with (fail)
      go_quiet (fail)
      have HF := Lib.hid (PutP.of (HTA.out.later (below_drewN (Below.refl _ _) nq)) (HMA.out.later (below_drewN (Below.refl _ _) nq)) (MTurn.refl _ _) HG.out)
      clear HMA HTA HG c0 c1
      go_wp2_with (fail)
      go_ret
      exact HF.out
    · have HLT := Lib.hid (show O.length < N by omega)
      have eO : (O.length : Int) < (N : Int) := by omega
      have e2 := len_f hO
      have HG := Lib.hid (putM_chg (x := (x, y)) hL HLT.out)
      clear hL hO hlN hoN
      go_quiet (fail)
      have HMA := Lib.hid (HM.out.later (below_drewN (Below.refl _ _) nq))
      have HTA := Lib.hid (HT.out.later (below_drewN (Below.refl _ _) nq))
      have HXA := Lib.hid (HX.out.later (below_drewN (Below.refl _ _) nq))
      clear HM HT HX c0 c1 c2
      generalize w1.drewN nq = wA at *
      go_wp2_with (fail)
      refine (rchange_any HMA.out).mono ?_
      rintro e w2 ⟨M2, rfl, hM2, hT2⟩
      have HP := Lib.hid hT2.pp
      have HX2 := Lib.hid (HXA.out.only hT2.only HN.out)
      have HT2 := Lib.hid (HTA.out.trans hT2)
      have HM2 := Lib.hid hM2
      obtain ⟨p2, l2, o2⟩ := M2
      have hpp : p2 = p := HP.out
      subst hpp
      clear hM2 hT2 HMA HTA HXA HN HP eL eO
      obtain ⟨c0, c1, c2⟩ := lens HM2.out
      obtain ⟨la3, lc3, c1⟩ := c1
      clear c2
      go_wp2_with (fail)
      go_quiet (fail)
      have HMC := Lib.hid (HM2.out.later (below_drewN (Below.refl _ _) nq))
      have HTC := Lib.hid (HT2.out.later (below_drewN (Below.refl _ _) nq))
      have HXC := Lib.hid (HX2.out.later (below_drewN (Below.refl _ _) nq))
      clear HM2 HT2 HX2 c0 c1
      generalize w2.drewN nq = wC at *
      obtain ⟨la, lc, hl⟩ := HMC.out.ls
      dsimp only at hl
      subst hl
      have HSRC := Lib.hid (show RecsAt wC 0 la encO 2 O from by
        obtain ⟨a3, c3, e3, h3⟩ := RecsAt.of_owns HMC.out.lo
        injection e3 with e3 _ _
        rw [e3]
        exact h3)
      have L1 := Lib.hid (show ∀ W', Kept wC.heap.size wC W' → (loadVar 29 ⟨p2, 1, none⟩).run Try.prog W' = .ok (.slice la O.length lc) W' from
        fun W' hW => run_loadVar_cell (fun _ => by kernel_rfl) (by rw [(HMC.out.row.later hW.below).cell 1 (by decide)]; rfl))
      have L2 := Lib.hid (show ∀ W', Kept wC.heap.size wC W' → (loadVar 33 ⟨X, 0, none⟩).run Try.prog W' = .ok (.agg #[.int .i64 x, .int .i64 y]) W' from
        fun W' hW => load_obj ((HXC.out.later hW.below).cell 0 (by decide)) ((HXC.out.later hW.below).cell 1 (by decide)))
      have hn32 : O.length ≤ 32 := by have := HMC.out.hl; have := HMC.out.n2; omega
      go_wp2_with (fail)
      refine wp_region_plan (Kept wC.heap.size wC) (.take 0 (.take 2 (.take 3 (.take 4 (.take 5 (.take 7 (.step 1 (.step 6 (.step 8 (.step 9 (.take 10 (.take 11 .fin)) .fin) .fin) (.step 8 (.step 6 (.step 9 (.take 10 (.take 11 .fin)) .fin) .fin) .fin)) (.step 8 (.step 1 (.step 6 (.step 9 (.take 10 (.take 11 .fin)) .fin) .fin) .fin) .fin)))))))) 12
        (by kernel_rfl) (by kernel_rfl) (by kernel_rfl) (Below.refl _ wC).drew ?_
      intro W0 hW0 hK0
      clear hW0
      refine lexP_yieldE rfl rfl ?_
      apply Exists.intro
      refine ⟨fun W hW => ?_, ?_⟩
      focus (go_simp; exact rfl)
      simp only [List.getElem_toArray, List.getElem_cons_zero, Act.put, List.setIfInBounds_toArray, List.set_cons_zero, List.set_cons_succ]
      refine lexP_yieldE rfl rfl ?_
      apply Exists.intro
      refine ⟨fun W hW => ?_, ?_⟩
      focus (go_simp; exact rfl)
      simp only [List.getElem_toArray, List.getElem_cons_succ, List.getElem_cons_zero, Act.put, List.setIfInBounds_toArray, List.set_cons_zero, List.set_cons_succ]
      refine lexP_yieldE rfl rfl ?_
      apply Exists.intro
      refine ⟨fun W hW => ?_, ?_⟩
      focus (go_simp; exact rfl)
      simp only [List.getElem_toArray, List.getElem_cons_succ, List.getElem_cons_zero, Act.put, List.setIfInBounds_toArray, List.set_cons_zero, List.set_cons_succ]
      refine lexP_yieldE rfl rfl ?_
      apply Exists.intro
      refine ⟨fun W hW => ?_, ?_⟩
      focus (go_simp; exact rfl)
      simp only [List.getElem_toArray, List.getElem_cons_succ, List.getElem_cons_zero, Act.put, List.setIfInBounds_toArray, List.set_cons_zero, List.set_cons_succ]
      refine lexP_load rfl rfl _ _ rfl rfl L1.out ?_
      simp only [List.getElem_toArray, List.getElem_cons_succ, List.getElem_cons_zero, Act.put, List.setIfInBounds_toArray, List.set_cons_zero, List.set_cons_succ]
      refine lexP_load rfl rfl _ _ rfl rfl L2.out ?_
      simp only [List.getElem_toArray, List.getElem_cons_succ, List.getElem_cons_zero, Act.put, List.setIfInBounds_toArray, List.set_cons_zero, List.set_cons_succ]
      have HK0 := Lib.hid hK0
      clear hK0
      refine lexP_or rfl rfl ?_ ?_
      · unfold Oper.wp
        go_simp
        have HK1 := Lib.hid (show Kept wC.heap.size wC (W0.alloc (.cells #[] 33)) from HK0.out.below.alloc HK0.out.below.size _)
        have HO1 := Lib.hid (World.ownsRow_made W0 (e := 33) (base := W0.heap.size) (size := 2) #[] 0 (Nat.le_refl _) (Nat.zero_le _) (by simp))
        have HB1 := Lib.hid (show W0.heap.size ≤ (W0.alloc (.cells #[] 33)).heap.size by simp)
        have HC1 := Lib.hid HK0.out.below.size
        refine ⟨HK1.out, ?_⟩
        clear HK0 
        generalize W0.alloc (.cells #[] 33) = W1 at *
        generalize W0.heap.size = b1 at *
        refine lexP_or rfl rfl ?_ ?_
        · refine wp_append_src _ _ _ 29 rfl b1 33 i0 _ 2 16 Try.underlying29 hi hz0 hz1 hz2 rfl (by decide) _ _ _ HO1.out HB1.out la O.length lc (recV encO O) rfl rfl (recV_len encO_len O) ((HSRC.out.later HK1.out.below).src encO_len) (recV_one encO_one O) (by omega) (by decide) ?_
          intro v2 W2 hown2 ho2 _
          have HO2 := Lib.hid hown2
          have HK2 := Lib.hid (show Kept wC.heap.size wC W2 from ho2.below HK1.out.below HK1.out.below.size (fun q hq => by have := (HO1.out.lt q hq).1; have := HC1.out; omega))
          have HB2 := Lib.hid (Nat.le_trans HB1.out ho2.size)
          refine ⟨HK2.out, ?_⟩
          clear hown2 ho2 HK1 HO1 HB1 
          simp only [List.getElem_toArray, List.getElem_cons_succ, List.getElem_cons_zero, Act.put, List.setIfInBounds_toArray, List.set_cons_zero, List.set_cons_succ]
          refine lexP_step rfl rfl ?_
          unfold Oper.wp
          go_simp
          have HK3 := Lib.hid (show Kept wC.heap.size wC (W2.alloc (.cells #[.int .i64 x, .int .i64 y] 33)) from HK2.out.below.alloc HK2.out.below.size _)
          have HX3 := Lib.hid (obj_row W2 x y)
          have HO3 := Lib.hid (HO2.out.alloc (.cells #[.int .i64 x, .int .i64 y] 33))
          have HB3 := Lib.hid (show b1 ≤ (W2.alloc (.cells #[.int .i64 x, .int .i64 y] 33)).heap.size from Nat.le_trans HB2.out (by simp))
          have HE3 := Lib.hid (fun q hq => (HO2.out.lt q hq).2)
          refine ⟨HK3.out, ?_⟩
          clear HK2 HO2 HB2
          generalize (W2.alloc (.cells #[.int .i64 x, .int .i64 y] 33)) = W3 at *
          generalize W2.heap.size = c3 at *
          refine lexP_step rfl rfl ?_
          refine wp_append_src _ _ _ 29 rfl b1 33 i0 _ 2 16 Try.underlying29 hi hz0 hz1 hz2 rfl (by decide) _ _ _ HO3.out HB3.out (some ⟨c3, 0, none⟩) 1 1 (encO (x, y)) rfl rfl rfl (fun _ => ⟨_, rfl, fun q uu hq => obj_src HX3.out q uu hq⟩) (encO_one _) (by omega) (by decide) ?_
          intro v4 W4 hown4 ho4 _
          have hown9 : W4.ownsRow b1 33 2 v4 (O ++ [(x, y)]).length (recV encO (O ++ [(x, y)])) := by
            rw [List.length_append, recV_append, recV_single]
            simpa using hown4
          have HK4 := Lib.hid (show Kept wC.heap.size wC W4 from ho4.below HK3.out.below HK3.out.below.size (fun q hq => by have := (HO3.out.lt q hq).1; have := HC1.out; omega))
          have hcs := HC1.out
          refine ⟨HK4.out, ?_⟩
          clear hown4 ho4 HK3 HO3 HX3
          obtain ⟨a9, cap9, hv9⟩ := owns_len hown9
          have hm9 := HMC.out.setL (S := fun _ => False) (Only.of_below HK4.out.below) (fun k hk => hk.elim) (owns_base hown9 (fun _ _ => Nat.zero_le _)) (by rw [List.length_append, List.length_singleton]; have := HLT.out; omega) (fun k hk => .inr (Nat.le_trans hcs (hown9.lt k hk).1))
          have c9 := (HMC.out.row.later HK4.out.below).cell 1 (by decide)
          have f9 := (HMC.out.row.later HK4.out.below).frozen 1
          have HN := Lib.hid (PutP.of HTC.out hm9.1 hm9.2 HG.out)
          rw [show mV N _ 1 = Value.slice la O.length lc from rfl] at c9
          dsimp only at c9 f9 HN
          generalize (O ++ [(x, y)]).length = q9 at *
          subst hv9
          clear hm9 hown9
          simp only [List.getElem_toArray, List.getElem_cons_succ, List.getElem_cons_zero, Act.put, List.setIfInBounds_toArray, List.set_cons_zero, List.set_cons_succ]
          refine lexP_yieldE rfl rfl ?_
          apply Exists.intro
          refine ⟨fun W hW => ?_, ?_⟩
          focus (go_simp; exact rfl)
          simp only [List.getElem_toArray, List.getElem_cons_succ, List.getElem_cons_zero, Act.put, List.setIfInBounds_toArray, List.set_cons_zero, List.set_cons_succ]
          refine lexP_yieldE rfl rfl ?_
          apply Exists.intro
          refine ⟨fun W hW => ?_, ?_⟩
          focus (go_simp; exact rfl)
          simp only [List.getElem_toArray, List.getElem_cons_succ, List.getElem_cons_zero, Act.put, List.setIfInBounds_toArray, List.set_cons_zero, List.set_cons_succ]
          refine lexP_last rfl rfl ?_
          unfold Oper.wp
          go_simp
          go_wp2_with (fail)
          go_ret
          exact HN.out
        · refine lexP_step rfl rfl ?_
          unfold Oper.wp
          go_simp
          have HK2 := Lib.hid (show Kept wC.heap.size wC (W1.alloc (.cells #[.int .i64 x, .int .i64 y] 33)) from HK1.out.below.alloc HK1.out.below.size _)
          have HX2 := Lib.hid (obj_row W1 x y)
          have HO2 := Lib.hid (HO1.out.alloc (.cells #[.int .i64 x, .int .i64 y] 33))
          have HB2 := Lib.hid (show b1 ≤ (W1.alloc (.cells #[.int .i64 x, .int .i64 y] 33)).heap.size from Nat.le_trans HB1.out (by simp))
          have HE2 := Lib.hid (fun q hq => (HO1.out.lt q hq).2)
          refine ⟨HK2.out, ?_⟩
          clear HK1 HO1 HB1
          generalize (W1.alloc (.cells #[.int .i64 x, .int .i64 y] 33)) = W2 at *
          generalize W1.heap.size = c2 at *
          refine lexP_step rfl rfl ?_
          refine wp_append_src _ _ _ 29 rfl b1 33 i0 _ 2 16 Try.underlying29 hi hz0 hz1 hz2 rfl (by decide) _ _ _ HO2.out HB2.out la O.length lc (recV encO O) rfl rfl (recV_len encO_len O) ((HSRC.out.later HK2.out.below).src encO_len) (recV_one encO_one O) (by omega) (by decide) ?_
          intro v3 W3 hown3 ho3 _
          have HO3 := Lib.hid hown3
          have HK3 := Lib.hid (show Kept wC.heap.size wC W3 from ho3.below HK2.out.below HK2.out.below.size (fun q hq => by have := (HO2.out.lt q hq).1; have := HC1.out; omega))
          have HB3 := Lib.hid (Nat.le_trans HB2.out ho3.size)
          have HX3 := Lib.hid (HX2.out.only ho3 (fun e => absurd (HE2.out _ e) (Nat.lt_irrefl _)))
          refine ⟨HK3.out, ?_⟩
          clear hown3 ho3 HK2 HO2 HB2 HX2
          simp only [List.getElem_toArray, List.getElem_cons_succ, List.getElem_cons_zero, Act.put, List.setIfInBounds_toArray, List.set_cons_zero, List.set_cons_succ]
          refine lexP_step rfl rfl ?_
          refine wp_append_src _ _ _ 29 rfl b1 33 i0 _ 2 16 Try.underlying29 hi hz0 hz1 hz2 rfl (by decide) _ _ _ HO3.out HB3.out (some ⟨c2, 0, none⟩) 1 1 (encO (x, y)) rfl rfl rfl (fun _ => ⟨_, rfl, fun q uu hq => obj_src HX3.out q uu hq⟩) (encO_one _) (by omega) (by decide) ?_
          intro v4 W4 hown4 ho4 _
          have hown9 : W4.ownsRow b1 33 2 v4 (O ++ [(x, y)]).length (recV encO (O ++ [(x, y)])) := by
            rw [List.length_append, recV_append, recV_single]
            simpa using hown4
          have HK4 := Lib.hid (show Kept wC.heap.size wC W4 from ho4.below HK3.out.below HK3.out.below.size (fun q hq => by have := (HO3.out.lt q hq).1; have := HC1.out; omega))
          have hcs := HC1.out
          refine ⟨HK4.out, ?_⟩
          clear hown4 ho4 HK3 HO3 HX3
          obtain ⟨a9, cap9, hv9⟩ := owns_len hown9
          have hm9 := HMC.out.setL (S := fun _ => False) (Only.of_below HK4.out.below) (fun k hk => hk.elim) (owns_base hown9 (fun _ _ => Nat.zero_le _)) (by rw [List.length_append, List.length_singleton]; have := HLT.out; omega) (fun k hk => .inr (Nat.le_trans hcs (hown9.lt k hk).1))
          have c9 := (HMC.out.row.later HK4.out.below).cell 1 (by decide)
          have f9 := (HMC.out.row.later HK4.out.below).frozen 1
          have HN := Lib.hid (PutP.of HTC.out hm9.1 hm9.2 HG.out)
          rw [show mV N _ 1 = Value.slice la O.length lc from rfl] at c9
          dsimp only at c9 f9 HN
          generalize (O ++ [(x, y)]).length = q9 at *
          subst hv9
          clear hm9 hown9
          simp only [List.getElem_toArray, List.getElem_cons_succ, List.getElem_cons_zero, Act.put, List.setIfInBounds_toArray, List.set_cons_zero, List.set_cons_succ]
          refine lexP_yieldE rfl rfl ?_
          apply Exists.intro
          refine ⟨fun W hW => ?_, ?_⟩
          focus (go_simp; exact rfl)
          simp only [List.getElem_toArray, List.getElem_cons_succ, List.getElem_cons_zero, Act.put, List.setIfInBounds_toArray, List.set_cons_zero, List.set_cons_succ]
          refine lexP_yieldE rfl rfl ?_
          apply Exists.intro
          refine ⟨fun W hW => ?_, ?_⟩
          focus (go_simp; exact rfl)
          simp only [List.getElem_toArray, List.getElem_cons_succ, List.getElem_cons_zero, Act.put, List.setIfInBounds_toArray, List.set_cons_zero, List.set_cons_succ]
          refine lexP_last rfl rfl ?_
          unfold Oper.wp
          go_simp
          go_wp2_with (fail)
          go_ret
          exact HN.out
      · refine lexP_step rfl rfl ?_
        unfold Oper.wp
        go_simp
        have HK1 := Lib.hid (show Kept wC.heap.size wC (W0.alloc (.cells #[.int .i64 x, .int .i64 y] 33)) from HK0.out.below.alloc HK0.out.below.size _)
        have HX1 := Lib.hid (obj_row W0 x y)
        refine ⟨HK1.out, ?_⟩
        clear HK0  
        generalize (W0.alloc (.cells #[.int .i64 x, .int .i64 y] 33)) = W1 at *
        generalize W0.heap.size = c1 at *
        refine lexP_step rfl rfl ?_
        unfold Oper.wp
        go_simp
        have HK2 := Lib.hid (show Kept wC.heap.size wC (W1.alloc (.cells #[] 33)) from HK1.out.below.alloc HK1.out.below.size _)
        have HO2 := Lib.hid (World.ownsRow_made W1 (e := 33) (base := W1.heap.size) (size := 2) #[] 0 (Nat.le_refl _) (Nat.zero_le _) (by simp))
        have HB2 := Lib.hid (show W1.heap.size ≤ (W1.alloc (.cells #[] 33)).heap.size by simp)
        have HC2 := Lib.hid HK1.out.below.size
        have HX2 := Lib.hid (HX1.out.alloc (.cells #[] 33))
        have HD2 := Lib.hid HX1.out.lt
        refine ⟨HK2.out, ?_⟩
        clear HK1 HX1
        generalize W1.alloc (.cells #[] 33) = W2 at *
        generalize W1.heap.size = b2 at *
        refine lexP_step rfl rfl ?_
        refine wp_append_src _ _ _ 29 rfl b2 33 i0 _ 2 16 Try.underlying29 hi hz0 hz1 hz2 rfl (by decide) _ _ _ HO2.out HB2.out la O.length lc (recV encO O) rfl rfl (recV_len encO_len O) ((HSRC.out.later HK2.out.below).src encO_len) (recV_one encO_one O) (by omega) (by decide) ?_
        intro v3 W3 hown3 ho3 _
        have HO3 := Lib.hid hown3
        have HK3 := Lib.hid (show Kept wC.heap.size wC W3 from ho3.below HK2.out.below HK2.out.below.size (fun q hq => by have := (HO2.out.lt q hq).1; have := HC2.out; omega))
        have HB3 := Lib.hid (Nat.le_trans HB2.out ho3.size)
        have HX3 := Lib.hid (HX2.out.only ho3 (fun e => by have := (HO2.out.lt _ e).1; have := HD2.out; omega))
        refine ⟨HK3.out, ?_⟩
        clear hown3 ho3 HK2 HO2 HB2 HX2
        simp only [List.getElem_toArray, List.getElem_cons_succ, List.getElem_cons_zero, Act.put, List.setIfInBounds_toArray, List.set_cons_zero, List.set_cons_succ]
        refine lexP_step rfl rfl ?_
        refine wp_append_src _ _ _ 29 rfl b2 33 i0 _ 2 16 Try.underlying29 hi hz0 hz1 hz2 rfl (by decide) _ _ _ HO3.out HB3.out (some ⟨c1, 0, none⟩) 1 1 (encO (x, y)) rfl rfl rfl (fun _ => ⟨_, rfl, fun q uu hq => obj_src HX3.out q uu hq⟩) (encO_one _) (by omega) (by decide) ?_
        intro v4 W4 hown4 ho4 _
        have hown9 : W4.ownsRow b2 33 2 v4 (O ++ [(x, y)]).length (recV encO (O ++ [(x, y)])) := by
          rw [List.length_append, recV_append, recV_single]
          simpa using hown4
        have HK4 := Lib.hid (show Kept wC.heap.size wC W4 from ho4.below HK3.out.below HK3.out.below.size (fun q hq => by have := (HO3.out.lt q hq).1; have := HC2.out; omega))
        have hcs := HC2.out
        refine ⟨HK4.out, ?_⟩
        clear hown4 ho4 HK3 HO3 HX3
        obtain ⟨a9, cap9, hv9⟩ := owns_len hown9
        have hm9 := HMC.out.setL (S := fun _ => False) (Only.of_below HK4.out.below) (fun k hk => hk.elim) (owns_base hown9 (fun _ _ => Nat.zero_le _)) (by rw [List.length_append, List.length_singleton]; have := HLT.out; omega) (fun k hk => .inr (Nat.le_trans hcs (hown9.lt k hk).1))
        have c9 := (HMC.out.row.later HK4.out.below).cell 1 (by decide)
        have f9 := (HMC.out.row.later HK4.out.below).frozen 1
        have HN := Lib.hid (PutP.of HTC.out hm9.1 hm9.2 HG.out)
        rw [show mV N _ 1 = Value.slice la O.length lc from rfl] at c9
        dsimp only at c9 f9 HN
        generalize (O ++ [(x, y)]).length = q9 at *
        subst hv9
        clear hm9 hown9
        simp only [List.getElem_toArray, List.getElem_cons_succ, List.getElem_cons_zero, Act.put, List.setIfInBounds_toArray, List.set_cons_zero, List.set_cons_succ]
        refine lexP_yieldE rfl rfl ?_
        apply Exists.intro
        refine ⟨fun W hW => ?_, ?_⟩
        focus (go_simp; exact rfl)
        simp only [List.getElem_toArray, List.getElem_cons_succ, List.getElem_cons_zero, Act.put, List.setIfInBounds_toArray, List.set_cons_zero, List.set_cons_succ]
        refine lexP_yieldE rfl rfl ?_
        apply Exists.intro
        refine ⟨fun W hW => ?_, ?_⟩
        focus (go_simp; exact rfl)
        simp only [List.getElem_toArray, List.getElem_cons_succ, List.getElem_cons_zero, Act.put, List.setIfInBounds_toArray, List.set_cons_zero, List.set_cons_succ]
        refine lexP_last rfl rfl ?_
        unfold Oper.wp
        go_simp
        go_wp2_with (fail)
        go_ret
        exact HN.out
  · have eL := len_f hL
    have HLT := Lib.hid (show L.length < N by omega)
    have HG := Lib.hid (putM_app (x := (x, y)) (O := O) HLT.out)
    clear hL hlN hoN HN
    go_quiet (fail)
    have HMA := Lib.hid (HM.out.later (below_drewN (Below.refl _ _) nq))
    have HTA := Lib.hid (HT.out.later (below_drewN (Below.refl _ _) nq))
    have HXA := Lib.hid (HX.out.later (below_drewN (Below.refl _ _) nq))
    clear HM HT HX c0 c1 c2
    generalize w1.drewN nq = wA at *
    obtain ⟨c0, c1, c2⟩ := lens HMA.out
    obtain ⟨la3, lc3, c1⟩ := c1
    clear c2
    go_wp2_with (fail)
    go_quiet (fail)
    have HMC := Lib.hid (HMA.out.later (below_drewN (Below.refl _ _) nq))
    have HTC := Lib.hid (HTA.out.later (below_drewN (Below.refl _ _) nq))
    have HXC := Lib.hid (HXA.out.later (below_drewN (Below.refl _ _) nq))
    clear HMA HTA HXA c0 c1
    generalize wA.drewN nq = wC at *
    obtain ⟨la, lc, hl⟩ := HMC.out.ls
    dsimp only at hl
    subst hl
    have HSRC := Lib.hid (show RecsAt wC 0 la encO 2 L from by
      obtain ⟨a3, c3, e3, h3⟩ := RecsAt.of_owns HMC.out.lo
      injection e3 with e3 _ _
      rw [e3]
      exact h3)
    have L1 := Lib.hid (show ∀ W', Kept wC.heap.size wC W' → (loadVar 29 ⟨p, 1, none⟩).run Try.prog W' = .ok (.slice la L.length lc) W' from
      fun W' hW => run_loadVar_cell (fun _ => by kernel_rfl) (by rw [(HMC.out.row.later hW.below).cell 1 (by decide)]; rfl))
    have L2 := Lib.hid (show ∀ W', Kept wC.heap.size wC W' → (loadVar 33 ⟨X, 0, none⟩).run Try.prog W' = .ok (.agg #[.int .i64 x, .int .i64 y]) W' from
      fun W' hW => load_obj ((HXC.out.later hW.below).cell 0 (by decide)) ((HXC.out.later hW.below).cell 1 (by decide)))
    have hn32 : L.length ≤ 32 := by have := HMC.out.hl; have := HMC.out.n2; omega
    go_wp2_with (fail)
    refine wp_region_plan (Kept wC.heap.size wC) (.take 0 (.take 2 (.take 3 (.take 4 (.take 5 (.take 7 (.step 1 (.step 6 (.step 8 (.step 9 (.take 10 (.take 11 .fin)) .fin) .fin) (.step 8 (.step 6 (.step 9 (.take 10 (.take 11 .fin)) .fin) .fin) .fin)) (.step 8 (.step 1 (.step 6 (.step 9 (.take 10 (.take 11 .fin)) .fin) .fin) .fin) .fin)))))))) 12
      (by kernel_rfl) (by kernel_rfl) (by kernel_rfl) (Below.refl _ wC).drew ?_
    intro W0 hW0 hK0
    clear hW0
    refine lexP_yieldE rfl rfl ?_
    apply Exists.intro
    refine ⟨fun W hW => ?_, ?_⟩
    focus (go_simp; exact rfl)
    simp only [List.getElem_toArray, List.getElem_cons_zero, Act.put, List.setIfInBounds_toArray, List.set_cons_zero, List.set_cons_succ]
    refine lexP_yieldE rfl rfl ?_
    apply Exists.intro
    refine ⟨fun W hW => ?_, ?_⟩
    focus (go_simp; exact rfl)
    simp only [List.getElem_toArray, List.getElem_cons_succ, List.getElem_cons_zero, Act.put, List.setIfInBounds_toArray, List.set_cons_zero, List.set_cons_succ]
    refine lexP_yieldE rfl rfl ?_
    apply Exists.intro
    refine ⟨fun W hW => ?_, ?_⟩
    focus (go_simp; exact rfl)
    simp only [List.getElem_toArray, List.getElem_cons_succ, List.getElem_cons_zero, Act.put, List.setIfInBounds_toArray, List.set_cons_zero, List.set_cons_succ]
    refine lexP_yieldE rfl rfl ?_
    apply Exists.intro
    refine ⟨fun W hW => ?_, ?_⟩
    focus (go_simp; exact rfl)
    simp only [List.getElem_toArray, List.getElem_cons_succ, List.getElem_cons_zero, Act.put, List.setIfInBounds_toArray, List.set_cons_zero, List.set_cons_succ]
    refine lexP_load rfl rfl _ _ rfl rfl L1.out ?_
    simp only [List.getElem_toArray, List.getElem_cons_succ, List.getElem_cons_zero, Act.put, List.setIfInBounds_toArray, List.set_cons_zero, List.set_cons_succ]
    refine lexP_load rfl rfl _ _ rfl rfl L2.out ?_
    simp only [List.getElem_toArray, List.getElem_cons_succ, List.getElem_cons_zero, Act.put, List.setIfInBounds_toArray, List.set_cons_zero, List.set_cons_succ]
    have HK0 := Lib.hid hK0
    clear hK0
    refine lexP_or rfl rfl ?_ ?_
    · unfold Oper.wp
      go_simp
      have HK1 := Lib.hid (show Kept wC.heap.size wC (W0.alloc (.cells #[] 33)) from HK0.out.below.alloc HK0.out.below.size _)
      have HO1 := Lib.hid (World.ownsRow_made W0 (e := 33) (base := W0.heap.size) (size := 2) #[] 0 (Nat.le_refl _) (Nat.zero_le _) (by simp))
      have HB1 := Lib.hid (show W0.heap.size ≤ (W0.alloc (.cells #[] 33)).heap.size by simp)
      have HC1 := Lib.hid HK0.out.below.size
      refine ⟨HK1.out, ?_⟩
      clear HK0 
      generalize W0.alloc (.cells #[] 33) = W1 at *
      generalize W0.heap.size = b1 at *
      refine lexP_or rfl rfl ?_ ?_
      · refine wp_append_src _ _ _ 29 rfl b1 33 i0 _ 2 16 Try.underlying29 hi hz0 hz1 hz2 rfl (by decide) _ _ _ HO1.out HB1.out la L.length lc (recV encO L) rfl rfl (recV_len encO_len L) ((HSRC.out.later HK1.out.below).src encO_len) (recV_one encO_one L) (by omega) (by decide) ?_
        intro v2 W2 hown2 ho2 _
        have HO2 := Lib.hid hown2
        have HK2 := Lib.hid (show Kept wC.heap.size wC W2 from ho2.below HK1.out.below HK1.out.below.size (fun q hq => by have := (HO1.out.lt q hq).1; have := HC1.out; omega))
        have HB2 := Lib.hid (Nat.le_trans HB1.out ho2.size)
        refine ⟨HK2.out, ?_⟩
        clear hown2 ho2 HK1 HO1 HB1 
        simp only [List.getElem_toArray, List.getElem_cons_succ, List.getElem_cons_zero, Act.put, List.setIfInBounds_toArray, List.set_cons_zero, List.set_cons_succ]
        refine lexP_step rfl rfl ?_
        unfold Oper.wp
        go_simp
        have HK3 := Lib.hid (show Kept wC.heap.size wC (W2.alloc (.cells #[.int .i64 x, .int .i64 y] 33)) from HK2.out.below.alloc HK2.out.below.size _)
        have HX3 := Lib.hid (obj_row W2 x y)
        have HO3 := Lib.hid (HO2.out.alloc (.cells #[.int .i64 x, .int .i64 y] 33))
        have HB3 := Lib.hid (show b1 ≤ (W2.alloc (.cells #[.int .i64 x, .int .i64 y] 33)).heap.size from Nat.le_trans HB2.out (by simp))
        have HE3 := Lib.hid (fun q hq => (HO2.out.lt q hq).2)
        refine ⟨HK3.out, ?_⟩
        clear HK2 HO2 HB2
        generalize (W2.alloc (.cells #[.int .i64 x, .int .i64 y] 33)) = W3 at *
        generalize W2.heap.size = c3 at *
        refine lexP_step rfl rfl ?_
        refine wp_append_src _ _ _ 29 rfl b1 33 i0 _ 2 16 Try.underlying29 hi hz0 hz1 hz2 rfl (by decide) _ _ _ HO3.out HB3.out (some ⟨c3, 0, none⟩) 1 1 (encO (x, y)) rfl rfl rfl (fun _ => ⟨_, rfl, fun q uu hq => obj_src HX3.out q uu hq⟩) (encO_one _) (by omega) (by decide) ?_
        intro v4 W4 hown4 ho4 _
        have hown9 : W4.ownsRow b1 33 2 v4 (L ++ [(x, y)]).length (recV encO (L ++ [(x, y)])) := by
          rw [List.length_append, recV_append, recV_single]
          simpa using hown4
        have HK4 := Lib.hid (show Kept wC.heap.size wC W4 from ho4.below HK3.out.below HK3.out.below.size (fun q hq => by have := (HO3.out.lt q hq).1; have := HC1.out; omega))
        have hcs := HC1.out
        refine ⟨HK4.out, ?_⟩
        clear hown4 ho4 HK3 HO3 HX3
        obtain ⟨a9, cap9, hv9⟩ := owns_len hown9
        have hm9 := HMC.out.setL (S := fun _ => False) (Only.of_below HK4.out.below) (fun k hk => hk.elim) (owns_base hown9 (fun _ _ => Nat.zero_le _)) (by rw [List.length_append, List.length_singleton]; have := HLT.out; omega) (fun k hk => .inr (Nat.le_trans hcs (hown9.lt k hk).1))
        have c9 := (HMC.out.row.later HK4.out.below).cell 1 (by decide)
        have f9 := (HMC.out.row.later HK4.out.below).frozen 1
        have HN := Lib.hid (PutP.of HTC.out hm9.1 hm9.2 HG.out)
        rw [show mV N _ 1 = Value.slice la L.length lc from rfl] at c9
        dsimp only at c9 f9 HN
        generalize (L ++ [(x, y)]).length = q9 at *
        subst hv9
        clear hm9 hown9
        simp only [List.getElem_toArray, List.getElem_cons_succ, List.getElem_cons_zero, Act.put, List.setIfInBounds_toArray, List.set_cons_zero, List.set_cons_succ]
        refine lexP_yieldE rfl rfl ?_
        apply Exists.intro
        refine ⟨fun W hW => ?_, ?_⟩
        focus (go_simp; exact rfl)
        simp only [List.getElem_toArray, List.getElem_cons_succ, List.getElem_cons_zero, Act.put, List.setIfInBounds_toArray, List.set_cons_zero, List.set_cons_succ]
        refine lexP_yieldE rfl rfl ?_
        apply Exists.intro
        refine ⟨fun W hW => ?_, ?_⟩
        focus (go_simp; exact rfl)
        simp only [List.getElem_toArray, List.getElem_cons_succ, List.getElem_cons_zero, Act.put, List.setIfInBounds_toArray, List.set_cons_zero, List.set_cons_succ]
        refine lexP_last rfl rfl ?_
        unfold Oper.wp
        go_simp
        go_wp2_with (fail)
        go_ret
        exact HN.out
      · refine lexP_step rfl rfl ?_
        unfold Oper.wp
        go_simp
        have HK2 := Lib.hid (show Kept wC.heap.size wC (W1.alloc (.cells #[.int .i64 x, .int .i64 y] 33)) from HK1.out.below.alloc HK1.out.below.size _)
        have HX2 := Lib.hid (obj_row W1 x y)
        have HO2 := Lib.hid (HO1.out.alloc (.cells #[.int .i64 x, .int .i64 y] 33))
        have HB2 := Lib.hid (show b1 ≤ (W1.alloc (.cells #[.int .i64 x, .int .i64 y] 33)).heap.size from Nat.le_trans HB1.out (by simp))
        have HE2 := Lib.hid (fun q hq => (HO1.out.lt q hq).2)
        refine ⟨HK2.out, ?_⟩
        clear HK1 HO1 HB1
        generalize (W1.alloc (.cells #[.int .i64 x, .int .i64 y] 33)) = W2 at *
        generalize W1.heap.size = c2 at *
        refine lexP_step rfl rfl ?_
        refine wp_append_src _ _ _ 29 rfl b1 33 i0 _ 2 16 Try.underlying29 hi hz0 hz1 hz2 rfl (by decide) _ _ _ HO2.out HB2.out la L.length lc (recV encO L) rfl rfl (recV_len encO_len L) ((HSRC.out.later HK2.out.below).src encO_len) (recV_one encO_one L) (by omega) (by decide) ?_
        intro v3 W3 hown3 ho3 _
        have HO3 := Lib.hid hown3
        have HK3 := Lib.hid (show Kept wC.heap.size wC W3 from ho3.below HK2.out.below HK2.out.below.size (fun q hq => by have := (HO2.out.lt q hq).1; have := HC1.out; omega))
        have HB3 := Lib.hid (Nat.le_trans HB2.out ho3.size)
        have HX3 := Lib.hid (HX2.out.only ho3 (fun e => absurd (HE2.out _ e) (Nat.lt_irrefl _)))
        refine ⟨HK3.out, ?_⟩
        clear hown3 ho3 HK2 HO2 HB2 HX2
        simp only [List.getElem_toArray, List.getElem_cons_succ, List.getElem_cons_zero, Act.put, List.setIfInBounds_toArray, List.set_cons_zero, List.set_cons_succ]
        refine lexP_step rfl rfl ?_
        refine wp_append_src _ _ _ 29 rfl b1 33 i0 _ 2 16 Try.underlying29 hi hz0 hz1 hz2 rfl (by decide) _ _ _ HO3.out HB3.out (some ⟨c2, 0, none⟩) 1 1 (encO (x, y)) rfl rfl rfl (fun _ => ⟨_, rfl, fun q uu hq => obj_src HX3.out q uu hq⟩) (encO_one _) (by omega) (by decide) ?_
        intro v4 W4 hown4 ho4 _
        have hown9 : W4.ownsRow b1 33 2 v4 (L ++ [(x, y)]).length (recV encO (L ++ [(x, y)])) := by
          rw [List.length_append, recV_append, recV_single]
          simpa using hown4
        have HK4 := Lib.hid (show Kept wC.heap.size wC W4 from ho4.below HK3.out.below HK3.out.below.size (fun q hq => by have := (HO3.out.lt q hq).1; have := HC1.out; omega))
        have hcs := HC1.out
        refine ⟨HK4.out, ?_⟩
        clear hown4 ho4 HK3 HO3 HX3
        obtain ⟨a9, cap9, hv9⟩ := owns_len hown9
        have hm9 := HMC.out.setL (S := fun _ => False) (Only.of_below HK4.out.below) (fun k hk => hk.elim) (owns_base hown9 (fun _ _ => Nat.zero_le _)) (by rw [List.length_append, List.length_singleton]; have := HLT.out; omega) (fun k hk => .inr (Nat.le_trans hcs (hown9.lt k hk).1))
        have c9 := (HMC.out.row.later HK4.out.below).cell 1 (by decide)
        have f9 := (HMC.out.row.later HK4.out.below).frozen 1
        have HN := Lib.hid (PutP.of HTC.out hm9.1 hm9.2 HG.out)
        rw [show mV N _ 1 = Value.slice la L.length lc from rfl] at c9
        dsimp only at c9 f9 HN
        generalize (L ++ [(x, y)]).length = q9 at *
        subst hv9
        clear hm9 hown9
        simp only [List.getElem_toArray, List.getElem_cons_succ, List.getElem_cons_zero, Act.put, List.setIfInBounds_toArray, List.set_cons_zero, List.set_cons_succ]
        refine lexP_yieldE rfl rfl ?_
        apply Exists.intro
        refine ⟨fun W hW => ?_, ?_⟩
        focus (go_simp; exact rfl)
        simp only [List.getElem_toArray, List.getElem_cons_succ, List.getElem_cons_zero, Act.put, List.setIfInBounds_toArray, List.set_cons_zero, List.set_cons_succ]
        refine lexP_yieldE rfl rfl ?_
        apply Exists.intro
        refine ⟨fun W hW => ?_, ?_⟩
        focus (go_simp; exact rfl)
        simp only [List.getElem_toArray, List.getElem_cons_succ, List.getElem_cons_zero, Act.put, List.setIfInBounds_toArray, List.set_cons_zero, List.set_cons_succ]
        refine lexP_last rfl rfl ?_
        unfold Oper.wp
        go_simp
        go_wp2_with (fail)
        go_ret
        exact HN.out
    · refine lexP_step rfl rfl ?_
      unfold Oper.wp
      go_simp
      have HK1 := Lib.hid (show Kept wC.heap.size wC (W0.alloc (.cells #[.int .i64 x, .int .i64 y] 33)) from HK0.out.below.alloc HK0.out.below.size _)
      have HX1 := Lib.hid (obj_row W0 x y)
      refine ⟨HK1.out, ?_⟩
      clear HK0  
      generalize (W0.alloc (.cells #[.int .i64 x, .int .i64 y] 33)) = W1 at *
      generalize W0.heap.size = c1 at *
      refine lexP_step rfl rfl ?_
      unfold Oper.wp
      go_simp
      have HK2 := Lib.hid (show Kept wC.heap.size wC (W1.alloc (.cells #[] 33)) from HK1.out.below.alloc HK1.out.below.size _)
      have HO2 := Lib.hid (World.ownsRow_made W1 (e := 33) (base := W1.heap.size) (size := 2) #[] 0 (Nat.le_refl _) (Nat.zero_le _) (by simp))
      have HB2 := Lib.hid (show W1.heap.size ≤ (W1.alloc (.cells #[] 33)).heap.size by simp)
      have HC2 := Lib.hid HK1.out.below.size
      have HX2 := Lib.hid (HX1.out.alloc (.cells #[] 33))
      have HD2 := Lib.hid HX1.out.lt
      refine ⟨HK2.out, ?_⟩
      clear HK1 HX1
      generalize W1.alloc (.cells #[] 33) = W2 at *
      generalize W1.heap.size = b2 at *
      refine lexP_step rfl rfl ?_
      refine wp_append_src _ _ _ 29 rfl b2 33 i0 _ 2 16 Try.underlying29 hi hz0 hz1 hz2 rfl (by decide) _ _ _ HO2.out HB2.out la L.length lc (recV encO L) rfl rfl (recV_len encO_len L) ((HSRC.out.later HK2.out.below).src encO_len) (recV_one encO_one L) (by omega) (by decide) ?_
      intro v3 W3 hown3 ho3 _
      have HO3 := Lib.hid hown3
      have HK3 := Lib.hid (show Kept wC.heap.size wC W3 from ho3.below HK2.out.below HK2.out.below.size (fun q hq => by have := (HO2.out.lt q hq).1; have := HC2.out; omega))
      have HB3 := Lib.hid (Nat.le_trans HB2.out ho3.size)
      have HX3 := Lib.hid (HX2.out.only ho3 (fun e => by have := (HO2.out.lt _ e).1; have := HD2.out; omega))
      refine ⟨HK3.out, ?_⟩
      clear hown3 ho3 HK2 HO2 HB2 HX2
      simp only [List.getElem_toArray, List.getElem_cons_succ, List.getElem_cons_zero, Act.put, List.setIfInBounds_toArray, List.set_cons_zero, List.set_cons_succ]
      refine lexP_step rfl rfl ?_
      refine wp_append_src _ _ _ 29 rfl b2 33 i0 _ 2 16 Try.underlying29 hi hz0 hz1 hz2 rfl (by decide) _ _ _ HO3.out HB3.out (some ⟨c1, 0, none⟩) 1 1 (encO (x, y)) rfl rfl rfl (fun _ => ⟨_, rfl, fun q uu hq => obj_src HX3.out q uu hq⟩) (encO_one _) (by omega) (by decide) ?_
      intro v4 W4 hown4 ho4 _
      have hown9 : W4.ownsRow b2 33 2 v4 (L ++ [(x, y)]).length (recV encO (L ++ [(x, y)])) := by
        rw [List.length_append, recV_append, recV_single]
        simpa using hown4
      have HK4 := Lib.hid (show Kept wC.heap.size wC W4 from ho4.below HK3.out.below HK3.out.below.size (fun q hq => by have := (HO3.out.lt q hq).1; have := HC2.out; omega))
      have hcs := HC2.out
      refine ⟨HK4.out, ?_⟩
      clear hown4 ho4 HK3 HO3 HX3
      obtain ⟨a9, cap9, hv9⟩ := owns_len hown9
      have hm9 := HMC.out.setL (S := fun _ => False) (Only.of_below HK4.out.below) (fun k hk => hk.elim) (owns_base hown9 (fun _ _ => Nat.zero_le _)) (by rw [List.length_append, List.length_singleton]; have := HLT.out; omega) (fun k hk => .inr (Nat.le_trans hcs (hown9.lt k hk).1))
      have c9 := (HMC.out.row.later HK4.out.below).cell 1 (by decide)
      have f9 := (HMC.out.row.later HK4.out.below).frozen 1
      have HN := Lib.hid (PutP.of HTC.out hm9.1 hm9.2 HG.out)
      rw [show mV N _ 1 = Value.slice la L.length lc from rfl] at c9
      dsimp only at c9 f9 HN
      generalize (L ++ [(x, y)]).length = q9 at *
      subst hv9
      clear hm9 hown9
      simp only [List.getElem_toArray, List.getElem_cons_succ, List.getElem_cons_zero, Act.put, List.setIfInBounds_toArray, List.set_cons_zero, List.set_cons_succ]
      refine lexP_yieldE rfl rfl ?_
      apply Exists.intro
      refine ⟨fun W hW => ?_, ?_⟩
      focus (go_simp; exact rfl)
      simp only [List.getElem_toArray, List.getElem_cons_succ, List.getElem_cons_zero, Act.put, List.setIfInBounds_toArray, List.set_cons_zero, List.set_cons_succ]
      refine lexP_yieldE rfl rfl ?_
      apply Exists.intro
      refine ⟨fun W hW => ?_, ?_⟩
      focus (go_simp; exact rfl)
      simp only [List.getElem_toArray, List.getElem_cons_succ, List.getElem_cons_zero, Act.put, List.setIfInBounds_toArray, List.set_cons_zero, List.set_cons_succ]
      refine lexP_last rfl rfl ?_
      unfold Oper.wp
      go_simp
      go_wp2_with (fail)
      go_ret
      exact HN.out
end
end Go.Proofs.Ytaadjgnfihkaeaa
