/-
  The walk of CallsTwo, for whatever calls.
-/
import Derived.Test.YtkmjkkeldbocdaaDoorCsLawForms
namespace Go.Proofs.YtkmjkkeldbocdaaDoor
open Go.RowKit Go
attribute [local go_sem] Oper.semAt_some

/-- One form just if they are alike. -/
theorem two_eq {q r : CallM} {n m : Nat} {x y : Nat → UInt8} (hq : q.Ok) (hr : r.Ok) (h1 : mayC q n = true) (h2 : mayC r m = true) :
    ((strL (callL q x n)).toList == (strL (callL r y m)).toList) = sameC q r (strB n x) (strB m y) := by
  refine Bool.eq_iff_iff.2 ⟨fun h => ?_, fun h => ?_⟩
  · unfold strL at h
    have h3 := beq_strB.1 h
    rw [lisX_self, lisX_self] at h3
    obtain ⟨a0, a1, a2, a3, _⟩ := form_back hq (x := x) h1
    obtain ⟨b0, b1, b2, b3, _⟩ := form_back hr (x := y) h2
    rw [← h3] at b0 b1 b2 b3
    have hk : q.kind = r.kind := a0.symm.trans b0
    rw [← hk] at b1 b2 b3
    have hqr : q = r := a1.symm.trans b1
    have hnm : n = m := a2.symm.trans b2
    subst hqr
    subst hnm
    unfold sameC
    rw [beq_strB.2 (lisX_ext fun j hj => (a3 j hj).symm.trans (b3 j hj)), beq_self_eq_true]
    rfl
  · unfold sameC at h
    rw [Bool.and_eq_true] at h
    have h3 := beq_strB.1 h.1
    have h4 := row_inj (eq_of_beq h.2)
    subst h4
    obtain ⟨rfl, h5⟩ := lisX_inj h3
    unfold strL
    refine beq_strB.2 ?_
    rw [lisX_self, lisX_self]
    exact callL_ext h5
section
variable {P : World → Prop} (ok : CsOk P)
include ok
set_option maxRecDepth 100000 in
set_option maxHeartbeats 16000000 in
theorem ltwo_any {q r : CallM} {a b : Option Addr} {n c m d : Nat} {x y : Nat → UInt8} {w : World} (hP : P w) (hq : CallIn q) (hr : CallIn r) (S : Src w a n x) (R : Src w b m y) :
    Calls Tryd.prog 9 #[.agg (q.cells a n c), .agg (r.cells b m d)] w fun e w' => e = .returned (.bool true) ∧ Below w.heap.size w w' := by
  have HP := Lib.hid hP
  clear hP
  have HT0 := Lib.hid (twb_new w q a n c r b m d)
  have HQ := Lib.hid hq
  have HR := Lib.hid hr
  have HX := Lib.hid S
  have HY := Lib.hid R
  obtain ⟨k1, k2⟩ := HT0.out.bytes
  clear hq hr S R
  by_cases hn : n ≤ 1000
  · by_cases hm : m ≤ 1000
    · have hnI : ¬ (1000 : Int) < (n : Int) := by omega
      have hmI : ¬ (1000 : Int) < (m : Int) := by omega
      have HIn := Lib.hid (HQ.out.of (show n ≤ 2000 by omega))
      have HRn := Lib.hid (HR.out.of (show m ≤ 2000 by omega))
      have B1 := HT0.out.b1
      go_enter Tryd.func9, Tryd.ntmps9
      go_wp2_with (refine wpList_load_call rfl _ rfl _ rfl B1 ?_)
      generalize (w.alloc (.cells (q.cells a n c) 29)).alloc (.cells (r.cells b m d) 29) = wb at *
      refine (ok.bytes (ok.later HP.out HT0.out.bel) HIn.out (HX.out.later HT0.out.bel)).mono ?_
      clear k1 k2 B1 hn hm
      rintro ee w1 (⟨hmc, v, rfl, hby, hb1⟩ | ⟨hmc, av, cv, rfl, hb1⟩)
      · have HMC := Lib.hid hmc
        have HBY := Lib.hid hby
        have HT1 := Lib.hid (HT0.out.later hb1)
        have B2 := HT1.out.b2
        clear hmc hby hb1
        go_wp2_with (refine wpList_load_call rfl _ rfl _ rfl B2 ?_)
        refine (ok.bytes (ok.later HP.out HT1.out.bel) HRn.out (HY.out.later HT1.out.bel)).mono ?_
        rintro ee w2 (⟨hmd, u, rfl, hbz, hb2⟩ | ⟨hmd, au, cu, rfl, hb2⟩)
        · have HT2 := Lib.hid (HT1.out.later hb2)
          have HBY2 := Lib.hid (HBY.out.later hb2)
          have HBZ2 := Lib.hid hbz
          have HMD := Lib.hid hmd
          have heq := two_eq (x := x) (y := y) HIn.out.ok HRn.out.ok HMC.out HMD.out
          obtain ⟨sm, hsm⟩ : ∃ s, sameC q r (strB n x) (strB m y) = s := ⟨_, rfl⟩
          rw [hsm] at heq
          have HSM := Lib.hid hsm
          clear hsm hmd hbz hb2 HBY B2
          have HX2 := Lib.hid (HX.out.later HT2.out.bel)
          have HY2 := Lib.hid (HY.out.later HT2.out.bel)
          have CV1 := Lib.hid (fun U (hU : Kept w2.heap.size w2 U) => str_byt (HBY2.out.later hU.below))
          have CV2 := Lib.hid (fun U (hU : Kept w2.heap.size w2 U) => str_byt (HBZ2.out.later hU.below))
          have L1 := Lib.hid (fun U (hU : Kept w2.heap.size w2 U) => load_callB (HT2.out.later hU.below).b1)
          have L2 := Lib.hid (fun U (hU : Kept w2.heap.size w2 U) => load_callB (HT2.out.later hU.below).b2)
          go_wp2_with (fail)
          generalize hpb : w.heap.size + 1 = pb at *
          generalize strL (callL q x n) = S1 at *
          generalize strL (callL r y m) = S2 at *
          refine wp_region_lex (Kept w2.heap.size w2) [(0, false), (1, false), (2, false), (3, false), (4, false), (5, false), (6, false), (7, true), (8, false), (9, false), (10, true), (11, false), (12, false)] (by kernel_rfl) (by kernel_rfl) rfl (by kernel_rfl) (Below.refl _ w2).drew ?_
          intro W0 hK0
          have HK0 := Lib.hid hK0
          clear hK0
          refine lexH_yieldE rfl rfl ?_
          apply Exists.intro
          refine ⟨fun W hW => ?_, ?_⟩
          focus (go_simp; exact rfl)
          simp only [List.getElem_toArray, List.getElem_cons_zero, Act.put, List.setIfInBounds_toArray, List.set_cons_zero, List.set_cons_succ]
          refine lexH_conv rfl rfl _ _ _ rfl rfl CV1.out ?_
          simp only [List.getElem_toArray, List.getElem_cons_succ, List.getElem_cons_zero, Act.put, List.setIfInBounds_toArray, List.set_cons_zero, List.set_cons_succ]
          refine lexH_yieldE rfl rfl ?_
          apply Exists.intro
          refine ⟨fun W hW => ?_, ?_⟩
          focus (go_simp; exact rfl)
          simp only [List.getElem_toArray, List.getElem_cons_succ, List.getElem_cons_zero, Act.put, List.setIfInBounds_toArray, List.set_cons_zero, List.set_cons_succ]
          refine lexH_conv rfl rfl _ _ _ rfl rfl CV2.out ?_
          simp only [List.getElem_toArray, List.getElem_cons_succ, List.getElem_cons_zero, Act.put, List.setIfInBounds_toArray, List.set_cons_zero, List.set_cons_succ]
          refine lexH_yield rfl rfl (v := .bool sm) (fun W _ => by go_simp; done) ?_
          simp only [List.getElem_toArray, List.getElem_cons_succ, List.getElem_cons_zero, Act.put, List.setIfInBounds_toArray, List.set_cons_zero, List.set_cons_succ]
          refine lexH_load rfl rfl _ _ rfl rfl L1.out ?_
          simp only [List.getElem_toArray, List.getElem_cons_succ, List.getElem_cons_zero, Act.put, List.setIfInBounds_toArray, List.set_cons_zero, List.set_cons_succ]
          refine lexH_load rfl rfl _ _ rfl rfl L2.out ?_
          simp only [List.getElem_toArray, List.getElem_cons_succ, List.getElem_cons_zero, Act.put, List.setIfInBounds_toArray, List.set_cons_zero, List.set_cons_succ]
          refine lexH_call 16 #[.agg (q.cells a n c), .agg (r.cells b m d)] rfl rfl ?_ ?_
          focus (go_simp; done)
          refine (ok.same HIn.out HRn.out (HX2.out.later HK0.out.below) (HY2.out.later HK0.out.below)).mono ?_
          rintro ee W1 ⟨rfl, hb1⟩
          have HK1 := Lib.hid (HK0.out.call (Nat.le_refl _) hb1)
          rw [HSM.out]
          refine ⟨_, rfl, HK1.out, ?_⟩
          clear hb1 HK0
          simp only [List.getElem_toArray, List.getElem_cons_succ, List.getElem_cons_zero, Act.put, List.setIfInBounds_toArray, List.set_cons_zero, List.set_cons_succ]
          refine lexH_yield rfl rfl (v := .bool true) (fun W _ => by go_simp; done) ?_
          simp only [List.getElem_toArray, List.getElem_cons_succ, List.getElem_cons_zero, Act.put, List.setIfInBounds_toArray, List.set_cons_zero, List.set_cons_succ]
          refine lexH_yieldE rfl rfl ?_
          apply Exists.intro
          refine ⟨fun W hW => ?_, ?_⟩
          focus (go_simp; exact rfl)
          simp only [List.getElem_toArray, List.getElem_cons_succ, List.getElem_cons_zero, Act.put, List.setIfInBounds_toArray, List.set_cons_zero, List.set_cons_succ]
          refine lexH_call 10 #[] rfl rfl ?_ ?_
          focus (go_simp; done)
          refine (cknown_any ok _ (ok.later HP.out (HT2.out.bel.trans (HK1.out.below.mono HT2.out.bel.size)))).mono ?_
          rintro ee W2 ⟨rfl, hb1⟩
          have HK2 := Lib.hid (HK1.out.call (Nat.le_refl _) hb1)
          refine ⟨_, rfl, HK2.out, ?_⟩
          clear hb1 HK1
          simp only [List.getElem_toArray, List.getElem_cons_succ, List.getElem_cons_zero, Act.put, List.setIfInBounds_toArray, List.set_cons_zero, List.set_cons_succ]
          refine lexH_yieldE rfl rfl ?_
          apply Exists.intro
          refine ⟨fun W hW => ?_, ?_⟩
          focus (go_simp; exact rfl)
          simp only [List.getElem_toArray, List.getElem_cons_succ, List.getElem_cons_zero, Act.put, List.setIfInBounds_toArray, List.set_cons_zero, List.set_cons_succ]
          refine lexH_yieldE rfl rfl ?_
          apply Exists.intro
          refine ⟨fun W hW => ?_, ?_⟩
          focus (go_simp; exact rfl)
          simp only [List.getElem_toArray, List.getElem_cons_succ, List.getElem_cons_zero, Act.put, List.setIfInBounds_toArray, List.set_cons_zero, List.set_cons_succ]
          refine lexH_nil ?_
          go_wp2_with (fail)
          go_ret
          exact ⟨rfl, HT2.out.bel.trans (HK2.out.below.mono HT2.out.bel.size)⟩
        · have HT2 := Lib.hid (HT1.out.later hb2)
          clear hmd hb2 B2
          go_wp2_with (fail)
          refine (cknown_any ok _ (ok.later HP.out HT2.out.bel)).mono ?_
          rintro ee wk ⟨rfl, hbk⟩
          have HBK := Lib.hid (HT2.out.bel.trans (hbk.mono HT2.out.bel.size))
          clear hbk
          go_wp2_with (fail)
          go_ret
          exact ⟨rfl, HBK.out⟩
      · have HT1 := Lib.hid (HT0.out.later hb1)
        have B2 := HT1.out.b2
        clear hmc hb1
        go_wp2_with (refine wpList_load_call rfl _ rfl _ rfl B2 ?_)
        refine (ok.bytes (ok.later HP.out HT1.out.bel) HRn.out (HY.out.later HT1.out.bel)).mono ?_
        rintro ee w2 (⟨hmd, u, rfl, hbz, hb2⟩ | ⟨hmd, au, cu, rfl, hb2⟩)
        · have HT2 := Lib.hid (HT1.out.later hb2)
          clear hmd hbz hb2 B2
          go_wp2_with (fail)
          refine (cknown_any ok _ (ok.later HP.out HT2.out.bel)).mono ?_
          rintro ee wk ⟨rfl, hbk⟩
          have HBK := Lib.hid (HT2.out.bel.trans (hbk.mono HT2.out.bel.size))
          clear hbk
          go_wp2_with (fail)
          go_ret
          exact ⟨rfl, HBK.out⟩
        · have HT2 := Lib.hid (HT1.out.later hb2)
          clear hmd hb2 B2
          go_wp2_with (fail)
          refine (cknown_any ok _ (ok.later HP.out HT2.out.bel)).mono ?_
          rintro ee wk ⟨rfl, hbk⟩
          have HBK := Lib.hid (HT2.out.bel.trans (hbk.mono HT2.out.bel.size))
          clear hbk
          go_wp2_with (fail)
          go_ret
          exact ⟨rfl, HBK.out⟩
    · have hnI : ¬ (1000 : Int) < (n : Int) := by omega
      have hmI : (1000 : Int) < (m : Int) := by omega
      go_enter Tryd.func9, Tryd.ntmps9
      go_wp2_with (fail)
      refine (cknown_any ok _ (ok.later HP.out HT0.out.bel)).mono ?_
      rintro ee wk ⟨rfl, hbk⟩
      have HBK := Lib.hid (HT0.out.bel.trans (hbk.mono HT0.out.bel.size))
      clear hbk
      go_wp2_with (fail)
      go_ret
      exact ⟨rfl, HBK.out⟩
  · have hnI : (1000 : Int) < (n : Int) := by omega
    go_enter Tryd.func9, Tryd.ntmps9
    go_wp2_with (fail)
    refine (cknown_any ok _ (ok.later HP.out HT0.out.bel)).mono ?_
    rintro ee wk ⟨rfl, hbk⟩
    have HBK := Lib.hid (HT0.out.bel.trans (hbk.mono HT0.out.bel.size))
    clear hbk
    go_wp2_with (fail)
    go_ret
    exact ⟨rfl, HBK.out⟩
end
end Go.Proofs.YtkmjkkeldbocdaaDoor
