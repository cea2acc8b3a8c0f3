/-
  The walk of PolicyOrders, for whatever policy.
-/
import Derived.Test.YtcbdmdalijhkoaaPoKnown
import Derived.Test.YtcbdmdalijhkoaaPoRefD
namespace Go.Proofs.Ytcbdmdalijhkoaa
open Go.RowKit Go
attribute [local go_sem] Oper.semAt_some

section
variable (ok : PoOk)
include ok
set_option maxRecDepth 100000 in
set_option maxHeartbeats 8000000 in
theorem porders_any (A : Array Value) (g : Nat → Int) (k m : Nat) (hk : k ≤ 255) (hm : m ≤ 255) (loc page : Int) (hloc : InZ loc) (hpage : InZ page) (w : World) (hA : Cfg A g) :
    Calls Try.prog 3 #[.agg A, polV k m, .int .i64 loc, .int .i64 page] w fun e w' => e = .returned (.bool true) ∧ Below w.heap.size w w' := by
  have HC0 := Lib.hid (cpb_new w hA k m)
  have HA := Lib.hid hA
  clear hA
  by_cases hmp : mayP g k m = true
  · have HMP := Lib.hid hmp
    by_cases hp : page < 0
    · have HE := Lib.hid (show ordE g k m loc page = 2 from if_pos (.inr hp))
      have HQ := Lib.hid (show ordQ g k m loc page = [] from if_neg (by rw [HE.out]; decide))
      have HM1 := Lib.hid (fun W => ok.may W A g k m HA.out hk hm)
      have HM2 := Lib.hid (fun W => rmayP_any A g k m hk hm W HA.out)
      rw [HMP.out] at HM1 HM2
      have HOR := Lib.hid (fun W => ok.order W A g k m loc page HA.out hk hm hloc hpage)
      rw [HE.out, HQ.out] at HOR
      go_enter Try.func3, Try.ntmps3
      go_wp2_with (fail)
      generalize (w.alloc (.cells A 26)).alloc (.cells #[.int .u8 (k : Int), .int .u8 (m : Int)] 29) = wb at *
      obtain ⟨l0, l1⟩ := HC0.out.loads
      have L0 := Lib.hid l0
      have L1 := Lib.hid l1
      clear l0 l1
      generalize hpb : w.heap.size + 1 = pb at *
      refine wp_region_lex (Kept wb.heap.size wb) [(0, false), (1, false), (3, false), (4, false), (2, true), (5, true), (6, false)] (by kernel_rfl) (by kernel_rfl) rfl (by kernel_rfl) (Below.refl _ wb).drew ?_
      intro W0 hK0
      have HK0 := Lib.hid hK0
      clear hK0
      refine lexH_load rfl rfl _ _ rfl rfl L0.out ?_
      simp only [List.getElem_toArray, List.getElem_cons_zero, Act.put, List.setIfInBounds_toArray, List.set_cons_zero, List.set_cons_succ]
      refine lexH_load rfl rfl _ _ rfl rfl L1.out ?_
      simp only [List.getElem_toArray, List.getElem_cons_succ, List.getElem_cons_zero, Act.put, List.setIfInBounds_toArray, List.set_cons_zero, List.set_cons_succ]
      refine lexH_load rfl rfl _ _ rfl rfl L0.out ?_
      simp only [List.getElem_toArray, List.getElem_cons_succ, List.getElem_cons_zero, Act.put, List.setIfInBounds_toArray, List.set_cons_zero, List.set_cons_succ]
      refine lexH_load rfl rfl _ _ rfl rfl L1.out ?_
      simp only [List.getElem_toArray, List.getElem_cons_succ, List.getElem_cons_zero, Act.put, List.setIfInBounds_toArray, List.set_cons_zero, List.set_cons_succ]
      refine lexH_call 6 #[.agg A, polV k m] rfl rfl ?_ ?_
      focus (go_simp; done)
      refine (HM1.out _).mono ?_
      rintro e W1 ⟨rfl, hb1⟩
      have HK1 := Lib.hid (HK0.out.call (Nat.le_refl _) hb1)
      refine ⟨_, rfl, HK1.out, ?_⟩
      clear hb1 HK0
      simp only [List.getElem_toArray, List.getElem_cons_succ, List.getElem_cons_zero, Act.put, List.setIfInBounds_toArray, List.set_cons_zero, List.set_cons_succ]
      refine lexH_call 7 #[.agg A, polV k m] rfl rfl ?_ ?_
      focus (go_simp; done)
      refine (HM2.out _).mono ?_
      rintro e W2 ⟨rfl, hb1⟩
      have HK2 := Lib.hid (HK1.out.call (Nat.le_refl _) hb1)
      refine ⟨_, rfl, HK2.out, ?_⟩
      clear hb1 HK1 HM1
      simp only [List.getElem_toArray, List.getElem_cons_succ, List.getElem_cons_zero, Act.put, List.setIfInBounds_toArray, List.set_cons_zero, List.set_cons_succ]
      refine lexH_yieldE rfl rfl ?_
      apply Exists.intro
      refine ⟨fun W hW => ?_, ?_⟩
      focus (go_simp; exact rfl)
      simp only [List.getElem_toArray, List.getElem_cons_succ, List.getElem_cons_zero, Act.put, List.setIfInBounds_toArray, List.set_cons_zero, List.set_cons_succ]
      refine lexH_nil ?_
      have HC2 := Lib.hid (HC0.out.later HK2.out.below)
      clear HC0 HK2 L0 L1
      have C0 := HC2.out.cfg
      have p0 := HC2.out.k0
      have p1 := HC2.out.k1
      rw [hpb] at p0 p1
      go_wp2_with (refine wpList_load_cfg rfl _ rfl _ rfl C0 ?_)
      refine (HOR.out _).mono ?_
      rintro e W3 ⟨v, rfl, hL, hb3⟩
      have HL := Lib.hid hL
      have HC3 := Lib.hid (HC2.out.later hb3)
      obtain ⟨va, vc, rfl, _⟩ := hL
      clear hb3 C0 p0 p1 HC2 HOR
      go_wp2_with (fail)
      go_loopw [11] (fun iv wr => ∃ n : Int, iv = .int .i64 n ∧ -2 ≤ n ∧ n ≤ 12 ∧ Hid (CpB w A g k m wr) ∧ Hid (LstAt wr (.slice va ([] : List Nat).length vc) ([] : List Nat))) (fun iv _ => (12 - intOf iv).toNat)
      case atStart => exact ⟨-2, rfl, by decide, by decide, HC3, HL⟩
      case round =>
        clear HC3 HL
        obtain ⟨n, rfl, hn1, hn2, HC, HL⟩ := hrel
        by_cases hlt : n < 12
        · have hnz : InZ n := ⟨by omega, by omega⟩
          have HW1 := Lib.hid (fun W => ok.allowed W k m n hk hm hnz)
          have HW2 := Lib.hid (fun W => rallow_any k m hk hm n W)
          generalize allowP k m n = al at HW1 HW2
          obtain ⟨l0, l1⟩ := HC.out.loads
          rw [hpb] at l1
          have L1 := Lib.hid l1
          clear l0 l1 hnz
          go_wp2_with (fail)
          refine wp_region_lex (Kept wr.heap.size wr) [(0, false), (1, false), (3, false), (4, false), (2, true), (5, true), (6, false)] (by kernel_rfl) (by kernel_rfl) rfl (by kernel_rfl) (Below.refl _ wr).drew ?_
          intro V0 hV0
          have HV0 := Lib.hid hV0
          clear hV0
          refine lexH_load rfl rfl _ _ rfl rfl L1.out ?_
          simp only [List.getElem_toArray, List.getElem_cons_zero, Act.put, List.setIfInBounds_toArray, List.set_cons_zero, List.set_cons_succ]
          refine lexH_yieldE rfl rfl ?_
          apply Exists.intro
          refine ⟨fun W hW => ?_, ?_⟩
          focus (go_simp; exact rfl)
          simp only [List.getElem_toArray, List.getElem_cons_succ, List.getElem_cons_zero, Act.put, List.setIfInBounds_toArray, List.set_cons_zero, List.set_cons_succ]
          refine lexH_load rfl rfl _ _ rfl rfl L1.out ?_
          simp only [List.getElem_toArray, List.getElem_cons_succ, List.getElem_cons_zero, Act.put, List.setIfInBounds_toArray, List.set_cons_zero, List.set_cons_succ]
          refine lexH_yieldE rfl rfl ?_
          apply Exists.intro
          refine ⟨fun W hW => ?_, ?_⟩
          focus (go_simp; exact rfl)
          simp only [List.getElem_toArray, List.getElem_cons_succ, List.getElem_cons_zero, Act.put, List.setIfInBounds_toArray, List.set_cons_zero, List.set_cons_succ]
          refine lexH_call 9 #[polV k m, .int .i64 n] rfl rfl ?_ ?_
          focus (go_simp; done)
          refine (HW1.out _).mono ?_
          rintro e V1 ⟨rfl, hb1⟩
          have HV1 := Lib.hid (HV0.out.call (Nat.le_refl _) hb1)
          refine ⟨_, rfl, HV1.out, ?_⟩
          clear hb1 HV0
          simp only [List.getElem_toArray, List.getElem_cons_succ, List.getElem_cons_zero, Act.put, List.setIfInBounds_toArray, List.set_cons_zero, List.set_cons_succ]
          refine lexH_call 10 #[polV k m, .int .i64 n] rfl rfl ?_ ?_
          focus (go_simp; done)
          refine (HW2.out _).mono ?_
          rintro e V2 ⟨rfl, hb1⟩
          have HV2 := Lib.hid (HV1.out.call (Nat.le_refl _) hb1)
          refine ⟨_, rfl, HV2.out, ?_⟩
          clear hb1 HV1 HW1 HW2 L1
          simp only [List.getElem_toArray, List.getElem_cons_succ, List.getElem_cons_zero, Act.put, List.setIfInBounds_toArray, List.set_cons_zero, List.set_cons_succ]
          refine lexH_yieldE rfl rfl ?_
          apply Exists.intro
          refine ⟨fun W hW => ?_, ?_⟩
          focus (go_simp; exact rfl)
          simp only [List.getElem_toArray, List.getElem_cons_succ, List.getElem_cons_zero, Act.put, List.setIfInBounds_toArray, List.set_cons_zero, List.set_cons_succ]
          refine lexH_nil ?_
          have HC4 := Lib.hid (HC.out.later HV2.out.below)
          have HL4 := Lib.hid (HL.out.later HV2.out.below)
          clear HC HL HV2
          go_wp2_with (fail)
          go_roundw
          case rel => exact ⟨n + 1, by go_num, by omega, by omega, HC4, HL4⟩
          case measure => simp [intOf]; omega
        · obtain rfl : n = 12 := by omega
          have C0 := HC.out.cfg
          have p0 := HC.out.k0
          have p1 := HC.out.k1
          rw [hpb] at p0 p1
          go_wp2_with (refine wpList_load_cfg rfl _ rfl _ rfl C0 ?_)
          refine (HM2.out _).mono ?_
          rintro e W5 ⟨rfl, hb5⟩
          have HC5 := Lib.hid (HC.out.later hb5)
          have HL5 := Lib.hid (HL.out.later hb5)
          clear hb5 C0 p0 p1 HC HL HM2
          have c0 := HC5.out.cfg.cell 0 (by decide)
          go_wp2_with (fail)
          refine (pknown_any ok _).mono ?_
          rintro e W9 ⟨rfl, hb9⟩
          have HB9 := Lib.hid (HC5.out.bel.trans (hb9.mono HC5.out.bel.size))
          clear hb9
          go_wp2_with (fail)
          go_ret
          exact ⟨rfl, HB9.out⟩
    · by_cases hl : loc < 0
      · have HE := Lib.hid (show ordE g k m loc page = 7 from by unfold ordE; rw [if_neg (by rw [hmp]; simp; omega), if_pos (.inl hl)])
        have HQ := Lib.hid (show ordQ g k m loc page = [] from if_neg (by rw [HE.out]; decide))
        have HM1 := Lib.hid (fun W => ok.may W A g k m HA.out hk hm)
        have HM2 := Lib.hid (fun W => rmayP_any A g k m hk hm W HA.out)
        rw [HMP.out] at HM1 HM2
        have HOR := Lib.hid (fun W => ok.order W A g k m loc page HA.out hk hm hloc hpage)
        rw [HE.out, HQ.out] at HOR
        go_enter Try.func3, Try.ntmps3
        go_wp2_with (fail)
        generalize (w.alloc (.cells A 26)).alloc (.cells #[.int .u8 (k : Int), .int .u8 (m : Int)] 29) = wb at *
        obtain ⟨l0, l1⟩ := HC0.out.loads
        have L0 := Lib.hid l0
        have L1 := Lib.hid l1
        clear l0 l1
        generalize hpb : w.heap.size + 1 = pb at *
        refine wp_region_lex (Kept wb.heap.size wb) [(0, false), (1, false), (3, false), (4, false), (2, true), (5, true), (6, false)] (by kernel_rfl) (by kernel_rfl) rfl (by kernel_rfl) (Below.refl _ wb).drew ?_
        intro W0 hK0
        have HK0 := Lib.hid hK0
        clear hK0
        refine lexH_load rfl rfl _ _ rfl rfl L0.out ?_
        simp only [List.getElem_toArray, List.getElem_cons_zero, Act.put, List.setIfInBounds_toArray, List.set_cons_zero, List.set_cons_succ]
        refine lexH_load rfl rfl _ _ rfl rfl L1.out ?_
        simp only [List.getElem_toArray, List.getElem_cons_succ, List.getElem_cons_zero, Act.put, List.setIfInBounds_toArray, List.set_cons_zero, List.set_cons_succ]
        refine lexH_load rfl rfl _ _ rfl rfl L0.out ?_
        simp only [List.getElem_toArray, List.getElem_cons_succ, List.getElem_cons_zero, Act.put, List.setIfInBounds_toArray, List.set_cons_zero, List.set_cons_succ]
        refine lexH_load rfl rfl _ _ rfl rfl L1.out ?_
        simp only [List.getElem_toArray, List.getElem_cons_succ, List.getElem_cons_zero, Act.put, List.setIfInBounds_toArray, List.set_cons_zero, List.set_cons_succ]
        refine lexH_call 6 #[.agg A, polV k m] rfl rfl ?_ ?_
        focus (go_simp; done)
        refine (HM1.out _).mono ?_
        rintro e W1 ⟨rfl, hb1⟩
        have HK1 := Lib.hid (HK0.out.call (Nat.le_refl _) hb1)
        refine ⟨_, rfl, HK1.out, ?_⟩
        clear hb1 HK0
        simp only [List.getElem_toArray, List.getElem_cons_succ, List.getElem_cons_zero, Act.put, List.setIfInBounds_toArray, List.set_cons_zero, List.set_cons_succ]
        refine lexH_call 7 #[.agg A, polV k m] rfl rfl ?_ ?_
        focus (go_simp; done)
        refine (HM2.out _).mono ?_
        rintro e W2 ⟨rfl, hb1⟩
        have HK2 := Lib.hid (HK1.out.call (Nat.le_refl _) hb1)
        refine ⟨_, rfl, HK2.out, ?_⟩
        clear hb1 HK1 HM1
        simp only [List.getElem_toArray, List.getElem_cons_succ, List.getElem_cons_zero, Act.put, List.setIfInBounds_toArray, List.set_cons_zero, List.set_cons_succ]
        refine lexH_yieldE rfl rfl ?_
        apply Exists.intro
        refine ⟨fun W hW => ?_, ?_⟩
        focus (go_simp; exact rfl)
        simp only [List.getElem_toArray, List.getElem_cons_succ, List.getElem_cons_zero, Act.put, List.setIfInBounds_toArray, List.set_cons_zero, List.set_cons_succ]
        refine lexH_nil ?_
        have HC2 := Lib.hid (HC0.out.later HK2.out.below)
        clear HC0 HK2 L0 L1
        have C0 := HC2.out.cfg
        have p0 := HC2.out.k0
        have p1 := HC2.out.k1
        rw [hpb] at p0 p1
        go_wp2_with (refine wpList_load_cfg rfl _ rfl _ rfl C0 ?_)
        refine (HOR.out _).mono ?_
        rintro e W3 ⟨v, rfl, hL, hb3⟩
        have HL := Lib.hid hL
        have HC3 := Lib.hid (HC2.out.later hb3)
        obtain ⟨va, vc, rfl, _⟩ := hL
        clear hb3 C0 p0 p1 HC2 HOR
        go_wp2_with (fail)
        go_loopw [11] (fun iv wr => ∃ n : Int, iv = .int .i64 n ∧ -2 ≤ n ∧ n ≤ 12 ∧ Hid (CpB w A g k m wr) ∧ Hid (LstAt wr (.slice va ([] : List Nat).length vc) ([] : List Nat))) (fun iv _ => (12 - intOf iv).toNat)
        case atStart => exact ⟨-2, rfl, by decide, by decide, HC3, HL⟩
        case round =>
          clear HC3 HL
          obtain ⟨n, rfl, hn1, hn2, HC, HL⟩ := hrel
          by_cases hlt : n < 12
          · have hnz : InZ n := ⟨by omega, by omega⟩
            have HW1 := Lib.hid (fun W => ok.allowed W k m n hk hm hnz)
            have HW2 := Lib.hid (fun W => rallow_any k m hk hm n W)
            generalize allowP k m n = al at HW1 HW2
            obtain ⟨l0, l1⟩ := HC.out.loads
            rw [hpb] at l1
            have L1 := Lib.hid l1
            clear l0 l1 hnz
            go_wp2_with (fail)
            refine wp_region_lex (Kept wr.heap.size wr) [(0, false), (1, false), (3, false), (4, false), (2, true), (5, true), (6, false)] (by kernel_rfl) (by kernel_rfl) rfl (by kernel_rfl) (Below.refl _ wr).drew ?_
            intro V0 hV0
            have HV0 := Lib.hid hV0
            clear hV0
            refine lexH_load rfl rfl _ _ rfl rfl L1.out ?_
            simp only [List.getElem_toArray, List.getElem_cons_zero, Act.put, List.setIfInBounds_toArray, List.set_cons_zero, List.set_cons_succ]
            refine lexH_yieldE rfl rfl ?_
            apply Exists.intro
            refine ⟨fun W hW => ?_, ?_⟩
            focus (go_simp; exact rfl)
            simp only [List.getElem_toArray, List.getElem_cons_succ, List.getElem_cons_zero, Act.put, List.setIfInBounds_toArray, List.set_cons_zero, List.set_cons_succ]
            refine lexH_load rfl rfl _ _ rfl rfl L1.out ?_
            simp only [List.getElem_toArray, List.getElem_cons_succ, List.getElem_cons_zero, Act.put, List.setIfInBounds_toArray, List.set_cons_zero, List.set_cons_succ]
            refine lexH_yieldE rfl rfl ?_
            apply Exists.intro
            refine ⟨fun W hW => ?_, ?_⟩
            focus (go_simp; exact rfl)
            simp only [List.getElem_toArray, List.getElem_cons_succ, List.getElem_cons_zero, Act.put, List.setIfInBounds_toArray, List.set_cons_zero, List.set_cons_succ]
            refine lexH_call 9 #[polV k m, .int .i64 n] rfl rfl ?_ ?_
            focus (go_simp; done)
            refine (HW1.out _).mono ?_
            rintro e V1 ⟨rfl, hb1⟩
            have HV1 := Lib.hid (HV0.out.call (Nat.le_refl _) hb1)
            refine ⟨_, rfl, HV1.out, ?_⟩
            clear hb1 HV0
            simp only [List.getElem_toArray, List.getElem_cons_succ, List.getElem_cons_zero, Act.put, List.setIfInBounds_toArray, List.set_cons_zero, List.set_cons_succ]
            refine lexH_call 10 #[polV k m, .int .i64 n] rfl rfl ?_ ?_
            focus (go_simp; done)
            refine (HW2.out _).mono ?_
            rintro e V2 ⟨rfl, hb1⟩
            have HV2 := Lib.hid (HV1.out.call (Nat.le_refl _) hb1)
            refine ⟨_, rfl, HV2.out, ?_⟩
            clear hb1 HV1 HW1 HW2 L1
            simp only [List.getElem_toArray, List.getElem_cons_succ, List.getElem_cons_zero, Act.put, List.setIfInBounds_toArray, List.set_cons_zero, List.set_cons_succ]
            refine lexH_yieldE rfl rfl ?_
            apply Exists.intro
            refine ⟨fun W hW => ?_, ?_⟩
            focus (go_simp; exact rfl)
            simp only [List.getElem_toArray, List.getElem_cons_succ, List.getElem_cons_zero, Act.put, List.setIfInBounds_toArray, List.set_cons_zero, List.set_cons_succ]
            refine lexH_nil ?_
            have HC4 := Lib.hid (HC.out.later HV2.out.below)
            have HL4 := Lib.hid (HL.out.later HV2.out.below)
            clear HC HL HV2
            go_wp2_with (fail)
            go_roundw
            case rel => exact ⟨n + 1, by go_num, by omega, by omega, HC4, HL4⟩
            case measure => simp [intOf]; omega
          · obtain rfl : n = 12 := by omega
            have C0 := HC.out.cfg
            have p0 := HC.out.k0
            have p1 := HC.out.k1
            rw [hpb] at p0 p1
            go_wp2_with (refine wpList_load_cfg rfl _ rfl _ rfl C0 ?_)
            refine (HM2.out _).mono ?_
            rintro e W5 ⟨rfl, hb5⟩
            have HC5 := Lib.hid (HC.out.later hb5)
            have HL5 := Lib.hid (HL.out.later hb5)
            clear hb5 C0 p0 p1 HC HL HM2
            have c0 := HC5.out.cfg.cell 0 (by decide)
            go_wp2_with (fail)
            refine (pknown_any ok _).mono ?_
            rintro e W9 ⟨rfl, hb9⟩
            have HB9 := Lib.hid (HC5.out.bel.trans (hb9.mono HC5.out.bel.size))
            clear hb9
            go_wp2_with (fail)
            go_ret
            exact ⟨rfl, HB9.out⟩
      · by_cases hg : g 0 ≤ loc
        · have HE := Lib.hid (show ordE g k m loc page = 7 from by unfold ordE; rw [if_neg (by rw [hmp]; simp; omega), if_pos (.inr hg)])
          have HQ := Lib.hid (show ordQ g k m loc page = [] from if_neg (by rw [HE.out]; decide))
          have HM1 := Lib.hid (fun W => ok.may W A g k m HA.out hk hm)
          have HM2 := Lib.hid (fun W => rmayP_any A g k m hk hm W HA.out)
          rw [HMP.out] at HM1 HM2
          have HOR := Lib.hid (fun W => ok.order W A g k m loc page HA.out hk hm hloc hpage)
          rw [HE.out, HQ.out] at HOR
          go_enter Try.func3, Try.ntmps3
          go_wp2_with (fail)
          generalize (w.alloc (.cells A 26)).alloc (.cells #[.int .u8 (k : Int), .int .u8 (m : Int)] 29) = wb at *
          obtain ⟨l0, l1⟩ := HC0.out.loads
          have L0 := Lib.hid l0
          have L1 := Lib.hid l1
          clear l0 l1
          generalize hpb : w.heap.size + 1 = pb at *
          refine wp_region_lex (Kept wb.heap.size wb) [(0, false), (1, false), (3, false), (4, false), (2, true), (5, true), (6, false)] (by kernel_rfl) (by kernel_rfl) rfl (by kernel_rfl) (Below.refl _ wb).drew ?_
          intro W0 hK0
          have HK0 := Lib.hid hK0
          clear hK0
          refine lexH_load rfl rfl _ _ rfl rfl L0.out ?_
          simp only [List.getElem_toArray, List.getElem_cons_zero, Act.put, List.setIfInBounds_toArray, List.set_cons_zero, List.set_cons_succ]
          refine lexH_load rfl rfl _ _ rfl rfl L1.out ?_
          simp only [List.getElem_toArray, List.getElem_cons_succ, List.getElem_cons_zero, Act.put, List.setIfInBounds_toArray, List.set_cons_zero, List.set_cons_succ]
          refine lexH_load rfl rfl _ _ rfl rfl L0.out ?_
          simp only [List.getElem_toArray, List.getElem_cons_succ, List.getElem_cons_zero, Act.put, List.setIfInBounds_toArray, List.set_cons_zero, List.set_cons_succ]
          refine lexH_load rfl rfl _ _ rfl rfl L1.out ?_
          simp only [List.getElem_toArray, List.getElem_cons_succ, List.getElem_cons_zero, Act.put, List.setIfInBounds_toArray, List.set_cons_zero, List.set_cons_succ]
          refine lexH_call 6 #[.agg A, polV k m] rfl rfl ?_ ?_
          focus (go_simp; done)
          refine (HM1.out _).mono ?_
          rintro e W1 ⟨rfl, hb1⟩
          have HK1 := Lib.hid (HK0.out.call (Nat.le_refl _) hb1)
          refine ⟨_, rfl, HK1.out, ?_⟩
          clear hb1 HK0
          simp only [List.getElem_toArray, List.getElem_cons_succ, List.getElem_cons_zero, Act.put, List.setIfInBounds_toArray, List.set_cons_zero, List.set_cons_succ]
          refine lexH_call 7 #[.agg A, polV k m] rfl rfl ?_ ?_
          focus (go_simp; done)
          refine (HM2.out _).mono ?_
          rintro e W2 ⟨rfl, hb1⟩
          have HK2 := Lib.hid (HK1.out.call (Nat.le_refl _) hb1)
          refine ⟨_, rfl, HK2.out, ?_⟩
          clear hb1 HK1 HM1
          simp only [List.getElem_toArray, List.getElem_cons_succ, List.getElem_cons_zero, Act.put, List.setIfInBounds_toArray, List.set_cons_zero, List.set_cons_succ]
          refine lexH_yieldE rfl rfl ?_
          apply Exists.intro
          refine ⟨fun W hW => ?_, ?_⟩
          focus (go_simp; exact rfl)
          simp only [List.getElem_toArray, List.getElem_cons_succ, List.getElem_cons_zero, Act.put, List.setIfInBounds_toArray, List.set_cons_zero, List.set_cons_succ]
          refine lexH_nil ?_
          have HC2 := Lib.hid (HC0.out.later HK2.out.below)
          clear HC0 HK2 L0 L1
          have C0 := HC2.out.cfg
          have p0 := HC2.out.k0
          have p1 := HC2.out.k1
          rw [hpb] at p0 p1
          go_wp2_with (refine wpList_load_cfg rfl _ rfl _ rfl C0 ?_)
          refine (HOR.out _).mono ?_
          rintro e W3 ⟨v, rfl, hL, hb3⟩
          have HL := Lib.hid hL
          have HC3 := Lib.hid (HC2.out.later hb3)
          obtain ⟨va, vc, rfl, _⟩ := hL
          clear hb3 C0 p0 p1 HC2 HOR
          go_wp2_with (fail)
          go_loopw [11] (fun iv wr => ∃ n : Int, iv = .int .i64 n ∧ -2 ≤ n ∧ n ≤ 12 ∧ Hid (CpB w A g k m wr) ∧ Hid (LstAt wr (.slice va ([] : List Nat).length vc) ([] : List Nat))) (fun iv _ => (12 - intOf iv).toNat)
          case atStart => exact ⟨-2, rfl, by decide, by decide, HC3, HL⟩
          case round =>
            clear HC3 HL
            obtain ⟨n, rfl, hn1, hn2, HC, HL⟩ := hrel
            by_cases hlt : n < 12
            · have hnz : InZ n := ⟨by omega, by omega⟩
              have HW1 := Lib.hid (fun W => ok.allowed W k m n hk hm hnz)
              have HW2 := Lib.hid (fun W => rallow_any k m hk hm n W)
              generalize allowP k m n = al at HW1 HW2
              obtain ⟨l0, l1⟩ := HC.out.loads
              rw [hpb] at l1
              have L1 := Lib.hid l1
              clear l0 l1 hnz
              go_wp2_with (fail)
              refine wp_region_lex (Kept wr.heap.size wr) [(0, false), (1, false), (3, false), (4, false), (2, true), (5, true), (6, false)] (by kernel_rfl) (by kernel_rfl) rfl (by kernel_rfl) (Below.refl _ wr).drew ?_
              intro V0 hV0
              have HV0 := Lib.hid hV0
              clear hV0
              refine lexH_load rfl rfl _ _ rfl rfl L1.out ?_
              simp only [List.getElem_toArray, List.getElem_cons_zero, Act.put, List.setIfInBounds_toArray, List.set_cons_zero, List.set_cons_succ]
              refine lexH_yieldE rfl rfl ?_
              apply Exists.intro
              refine ⟨fun W hW => ?_, ?_⟩
              focus (go_simp; exact rfl)
              simp only [List.getElem_toArray, List.getElem_cons_succ, List.getElem_cons_zero, Act.put, List.setIfInBounds_toArray, List.set_cons_zero, List.set_cons_succ]
              refine lexH_load rfl rfl _ _ rfl rfl L1.out ?_
              simp only [List.getElem_toArray, List.getElem_cons_succ, List.getElem_cons_zero, Act.put, List.setIfInBounds_toArray, List.set_cons_zero, List.set_cons_succ]
              refine lexH_yieldE rfl rfl ?_
              apply Exists.intro
              refine ⟨fun W hW => ?_, ?_⟩
              focus (go_simp; exact rfl)
              simp only [List.getElem_toArray, List.getElem_cons_succ, List.getElem_cons_zero, Act.put, List.setIfInBounds_toArray, List.set_cons_zero, List.set_cons_succ]
              refine lexH_call 9 #[polV k m, .int .i64 n] rfl rfl ?_ ?_
              focus (go_simp; done)
              refine (HW1.out _).mono ?_
              rintro e V1 ⟨rfl, hb1⟩
              have HV1 := Lib.hid (HV0.out.call (Nat.le_refl _) hb1)
              refine ⟨_, rfl, HV1.out, ?_⟩
              clear hb1 HV0
              simp only [List.getElem_toArray, List.getElem_cons_succ, List.getElem_cons_zero, Act.put, List.setIfInBounds_toArray, List.set_cons_zero, List.set_cons_succ]
              refine lexH_call 10 #[polV k m, .int .i64 n] rfl rfl ?_ ?_
              focus (go_simp; done)
              refine (HW2.out _).mono ?_
              rintro e V2 ⟨rfl, hb1⟩
              have HV2 := Lib.hid (HV1.out.call (Nat.le_refl _) hb1)
              refine ⟨_, rfl, HV2.out, ?_⟩
              clear hb1 HV1 HW1 HW2 L1
              simp only [List.getElem_toArray, List.getElem_cons_succ, List.getElem_cons_zero, Act.put, List.setIfInBounds_toArray, List.set_cons_zero, List.set_cons_succ]
              refine lexH_yieldE rfl rfl ?_
              apply Exists.intro
              refine ⟨fun W hW => ?_, ?_⟩
              focus (go_simp; exact rfl)
              simp only [List.getElem_toArray, List.getElem_cons_succ, List.getElem_cons_zero, Act.put, List.setIfInBounds_toArray, List.set_cons_zero, List.set_cons_succ]
              refine lexH_nil ?_
              have HC4 := Lib.hid (HC.out.later HV2.out.below)
              have HL4 := Lib.hid (HL.out.later HV2.out.below)
              clear HC HL HV2
              go_wp2_with (fail)
              go_roundw
              case rel => exact ⟨n + 1, by go_num, by omega, by omega, HC4, HL4⟩
              case measure => simp [intOf]; omega
            · obtain rfl : n = 12 := by omega
              have C0 := HC.out.cfg
              have p0 := HC.out.k0
              have p1 := HC.out.k1
              rw [hpb] at p0 p1
              go_wp2_with (refine wpList_load_cfg rfl _ rfl _ rfl C0 ?_)
              refine (HM2.out _).mono ?_
              rintro e W5 ⟨rfl, hb5⟩
              have HC5 := Lib.hid (HC.out.later hb5)
              have HL5 := Lib.hid (HL.out.later hb5)
              clear hb5 C0 p0 p1 HC HL HM2
              have c0 := HC5.out.cfg.cell 0 (by decide)
              go_wp2_with (fail)
              refine (pknown_any ok _).mono ?_
              rintro e W9 ⟨rfl, hb9⟩
              have HB9 := Lib.hid (HC5.out.bel.trans (hb9.mono HC5.out.bel.size))
              clear hb9
              go_wp2_with (fail)
              go_ret
              exact ⟨rfl, HB9.out⟩
        · have HE := Lib.hid (show ordE g k m loc page = 0 from by unfold ordE; rw [if_neg (by rw [hmp]; simp; omega), if_neg (by omega)])
          have HG := Lib.hid (show Good g from (good_iff g).1 (by unfold mayP at hmp; simp only [Bool.and_eq_true] at hmp; exact hmp.1))
          have hg8 := HG.out.n2
          obtain ⟨N, hN⟩ : ∃ N : Nat, g 0 = N := ⟨(g 0).toNat, by omega⟩
          obtain ⟨lc, rfl⟩ : ∃ lc : Nat, loc = lc := ⟨loc.toNat, by omega⟩
          obtain ⟨pg, rfl⟩ : ∃ pg : Nat, page = pg := ⟨page.toNat, by omega⟩
          have HQ := Lib.hid (show ordQ g k m lc pg = polL g N k m lc pg from by unfold ordQ; rw [if_pos HE.out, hN, Int.toNat_natCast, Int.toNat_natCast, Int.toNat_natCast])
          have HRO := Lib.hid (fun W => rorder_any A g k m N lc pg hm W HA.out HG.out hN (by omega) hmp (by have := hpage.2; omega))
          have HN := Lib.hid hN
          have hlI : ¬ (N : Int) ≤ lc := by omega
          have HQL := Lib.hid (show (polL g N k m lc pg).length ≤ 1000 from by
            have hn8 : N ≤ 8 := by omega
            unfold polL
            split
            · rw [nearN_len]; omega
            · split
              · rw [nearN_len]; omega
              · split
                · rw [List.length_append, rotN_len]
                  have h1 := inN_len m N
                  have h2 := List.length_filter_le (fun x => !hasM m x) (nearN g lc N)
                  rw [nearN_len] at h2
                  omega
                · have h2 := List.length_filter_le (hasM m) (nearN g lc N)
                  rw [nearN_len] at h2
                  omega)
          generalize polL g N k m lc pg = Q at *
          clear hN hmp
          have HM1 := Lib.hid (fun W => ok.may W A g k m HA.out hk hm)
          have HM2 := Lib.hid (fun W => rmayP_any A g k m hk hm W HA.out)
          rw [HMP.out] at HM1 HM2
          have HOR := Lib.hid (fun W => ok.order W A g k m lc pg HA.out hk hm hloc hpage)
          rw [HE.out, HQ.out] at HOR
          go_enter Try.func3, Try.ntmps3
          go_wp2_with (fail)
          generalize (w.alloc (.cells A 26)).alloc (.cells #[.int .u8 (k : Int), .int .u8 (m : Int)] 29) = wb at *
          obtain ⟨l0, l1⟩ := HC0.out.loads
          have L0 := Lib.hid l0
          have L1 := Lib.hid l1
          clear l0 l1
          generalize hpb : w.heap.size + 1 = pb at *
          refine wp_region_lex (Kept wb.heap.size wb) [(0, false), (1, false), (3, false), (4, false), (2, true), (5, true), (6, false)] (by kernel_rfl) (by kernel_rfl) rfl (by kernel_rfl) (Below.refl _ wb).drew ?_
          intro W0 hK0
          have HK0 := Lib.hid hK0
          clear hK0
          refine lexH_load rfl rfl _ _ rfl rfl L0.out ?_
          simp only [List.getElem_toArray, List.getElem_cons_zero, Act.put, List.setIfInBounds_toArray, List.set_cons_zero, List.set_cons_succ]
          refine lexH_load rfl rfl _ _ rfl rfl L1.out ?_
          simp only [List.getElem_toArray, List.getElem_cons_succ, List.getElem_cons_zero, Act.put, List.setIfInBounds_toArray, List.set_cons_zero, List.set_cons_succ]
          refine lexH_load rfl rfl _ _ rfl rfl L0.out ?_
          simp only [List.getElem_toArray, List.getElem_cons_succ, List.getElem_cons_zero, Act.put, List.setIfInBounds_toArray, List.set_cons_zero, List.set_cons_succ]
          refine lexH_load rfl rfl _ _ rfl rfl L1.out ?_
          simp only [List.getElem_toArray, List.getElem_cons_succ, List.getElem_cons_zero, Act.put, List.setIfInBounds_toArray, List.set_cons_zero, List.set_cons_succ]
          refine lexH_call 6 #[.agg A, polV k m] rfl rfl ?_ ?_
          focus (go_simp; done)
          refine (HM1.out _).mono ?_
          rintro e W1 ⟨rfl, hb1⟩
          have HK1 := Lib.hid (HK0.out.call (Nat.le_refl _) hb1)
          refine ⟨_, rfl, HK1.out, ?_⟩
          clear hb1 HK0
          simp only [List.getElem_toArray, List.getElem_cons_succ, List.getElem_cons_zero, Act.put, List.setIfInBounds_toArray, List.set_cons_zero, List.set_cons_succ]
          refine lexH_call 7 #[.agg A, polV k m] rfl rfl ?_ ?_
          focus (go_simp; done)
          refine (HM2.out _).mono ?_
          rintro e W2 ⟨rfl, hb1⟩
          have HK2 := Lib.hid (HK1.out.call (Nat.le_refl _) hb1)
          refine ⟨_, rfl, HK2.out, ?_⟩
          clear hb1 HK1 HM1
          simp only [List.getElem_toArray, List.getElem_cons_succ, List.getElem_cons_zero, Act.put, List.setIfInBounds_toArray, List.set_cons_zero, List.set_cons_succ]
          refine lexH_yieldE rfl rfl ?_
          apply Exists.intro
          refine ⟨fun W hW => ?_, ?_⟩
          focus (go_simp; exact rfl)
          simp only [List.getElem_toArray, List.getElem_cons_succ, List.getElem_cons_zero, Act.put, List.setIfInBounds_toArray, List.set_cons_zero, List.set_cons_succ]
          refine lexH_nil ?_
          have HC2 := Lib.hid (HC0.out.later HK2.out.below)
          clear HC0 HK2 L0 L1
          have C0 := HC2.out.cfg
          have p0 := HC2.out.k0
          have p1 := HC2.out.k1
          rw [hpb] at p0 p1
          go_wp2_with (refine wpList_load_cfg rfl _ rfl _ rfl C0 ?_)
          refine (HOR.out _).mono ?_
          rintro e W3 ⟨v, rfl, hL, hb3⟩
          have HL := Lib.hid hL
          have HC3 := Lib.hid (HC2.out.later hb3)
          obtain ⟨va, vc, rfl, _⟩ := hL
          clear hb3 C0 p0 p1 HC2 HOR
          go_wp2_with (fail)
          go_loopw [11] (fun iv wr => ∃ n : Int, iv = .int .i64 n ∧ -2 ≤ n ∧ n ≤ 12 ∧ Hid (CpB w A g k m wr) ∧ Hid (LstAt wr (.slice va Q.length vc) Q)) (fun iv _ => (12 - intOf iv).toNat)
          case atStart => exact ⟨-2, rfl, by decide, by decide, HC3, HL⟩
          case round =>
            clear HC3 HL
            obtain ⟨n, rfl, hn1, hn2, HC, HL⟩ := hrel
            by_cases hlt : n < 12
            · have hnz : InZ n := ⟨by omega, by omega⟩
              have HW1 := Lib.hid (fun W => ok.allowed W k m n hk hm hnz)
              have HW2 := Lib.hid (fun W => rallow_any k m hk hm n W)
              generalize allowP k m n = al at HW1 HW2
              obtain ⟨l0, l1⟩ := HC.out.loads
              rw [hpb] at l1
              have L1 := Lib.hid l1
              clear l0 l1 hnz
              go_wp2_with (fail)
              refine wp_region_lex (Kept wr.heap.size wr) [(0, false), (1, false), (3, false), (4, false), (2, true), (5, true), (6, false)] (by kernel_rfl) (by kernel_rfl) rfl (by kernel_rfl) (Below.refl _ wr).drew ?_
              intro V0 hV0
              have HV0 := Lib.hid hV0
              clear hV0
              refine lexH_load rfl rfl _ _ rfl rfl L1.out ?_
              simp only [List.getElem_toArray, List.getElem_cons_zero, Act.put, List.setIfInBounds_toArray, List.set_cons_zero, List.set_cons_succ]
              refine lexH_yieldE rfl rfl ?_
              apply Exists.intro
              refine ⟨fun W hW => ?_, ?_⟩
              focus (go_simp; exact rfl)
              simp only [List.getElem_toArray, List.getElem_cons_succ, List.getElem_cons_zero, Act.put, List.setIfInBounds_toArray, List.set_cons_zero, List.set_cons_succ]
              refine lexH_load rfl rfl _ _ rfl rfl L1.out ?_
              simp only [List.getElem_toArray, List.getElem_cons_succ, List.getElem_cons_zero, Act.put, List.setIfInBounds_toArray, List.set_cons_zero, List.set_cons_succ]
              refine lexH_yieldE rfl rfl ?_
              apply Exists.intro
              refine ⟨fun W hW => ?_, ?_⟩
              focus (go_simp; exact rfl)
              simp only [List.getElem_toArray, List.getElem_cons_succ, List.getElem_cons_zero, Act.put, List.setIfInBounds_toArray, List.set_cons_zero, List.set_cons_succ]
              refine lexH_call 9 #[polV k m, .int .i64 n] rfl rfl ?_ ?_
              focus (go_simp; done)
              refine (HW1.out _).mono ?_
              rintro e V1 ⟨rfl, hb1⟩
              have HV1 := Lib.hid (HV0.out.call (Nat.le_refl _) hb1)
              refine ⟨_, rfl, HV1.out, ?_⟩
              clear hb1 HV0
              simp only [List.getElem_toArray, List.getElem_cons_succ, List.getElem_cons_zero, Act.put, List.setIfInBounds_toArray, List.set_cons_zero, List.set_cons_succ]
              refine lexH_call 10 #[polV k m, .int .i64 n] rfl rfl ?_ ?_
              focus (go_simp; done)
              refine (HW2.out _).mono ?_
              rintro e V2 ⟨rfl, hb1⟩
              have HV2 := Lib.hid (HV1.out.call (Nat.le_refl _) hb1)
              refine ⟨_, rfl, HV2.out, ?_⟩
              clear hb1 HV1 HW1 HW2 L1
              simp only [List.getElem_toArray, List.getElem_cons_succ, List.getElem_cons_zero, Act.put, List.setIfInBounds_toArray, List.set_cons_zero, List.set_cons_succ]
              refine lexH_yieldE rfl rfl ?_
              apply Exists.intro
              refine ⟨fun W hW => ?_, ?_⟩
              focus (go_simp; exact rfl)
              simp only [List.getElem_toArray, List.getElem_cons_succ, List.getElem_cons_zero, Act.put, List.setIfInBounds_toArray, List.set_cons_zero, List.set_cons_succ]
              refine lexH_nil ?_
              have HC4 := Lib.hid (HC.out.later HV2.out.below)
              have HL4 := Lib.hid (HL.out.later HV2.out.below)
              clear HC HL HV2
              go_wp2_with (fail)
              go_roundw
              case rel => exact ⟨n + 1, by go_num, by omega, by omega, HC4, HL4⟩
              case measure => simp [intOf]; omega
            · obtain rfl : n = 12 := by omega
              have C0 := HC.out.cfg
              have p0 := HC.out.k0
              have p1 := HC.out.k1
              rw [hpb] at p0 p1
              go_wp2_with (refine wpList_load_cfg rfl _ rfl _ rfl C0 ?_)
              refine (HM2.out _).mono ?_
              rintro e W5 ⟨rfl, hb5⟩
              have HC5 := Lib.hid (HC.out.later hb5)
              have HL5 := Lib.hid (HL.out.later hb5)
              clear hb5 C0 p0 p1 HC HL HM2
              have c0 := HC5.out.cfg.cell 0 (by decide)
              rw [HN.out] at c0
              have C0 := HC5.out.cfg
              have p0 := HC5.out.k0
              have p1 := HC5.out.k1
              rw [hpb] at p0 p1
              go_wp2_with (first | refine wpList_load_cfg rfl _ rfl _ rfl C0 ?_ | fail)
              refine (HRO.out _).mono ?_
              rintro e W6 ⟨v6, rfl, hL6, hb6⟩
              have HC6 := Lib.hid (HC5.out.later (hb6.mono (Nat.le_refl _)))
              have HL6 := Lib.hid (HL5.out.later hb6)
              have HL7 := Lib.hid hL6
              obtain ⟨ra, rc, rfl, _⟩ := hL6
              clear hb6 C0 p0 p1 c0 HC5 HL5 HRO
              go_wp2_with (fail)
              refine (alike_any HL6.out HL7.out HQL.out).mono ?_
              rintro e W7 ⟨rfl, hb7⟩
              rw [show sameL Q Q = true from decide_eq_true rfl]
              have HC7 := Lib.hid (HC6.out.later hb7)
              clear hb7 HC6 HL6 HL7
              go_wp2_with (fail)
              refine (pknown_any ok _).mono ?_
              rintro e W9 ⟨rfl, hb9⟩
              have HB9 := Lib.hid (HC7.out.bel.trans (hb9.mono HC7.out.bel.size))
              clear hb9
              go_wp2_with (fail)
              go_ret
              exact ⟨rfl, HB9.out⟩
  · have hmf : mayP g k m = false := by simpa using hmp
    have HMP := Lib.hid hmf
    have HE := Lib.hid (show ordE g k m loc page = 2 from if_pos (.inl hmf))
    have HQ := Lib.hid (show ordQ g k m loc page = [] from if_neg (by rw [HE.out]; decide))
    clear hmp hmf
    have HM1 := Lib.hid (fun W => ok.may W A g k m HA.out hk hm)
    have HM2 := Lib.hid (fun W => rmayP_any A g k m hk hm W HA.out)
    rw [HMP.out] at HM1 HM2
    have HOR := Lib.hid (fun W => ok.order W A g k m loc page HA.out hk hm hloc hpage)
    rw [HE.out, HQ.out] at HOR
    go_enter Try.func3, Try.ntmps3
    go_wp2_with (fail)
    generalize (w.alloc (.cells A 26)).alloc (.cells #[.int .u8 (k : Int), .int .u8 (m : Int)] 29) = wb at *
    obtain ⟨l0, l1⟩ := HC0.out.loads
    have L0 := Lib.hid l0
    have L1 := Lib.hid l1
    clear l0 l1
    generalize hpb : w.heap.size + 1 = pb at *
    refine wp_region_lex (Kept wb.heap.size wb) [(0, false), (1, false), (3, false), (4, false), (2, true), (5, true), (6, false)] (by kernel_rfl) (by kernel_rfl) rfl (by kernel_rfl) (Below.refl _ wb).drew ?_
    intro W0 hK0
    have HK0 := Lib.hid hK0
    clear hK0
    refine lexH_load rfl rfl _ _ rfl rfl L0.out ?_
    simp only [List.getElem_toArray, List.getElem_cons_zero, Act.put, List.setIfInBounds_toArray, List.set_cons_zero, List.set_cons_succ]
    refine lexH_load rfl rfl _ _ rfl rfl L1.out ?_
    simp only [List.getElem_toArray, List.getElem_cons_succ, List.getElem_cons_zero, Act.put, List.setIfInBounds_toArray, List.set_cons_zero, List.set_cons_succ]
    refine lexH_load rfl rfl _ _ rfl rfl L0.out ?_
    simp only [List.getElem_toArray, List.getElem_cons_succ, List.getElem_cons_zero, Act.put, List.setIfInBounds_toArray, List.set_cons_zero, List.set_cons_succ]
    refine lexH_load rfl rfl _ _ rfl rfl L1.out ?_
    simp only [List.getElem_toArray, List.getElem_cons_succ, List.getElem_cons_zero, Act.put, List.setIfInBounds_toArray, List.set_cons_zero, List.set_cons_succ]
    refine lexH_call 6 #[.agg A, polV k m] rfl rfl ?_ ?_
    focus (go_simp; done)
    refine (HM1.out _).mono ?_
    rintro e W1 ⟨rfl, hb1⟩
    have HK1 := Lib.hid (HK0.out.call (Nat.le_refl _) hb1)
    refine ⟨_, rfl, HK1.out, ?_⟩
    clear hb1 HK0
    simp only [List.getElem_toArray, List.getElem_cons_succ, List.getElem_cons_zero, Act.put, List.setIfInBounds_toArray, List.set_cons_zero, List.set_cons_succ]
    refine lexH_call 7 #[.agg A, polV k m] rfl rfl ?_ ?_
    focus (go_simp; done)
    refine (HM2.out _).mono ?_
    rintro e W2 ⟨rfl, hb1⟩
    have HK2 := Lib.hid (HK1.out.call (Nat.le_refl _) hb1)
    refine ⟨_, rfl, HK2.out, ?_⟩
    clear hb1 HK1 HM1
    simp only [List.getElem_toArray, List.getElem_cons_succ, List.getElem_cons_zero, Act.put, List.setIfInBounds_toArray, List.set_cons_zero, List.set_cons_succ]
    refine lexH_yieldE rfl rfl ?_
    apply Exists.intro
    refine ⟨fun W hW => ?_, ?_⟩
    focus (go_simp; exact rfl)
    simp only [List.getElem_toArray, List.getElem_cons_succ, List.getElem_cons_zero, Act.put, List.setIfInBounds_toArray, List.set_cons_zero, List.set_cons_succ]
    refine lexH_nil ?_
    have HC2 := Lib.hid (HC0.out.later HK2.out.below)
    clear HC0 HK2 L0 L1
    have C0 := HC2.out.cfg
    have p0 := HC2.out.k0
    have p1 := HC2.out.k1
    rw [hpb] at p0 p1
    go_wp2_with (refine wpList_load_cfg rfl _ rfl _ rfl C0 ?_)
    refine (HOR.out _).mono ?_
    rintro e W3 ⟨v, rfl, hL, hb3⟩
    have HL := Lib.hid hL
    have HC3 := Lib.hid (HC2.out.later hb3)
    obtain ⟨va, vc, rfl, _⟩ := hL
    clear hb3 C0 p0 p1 HC2 HOR
    go_wp2_with (fail)
    go_loopw [11] (fun iv wr => ∃ n : Int, iv = .int .i64 n ∧ -2 ≤ n ∧ n ≤ 12 ∧ Hid (CpB w A g k m wr) ∧ Hid (LstAt wr (.slice va ([] : List Nat).length vc) ([] : List Nat))) (fun iv _ => (12 - intOf iv).toNat)
    case atStart => exact ⟨-2, rfl, by decide, by decide, HC3, HL⟩
    case round =>
      clear HC3 HL
      obtain ⟨n, rfl, hn1, hn2, HC, HL⟩ := hrel
      by_cases hlt : n < 12
      · have hnz : InZ n := ⟨by omega, by omega⟩
        have HW1 := Lib.hid (fun W => ok.allowed W k m n hk hm hnz)
        have HW2 := Lib.hid (fun W => rallow_any k m hk hm n W)
        generalize allowP k m n = al at HW1 HW2
        obtain ⟨l0, l1⟩ := HC.out.loads
        rw [hpb] at l1
        have L1 := Lib.hid l1
        clear l0 l1 hnz
        go_wp2_with (fail)
        refine wp_region_lex (Kept wr.heap.size wr) [(0, false), (1, false), (3, false), (4, false), (2, true), (5, true), (6, false)] (by kernel_rfl) (by kernel_rfl) rfl (by kernel_rfl) (Below.refl _ wr).drew ?_
        intro V0 hV0
        have HV0 := Lib.hid hV0
        clear hV0
        refine lexH_load rfl rfl _ _ rfl rfl L1.out ?_
        simp only [List.getElem_toArray, List.getElem_cons_zero, Act.put, List.setIfInBounds_toArray, List.set_cons_zero, List.set_cons_succ]
        refine lexH_yieldE rfl rfl ?_
        apply Exists.intro
        refine ⟨fun W hW => ?_, ?_⟩
        focus (go_simp; exact rfl)
        simp only [List.getElem_toArray, List.getElem_cons_succ, List.getElem_cons_zero, Act.put, List.setIfInBounds_toArray, List.set_cons_zero, List.set_cons_succ]
        refine lexH_load rfl rfl _ _ rfl rfl L1.out ?_
        simp only [List.getElem_toArray, List.getElem_cons_succ, List.getElem_cons_zero, Act.put, List.setIfInBounds_toArray, List.set_cons_zero, List.set_cons_succ]
        refine lexH_yieldE rfl rfl ?_
        apply Exists.intro
        refine ⟨fun W hW => ?_, ?_⟩
        focus (go_simp; exact rfl)
        simp only [List.getElem_toArray, List.getElem_cons_succ, List.getElem_cons_zero, Act.put, List.setIfInBounds_toArray, List.set_cons_zero, List.set_cons_succ]
        refine lexH_call 9 #[polV k m, .int .i64 n] rfl rfl ?_ ?_
        focus (go_simp; done)
        refine (HW1.out _).mono ?_
        rintro e V1 ⟨rfl, hb1⟩
        have HV1 := Lib.hid (HV0.out.call (Nat.le_refl _) hb1)
        refine ⟨_, rfl, HV1.out, ?_⟩
        clear hb1 HV0
        simp only [List.getElem_toArray, List.getElem_cons_succ, List.getElem_cons_zero, Act.put, List.setIfInBounds_toArray, List.set_cons_zero, List.set_cons_succ]
        refine lexH_call 10 #[polV k m, .int .i64 n] rfl rfl ?_ ?_
        focus (go_simp; done)
        refine (HW2.out _).mono ?_
        rintro e V2 ⟨rfl, hb1⟩
        have HV2 := Lib.hid (HV1.out.call (Nat.le_refl _) hb1)
        refine ⟨_, rfl, HV2.out, ?_⟩
        clear hb1 HV1 HW1 HW2 L1
        simp only [List.getElem_toArray, List.getElem_cons_succ, List.getElem_cons_zero, Act.put, List.setIfInBounds_toArray, List.set_cons_zero, List.set_cons_succ]
        refine lexH_yieldE rfl rfl ?_
        apply Exists.intro
        refine ⟨fun W hW => ?_, ?_⟩
        focus (go_simp; exact rfl)
        simp only [List.getElem_toArray, List.getElem_cons_succ, List.getElem_cons_zero, Act.put, List.setIfInBounds_toArray, List.set_cons_zero, List.set_cons_succ]
        refine lexH_nil ?_
        have HC4 := Lib.hid (HC.out.later HV2.out.below)
        have HL4 := Lib.hid (HL.out.later HV2.out.below)
        clear HC HL HV2
        go_wp2_with (fail)
        go_roundw
        case rel => exact ⟨n + 1, by go_num, by omega, by omega, HC4, HL4⟩
        case measure => simp [intOf]; omega
      · obtain rfl : n = 12 := by omega
        have C0 := HC.out.cfg
        have p0 := HC.out.k0
        have p1 := HC.out.k1
        rw [hpb] at p0 p1
        go_wp2_with (refine wpList_load_cfg rfl _ rfl _ rfl C0 ?_)
        refine (HM2.out _).mono ?_
        rintro e W5 ⟨rfl, hb5⟩
        have HC5 := Lib.hid (HC.out.later hb5)
        have HL5 := Lib.hid (HL.out.later hb5)
        clear hb5 C0 p0 p1 HC HL HM2
        have c0 := HC5.out.cfg.cell 0 (by decide)
        go_wp2_with (fail)
        refine (pknown_any ok _).mono ?_
        rintro e W9 ⟨rfl, hb9⟩
        have HB9 := Lib.hid (HC5.out.bel.trans (hb9.mono HC5.out.bel.size))
        clear hb9
        go_wp2_with (fail)
        go_ret
        exact ⟨rfl, HB9.out⟩
end
end Go.Proofs.Ytcbdmdalijhkoaa

