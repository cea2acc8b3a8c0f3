/-
  The walk of CallsForms, for whatever calls.
-/
import Derived.Test.YtkmjkkeldbocdaaDoorCsLawWrong
namespace Go.Proofs.YtkmjkkeldbocdaaDoor
open Go.RowKit Go
attribute [local go_sem] Oper.semAt_some

/-- Two calls' boxes. -/
structure TwB (w : World) (q : CallM) (a : Option Addr) (n c : Nat) (r : CallM) (b : Option Addr) (m d : Nat) (W : World) : Prop where
  b1 : W.heap[w.heap.size]? = some (.cells (q.cells a n c) 29 (0, 0))
  b2 : W.heap[w.heap.size + 1]? = some (.cells (r.cells b m d) 29 (0, 0))
  bel : Below w.heap.size w W
theorem TwB.later {w W W' : World} {q : CallM} {a : Option Addr} {n c : Nat} {r : CallM} {b : Option Addr} {m d : Nat} (h : TwB w q a n c r b m d W) (hb : Below W.heap.size W W') : TwB w q a n c r b m d W' :=
  ⟨by rw [hb.block _ (Array.getElem?_eq_some_iff.1 h.b1).1]; exact h.b1, by rw [hb.block _ (Array.getElem?_eq_some_iff.1 h.b2).1]; exact h.b2, h.bel.trans (hb.mono h.bel.size)⟩
theorem twb_new (w : World) (q : CallM) (a : Option Addr) (n c : Nat) (r : CallM) (b : Option Addr) (m d : Nat) : TwB w q a n c r b m d ((w.alloc (.cells (q.cells a n c) 29)).alloc (.cells (r.cells b m d) 29)) :=
  ⟨heap_alloc2_old w _ _, heap_alloc2_new w _ _, ((Below.refl _ _).alloc (Nat.le_refl _) _).alloc (by simp) _⟩
theorem TwB.bytes {w W : World} {q : CallM} {a : Option Addr} {n c : Nat} {r : CallM} {b : Option Addr} {m d : Nat} (h : TwB w q a n c r b m d W) : W.cell? ⟨w.heap.size, 11, none⟩ = some (.slice a n c) ∧ W.cell? ⟨w.heap.size + 1, 11, none⟩ = some (.slice b m d) :=
  ⟨by rw [cell_of_row _ _ _ _ _ _ h.b1]; rfl, by rw [cell_of_row _ _ _ _ _ _ h.b2]; rfl⟩
theorem sameC_self (q : CallM) (s : ByteArray) : sameC q q s s = true := by
  unfold sameC
  rw [beq_self_eq_true, beq_self_eq_true]
  rfl
section
variable {P : World → Prop} (ok : CsOk P)
include ok
set_option maxRecDepth 100000 in
set_option maxHeartbeats 16000000 in
theorem lforms_any {q r : CallM} {a b : Option Addr} {n c m d : Nat} {x y : Nat → UInt8} {w : World} (hP : P w) (hq : CallIn q) (hr : CallIn r) (S : Src w a n x) (R : Src w b m y) :
    Calls Tryd.prog 3 #[.agg (q.cells a n c), .agg (r.cells b m d)] w fun e w' => e = .returned (.bool true) ∧ Below w.heap.size w w' := by
  have HP := Lib.hid hP
  clear hP
  have HT0 := Lib.hid (twb_new w q a n c r b m d)
  have HQ := Lib.hid hq
  have HR := Lib.hid hr
  have HX := Lib.hid S
  have HY := Lib.hid R
  obtain ⟨k1, k2⟩ := HT0.out.bytes
  clear hq hr S R
  by_cases hn : n ≤ 1000
  · by_cases hm : m ≤ 1000
    · have hnI : ¬ (1000 : Int) < (n : Int) := by omega
      have hmI : ¬ (1000 : Int) < (m : Int) := by omega
      have HIn := Lib.hid (HQ.out.of (show n ≤ 2000 by omega))
      have HRn := Lib.hid (HR.out.of (show m ≤ 2000 by omega))
      have B1 := HT0.out.b1
      go_enter Tryd.func3, Tryd.ntmps3
      go_wp2_with (refine wpList_load_call rfl _ rfl _ rfl B1 ?_)
      generalize (w.alloc (.cells (q.cells a n c) 29)).alloc (.cells (r.cells b m d) 29) = wb at *
      refine (copied_any q a n c x HIn.out.n wb (HX.out.later HT0.out.bel)).mono ?_
      rintro e w1 ⟨a1, c1, rfl, hs1, hb1⟩
      have hba : Below w1.heap.size w1 (w1.alloc (.cells (q.cells a1 n c1) 29)) := (Below.refl _ _).alloc (Nat.le_refl _) _
      have HT1 := Lib.hid ((HT0.out.later hb1).later hba)
      have HS1 := Lib.hid (hs1.later hba)
      have K2 : (w1.alloc (.cells (q.cells a1 n c1) 29)).heap[w1.heap.size]? = some (.cells (q.cells a1 n c1) 29 (0, 0)) := heap_alloc_new w1 _
      clear hba hb1 hs1 k1 k2 B1 hn hm
      go_upto_region 4 with (fail)
      generalize w1.alloc (.cells (q.cells a1 n c1) 29) = w2 at *
      go_wp2_with (refine wpList_load_call rfl _ rfl _ rfl K2 ?_)
      refine (ok.bytes (ok.later HP.out HT1.out.bel) HIn.out HS1.out).mono ?_
      rintro e w3 (⟨hmc, v, rfl, hby, hb3⟩ | ⟨hmc, av, cv, rfl, hb3⟩)
      · have HMC := Lib.hid hmc
        have HT3 := Lib.hid (HT1.out.later hb3)
        have HS3 := Lib.hid (HS1.out.later hb3)
        have HK3 := Lib.hid (show w3.heap[w1.heap.size]? = some (.cells (q.cells a1 n c1) 29 (0, 0)) from by rw [hb3.block _ (Array.getElem?_eq_some_iff.1 K2).1]; exact K2)
        have hn8 := (mayC_parts hmc).2.1
        obtain ⟨gb, cap, rfl, hcl, hcm, hbg, hsb⟩ := byt_slice hby (by have := callL_pos q x n; omega)
        have hcl64 := callL_le (q := q) (x := x) hn8
        have HBY := Lib.hid hby
        have HSB := Lib.hid hsb
        have HCL := Lib.hid hcl
        have HC64 := Lib.hid hcl64
        clear hmc hby hb3 hsb hcl hcl64 hbg K2 HT1 HS1
        have L0 := Lib.hid (fun U (hU : Kept w3.heap.size w3 U) => load_callB (q := q) (a := a1) (n := n) (c := c1) (by rw [hU.below.block _ (Array.getElem?_eq_some_iff.1 HK3.out).1]; exact HK3.out))
        have L1 := Lib.hid (fun U (hU : Kept w3.heap.size w3 U) => load_callB (HT3.out.later hU.below).b1)
        have L2 := Lib.hid (fun U (hU : Kept w3.heap.size w3 U) => load_callB (HT3.out.later hU.below).b2)
        have HI3 := Lib.hid (fun U (hU : Kept w3.heap.size w3 U) => HS3.out.later hU.below)
        have HX3 := Lib.hid (fun U (hU : Kept w3.heap.size w3 U) => (HX.out.later HT3.out.bel).later hU.below)
        have HY3 := Lib.hid (fun U (hU : Kept w3.heap.size w3 U) => (HY.out.later HT3.out.bel).later hU.below)
        obtain ⟨sm, hsm⟩ : ∃ s, sameC q r (strB n x) (strB m y) = s := ⟨_, rfl⟩
        have HSM := Lib.hid hsm
        clear hsm
        go_wp2_with (fail)
        generalize hpb : w.heap.size + 1 = pb at *
        generalize hib : w1.heap.size = ib at *
        refine wp_region_lex (Kept w3.heap.size w3) [(0, false), (2, false), (1, true), (3, true), (4, false), (5, false), (6, false), (7, false), (8, true), (9, false), (10, false), (11, false), (12, false), (13, false), (15, false), (16, false), (14, true), (17, true), (18, false), (19, false), (20, false), (21, false), (22, false), (23, true), (24, false), (25, false)] (by kernel_rfl) (by kernel_rfl) rfl (by kernel_rfl) (Below.refl _ w3).drew ?_
        intro W0 hK0
        have HK0 := Lib.hid hK0
        clear hK0
        refine lexH_load rfl rfl _ _ rfl rfl L0.out ?_
        simp only [List.getElem_toArray, List.getElem_cons_zero, Act.put, List.setIfInBounds_toArray, List.set_cons_zero, List.set_cons_succ]
        refine lexH_load rfl rfl _ _ rfl rfl L1.out ?_
        simp only [List.getElem_toArray, List.getElem_cons_succ, List.getElem_cons_zero, Act.put, List.setIfInBounds_toArray, List.set_cons_zero, List.set_cons_succ]
        refine lexH_call 13 #[.agg (q.cells a1 n c1)] rfl rfl ?_ ?_
        focus (go_simp; done)
        refine (ok.may (ok.later HP.out (HT3.out.bel.trans (HK0.out.below.mono HT3.out.bel.size))) HIn.out (HI3.out _ HK0.out)).mono ?_
        rintro e W1 ⟨rfl, hb1⟩
        have HK1 := Lib.hid (HK0.out.call (Nat.le_refl _) hb1)
        rw [HMC.out]
        refine ⟨_, rfl, HK1.out, ?_⟩
        clear hb1 HK0
        simp only [List.getElem_toArray, List.getElem_cons_succ, List.getElem_cons_zero, Act.put, List.setIfInBounds_toArray, List.set_cons_zero, List.set_cons_succ]
        refine lexH_call 14 #[.agg (q.cells a n c)] rfl rfl ?_ ?_
        focus (go_simp; done)
        refine (cmay_any q HIn.out.ok a n c x HIn.out.n W1 (HX3.out _ HK1.out)).mono ?_
        rintro e W2 ⟨rfl, hb1⟩
        have HK2 := Lib.hid (HK1.out.call (Nat.le_refl _) hb1)
        rw [HMC.out]
        refine ⟨_, rfl, HK2.out, ?_⟩
        clear hb1 HK1
        simp only [List.getElem_toArray, List.getElem_cons_succ, List.getElem_cons_zero, Act.put, List.setIfInBounds_toArray, List.set_cons_zero, List.set_cons_succ]
        refine lexH_yieldE rfl rfl ?_
        apply Exists.intro
        refine ⟨fun W hW => ?_, ?_⟩
        focus (go_simp; exact rfl)
        simp only [List.getElem_toArray, List.getElem_cons_succ, List.getElem_cons_zero, Act.put, List.setIfInBounds_toArray, List.set_cons_zero, List.set_cons_succ]
        refine lexH_yieldE rfl rfl ?_
        apply Exists.intro
        refine ⟨fun W hW => ?_, ?_⟩
        focus (go_simp; exact rfl)
        simp only [List.getElem_toArray, List.getElem_cons_succ, List.getElem_cons_zero, Act.put, List.setIfInBounds_toArray, List.set_cons_zero, List.set_cons_succ]
        refine lexH_load rfl rfl _ _ rfl rfl L0.out ?_
        simp only [List.getElem_toArray, List.getElem_cons_succ, List.getElem_cons_zero, Act.put, List.setIfInBounds_toArray, List.set_cons_zero, List.set_cons_succ]
        refine lexH_load rfl rfl _ _ rfl rfl L1.out ?_
        simp only [List.getElem_toArray, List.getElem_cons_succ, List.getElem_cons_zero, Act.put, List.setIfInBounds_toArray, List.set_cons_zero, List.set_cons_succ]
        refine lexH_call 15 #[.agg (q.cells a1 n c1), .agg (q.cells a n c)] rfl rfl ?_ ?_
        focus (go_simp; done)
        refine (csame_any q q a1 a n c1 n c x x W2 (HI3.out _ HK2.out) (HX3.out _ HK2.out)).mono ?_
        rintro e W3 ⟨rfl, hb1⟩
        have HK3b := Lib.hid (HK2.out.call (Nat.le_refl _) hb1)
        rw [sameC_self]
        refine ⟨_, rfl, HK3b.out, ?_⟩
        clear hb1 HK2
        simp only [List.getElem_toArray, List.getElem_cons_succ, List.getElem_cons_zero, Act.put, List.setIfInBounds_toArray, List.set_cons_zero, List.set_cons_succ]
        refine lexH_yieldE rfl rfl ?_
        apply Exists.intro
        refine ⟨fun W hW => ?_, ?_⟩
        focus (go_simp; exact rfl)
        simp only [List.getElem_toArray, List.getElem_cons_succ, List.getElem_cons_zero, Act.put, List.setIfInBounds_toArray, List.set_cons_zero, List.set_cons_succ]
        refine lexH_yieldE rfl rfl ?_
        apply Exists.intro
        refine ⟨fun W hW => ?_, ?_⟩
        focus (go_simp; exact rfl)
        simp only [List.getElem_toArray, List.getElem_cons_succ, List.getElem_cons_zero, Act.put, List.setIfInBounds_toArray, List.set_cons_zero, List.set_cons_succ]
        refine lexH_yieldE rfl rfl ?_
        apply Exists.intro
        refine ⟨fun W hW => ?_, ?_⟩
        focus (go_simp; exact rfl)
        simp only [List.getElem_toArray, List.getElem_cons_succ, List.getElem_cons_zero, Act.put, List.setIfInBounds_toArray, List.set_cons_zero, List.set_cons_succ]
        refine lexH_load rfl rfl _ _ rfl rfl L0.out ?_
        simp only [List.getElem_toArray, List.getElem_cons_succ, List.getElem_cons_zero, Act.put, List.setIfInBounds_toArray, List.set_cons_zero, List.set_cons_succ]
        refine lexH_load rfl rfl _ _ rfl rfl L2.out ?_
        simp only [List.getElem_toArray, List.getElem_cons_succ, List.getElem_cons_zero, Act.put, List.setIfInBounds_toArray, List.set_cons_zero, List.set_cons_succ]
        refine lexH_load rfl rfl _ _ rfl rfl L1.out ?_
        simp only [List.getElem_toArray, List.getElem_cons_succ, List.getElem_cons_zero, Act.put, List.setIfInBounds_toArray, List.set_cons_zero, List.set_cons_succ]
        refine lexH_load rfl rfl _ _ rfl rfl L2.out ?_
        simp only [List.getElem_toArray, List.getElem_cons_succ, List.getElem_cons_zero, Act.put, List.setIfInBounds_toArray, List.set_cons_zero, List.set_cons_succ]
        refine lexH_call 16 #[.agg (q.cells a1 n c1), .agg (r.cells b m d)] rfl rfl ?_ ?_
        focus (go_simp; done)
        refine (ok.same HIn.out HRn.out (HI3.out _ HK3b.out) (HY3.out _ HK3b.out)).mono ?_
        rintro e W4 ⟨rfl, hb1⟩
        have HK4 := Lib.hid (HK3b.out.call (Nat.le_refl _) hb1)
        rw [HSM.out]
        refine ⟨_, rfl, HK4.out, ?_⟩
        clear hb1 HK3b
        simp only [List.getElem_toArray, List.getElem_cons_succ, List.getElem_cons_zero, Act.put, List.setIfInBounds_toArray, List.set_cons_zero, List.set_cons_succ]
        refine lexH_call 15 #[.agg (q.cells a n c), .agg (r.cells b m d)] rfl rfl ?_ ?_
        focus (go_simp; done)
        refine (csame_any q r a b n c m d x y W4 (HX3.out _ HK4.out) (HY3.out _ HK4.out)).mono ?_
        rintro e W5 ⟨rfl, hb1⟩
        have HK5 := Lib.hid (HK4.out.call (Nat.le_refl _) hb1)
        rw [HSM.out]
        refine ⟨_, rfl, HK5.out, ?_⟩
        clear hb1 HK4
        simp only [List.getElem_toArray, List.getElem_cons_succ, List.getElem_cons_zero, Act.put, List.setIfInBounds_toArray, List.set_cons_zero, List.set_cons_succ]
        refine lexH_yield rfl rfl (v := .bool false) (fun W _ => by go_simp; done) ?_
        simp only [List.getElem_toArray, List.getElem_cons_succ, List.getElem_cons_zero, Act.put, List.setIfInBounds_toArray, List.set_cons_zero, List.set_cons_succ]
        refine lexH_yieldE rfl rfl ?_
        apply Exists.intro
        refine ⟨fun W hW => ?_, ?_⟩
        focus (go_simp; exact rfl)
        simp only [List.getElem_toArray, List.getElem_cons_succ, List.getElem_cons_zero, Act.put, List.setIfInBounds_toArray, List.set_cons_zero, List.set_cons_succ]
        refine lexH_yieldE rfl rfl ?_
        apply Exists.intro
        refine ⟨fun W hW => ?_, ?_⟩
        focus (go_simp; exact rfl)
        simp only [List.getElem_toArray, List.getElem_cons_succ, List.getElem_cons_zero, Act.put, List.setIfInBounds_toArray, List.set_cons_zero, List.set_cons_succ]
        refine lexH_load rfl rfl _ _ rfl rfl L0.out ?_
        simp only [List.getElem_toArray, List.getElem_cons_succ, List.getElem_cons_zero, Act.put, List.setIfInBounds_toArray, List.set_cons_zero, List.set_cons_succ]
        refine lexH_load rfl rfl _ _ rfl rfl L1.out ?_
        simp only [List.getElem_toArray, List.getElem_cons_succ, List.getElem_cons_zero, Act.put, List.setIfInBounds_toArray, List.set_cons_zero, List.set_cons_succ]
        refine lexH_call 16 #[.agg (q.cells a1 n c1), .agg (q.cells a n c)] rfl rfl ?_ ?_
        focus (go_simp; done)
        refine (ok.same HIn.out HIn.out (HI3.out _ HK5.out) (HX3.out _ HK5.out)).mono ?_
        rintro e W6 ⟨rfl, hb1⟩
        have HK6 := Lib.hid (HK5.out.call (Nat.le_refl _) hb1)
        rw [sameC_self]
        refine ⟨_, rfl, HK6.out, ?_⟩
        clear hb1 HK5
        simp only [List.getElem_toArray, List.getElem_cons_succ, List.getElem_cons_zero, Act.put, List.setIfInBounds_toArray, List.set_cons_zero, List.set_cons_succ]
        refine lexH_yieldE rfl rfl ?_
        apply Exists.intro
        refine ⟨fun W hW => ?_, ?_⟩
        focus (go_simp; exact rfl)
        simp only [List.getElem_toArray, List.getElem_cons_succ, List.getElem_cons_zero, Act.put, List.setIfInBounds_toArray, List.set_cons_zero, List.set_cons_succ]
        refine lexH_yieldE rfl rfl ?_
        apply Exists.intro
        refine ⟨fun W hW => ?_, ?_⟩
        focus (go_simp; exact rfl)
        simp only [List.getElem_toArray, List.getElem_cons_succ, List.getElem_cons_zero, Act.put, List.setIfInBounds_toArray, List.set_cons_zero, List.set_cons_succ]
        refine lexH_nil ?_
        have HT6 := Lib.hid (HT3.out.later HK6.out.below)
        have hz6 : w3.heap.size ≤ W6.heap.size := HK6.out.below.size
        have B1 := HT6.out.b1
        go_wp2_with (refine wpList_load_call rfl _ rfl _ rfl B1 ?_)
        refine (cmay_any q HIn.out.ok a n c x HIn.out.n W6 (HX3.out _ HK6.out)).mono ?_
        rw [HMC.out]
        rintro e w7 ⟨rfl, hb7⟩
        have HT7 := Lib.hid (HT6.out.later hb7)
        have HB37 := Lib.hid (show Below w3.heap.size w3 w7 from HK6.out.below.trans (hb7.mono hz6))
        clear hb7 B1 L0 L1 L2
        go_wp2_with (fail)
        refine (ok.read (ok.later HP.out HT7.out.bel) (by have := HC64.out; omega) HCL.out hcm (HSB.out.later HB37.out)).mono ?_
        intro e w8 hrd
        obtain ⟨a2, c2, rfl, hs8, hb8⟩ := rdP_back HIn.out.ok HMC.out hrd
        have hba : Below w8.heap.size w8 (w8.alloc (.cells (q.cells a2 n c2) 29)) := (Below.refl _ _).alloc (Nat.le_refl _) _
        have hb9 := hb8.trans (hba.mono hb8.size)
        have HT9 := Lib.hid (HT7.out.later hb9)
        have HS9 := Lib.hid (hs8.later hba)
        have HBY9 := Lib.hid (HBY.out.later (HB37.out.trans (hb9.mono HB37.out.size)))
        have HK9 := Lib.hid (show (w8.alloc (.cells (q.cells a2 n c2) 29)).heap[w8.heap.size]? = some (.cells (q.cells a2 n c2) 29 (0, 0)) from heap_alloc_new w8 _)
        have HX9 := Lib.hid (HX.out.later HT9.out.bel)
        clear hrd hs8 hb8 hba hb9 HT7 HB37 HT6 HK6 HBY HX3 HY3 HI3
        go_upto_region 10 with (fail)
        generalize w8.alloc (.cells (q.cells a2 n c2) 29) = w9 at *
        generalize hzb : w8.heap.size = zb at *
        have CV := Lib.hid (fun U (hU : Kept w9.heap.size w9 U) => str_byt (HBY9.out.later hU.below))
        have L1 := Lib.hid (fun U (hU : Kept w9.heap.size w9 U) => load_callB (HT9.out.later hU.below).b1)
        have L3 := Lib.hid (fun U (hU : Kept w9.heap.size w9 U) => load_callB (q := q) (a := a2) (n := n) (c := c2) (by rw [hU.below.block _ (Array.getElem?_eq_some_iff.1 HK9.out).1]; exact HK9.out))
        generalize hLL : callL q x n = LL at *
        refine wp_region_lex (Kept w9.heap.size w9) [(0, false), (1, false), (2, false), (3, false), (4, false), (5, false), (6, false), (7, false), (8, false), (9, false), (10, true), (11, true), (12, false), (13, false), (14, false), (15, false), (16, false), (17, true), (18, false), (19, false), (20, true), (21, false), (22, false)] (by kernel_rfl) (by kernel_rfl) rfl (by kernel_rfl) (Below.refl _ w9).drew ?_
        intro V0 hV0
        have HV0 := Lib.hid hV0
        clear hV0
        refine lexH_yieldE rfl rfl ?_
        apply Exists.intro
        refine ⟨fun W hW => ?_, ?_⟩
        focus (go_simp; exact rfl)
        simp only [List.getElem_toArray, List.getElem_cons_zero, Act.put, List.setIfInBounds_toArray, List.set_cons_zero, List.set_cons_succ]
        refine lexH_yieldE rfl rfl ?_
        apply Exists.intro
        refine ⟨fun W hW => ?_, ?_⟩
        focus (go_simp; exact rfl)
        simp only [List.getElem_toArray, List.getElem_cons_succ, List.getElem_cons_zero, Act.put, List.setIfInBounds_toArray, List.set_cons_zero, List.set_cons_succ]
        refine lexH_yieldE rfl rfl ?_
        apply Exists.intro
        refine ⟨fun W hW => ?_, ?_⟩
        focus (go_simp; exact rfl)
        simp only [List.getElem_toArray, List.getElem_cons_succ, List.getElem_cons_zero, Act.put, List.setIfInBounds_toArray, List.set_cons_zero, List.set_cons_succ]
        refine lexH_yieldE rfl rfl ?_
        apply Exists.intro
        refine ⟨fun W hW => ?_, ?_⟩
        focus (go_simp; exact rfl)
        simp only [List.getElem_toArray, List.getElem_cons_succ, List.getElem_cons_zero, Act.put, List.setIfInBounds_toArray, List.set_cons_zero, List.set_cons_succ]
        refine lexH_yieldE rfl rfl ?_
        apply Exists.intro
        refine ⟨fun W hW => ?_, ?_⟩
        focus (go_simp; exact rfl)
        simp only [List.getElem_toArray, List.getElem_cons_succ, List.getElem_cons_zero, Act.put, List.setIfInBounds_toArray, List.set_cons_zero, List.set_cons_succ]
        refine lexH_yieldE rfl rfl ?_
        apply Exists.intro
        refine ⟨fun W hW => ?_, ?_⟩
        focus (go_simp; exact rfl)
        simp only [List.getElem_toArray, List.getElem_cons_succ, List.getElem_cons_zero, Act.put, List.setIfInBounds_toArray, List.set_cons_zero, List.set_cons_succ]
        refine lexH_yieldE rfl rfl ?_
        apply Exists.intro
        refine ⟨fun W hW => ?_, ?_⟩
        focus (go_simp; exact rfl)
        simp only [List.getElem_toArray, List.getElem_cons_succ, List.getElem_cons_zero, Act.put, List.setIfInBounds_toArray, List.set_cons_zero, List.set_cons_succ]
        refine lexH_yieldE rfl rfl ?_
        apply Exists.intro
        refine ⟨fun W hW => ?_, ?_⟩
        focus (go_simp; exact rfl)
        simp only [List.getElem_toArray, List.getElem_cons_succ, List.getElem_cons_zero, Act.put, List.setIfInBounds_toArray, List.set_cons_zero, List.set_cons_succ]
        refine lexH_conv rfl rfl _ _ _ rfl rfl CV.out ?_
        simp only [List.getElem_toArray, List.getElem_cons_succ, List.getElem_cons_zero, Act.put, List.setIfInBounds_toArray, List.set_cons_zero, List.set_cons_succ]
        refine lexH_load rfl rfl _ _ rfl rfl L1.out ?_
        simp only [List.getElem_toArray, List.getElem_cons_succ, List.getElem_cons_zero, Act.put, List.setIfInBounds_toArray, List.set_cons_zero, List.set_cons_succ]
        refine lexH_call 18 #[.agg (q.cells a n c)] rfl rfl ?_ ?_
        focus (go_simp; done)
        refine (rbytes_any q HIn.out.ok a n c x HIn.out.n V0 (HX9.out.later HV0.out.below)).mono ?_
        rintro e V1 ⟨v9, rfl, h9v, hb1⟩
        rw [hLL] at h9v
        have HTV := Lib.hid (str_byt h9v)
        have HV1 := Lib.hid (HV0.out.call (Nat.le_refl _) hb1)
        refine ⟨_, rfl, HV1.out, ?_⟩
        clear hb1 h9v HV0
        simp only [List.getElem_toArray, List.getElem_cons_succ, List.getElem_cons_zero, Act.put, List.setIfInBounds_toArray, List.set_cons_zero, List.set_cons_succ]
        refine lexH_convT rfl rfl _ _ _ rfl rfl HTV.out HV1.out ?_
        simp only [List.getElem_toArray, List.getElem_cons_succ, List.getElem_cons_zero, Act.put, List.setIfInBounds_toArray, List.set_cons_zero, List.set_cons_succ]
        generalize strL LL = SL at *
        refine lexH_yield rfl rfl (v := .bool true) (fun W _ => by go_simp; done) ?_
        simp only [List.getElem_toArray, List.getElem_cons_succ, List.getElem_cons_zero, Act.put, List.setIfInBounds_toArray, List.set_cons_zero, List.set_cons_succ]
        refine lexH_yieldE rfl rfl ?_
        apply Exists.intro
        refine ⟨fun W hW => ?_, ?_⟩
        focus (go_simp; exact rfl)
        simp only [List.getElem_toArray, List.getElem_cons_succ, List.getElem_cons_zero, Act.put, List.setIfInBounds_toArray, List.set_cons_zero, List.set_cons_succ]
        refine lexH_yieldE rfl rfl ?_
        apply Exists.intro
        refine ⟨fun W hW => ?_, ?_⟩
        focus (go_simp; exact rfl)
        simp only [List.getElem_toArray, List.getElem_cons_succ, List.getElem_cons_zero, Act.put, List.setIfInBounds_toArray, List.set_cons_zero, List.set_cons_succ]
        refine lexH_load rfl rfl _ _ rfl rfl L3.out ?_
        simp only [List.getElem_toArray, List.getElem_cons_succ, List.getElem_cons_zero, Act.put, List.setIfInBounds_toArray, List.set_cons_zero, List.set_cons_succ]
        refine lexH_load rfl rfl _ _ rfl rfl L1.out ?_
        simp only [List.getElem_toArray, List.getElem_cons_succ, List.getElem_cons_zero, Act.put, List.setIfInBounds_toArray, List.set_cons_zero, List.set_cons_succ]
        refine lexH_call 15 #[.agg (q.cells a2 n c2), .agg (q.cells a n c)] rfl rfl ?_ ?_
        focus (go_simp; done)
        refine (csame_any q q a2 a n c2 n c x x V1 (HS9.out.later HV1.out.below) (HX9.out.later HV1.out.below)).mono ?_
        rintro e V2 ⟨rfl, hb1⟩
        have HV2 := Lib.hid (HV1.out.call (Nat.le_refl _) hb1)
        rw [sameC_self]
        refine ⟨_, rfl, HV2.out, ?_⟩
        clear hb1 HV1
        simp only [List.getElem_toArray, List.getElem_cons_succ, List.getElem_cons_zero, Act.put, List.setIfInBounds_toArray, List.set_cons_zero, List.set_cons_succ]
        refine lexH_yieldE rfl rfl ?_
        apply Exists.intro
        refine ⟨fun W hW => ?_, ?_⟩
        focus (go_simp; exact rfl)
        simp only [List.getElem_toArray, List.getElem_cons_succ, List.getElem_cons_zero, Act.put, List.setIfInBounds_toArray, List.set_cons_zero, List.set_cons_succ]
        refine lexH_yieldE rfl rfl ?_
        apply Exists.intro
        refine ⟨fun W hW => ?_, ?_⟩
        focus (go_simp; exact rfl)
        simp only [List.getElem_toArray, List.getElem_cons_succ, List.getElem_cons_zero, Act.put, List.setIfInBounds_toArray, List.set_cons_zero, List.set_cons_succ]
        refine lexH_call 10 #[] rfl rfl ?_ ?_
        focus (go_simp; done)
        refine (cknown_any ok _ (ok.later HP.out (HT9.out.bel.trans (HV2.out.below.mono HT9.out.bel.size)))).mono ?_
        rintro e V3 ⟨rfl, hb1⟩
        have HV3 := Lib.hid (HV2.out.call (Nat.le_refl _) hb1)
        refine ⟨_, rfl, HV3.out, ?_⟩
        clear hb1 HV2
        simp only [List.getElem_toArray, List.getElem_cons_succ, List.getElem_cons_zero, Act.put, List.setIfInBounds_toArray, List.set_cons_zero, List.set_cons_succ]
        refine lexH_yieldE rfl rfl ?_
        apply Exists.intro
        refine ⟨fun W hW => ?_, ?_⟩
        focus (go_simp; exact rfl)
        simp only [List.getElem_toArray, List.getElem_cons_succ, List.getElem_cons_zero, Act.put, List.setIfInBounds_toArray, List.set_cons_zero, List.set_cons_succ]
        refine lexH_yieldE rfl rfl ?_
        apply Exists.intro
        refine ⟨fun W hW => ?_, ?_⟩
        focus (go_simp; exact rfl)
        simp only [List.getElem_toArray, List.getElem_cons_succ, List.getElem_cons_zero, Act.put, List.setIfInBounds_toArray, List.set_cons_zero, List.set_cons_succ]
        refine lexH_nil ?_
        go_wp2_with (fail)
        go_ret
        exact ⟨rfl, HT9.out.bel.trans (HV3.out.below.mono HT9.out.bel.size)⟩
      · have HMC := Lib.hid hmc
        have HT3 := Lib.hid (HT1.out.later hb3)
        have HS3 := Lib.hid (HS1.out.later hb3)
        have HK3 := Lib.hid (show w3.heap[w1.heap.size]? = some (.cells (q.cells a1 n c1) 29 (0, 0)) from by rw [hb3.block _ (Array.getElem?_eq_some_iff.1 K2).1]; exact K2)
        clear hmc hb3 K2 HT1 HS1
        have L0 := Lib.hid (fun U (hU : Kept w3.heap.size w3 U) => load_callB (q := q) (a := a1) (n := n) (c := c1) (by rw [hU.below.block _ (Array.getElem?_eq_some_iff.1 HK3.out).1]; exact HK3.out))
        have L1 := Lib.hid (fun U (hU : Kept w3.heap.size w3 U) => load_callB (HT3.out.later hU.below).b1)
        have L2 := Lib.hid (fun U (hU : Kept w3.heap.size w3 U) => load_callB (HT3.out.later hU.below).b2)
        have HI3 := Lib.hid (fun U (hU : Kept w3.heap.size w3 U) => HS3.out.later hU.below)
        have HX3 := Lib.hid (fun U (hU : Kept w3.heap.size w3 U) => (HX.out.later HT3.out.bel).later hU.below)
        have HY3 := Lib.hid (fun U (hU : Kept w3.heap.size w3 U) => (HY.out.later HT3.out.bel).later hU.below)
        obtain ⟨sm, hsm⟩ : ∃ s, sameC q r (strB n x) (strB m y) = s := ⟨_, rfl⟩
        have HSM := Lib.hid hsm
        clear hsm
        go_wp2_with (fail)
        generalize hpb : w.heap.size + 1 = pb at *
        generalize hib : w1.heap.size = ib at *
        refine wp_region_lex (Kept w3.heap.size w3) [(0, false), (2, false), (1, true), (3, true), (4, false), (5, false), (6, false), (7, false), (8, true), (9, false), (10, false), (11, false), (12, false), (13, false), (15, false), (16, false), (14, true), (17, true), (18, false), (19, false), (20, false), (21, false), (22, false), (23, true), (24, false), (25, false)] (by kernel_rfl) (by kernel_rfl) rfl (by kernel_rfl) (Below.refl _ w3).drew ?_
        intro W0 hK0
        have HK0 := Lib.hid hK0
        clear hK0
        refine lexH_load rfl rfl _ _ rfl rfl L0.out ?_
        simp only [List.getElem_toArray, List.getElem_cons_zero, Act.put, List.setIfInBounds_toArray, List.set_cons_zero, List.set_cons_succ]
        refine lexH_load rfl rfl _ _ rfl rfl L1.out ?_
        simp only [List.getElem_toArray, List.getElem_cons_succ, List.getElem_cons_zero, Act.put, List.setIfInBounds_toArray, List.set_cons_zero, List.set_cons_succ]
        refine lexH_call 13 #[.agg (q.cells a1 n c1)] rfl rfl ?_ ?_
        focus (go_simp; done)
        refine (ok.may (ok.later HP.out (HT3.out.bel.trans (HK0.out.below.mono HT3.out.bel.size))) HIn.out (HI3.out _ HK0.out)).mono ?_
        rintro e W1 ⟨rfl, hb1⟩
        have HK1 := Lib.hid (HK0.out.call (Nat.le_refl _) hb1)
        rw [HMC.out]
        refine ⟨_, rfl, HK1.out, ?_⟩
        clear hb1 HK0
        simp only [List.getElem_toArray, List.getElem_cons_succ, List.getElem_cons_zero, Act.put, List.setIfInBounds_toArray, List.set_cons_zero, List.set_cons_succ]
        refine lexH_call 14 #[.agg (q.cells a n c)] rfl rfl ?_ ?_
        focus (go_simp; done)
        refine (cmay_any q HIn.out.ok a n c x HIn.out.n W1 (HX3.out _ HK1.out)).mono ?_
        rintro e W2 ⟨rfl, hb1⟩
        have HK2 := Lib.hid (HK1.out.call (Nat.le_refl _) hb1)
        rw [HMC.out]
        refine ⟨_, rfl, HK2.out, ?_⟩
        clear hb1 HK1
        simp only [List.getElem_toArray, List.getElem_cons_succ, List.getElem_cons_zero, Act.put, List.setIfInBounds_toArray, List.set_cons_zero, List.set_cons_succ]
        refine lexH_yieldE rfl rfl ?_
        apply Exists.intro
        refine ⟨fun W hW => ?_, ?_⟩
        focus (go_simp; exact rfl)
        simp only [List.getElem_toArray, List.getElem_cons_succ, List.getElem_cons_zero, Act.put, List.setIfInBounds_toArray, List.set_cons_zero, List.set_cons_succ]
        refine lexH_yieldE rfl rfl ?_
        apply Exists.intro
        refine ⟨fun W hW => ?_, ?_⟩
        focus (go_simp; exact rfl)
        simp only [List.getElem_toArray, List.getElem_cons_succ, List.getElem_cons_zero, Act.put, List.setIfInBounds_toArray, List.set_cons_zero, List.set_cons_succ]
        refine lexH_load rfl rfl _ _ rfl rfl L0.out ?_
        simp only [List.getElem_toArray, List.getElem_cons_succ, List.getElem_cons_zero, Act.put, List.setIfInBounds_toArray, List.set_cons_zero, List.set_cons_succ]
        refine lexH_load rfl rfl _ _ rfl rfl L1.out ?_
        simp only [List.getElem_toArray, List.getElem_cons_succ, List.getElem_cons_zero, Act.put, List.setIfInBounds_toArray, List.set_cons_zero, List.set_cons_succ]
        refine lexH_call 15 #[.agg (q.cells a1 n c1), .agg (q.cells a n c)] rfl rfl ?_ ?_
        focus (go_simp; done)
        refine (csame_any q q a1 a n c1 n c x x W2 (HI3.out _ HK2.out) (HX3.out _ HK2.out)).mono ?_
        rintro e W3 ⟨rfl, hb1⟩
        have HK3b := Lib.hid (HK2.out.call (Nat.le_refl _) hb1)
        rw [sameC_self]
        refine ⟨_, rfl, HK3b.out, ?_⟩
        clear hb1 HK2
        simp only [List.getElem_toArray, List.getElem_cons_succ, List.getElem_cons_zero, Act.put, List.setIfInBounds_toArray, List.set_cons_zero, List.set_cons_succ]
        refine lexH_yieldE rfl rfl ?_
        apply Exists.intro
        refine ⟨fun W hW => ?_, ?_⟩
        focus (go_simp; exact rfl)
        simp only [List.getElem_toArray, List.getElem_cons_succ, List.getElem_cons_zero, Act.put, List.setIfInBounds_toArray, List.set_cons_zero, List.set_cons_succ]
        refine lexH_yieldE rfl rfl ?_
        apply Exists.intro
        refine ⟨fun W hW => ?_, ?_⟩
        focus (go_simp; exact rfl)
        simp only [List.getElem_toArray, List.getElem_cons_succ, List.getElem_cons_zero, Act.put, List.setIfInBounds_toArray, List.set_cons_zero, List.set_cons_succ]
        refine lexH_yieldE rfl rfl ?_
        apply Exists.intro
        refine ⟨fun W hW => ?_, ?_⟩
        focus (go_simp; exact rfl)
        simp only [List.getElem_toArray, List.getElem_cons_succ, List.getElem_cons_zero, Act.put, List.setIfInBounds_toArray, List.set_cons_zero, List.set_cons_succ]
        refine lexH_load rfl rfl _ _ rfl rfl L0.out ?_
        simp only [List.getElem_toArray, List.getElem_cons_succ, List.getElem_cons_zero, Act.put, List.setIfInBounds_toArray, List.set_cons_zero, List.set_cons_succ]
        refine lexH_load rfl rfl _ _ rfl rfl L2.out ?_
        simp only [List.getElem_toArray, List.getElem_cons_succ, List.getElem_cons_zero, Act.put, List.setIfInBounds_toArray, List.set_cons_zero, List.set_cons_succ]
        refine lexH_load rfl rfl _ _ rfl rfl L1.out ?_
        simp only [List.getElem_toArray, List.getElem_cons_succ, List.getElem_cons_zero, Act.put, List.setIfInBounds_toArray, List.set_cons_zero, List.set_cons_succ]
        refine lexH_load rfl rfl _ _ rfl rfl L2.out ?_
        simp only [List.getElem_toArray, List.getElem_cons_succ, List.getElem_cons_zero, Act.put, List.setIfInBounds_toArray, List.set_cons_zero, List.set_cons_succ]
        refine lexH_call 16 #[.agg (q.cells a1 n c1), .agg (r.cells b m d)] rfl rfl ?_ ?_
        focus (go_simp; done)
        refine (ok.same HIn.out HRn.out (HI3.out _ HK3b.out) (HY3.out _ HK3b.out)).mono ?_
        rintro e W4 ⟨rfl, hb1⟩
        have HK4 := Lib.hid (HK3b.out.call (Nat.le_refl _) hb1)
        rw [HSM.out]
        refine ⟨_, rfl, HK4.out, ?_⟩
        clear hb1 HK3b
        simp only [List.getElem_toArray, List.getElem_cons_succ, List.getElem_cons_zero, Act.put, List.setIfInBounds_toArray, List.set_cons_zero, List.set_cons_succ]
        refine lexH_call 15 #[.agg (q.cells a n c), .agg (r.cells b m d)] rfl rfl ?_ ?_
        focus (go_simp; done)
        refine (csame_any q r a b n c m d x y W4 (HX3.out _ HK4.out) (HY3.out _ HK4.out)).mono ?_
        rintro e W5 ⟨rfl, hb1⟩
        have HK5 := Lib.hid (HK4.out.call (Nat.le_refl _) hb1)
        rw [HSM.out]
        refine ⟨_, rfl, HK5.out, ?_⟩
        clear hb1 HK4
        simp only [List.getElem_toArray, List.getElem_cons_succ, List.getElem_cons_zero, Act.put, List.setIfInBounds_toArray, List.set_cons_zero, List.set_cons_succ]
        refine lexH_yield rfl rfl (v := .bool false) (fun W _ => by go_simp; done) ?_
        simp only [List.getElem_toArray, List.getElem_cons_succ, List.getElem_cons_zero, Act.put, List.setIfInBounds_toArray, List.set_cons_zero, List.set_cons_succ]
        refine lexH_yieldE rfl rfl ?_
        apply Exists.intro
        refine ⟨fun W hW => ?_, ?_⟩
        focus (go_simp; exact rfl)
        simp only [List.getElem_toArray, List.getElem_cons_succ, List.getElem_cons_zero, Act.put, List.setIfInBounds_toArray, List.set_cons_zero, List.set_cons_succ]
        refine lexH_yieldE rfl rfl ?_
        apply Exists.intro
        refine ⟨fun W hW => ?_, ?_⟩
        focus (go_simp; exact rfl)
        simp only [List.getElem_toArray, List.getElem_cons_succ, List.getElem_cons_zero, Act.put, List.setIfInBounds_toArray, List.set_cons_zero, List.set_cons_succ]
        refine lexH_load rfl rfl _ _ rfl rfl L0.out ?_
        simp only [List.getElem_toArray, List.getElem_cons_succ, List.getElem_cons_zero, Act.put, List.setIfInBounds_toArray, List.set_cons_zero, List.set_cons_succ]
        refine lexH_load rfl rfl _ _ rfl rfl L1.out ?_
        simp only [List.getElem_toArray, List.getElem_cons_succ, List.getElem_cons_zero, Act.put, List.setIfInBounds_toArray, List.set_cons_zero, List.set_cons_succ]
        refine lexH_call 16 #[.agg (q.cells a1 n c1), .agg (q.cells a n c)] rfl rfl ?_ ?_
        focus (go_simp; done)
        refine (ok.same HIn.out HIn.out (HI3.out _ HK5.out) (HX3.out _ HK5.out)).mono ?_
        rintro e W6 ⟨rfl, hb1⟩
        have HK6 := Lib.hid (HK5.out.call (Nat.le_refl _) hb1)
        rw [sameC_self]
        refine ⟨_, rfl, HK6.out, ?_⟩
        clear hb1 HK5
        simp only [List.getElem_toArray, List.getElem_cons_succ, List.getElem_cons_zero, Act.put, List.setIfInBounds_toArray, List.set_cons_zero, List.set_cons_succ]
        refine lexH_yieldE rfl rfl ?_
        apply Exists.intro
        refine ⟨fun W hW => ?_, ?_⟩
        focus (go_simp; exact rfl)
        simp only [List.getElem_toArray, List.getElem_cons_succ, List.getElem_cons_zero, Act.put, List.setIfInBounds_toArray, List.set_cons_zero, List.set_cons_succ]
        refine lexH_yieldE rfl rfl ?_
        apply Exists.intro
        refine ⟨fun W hW => ?_, ?_⟩
        focus (go_simp; exact rfl)
        simp only [List.getElem_toArray, List.getElem_cons_succ, List.getElem_cons_zero, Act.put, List.setIfInBounds_toArray, List.set_cons_zero, List.set_cons_succ]
        refine lexH_nil ?_
        have HT6 := Lib.hid (HT3.out.later HK6.out.below)
        have hz6 : w3.heap.size ≤ W6.heap.size := HK6.out.below.size
        have B1 := HT6.out.b1
        go_wp2_with (refine wpList_load_call rfl _ rfl _ rfl B1 ?_)
        refine (cmay_any q HIn.out.ok a n c x HIn.out.n W6 (HX3.out _ HK6.out)).mono ?_
        rw [HMC.out]
        rintro e w7 ⟨rfl, hb7⟩
        have HT7 := Lib.hid (HT6.out.later hb7)
        clear hb7 B1 L0 L1 L2
        go_wp2_with (fail)
        refine (cknown_any ok _ (ok.later HP.out HT7.out.bel)).mono ?_
        rintro e w8 ⟨rfl, hb8⟩
        have HT8 := Lib.hid (HT7.out.later hb8)
        clear hb8
        go_wp2_with (fail)
        go_ret
        exact ⟨rfl, HT8.out.bel⟩
    · have hnI : ¬ (1000 : Int) < (n : Int) := by omega
      have hmI : (1000 : Int) < (m : Int) := by omega
      go_enter Tryd.func3, Tryd.ntmps3
      go_wp2_with (fail)
      refine (cknown_any ok _ (ok.later HP.out HT0.out.bel)).mono ?_
      rintro e w1 ⟨rfl, hb⟩
      have HB1 := Lib.hid (HT0.out.bel.trans (hb.mono HT0.out.bel.size))
      clear hb k1 k2
      go_wp2_with (fail)
      go_ret
      exact ⟨rfl, HB1.out⟩
  · have hnI : (1000 : Int) < (n : Int) := by omega
    go_enter Tryd.func3, Tryd.ntmps3
    go_wp2_with (fail)
    refine (cknown_any ok _ (ok.later HP.out HT0.out.bel)).mono ?_
    rintro e w1 ⟨rfl, hb⟩
    have HB1 := Lib.hid (HT0.out.bel.trans (hb.mono HT0.out.bel.size))
    clear hb k1 k2
    go_wp2_with (fail)
    go_ret
    exact ⟨rfl, HB1.out⟩
end
end Go.Proofs.YtkmjkkeldbocdaaDoor
