/-
  The walk of CallsResults, for whatever calls.
-/
import Derived.Test.YtkmjkkeldbocdaaDoorCsLawForms
namespace Go.Proofs.YtkmjkkeldbocdaaDoor
open Go.RowKit Go
attribute [local go_sem] Oper.semAt_some

theorem load_resB {W : World} {p : Nat} {e : Int} {v : Nat} {a : Option Addr} {n c : Nat} (h : W.heap[p]? = some (.cells (rsA e v a n c) 41 (0, 0))) : (loadVar 41 ⟨p, 0, none⟩).run Tryd.prog W = .ok (rsV e v a n c) W :=
  run_loadVar_row (P := Tryd.prog) W p 41 41 _ (0, 0) _ h Tryd.underlying41 rfl sizeRes
theorem wpList_load_res {ops : Array Oper} {rest : List Oper} {o : Oper} {ac : Act} {w : World} {Q : Exit → Act → World → Prop} {e : Int} {v : Nat} {a : Option Addr} {n c : Nat} (hw : Region.wanted o (yielded ops ac.tmps) = true) (x : Operand) (ho : o.op = .load 41 x) (p : Nat) (hx : ac.eval x = .pointer (some ⟨p, 0, none⟩))
    (hB : w.heap[p]? = some (.cells (rsA e v a n c) 41 (0, 0))) (h : wpList Tryd.prog ops Q rest (ac.put o.dst (rsV e v a n c)) w) : wpList Tryd.prog ops Q (o :: rest) ac w :=
  BigFrame.wpList_want hw fun _ hK => wp_load_row 41 x ho p hx 41 _ (0, 0) _ hB Tryd.underlying41 rfl sizeRes (hK _ _ h)
/-- Two results' boxes. -/
structure TrB (w : World) (e1 : Int) (v1 : Nat) (a : Option Addr) (n c : Nat) (e2 : Int) (v2 : Nat) (b : Option Addr) (m d : Nat) (W : World) : Prop where
  b1 : W.heap[w.heap.size]? = some (.cells (rsA e1 v1 a n c) 41 (0, 0))
  b2 : W.heap[w.heap.size + 1]? = some (.cells (rsA e2 v2 b m d) 41 (0, 0))
  bel : Below w.heap.size w W
theorem TrB.later {w W W' : World} {e1 e2 : Int} {v1 v2 : Nat} {a : Option Addr} {n c : Nat} {b : Option Addr} {m d : Nat} (h : TrB w e1 v1 a n c e2 v2 b m d W) (hb : Below W.heap.size W W') : TrB w e1 v1 a n c e2 v2 b m d W' :=
  ⟨by rw [hb.block _ (Array.getElem?_eq_some_iff.1 h.b1).1]; exact h.b1, by rw [hb.block _ (Array.getElem?_eq_some_iff.1 h.b2).1]; exact h.b2, h.bel.trans (hb.mono h.bel.size)⟩
theorem trb_new (w : World) (e1 e2 : Int) (v1 v2 : Nat) (a : Option Addr) (n c : Nat) (b : Option Addr) (m d : Nat) : TrB w e1 v1 a n c e2 v2 b m d ((w.alloc (.cells (rsA e1 v1 a n c) 41)).alloc (.cells (rsA e2 v2 b m d) 41)) :=
  ⟨heap_alloc2_old w _ _, heap_alloc2_new w _ _, ((Below.refl _ _).alloc (Nat.le_refl _) _).alloc (by simp) _⟩
theorem TrB.bytes {w W : World} {e1 e2 : Int} {v1 v2 : Nat} {a : Option Addr} {n c : Nat} {b : Option Addr} {m d : Nat} (h : TrB w e1 v1 a n c e2 v2 b m d W) : W.cell? ⟨w.heap.size, 2, none⟩ = some (.slice a n c) ∧ W.cell? ⟨w.heap.size + 1, 2, none⟩ = some (.slice b m d) :=
  ⟨by rw [cell_of_row _ _ _ _ _ _ h.b1]; rfl, by rw [cell_of_row _ _ _ _ _ _ h.b2]; rfl⟩
theorem sameR_self (e : Int) (v : Nat) (s : ByteArray) : sameR e e v v s s = true := by
  unfold sameR
  rw [beq_self_eq_true, decide_eq_true rfl, decide_eq_true rfl]
  rfl
theorem mayRs_parts {e : Int} {v n : Nat} (h : mayRs e v n = true) : ∃ e0 : Nat, e = e0 ∧ e0 ≤ 999 ∧ n ≤ 8 := by
  unfold mayRs at h
  by_cases h1 : e < 0 ∨ 999 < e ∨ 8 < n
  · rw [if_pos h1] at h; cases h
  · exact ⟨e.toNat, by omega, by omega, by omega⟩
section
variable {P : World → Prop} (ok : CsOk P)
include ok
set_option maxRecDepth 100000 in
set_option maxHeartbeats 16000000 in
theorem lresults_any {e1 e2 : Int} {v1 v2 : Nat} {a b : Option Addr} {n c m d : Nat} {x y : Nat → UInt8} {w : World} (hP : P w) (he : -9223372036854775808 ≤ e1 ∧ e1 ≤ 9223372036854775807) (hv : v1 < 18446744073709551616) (S : Src w a n x) (R : Src w b m y) :
    Calls Tryd.prog 6 #[rsV e1 v1 a n c, rsV e2 v2 b m d] w fun e w' => e = .returned (.bool true) ∧ Below w.heap.size w w' := by
  have HP := Lib.hid hP
  clear hP
  have HT0 := Lib.hid (trb_new w e1 e2 v1 v2 a n c b m d)
  have HE := Lib.hid he
  have HVV := Lib.hid hv
  have HX := Lib.hid S
  have HY := Lib.hid R
  obtain ⟨k1, k2⟩ := HT0.out.bytes
  clear he hv S R
  by_cases hn : n ≤ 1000
  · by_cases hm : m ≤ 1000
    · have hnI : ¬ (1000 : Int) < (n : Int) := by omega
      have hmI : ¬ (1000 : Int) < (m : Int) := by omega
      have HN := Lib.hid (show n ≤ 2000 by omega)
      have HN30 := Lib.hid (show n ≤ 2030 by omega)
      have HM30 := Lib.hid (show m ≤ 2030 by omega)
      have B1 := HT0.out.b1
      go_enter Tryd.func6, Tryd.ntmps6
      go_wp2_with (refine wpList_load_res rfl _ rfl _ rfl B1 ?_)
      generalize (w.alloc (.cells (rsA e1 v1 a n c) 41)).alloc (.cells (rsA e2 v2 b m d) 41) = wb at *
      refine (ok.resb HN.out HE.out.1 HE.out.2 HVV.out (HX.out.later HT0.out.bel)).mono ?_
      clear k1 k2 B1 hn hm
      rintro ee w3 (⟨hmc, v, rfl, hby, hb3⟩ | ⟨hmc, av, cv, rfl, hb3⟩)
      · obtain ⟨e0, rfl, he0, hn8⟩ := mayRs_parts hmc
        rw [Int.toNat_natCast] at hby
        have HMC := Lib.hid hmc
        have HT3 := Lib.hid (HT0.out.later hb3)
        have hrl := resL_len e0 v1 x n
        obtain ⟨gb, cap, rfl, hcl, hcm, hbg, hsb⟩ := byt_slice hby (by omega)
        have HBY := Lib.hid hby
        have HSB := Lib.hid hsb
        have HCL := Lib.hid hcl
        have HC64 := Lib.hid (show (resL e0 v1 x n).length ≤ 2030 by omega)
        have HE0 := Lib.hid he0
        clear hmc hby hb3 hsb hcl hbg hrl he0 HT0
        have L1 := Lib.hid (fun U (hU : Kept w3.heap.size w3 U) => load_resB (HT3.out.later hU.below).b1)
        have L2 := Lib.hid (fun U (hU : Kept w3.heap.size w3 U) => load_resB (HT3.out.later hU.below).b2)
        have HX3 := Lib.hid (fun U (hU : Kept w3.heap.size w3 U) => (HX.out.later HT3.out.bel).later hU.below)
        have HY3 := Lib.hid (fun U (hU : Kept w3.heap.size w3 U) => (HY.out.later HT3.out.bel).later hU.below)
        obtain ⟨sm, hsm⟩ : ∃ s, sameR (e0 : Int) e2 v1 v2 (strB n x) (strB m y) = s := ⟨_, rfl⟩
        have HSM := Lib.hid hsm
        clear hsm
        go_wp2_with (fail)
        generalize hpb : w.heap.size + 1 = pb at *
        refine wp_region_lex (Kept w3.heap.size w3) [(0, false), (2, false), (1, true), (3, true), (4, false), (5, false), (6, false), (7, false), (9, false), (10, false), (8, true), (11, true), (12, false), (13, false), (14, false), (15, false), (16, false), (17, true), (18, false), (19, false)] (by kernel_rfl) (by kernel_rfl) rfl (by kernel_rfl) (Below.refl _ w3).drew ?_
        intro W0 hK0
        have HK0 := Lib.hid hK0
        clear hK0
        refine lexH_load rfl rfl _ _ rfl rfl L1.out ?_
        simp only [List.getElem_toArray, List.getElem_cons_zero, Act.put, List.setIfInBounds_toArray, List.set_cons_zero, List.set_cons_succ]
        refine lexH_load rfl rfl _ _ rfl rfl L1.out ?_
        simp only [List.getElem_toArray, List.getElem_cons_succ, List.getElem_cons_zero, Act.put, List.setIfInBounds_toArray, List.set_cons_zero, List.set_cons_succ]
        refine lexH_call 26 #[rsV (e0 : Int) v1 a n c] rfl rfl ?_ ?_
        focus (go_simp; done)
        refine (ok.mayr HN.out HE.out.1 HE.out.2 HVV.out).mono ?_
        rintro ee W1 ⟨rfl, hb1⟩
        have HK1 := Lib.hid (HK0.out.call (Nat.le_refl _) hb1)
        rw [HMC.out]
        refine ⟨_, rfl, HK1.out, ?_⟩
        clear hb1 HK0
        simp only [List.getElem_toArray, List.getElem_cons_succ, List.getElem_cons_zero, Act.put, List.setIfInBounds_toArray, List.set_cons_zero, List.set_cons_succ]
        refine lexH_call 27 #[rsV (e0 : Int) v1 a n c] rfl rfl ?_ ?_
        focus (go_simp; done)
        refine (rmayr_any (e0 : Int) v1 a n c (Nat.le_trans HN.out (by decide)) W1).mono ?_
        rintro ee W2 ⟨rfl, hb1⟩
        have HK2 := Lib.hid (HK1.out.call (Nat.le_refl _) hb1)
        rw [HMC.out]
        refine ⟨_, rfl, HK2.out, ?_⟩
        clear hb1 HK1
        simp only [List.getElem_toArray, List.getElem_cons_succ, List.getElem_cons_zero, Act.put, List.setIfInBounds_toArray, List.set_cons_zero, List.set_cons_succ]
        refine lexH_yieldE rfl rfl ?_
        apply Exists.intro
        refine ⟨fun W hW => ?_, ?_⟩
        focus (go_simp; exact rfl)
        simp only [List.getElem_toArray, List.getElem_cons_succ, List.getElem_cons_zero, Act.put, List.setIfInBounds_toArray, List.set_cons_zero, List.set_cons_succ]
        refine lexH_yieldE rfl rfl ?_
        apply Exists.intro
        refine ⟨fun W hW => ?_, ?_⟩
        focus (go_simp; exact rfl)
        simp only [List.getElem_toArray, List.getElem_cons_succ, List.getElem_cons_zero, Act.put, List.setIfInBounds_toArray, List.set_cons_zero, List.set_cons_succ]
        refine lexH_load rfl rfl _ _ rfl rfl L1.out ?_
        simp only [List.getElem_toArray, List.getElem_cons_succ, List.getElem_cons_zero, Act.put, List.setIfInBounds_toArray, List.set_cons_zero, List.set_cons_succ]
        refine lexH_load rfl rfl _ _ rfl rfl L2.out ?_
        simp only [List.getElem_toArray, List.getElem_cons_succ, List.getElem_cons_zero, Act.put, List.setIfInBounds_toArray, List.set_cons_zero, List.set_cons_succ]
        refine lexH_load rfl rfl _ _ rfl rfl L1.out ?_
        simp only [List.getElem_toArray, List.getElem_cons_succ, List.getElem_cons_zero, Act.put, List.setIfInBounds_toArray, List.set_cons_zero, List.set_cons_succ]
        refine lexH_load rfl rfl _ _ rfl rfl L2.out ?_
        simp only [List.getElem_toArray, List.getElem_cons_succ, List.getElem_cons_zero, Act.put, List.setIfInBounds_toArray, List.set_cons_zero, List.set_cons_succ]
        refine lexH_call 28 #[rsV (e0 : Int) v1 a n c, rsV e2 v2 b m d] rfl rfl ?_ ?_
        focus (go_simp; done)
        refine (ok.samer HN30.out HM30.out (HX3.out _ HK2.out) (HY3.out _ HK2.out)).mono ?_
        rintro ee W3 ⟨rfl, hb1⟩
        have HK3 := Lib.hid (HK2.out.call (Nat.le_refl _) hb1)
        rw [HSM.out]
        refine ⟨_, rfl, HK3.out, ?_⟩
        clear hb1 HK2
        simp only [List.getElem_toArray, List.getElem_cons_succ, List.getElem_cons_zero, Act.put, List.setIfInBounds_toArray, List.set_cons_zero, List.set_cons_succ]
        refine lexH_call 22 #[rsV (e0 : Int) v1 a n c, rsV e2 v2 b m d] rfl rfl ?_ ?_
        focus (go_simp; done)
        refine (rsame_any (e0 : Int) e2 v1 v2 a b n m c d x y W3 (HX3.out _ HK3.out) (HY3.out _ HK3.out)).mono ?_
        rintro ee W4 ⟨rfl, hb1⟩
        have HK4 := Lib.hid (HK3.out.call (Nat.le_refl _) hb1)
        rw [HSM.out]
        refine ⟨_, rfl, HK4.out, ?_⟩
        clear hb1 HK3
        simp only [List.getElem_toArray, List.getElem_cons_succ, List.getElem_cons_zero, Act.put, List.setIfInBounds_toArray, List.set_cons_zero, List.set_cons_succ]
        refine lexH_yield rfl rfl (v := .bool false) (fun W _ => by go_simp; done) ?_
        simp only [List.getElem_toArray, List.getElem_cons_succ, List.getElem_cons_zero, Act.put, List.setIfInBounds_toArray, List.set_cons_zero, List.set_cons_succ]
        refine lexH_yieldE rfl rfl ?_
        apply Exists.intro
        refine ⟨fun W hW => ?_, ?_⟩
        focus (go_simp; exact rfl)
        simp only [List.getElem_toArray, List.getElem_cons_succ, List.getElem_cons_zero, Act.put, List.setIfInBounds_toArray, List.set_cons_zero, List.set_cons_succ]
        refine lexH_yieldE rfl rfl ?_
        apply Exists.intro
        refine ⟨fun W hW => ?_, ?_⟩
        focus (go_simp; exact rfl)
        simp only [List.getElem_toArray, List.getElem_cons_succ, List.getElem_cons_zero, Act.put, List.setIfInBounds_toArray, List.set_cons_zero, List.set_cons_succ]
        refine lexH_load rfl rfl _ _ rfl rfl L1.out ?_
        simp only [List.getElem_toArray, List.getElem_cons_succ, List.getElem_cons_zero, Act.put, List.setIfInBounds_toArray, List.set_cons_zero, List.set_cons_succ]
        refine lexH_load rfl rfl _ _ rfl rfl L1.out ?_
        simp only [List.getElem_toArray, List.getElem_cons_succ, List.getElem_cons_zero, Act.put, List.setIfInBounds_toArray, List.set_cons_zero, List.set_cons_succ]
        refine lexH_call 28 #[rsV (e0 : Int) v1 a n c, rsV (e0 : Int) v1 a n c] rfl rfl ?_ ?_
        focus (go_simp; done)
        refine (ok.samer HN30.out HN30.out (HX3.out _ HK4.out) (HX3.out _ HK4.out)).mono ?_
        rintro ee W6 ⟨rfl, hb1⟩
        have HK6 := Lib.hid (HK4.out.call (Nat.le_refl _) hb1)
        rw [sameR_self]
        refine ⟨_, rfl, HK6.out, ?_⟩
        clear hb1 HK4
        simp only [List.getElem_toArray, List.getElem_cons_succ, List.getElem_cons_zero, Act.put, List.setIfInBounds_toArray, List.set_cons_zero, List.set_cons_succ]
        refine lexH_yieldE rfl rfl ?_
        apply Exists.intro
        refine ⟨fun W hW => ?_, ?_⟩
        focus (go_simp; exact rfl)
        simp only [List.getElem_toArray, List.getElem_cons_succ, List.getElem_cons_zero, Act.put, List.setIfInBounds_toArray, List.set_cons_zero, List.set_cons_succ]
        refine lexH_yieldE rfl rfl ?_
        apply Exists.intro
        refine ⟨fun W hW => ?_, ?_⟩
        focus (go_simp; exact rfl)
        simp only [List.getElem_toArray, List.getElem_cons_succ, List.getElem_cons_zero, Act.put, List.setIfInBounds_toArray, List.set_cons_zero, List.set_cons_succ]
        refine lexH_nil ?_
        have HT6 := Lib.hid (HT3.out.later HK6.out.below)
        have hz6 : w3.heap.size ≤ W6.heap.size := HK6.out.below.size
        have B1 := HT6.out.b1
        go_wp2_with (refine wpList_load_res rfl _ rfl _ rfl B1 ?_)
        refine (rmayr_any (e0 : Int) v1 a n c (Nat.le_trans HN.out (by decide)) W6).mono ?_
        rw [HMC.out]
        rintro ee w7 ⟨rfl, hb7⟩
        have HT7 := Lib.hid (HT6.out.later hb7)
        have HB37 := Lib.hid (show Below w3.heap.size w3 w7 from HK6.out.below.trans (hb7.mono hz6))
        clear hb7 B1 L1 L2
        go_wp2_with (fail)
        refine (ok.readr HC64.out HCL.out hcm (HSB.out.later HB37.out)).mono ?_
        intro ee w8 hrd
        obtain ⟨a2, c2, rfl, hs8, hb8⟩ := rrP_back HE0.out HVV.out HMC.out hrd
        have hba : Below w8.heap.size w8 (w8.alloc (.cells (rsA (e0 : Int) v1 a2 n c2) 41)) := (Below.refl _ _).alloc (Nat.le_refl _) _
        have hb9 := hb8.trans (hba.mono hb8.size)
        have HT9 := Lib.hid (HT7.out.later hb9)
        have HS9 := Lib.hid (hs8.later hba)
        have HBY9 := Lib.hid (HBY.out.later (HB37.out.trans (hb9.mono HB37.out.size)))
        have HK9 := Lib.hid (show (w8.alloc (.cells (rsA (e0 : Int) v1 a2 n c2) 41)).heap[w8.heap.size]? = some (.cells (rsA (e0 : Int) v1 a2 n c2) 41 (0, 0)) from heap_alloc_new w8 _)
        have HX9 := Lib.hid (HX.out.later HT9.out.bel)
        clear hrd hs8 hb8 hba hb9 HT7 HB37 HT6 HK6 HBY HX3 HY3
        go_upto_region 9 with (fail)
        generalize w8.alloc (.cells (rsA (e0 : Int) v1 a2 n c2) 41) = w9 at *
        generalize hzb : w8.heap.size = zb at *
        have CV := Lib.hid (fun U (hU : Kept w9.heap.size w9 U) => str_byt (HBY9.out.later hU.below))
        have L1 := Lib.hid (fun U (hU : Kept w9.heap.size w9 U) => load_resB (HT9.out.later hU.below).b1)
        have L3 := Lib.hid (fun U (hU : Kept w9.heap.size w9 U) => load_resB (e := (e0 : Int)) (v := v1) (a := a2) (n := n) (c := c2) (by rw [hU.below.block _ (Array.getElem?_eq_some_iff.1 HK9.out).1]; exact HK9.out))
        generalize hLL : resL e0 v1 x n = LL at *
        refine wp_region_lex (Kept w9.heap.size w9) [(0, false), (1, false), (2, false), (3, false), (4, false), (5, false), (6, false), (7, false), (8, false), (9, false), (10, true), (11, true), (12, false), (13, false), (14, false), (15, false), (16, false), (17, true), (18, false), (19, false), (20, true), (21, false), (22, false)] (by kernel_rfl) (by kernel_rfl) rfl (by kernel_rfl) (Below.refl _ w9).drew ?_
        intro V0 hV0
        have HV0 := Lib.hid hV0
        clear hV0
        refine lexH_yieldE rfl rfl ?_
        apply Exists.intro
        refine ⟨fun W hW => ?_, ?_⟩
        focus (go_simp; exact rfl)
        simp only [List.getElem_toArray, List.getElem_cons_zero, Act.put, List.setIfInBounds_toArray, List.set_cons_zero, List.set_cons_succ]
        refine lexH_yieldE rfl rfl ?_
        apply Exists.intro
        refine ⟨fun W hW => ?_, ?_⟩
        focus (go_simp; exact rfl)
        simp only [List.getElem_toArray, List.getElem_cons_succ, List.getElem_cons_zero, Act.put, List.setIfInBounds_toArray, List.set_cons_zero, List.set_cons_succ]
        refine lexH_yieldE rfl rfl ?_
        apply Exists.intro
        refine ⟨fun W hW => ?_, ?_⟩
        focus (go_simp; exact rfl)
        simp only [List.getElem_toArray, List.getElem_cons_succ, List.getElem_cons_zero, Act.put, List.setIfInBounds_toArray, List.set_cons_zero, List.set_cons_succ]
        refine lexH_yieldE rfl rfl ?_
        apply Exists.intro
        refine ⟨fun W hW => ?_, ?_⟩
        focus (go_simp; exact rfl)
        simp only [List.getElem_toArray, List.getElem_cons_succ, List.getElem_cons_zero, Act.put, List.setIfInBounds_toArray, List.set_cons_zero, List.set_cons_succ]
        refine lexH_yieldE rfl rfl ?_
        apply Exists.intro
        refine ⟨fun W hW => ?_, ?_⟩
        focus (go_simp; exact rfl)
        simp only [List.getElem_toArray, List.getElem_cons_succ, List.getElem_cons_zero, Act.put, List.setIfInBounds_toArray, List.set_cons_zero, List.set_cons_succ]
        refine lexH_yieldE rfl rfl ?_
        apply Exists.intro
        refine ⟨fun W hW => ?_, ?_⟩
        focus (go_simp; exact rfl)
        simp only [List.getElem_toArray, List.getElem_cons_succ, List.getElem_cons_zero, Act.put, List.setIfInBounds_toArray, List.set_cons_zero, List.set_cons_succ]
        refine lexH_yieldE rfl rfl ?_
        apply Exists.intro
        refine ⟨fun W hW => ?_, ?_⟩
        focus (go_simp; exact rfl)
        simp only [List.getElem_toArray, List.getElem_cons_succ, List.getElem_cons_zero, Act.put, List.setIfInBounds_toArray, List.set_cons_zero, List.set_cons_succ]
        refine lexH_yieldE rfl rfl ?_
        apply Exists.intro
        refine ⟨fun W hW => ?_, ?_⟩
        focus (go_simp; exact rfl)
        simp only [List.getElem_toArray, List.getElem_cons_succ, List.getElem_cons_zero, Act.put, List.setIfInBounds_toArray, List.set_cons_zero, List.set_cons_succ]
        refine lexH_conv rfl rfl _ _ _ rfl rfl CV.out ?_
        simp only [List.getElem_toArray, List.getElem_cons_succ, List.getElem_cons_zero, Act.put, List.setIfInBounds_toArray, List.set_cons_zero, List.set_cons_succ]
        refine lexH_load rfl rfl _ _ rfl rfl L1.out ?_
        simp only [List.getElem_toArray, List.getElem_cons_succ, List.getElem_cons_zero, Act.put, List.setIfInBounds_toArray, List.set_cons_zero, List.set_cons_succ]
        refine lexH_call 29 #[rsV (e0 : Int) v1 a n c] rfl rfl ?_ ?_
        focus (go_simp; done)
        refine (resbytes_any e0 v1 HE0.out HVV.out a n c x HN.out V0 (HX9.out.later HV0.out.below)).mono ?_
        rintro ee V1 ⟨v9, rfl, h9v, hb1⟩
        rw [hLL] at h9v
        have HTV := Lib.hid (str_byt h9v)
        have HV1 := Lib.hid (HV0.out.call (Nat.le_refl _) hb1)
        refine ⟨_, rfl, HV1.out, ?_⟩
        clear hb1 h9v HV0
        simp only [List.getElem_toArray, List.getElem_cons_succ, List.getElem_cons_zero, Act.put, List.setIfInBounds_toArray, List.set_cons_zero, List.set_cons_succ]
        refine lexH_convT rfl rfl _ _ _ rfl rfl HTV.out HV1.out ?_
        simp only [List.getElem_toArray, List.getElem_cons_succ, List.getElem_cons_zero, Act.put, List.setIfInBounds_toArray, List.set_cons_zero, List.set_cons_succ]
        generalize strL LL = SL at *
        refine lexH_yield rfl rfl (v := .bool true) (fun W _ => by go_simp; done) ?_
        simp only [List.getElem_toArray, List.getElem_cons_succ, List.getElem_cons_zero, Act.put, List.setIfInBounds_toArray, List.set_cons_zero, List.set_cons_succ]
        refine lexH_yieldE rfl rfl ?_
        apply Exists.intro
        refine ⟨fun W hW => ?_, ?_⟩
        focus (go_simp; exact rfl)
        simp only [List.getElem_toArray, List.getElem_cons_succ, List.getElem_cons_zero, Act.put, List.setIfInBounds_toArray, List.set_cons_zero, List.set_cons_succ]
        refine lexH_yieldE rfl rfl ?_
        apply Exists.intro
        refine ⟨fun W hW => ?_, ?_⟩
        focus (go_simp; exact rfl)
        simp only [List.getElem_toArray, List.getElem_cons_succ, List.getElem_cons_zero, Act.put, List.setIfInBounds_toArray, List.set_cons_zero, List.set_cons_succ]
        refine lexH_load rfl rfl _ _ rfl rfl L3.out ?_
        simp only [List.getElem_toArray, List.getElem_cons_succ, List.getElem_cons_zero, Act.put, List.setIfInBounds_toArray, List.set_cons_zero, List.set_cons_succ]
        refine lexH_load rfl rfl _ _ rfl rfl L1.out ?_
        simp only [List.getElem_toArray, List.getElem_cons_succ, List.getElem_cons_zero, Act.put, List.setIfInBounds_toArray, List.set_cons_zero, List.set_cons_succ]
        refine lexH_call 22 #[rsV (e0 : Int) v1 a2 n c2, rsV (e0 : Int) v1 a n c] rfl rfl ?_ ?_
        focus (go_simp; done)
        refine (rsame_any (e0 : Int) (e0 : Int) v1 v1 a2 a n n c2 c x x V1 (HS9.out.later HV1.out.below) (HX9.out.later HV1.out.below)).mono ?_
        rintro ee V2 ⟨rfl, hb1⟩
        have HV2 := Lib.hid (HV1.out.call (Nat.le_refl _) hb1)
        rw [sameR_self]
        refine ⟨_, rfl, HV2.out, ?_⟩
        clear hb1 HV1
        simp only [List.getElem_toArray, List.getElem_cons_succ, List.getElem_cons_zero, Act.put, List.setIfInBounds_toArray, List.set_cons_zero, List.set_cons_succ]
        refine lexH_yieldE rfl rfl ?_
        apply Exists.intro
        refine ⟨fun W hW => ?_, ?_⟩
        focus (go_simp; exact rfl)
        simp only [List.getElem_toArray, List.getElem_cons_succ, List.getElem_cons_zero, Act.put, List.setIfInBounds_toArray, List.set_cons_zero, List.set_cons_succ]
        refine lexH_yieldE rfl rfl ?_
        apply Exists.intro
        refine ⟨fun W hW => ?_, ?_⟩
        focus (go_simp; exact rfl)
        simp only [List.getElem_toArray, List.getElem_cons_succ, List.getElem_cons_zero, Act.put, List.setIfInBounds_toArray, List.set_cons_zero, List.set_cons_succ]
        refine lexH_call 10 #[] rfl rfl ?_ ?_
        focus (go_simp; done)
        refine (cknown_any ok _ (ok.later HP.out (HT9.out.bel.trans (HV2.out.below.mono HT9.out.bel.size)))).mono ?_
        rintro ee V3 ⟨rfl, hb1⟩
        have HV3 := Lib.hid (HV2.out.call (Nat.le_refl _) hb1)
        refine ⟨_, rfl, HV3.out, ?_⟩
        clear hb1 HV2
        simp only [List.getElem_toArray, List.getElem_cons_succ, List.getElem_cons_zero, Act.put, List.setIfInBounds_toArray, List.set_cons_zero, List.set_cons_succ]
        refine lexH_yieldE rfl rfl ?_
        apply Exists.intro
        refine ⟨fun W hW => ?_, ?_⟩
        focus (go_simp; exact rfl)
        simp only [List.getElem_toArray, List.getElem_cons_succ, List.getElem_cons_zero, Act.put, List.setIfInBounds_toArray, List.set_cons_zero, List.set_cons_succ]
        refine lexH_yieldE rfl rfl ?_
        apply Exists.intro
        refine ⟨fun W hW => ?_, ?_⟩
        focus (go_simp; exact rfl)
        simp only [List.getElem_toArray, List.getElem_cons_succ, List.getElem_cons_zero, Act.put, List.setIfInBounds_toArray, List.set_cons_zero, List.set_cons_succ]
        refine lexH_nil ?_
        go_wp2_with (fail)
        go_ret
        exact ⟨rfl, HT9.out.bel.trans (HV3.out.below.mono HT9.out.bel.size)⟩
      · have HMC := Lib.hid hmc
        have HT3 := Lib.hid (HT0.out.later hb3)
        clear hmc hb3 HT0
        have L1 := Lib.hid (fun U (hU : Kept w3.heap.size w3 U) => load_resB (HT3.out.later hU.below).b1)
        have L2 := Lib.hid (fun U (hU : Kept w3.heap.size w3 U) => load_resB (HT3.out.later hU.below).b2)
        have HX3 := Lib.hid (fun U (hU : Kept w3.heap.size w3 U) => (HX.out.later HT3.out.bel).later hU.below)
        have HY3 := Lib.hid (fun U (hU : Kept w3.heap.size w3 U) => (HY.out.later HT3.out.bel).later hU.below)
        obtain ⟨sm, hsm⟩ : ∃ s, sameR e1 e2 v1 v2 (strB n x) (strB m y) = s := ⟨_, rfl⟩
        have HSM := Lib.hid hsm
        clear hsm
        go_wp2_with (fail)
        generalize hpb : w.heap.size + 1 = pb at *
        refine wp_region_lex (Kept w3.heap.size w3) [(0, false), (2, false), (1, true), (3, true), (4, false), (5, false), (6, false), (7, false), (9, false), (10, false), (8, true), (11, true), (12, false), (13, false), (14, false), (15, false), (16, false), (17, true), (18, false), (19, false)] (by kernel_rfl) (by kernel_rfl) rfl (by kernel_rfl) (Below.refl _ w3).drew ?_
        intro W0 hK0
        have HK0 := Lib.hid hK0
        clear hK0
        refine lexH_load rfl rfl _ _ rfl rfl L1.out ?_
        simp only [List.getElem_toArray, List.getElem_cons_zero, Act.put, List.setIfInBounds_toArray, List.set_cons_zero, List.set_cons_succ]
        refine lexH_load rfl rfl _ _ rfl rfl L1.out ?_
        simp only [List.getElem_toArray, List.getElem_cons_succ, List.getElem_cons_zero, Act.put, List.setIfInBounds_toArray, List.set_cons_zero, List.set_cons_succ]
        refine lexH_call 26 #[rsV e1 v1 a n c] rfl rfl ?_ ?_
        focus (go_simp; done)
        refine (ok.mayr HN.out HE.out.1 HE.out.2 HVV.out).mono ?_
        rintro ee W1 ⟨rfl, hb1⟩
        have HK1 := Lib.hid (HK0.out.call (Nat.le_refl _) hb1)
        rw [HMC.out]
        refine ⟨_, rfl, HK1.out, ?_⟩
        clear hb1 HK0
        simp only [List.getElem_toArray, List.getElem_cons_succ, List.getElem_cons_zero, Act.put, List.setIfInBounds_toArray, List.set_cons_zero, List.set_cons_succ]
        refine lexH_call 27 #[rsV e1 v1 a n c] rfl rfl ?_ ?_
        focus (go_simp; done)
        refine (rmayr_any e1 v1 a n c (Nat.le_trans HN.out (by decide)) W1).mono ?_
        rintro ee W2 ⟨rfl, hb1⟩
        have HK2 := Lib.hid (HK1.out.call (Nat.le_refl _) hb1)
        rw [HMC.out]
        refine ⟨_, rfl, HK2.out, ?_⟩
        clear hb1 HK1
        simp only [List.getElem_toArray, List.getElem_cons_succ, List.getElem_cons_zero, Act.put, List.setIfInBounds_toArray, List.set_cons_zero, List.set_cons_succ]
        refine lexH_yieldE rfl rfl ?_
        apply Exists.intro
        refine ⟨fun W hW => ?_, ?_⟩
        focus (go_simp; exact rfl)
        simp only [List.getElem_toArray, List.getElem_cons_succ, List.getElem_cons_zero, Act.put, List.setIfInBounds_toArray, List.set_cons_zero, List.set_cons_succ]
        refine lexH_yieldE rfl rfl ?_
        apply Exists.intro
        refine ⟨fun W hW => ?_, ?_⟩
        focus (go_simp; exact rfl)
        simp only [List.getElem_toArray, List.getElem_cons_succ, List.getElem_cons_zero, Act.put, List.setIfInBounds_toArray, List.set_cons_zero, List.set_cons_succ]
        refine lexH_load rfl rfl _ _ rfl rfl L1.out ?_
        simp only [List.getElem_toArray, List.getElem_cons_succ, List.getElem_cons_zero, Act.put, List.setIfInBounds_toArray, List.set_cons_zero, List.set_cons_succ]
        refine lexH_load rfl rfl _ _ rfl rfl L2.out ?_
        simp only [List.getElem_toArray, List.getElem_cons_succ, List.getElem_cons_zero, Act.put, List.setIfInBounds_toArray, List.set_cons_zero, List.set_cons_succ]
        refine lexH_load rfl rfl _ _ rfl rfl L1.out ?_
        simp only [List.getElem_toArray, List.getElem_cons_succ, List.getElem_cons_zero, Act.put, List.setIfInBounds_toArray, List.set_cons_zero, List.set_cons_succ]
        refine lexH_load rfl rfl _ _ rfl rfl L2.out ?_
        simp only [List.getElem_toArray, List.getElem_cons_succ, List.getElem_cons_zero, Act.put, List.setIfInBounds_toArray, List.set_cons_zero, List.set_cons_succ]
        refine lexH_call 28 #[rsV e1 v1 a n c, rsV e2 v2 b m d] rfl rfl ?_ ?_
        focus (go_simp; done)
        refine (ok.samer HN30.out HM30.out (HX3.out _ HK2.out) (HY3.out _ HK2.out)).mono ?_
        rintro ee W3 ⟨rfl, hb1⟩
        have HK3 := Lib.hid (HK2.out.call (Nat.le_refl _) hb1)
        rw [HSM.out]
        refine ⟨_, rfl, HK3.out, ?_⟩
        clear hb1 HK2
        simp only [List.getElem_toArray, List.getElem_cons_succ, List.getElem_cons_zero, Act.put, List.setIfInBounds_toArray, List.set_cons_zero, List.set_cons_succ]
        refine lexH_call 22 #[rsV e1 v1 a n c, rsV e2 v2 b m d] rfl rfl ?_ ?_
        focus (go_simp; done)
        refine (rsame_any e1 e2 v1 v2 a b n m c d x y W3 (HX3.out _ HK3.out) (HY3.out _ HK3.out)).mono ?_
        rintro ee W4 ⟨rfl, hb1⟩
        have HK4 := Lib.hid (HK3.out.call (Nat.le_refl _) hb1)
        rw [HSM.out]
        refine ⟨_, rfl, HK4.out, ?_⟩
        clear hb1 HK3
        simp only [List.getElem_toArray, List.getElem_cons_succ, List.getElem_cons_zero, Act.put, List.setIfInBounds_toArray, List.set_cons_zero, List.set_cons_succ]
        refine lexH_yield rfl rfl (v := .bool false) (fun W _ => by go_simp; done) ?_
        simp only [List.getElem_toArray, List.getElem_cons_succ, List.getElem_cons_zero, Act.put, List.setIfInBounds_toArray, List.set_cons_zero, List.set_cons_succ]
        refine lexH_yieldE rfl rfl ?_
        apply Exists.intro
        refine ⟨fun W hW => ?_, ?_⟩
        focus (go_simp; exact rfl)
        simp only [List.getElem_toArray, List.getElem_cons_succ, List.getElem_cons_zero, Act.put, List.setIfInBounds_toArray, List.set_cons_zero, List.set_cons_succ]
        refine lexH_yieldE rfl rfl ?_
        apply Exists.intro
        refine ⟨fun W hW => ?_, ?_⟩
        focus (go_simp; exact rfl)
        simp only [List.getElem_toArray, List.getElem_cons_succ, List.getElem_cons_zero, Act.put, List.setIfInBounds_toArray, List.set_cons_zero, List.set_cons_succ]
        refine lexH_load rfl rfl _ _ rfl rfl L1.out ?_
        simp only [List.getElem_toArray, List.getElem_cons_succ, List.getElem_cons_zero, Act.put, List.setIfInBounds_toArray, List.set_cons_zero, List.set_cons_succ]
        refine lexH_load rfl rfl _ _ rfl rfl L1.out ?_
        simp only [List.getElem_toArray, List.getElem_cons_succ, List.getElem_cons_zero, Act.put, List.setIfInBounds_toArray, List.set_cons_zero, List.set_cons_succ]
        refine lexH_call 28 #[rsV e1 v1 a n c, rsV e1 v1 a n c] rfl rfl ?_ ?_
        focus (go_simp; done)
        refine (ok.samer HN30.out HN30.out (HX3.out _ HK4.out) (HX3.out _ HK4.out)).mono ?_
        rintro ee W6 ⟨rfl, hb1⟩
        have HK6 := Lib.hid (HK4.out.call (Nat.le_refl _) hb1)
        rw [sameR_self]
        refine ⟨_, rfl, HK6.out, ?_⟩
        clear hb1 HK4
        simp only [List.getElem_toArray, List.getElem_cons_succ, List.getElem_cons_zero, Act.put, List.setIfInBounds_toArray, List.set_cons_zero, List.set_cons_succ]
        refine lexH_yieldE rfl rfl ?_
        apply Exists.intro
        refine ⟨fun W hW => ?_, ?_⟩
        focus (go_simp; exact rfl)
        simp only [List.getElem_toArray, List.getElem_cons_succ, List.getElem_cons_zero, Act.put, List.setIfInBounds_toArray, List.set_cons_zero, List.set_cons_succ]
        refine lexH_yieldE rfl rfl ?_
        apply Exists.intro
        refine ⟨fun W hW => ?_, ?_⟩
        focus (go_simp; exact rfl)
        simp only [List.getElem_toArray, List.getElem_cons_succ, List.getElem_cons_zero, Act.put, List.setIfInBounds_toArray, List.set_cons_zero, List.set_cons_succ]
        refine lexH_nil ?_
        have HT6 := Lib.hid (HT3.out.later HK6.out.below)
        have hz6 : w3.heap.size ≤ W6.heap.size := HK6.out.below.size
        have B1 := HT6.out.b1
        go_wp2_with (refine wpList_load_res rfl _ rfl _ rfl B1 ?_)
        refine (rmayr_any e1 v1 a n c (Nat.le_trans HN.out (by decide)) W6).mono ?_
        rw [HMC.out]
        rintro ee w7 ⟨rfl, hb7⟩
        have HT7 := Lib.hid (HT6.out.later hb7)
        clear hb7 B1 L1 L2
        go_wp2_with (fail)
        refine (cknown_any ok _ (ok.later HP.out HT7.out.bel)).mono ?_
        rintro ee w8 ⟨rfl, hb8⟩
        have HT8 := Lib.hid (HT7.out.later hb8)
        clear hb8
        go_wp2_with (fail)
        go_ret
        exact ⟨rfl, HT8.out.bel⟩
    · have hnI : ¬ (1000 : Int) < (n : Int) := by omega
      have hmI : (1000 : Int) < (m : Int) := by omega
      go_enter Tryd.func6, Tryd.ntmps6
      go_wp2_with (fail)
      refine (cknown_any ok _ (ok.later HP.out HT0.out.bel)).mono ?_
      rintro ee w1 ⟨rfl, hb⟩
      have HB1 := Lib.hid (HT0.out.bel.trans (hb.mono HT0.out.bel.size))
      clear hb k1 k2
      go_wp2_with (fail)
      go_ret
      exact ⟨rfl, HB1.out⟩
  · have hnI : (1000 : Int) < (n : Int) := by omega
    go_enter Tryd.func6, Tryd.ntmps6
    go_wp2_with (fail)
    refine (cknown_any ok _ (ok.later HP.out HT0.out.bel)).mono ?_
    rintro ee w1 ⟨rfl, hb⟩
    have HB1 := Lib.hid (HT0.out.bel.trans (hb.mono HT0.out.bel.size))
    clear hb k1 k2
    go_wp2_with (fail)
    go_ret
    exact ⟨rfl, HB1.out⟩
end
end Go.Proofs.YtkmjkkeldbocdaaDoor
