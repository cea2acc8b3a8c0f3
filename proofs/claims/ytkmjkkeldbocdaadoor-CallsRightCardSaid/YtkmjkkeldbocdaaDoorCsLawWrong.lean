/-
  The walk of CallsWrong, for whatever calls.
-/
import Derived.Test.YtkmjkkeldbocdaaDoorM01
import Derived.Test.YtkmjkkeldbocdaaDoorCsArg
import Derived.Test.YtkmjkkeldbocdaaDoorCsWr
namespace Go.Proofs.YtkmjkkeldbocdaaDoor
open Go.RowKit Go
attribute [local go_sem] Oper.semAt_some

section
variable {P : World → Prop} (ok : CsOk P)
include ok
set_option maxRecDepth 100000 in
set_option maxHeartbeats 8000000 in
theorem lwrong_any {A : Array Value} {g : Nat → Int} {q : CallM} {a : Option Addr} {n c : Nat} {x : Nat → UInt8} {w : World} (hP : P w) (hA : Cfg A g) (hq : CallIn q) (S : Src w a n x) :
    Calls Tryd.prog 5 #[.agg A, .agg (q.cells a n c)] w fun e w' => e = .returned (.bool true) ∧ Below w.heap.size w w' := by
  have HP := Lib.hid hP
  clear hP
  have HB0 := Lib.hid (wrb_new w hA q a n c)
  have HA := Lib.hid hA
  have HQ := Lib.hid hq
  have HS := Lib.hid S
  have c11 : ((w.alloc (.cells A 50)).alloc (.cells (q.cells a n c) 29)).cell? ⟨w.heap.size + 1, 11, none⟩ = some (.slice a n c) := HB0.out.cell 11 _ rfl
  clear hA hq S
  by_cases hn : n ≤ 1000
  · have hnI : ¬ (1000 : Int) < (n : Int) := by omega
    have HN := Lib.hid hn
    go_enter Tryd.func5, Tryd.ntmps5
    go_wp2_with (fail)
    generalize (w.alloc (.cells A 50)).alloc (.cells (q.cells a n c) 29) = wb at *
    have L0 := Lib.hid (fun U (hU : Kept wb.heap.size wb U) => load_cfgP (HB0.out.later hU.below).cfg)
    have L1 := Lib.hid (fun U (hU : Kept wb.heap.size wb U) => load_callB (HB0.out.later hU.below).blk)
    have HSB := Lib.hid (HS.out.later HB0.out.bel)
    have HIn := Lib.hid (HQ.out.of (show n ≤ 2000 by omega))
    clear c11 hn hnI
    generalize hpb : w.heap.size + 1 = pb at *
    refine wp_region_lex (Kept wb.heap.size wb) [(0, false), (1, false), (4, false), (5, false), (2, true), (3, true), (6, true), (7, false), (8, false), (9, true), (10, false), (11, false)] (by kernel_rfl) (by kernel_rfl) rfl (by kernel_rfl) (Below.refl _ wb).drew ?_
    intro W0 hK0
    have HK0 := Lib.hid hK0
    clear hK0
    refine lexH_load rfl rfl _ _ rfl rfl L0.out ?_
    simp only [List.getElem_toArray, List.getElem_cons_zero, Act.put, List.setIfInBounds_toArray, List.set_cons_zero, List.set_cons_succ]
    refine lexH_load rfl rfl _ _ rfl rfl L1.out ?_
    simp only [List.getElem_toArray, List.getElem_cons_succ, List.getElem_cons_zero, Act.put, List.setIfInBounds_toArray, List.set_cons_zero, List.set_cons_succ]
    refine lexH_load rfl rfl _ _ rfl rfl L0.out ?_
    simp only [List.getElem_toArray, List.getElem_cons_succ, List.getElem_cons_zero, Act.put, List.setIfInBounds_toArray, List.set_cons_zero, List.set_cons_succ]
    refine lexH_load rfl rfl _ _ rfl rfl L1.out ?_
    simp only [List.getElem_toArray, List.getElem_cons_succ, List.getElem_cons_zero, Act.put, List.setIfInBounds_toArray, List.set_cons_zero, List.set_cons_succ]
    refine lexH_call 11 #[.agg (q.cells a n c)] rfl rfl ?_ ?_
    focus (go_simp; done)
    refine (copied_any q a n c x HIn.out.n W0 (HSB.out.later HK0.out.below)).mono ?_
    rintro e W1 ⟨a1, c1, rfl, hs1, hb1⟩
    have HK1 := Lib.hid (HK0.out.call (Nat.le_refl _) hb1)
    have HS1 := Lib.hid hs1
    refine ⟨_, rfl, HK1.out, ?_⟩
    clear hs1 hb1 HK0
    simp only [List.getElem_toArray, List.getElem_cons_succ, List.getElem_cons_zero, Act.put, List.setIfInBounds_toArray, List.set_cons_zero, List.set_cons_succ]
    refine lexH_call 23 #[.agg A, .agg (q.cells a1 n c1)] rfl rfl ?_ ?_
    focus (go_simp; done)
    refine (ok.wrong (ok.later HP.out (HB0.out.bel.trans (HK1.out.below.mono HB0.out.bel.size))) HA.out HIn.out HS1.out).mono ?_
    rintro e W2 ⟨rfl, hb1⟩
    have HK2 := Lib.hid (HK1.out.call (Nat.le_refl _) hb1)
    refine ⟨_, rfl, HK2.out, ?_⟩
    clear hb1 HK1 HS1
    simp only [List.getElem_toArray, List.getElem_cons_succ, List.getElem_cons_zero, Act.put, List.setIfInBounds_toArray, List.set_cons_zero, List.set_cons_succ]
    refine lexH_call 24 #[.agg A, .agg (q.cells a n c)] rfl rfl ?_ ?_
    focus (go_simp; done)
    refine (wrong_any HA.out HIn.out (HSB.out.later HK2.out.below)).mono ?_
    rintro e W3 ⟨rfl, hb1⟩
    have HK3 := Lib.hid (HK2.out.call (Nat.le_refl _) hb1)
    refine ⟨_, rfl, HK3.out, ?_⟩
    clear hb1 HK2
    simp only [List.getElem_toArray, List.getElem_cons_succ, List.getElem_cons_zero, Act.put, List.setIfInBounds_toArray, List.set_cons_zero, List.set_cons_succ]
    generalize wrongC g q n = R at *
    refine lexH_yield rfl rfl (v := .bool true) (fun W _ => by go_simp; done) ?_
    simp only [List.getElem_toArray, List.getElem_cons_succ, List.getElem_cons_zero, Act.put, List.setIfInBounds_toArray, List.set_cons_zero, List.set_cons_succ]
    refine lexH_yieldE rfl rfl ?_
    apply Exists.intro
    refine ⟨fun W hW => ?_, ?_⟩
    focus (go_simp; exact rfl)
    simp only [List.getElem_toArray, List.getElem_cons_succ, List.getElem_cons_zero, Act.put, List.setIfInBounds_toArray, List.set_cons_zero, List.set_cons_succ]
    refine lexH_call 10 #[] rfl rfl ?_ ?_
    focus (go_simp; done)
    refine (cknown_any ok _ (ok.later HP.out (HB0.out.bel.trans (HK3.out.below.mono HB0.out.bel.size)))).mono ?_
    rintro e W4 ⟨rfl, hb1⟩
    have HK4 := Lib.hid (HK3.out.call (Nat.le_refl _) hb1)
    refine ⟨_, rfl, HK4.out, ?_⟩
    clear hb1 HK3
    simp only [List.getElem_toArray, List.getElem_cons_succ, List.getElem_cons_zero, Act.put, List.setIfInBounds_toArray, List.set_cons_zero, List.set_cons_succ]
    refine lexH_yieldE rfl rfl ?_
    apply Exists.intro
    refine ⟨fun W hW => ?_, ?_⟩
    focus (go_simp; exact rfl)
    simp only [List.getElem_toArray, List.getElem_cons_succ, List.getElem_cons_zero, Act.put, List.setIfInBounds_toArray, List.set_cons_zero, List.set_cons_succ]
    refine lexH_yieldE rfl rfl ?_
    apply Exists.intro
    refine ⟨fun W hW => ?_, ?_⟩
    focus (go_simp; exact rfl)
    simp only [List.getElem_toArray, List.getElem_cons_succ, List.getElem_cons_zero, Act.put, List.setIfInBounds_toArray, List.set_cons_zero, List.set_cons_succ]
    refine lexH_nil ?_
    go_wp2_with (fail)
    go_ret
    exact ⟨rfl, HB0.out.bel.trans (HK4.out.below.mono HB0.out.bel.size)⟩
  · have hnI : (1000 : Int) < (n : Int) := by omega
    go_enter Tryd.func5, Tryd.ntmps5
    go_wp2_with (fail)
    refine (cknown_any ok _ (ok.later HP.out HB0.out.bel)).mono ?_
    rintro e w1 ⟨rfl, hb⟩
    have HB1 := Lib.hid (HB0.out.bel.trans (hb.mono HB0.out.bel.size))
    clear hb c11
    go_wp2_with (fail)
    go_ret
    exact ⟨rfl, HB1.out⟩
end
end Go.Proofs.YtkmjkkeldbocdaaDoor
