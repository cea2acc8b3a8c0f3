/-
  calls, the document's: whether a call may be.
-/
import Derived.Test.YtkmjkkeldbocdaaDoorCsSm
namespace Go.Proofs.YtkmjkkeldbocdaaDoor
open Go.RowKit Go
attribute [local go_sem] Oper.semAt_some

def mayC (q : CallM) (n : Nat) : Bool := okK q.kind && (decide (n ≤ 8) && ((hasK q.kind || decide (n = 0)) && ((ofN q.kind fun i => (listN q).getD i 0).row == q.row)))
theorem strB_self (n : Nat) (x : Nat → UInt8) : ((strB n x).toList == (strB n x).toList) = true := beq_self_eq_true _
set_option maxRecDepth 100000 in
set_option maxHeartbeats 4000000 in
theorem cmay_any (q : CallM) (hq : q.Ok) (a : Option Addr) (n c : Nat) (x : Nat → UInt8) (hn : n ≤ 2000) (w : World) (S : Src w a n x) : Calls Tryd.prog 14 #[.agg (q.cells a n c)] w fun e w' => e = .returned (.bool (mayC q n)) ∧ Below w.heap.size w w' := by
  have hb : Below w.heap.size w (w.alloc (.cells (q.cells a n c) 29)) := (Below.refl _ _).alloc (Nat.le_refl _) _
  have HR := Lib.hid (row_list w q a n c 29)
  have HB := Lib.hid hb
  have HS0 := Lib.hid S
  have HLI := Lib.hid (fun W => list_any q hq.rights hq.pk hq.pm a n c W)
  have HLL := Lib.hid (listN_len q)
  have HOF := Lib.hid (show ∀ (base : Nat) (v : Value) (W : World), okK q.kind = true → NumAt base (listN q) v W → Calls Tryd.prog 38 #[.int .u8 (q.kind : Int), v, .slice a n c] W (OfPost (ofN q.kind fun i => (listN q).getD i 0) a n c W) from fun base v W hk h => of_any hk h (listN_len q) a n c)
  have hnI : (n : Int) ≤ 2000 := by omega
  obtain ⟨R, hR⟩ : ∃ R, mayC q n = R := ⟨_, rfl⟩
  rw [hR]
  have HRR := Lib.hid (show R = (okK q.kind && (decide (n ≤ 8) && ((hasK q.kind || decide (n = 0)) && ((ofN q.kind fun i => (listN q).getD i 0).row == q.row)))) from hR.symm)
  clear hb S hq hn hR
  go_enter Tryd.func14, Tryd.ntmps14
  go_wp2_with (fail)
  generalize w.alloc (.cells (q.cells a n c) 29) = w1 at *
  refine (HLI.out _).mono ?_
  rintro e w2 ⟨vl, rfl, hNum, hb2⟩
  have HNU := Lib.hid hNum
  have HB2 := Lib.hid (HB.out.trans (hb2.mono HB.out.size))
  have HR2 := Lib.hid (HR.out.later hb2)
  have k11 : w2.cell? ⟨w.heap.size, 11, none⟩ = some (.slice a n c) := HR2.out.cell 11 (by decide)
  have k0 : w2.cell? ⟨w.heap.size, 0, none⟩ = some (.int .u8 (q.kind : Int)) := HR2.out.cell 0 (by decide)
  have L0 := Lib.hid (show ∀ W, Kept w2.heap.size w2 W → (loadVar 22 ⟨w.heap.size, 0, none⟩).run Tryd.prog W = .ok (.int .u8 (q.kind : Int)) W from fun W hW => run_loadVar_cell (fun _ => by kernel_rfl) ((HR2.out.later hW.below).cell 0 (by decide)))
  have L11 := Lib.hid (show ∀ W, Kept w2.heap.size w2 W → (loadVar 27 ⟨w.heap.size, 11, none⟩).run Tryd.prog W = .ok (.slice a n c) W from fun W hW => run_loadVar_cell (fun _ => by kernel_rfl) ((HR2.out.later hW.below).cell 11 (by decide)))
  have LQ := Lib.hid (show ∀ W, Kept w2.heap.size w2 W → (loadVar 29 ⟨w.heap.size, 0, none⟩).run Tryd.prog W = .ok (.agg (q.cells a n c)) W from fun W hW => load_call (HR2.out.later hW.below) rfl)
  clear hNum hb2 HLI HB HR
  cases hok : okK q.kind with
  | false =>
    have HE := Lib.hid (show R = false by rw [HRR.out, hok]; rfl)
    clear hok HRR
    go_wp2_with (fail)
    go_ret
    exact ⟨by rw [HE.out]; rfl, HB2.out⟩
  | true =>
    by_cases hn8 : n ≤ 8
    · have hn8I : ¬ (8 : Int) < n := by omega
      cases hhas : hasK q.kind with
      | false =>
        by_cases hn0 : n = 0
        · have HE := Lib.hid (show R = sameC (ofN q.kind fun i => (listN q).getD i 0) q (strB n x) (strB n x) from by
            unfold sameC
            rw [HRR.out, hok, hhas, decide_eq_true hn8, strB_self]
            simp [hn0])
          have hn0I : ¬ (0 : Int) < n := by omega
          clear hn0
          have HOK := Lib.hid hok
          have HHAS := Lib.hid hhas
          clear hok HRR k0 HLL
          go_wp2_with (fail)
          clear k11
          refine wp_region_lex (Kept w2.heap.size w2) [(0, false), (1, false), (2, false), (3, false), (4, false), (6, false), (5, true), (7, true), (8, false)] (by kernel_rfl) (by kernel_rfl) rfl (by kernel_rfl) (Below.refl _ w2).drew ?_
          intro W0 hK0
          have HB0 := Lib.hid (show Below w2.heap.size w2 W0 from hK0)
          clear hK0
          refine lexH_yieldE rfl rfl ?_
          apply Exists.intro
          refine ⟨fun W hW => ?_, ?_⟩
          focus (go_simp; exact rfl)
          simp only [List.getElem_toArray, List.getElem_cons_zero, Act.put, List.setIfInBounds_toArray, List.set_cons_zero, List.set_cons_succ]
          refine lexH_load rfl rfl _ _ rfl rfl L0.out ?_
          simp only [List.getElem_toArray, List.getElem_cons_succ, List.getElem_cons_zero, Act.put, List.setIfInBounds_toArray, List.set_cons_zero, List.set_cons_succ]
          refine lexH_yieldE rfl rfl ?_
          apply Exists.intro
          refine ⟨fun W hW => ?_, ?_⟩
          focus (go_simp; exact rfl)
          simp only [List.getElem_toArray, List.getElem_cons_succ, List.getElem_cons_zero, Act.put, List.setIfInBounds_toArray, List.set_cons_zero, List.set_cons_succ]
          refine lexH_yieldE rfl rfl ?_
          apply Exists.intro
          refine ⟨fun W hW => ?_, ?_⟩
          focus (go_simp; exact rfl)
          simp only [List.getElem_toArray, List.getElem_cons_succ, List.getElem_cons_zero, Act.put, List.setIfInBounds_toArray, List.set_cons_zero, List.set_cons_succ]
          refine lexH_load rfl rfl _ _ rfl rfl L11.out ?_
          simp only [List.getElem_toArray, List.getElem_cons_succ, List.getElem_cons_zero, Act.put, List.setIfInBounds_toArray, List.set_cons_zero, List.set_cons_succ]
          refine lexH_load rfl rfl _ _ rfl rfl LQ.out ?_
          simp only [List.getElem_toArray, List.getElem_cons_succ, List.getElem_cons_zero, Act.put, List.setIfInBounds_toArray, List.set_cons_zero, List.set_cons_succ]
          refine lexH_call 38 #[.int .u8 (q.kind : Int), vl, .slice a n c] rfl rfl ?_ ?_
          focus (go_simp; done)
          refine (HOF.out _ _ _ HOK.out (HNU.out.below HB0.out)).mono ?_
          rintro e W1 ⟨rfl, hb1⟩
          have HB1 := Lib.hid (HB0.out.trans (hb1.mono HB0.out.size))
          clear hb1
          refine ⟨_, rfl, HB1.out, ?_⟩
          simp only [List.getElem_toArray, List.getElem_cons_succ, List.getElem_cons_zero, Act.put, List.setIfInBounds_toArray, List.set_cons_zero, List.set_cons_succ]
          refine lexH_call 15 #[.agg ((ofN q.kind fun i => (listN q).getD i 0).cells a n c), .agg (q.cells a n c)] rfl rfl ?_ ?_
          focus (go_simp; done)
          refine (csame_any (ofN q.kind fun i => (listN q).getD i 0) q a a n c n c x x W1 (HS0.out.later (HB2.out.trans (HB1.out.mono HB2.out.size))) (HS0.out.later (HB2.out.trans (HB1.out.mono HB2.out.size)))).mono ?_
          rintro e W3 ⟨rfl, hb3⟩
          have HB3 := Lib.hid (HB1.out.trans (hb3.mono HB1.out.size))
          clear hb3
          refine ⟨_, rfl, HB3.out, ?_⟩
          simp only [List.getElem_toArray, List.getElem_cons_succ, List.getElem_cons_zero, Act.put, List.setIfInBounds_toArray, List.set_cons_zero, List.set_cons_succ]
          refine lexH_yieldE rfl rfl ?_
          apply Exists.intro
          refine ⟨fun W hW => ?_, ?_⟩
          focus (go_simp; exact rfl)
          simp only [List.getElem_toArray, List.getElem_cons_succ, List.getElem_cons_zero, Act.put, List.setIfInBounds_toArray, List.set_cons_zero, List.set_cons_succ]
          refine lexH_nil ?_
          go_wp2_with (fail)
          go_ret
          exact ⟨by rw [HE.out]; rfl, HB2.out.trans (HB3.out.mono HB2.out.size)⟩
        · have HE := Lib.hid (show R = false by rw [HRR.out, hok, hhas, decide_eq_false hn0]; simp)
          have hn0I : (0 : Int) < n := by omega
          clear hok hhas HRR
          go_wp2_with (fail)
          go_ret
          exact ⟨by rw [HE.out]; rfl, HB2.out⟩
      | true => 
        have HE := Lib.hid (show R = sameC (ofN q.kind fun i => (listN q).getD i 0) q (strB n x) (strB n x) from by
          unfold sameC
          rw [HRR.out, hok, hhas, decide_eq_true hn8, strB_self]
          simp)
        have HOK := Lib.hid hok
        have HHAS := Lib.hid hhas
        clear hok HRR k0 HLL
        go_wp2_with (fail)
        clear k11
        refine wp_region_lex (Kept w2.heap.size w2) [(0, false), (1, false), (2, false), (3, false), (4, false), (6, false), (5, true), (7, true), (8, false)] (by kernel_rfl) (by kernel_rfl) rfl (by kernel_rfl) (Below.refl _ w2).drew ?_
        intro W0 hK0
        have HB0 := Lib.hid (show Below w2.heap.size w2 W0 from hK0)
        clear hK0
        refine lexH_yieldE rfl rfl ?_
        apply Exists.intro
        refine ⟨fun W hW => ?_, ?_⟩
        focus (go_simp; exact rfl)
        simp only [List.getElem_toArray, List.getElem_cons_zero, Act.put, List.setIfInBounds_toArray, List.set_cons_zero, List.set_cons_succ]
        refine lexH_load rfl rfl _ _ rfl rfl L0.out ?_
        simp only [List.getElem_toArray, List.getElem_cons_succ, List.getElem_cons_zero, Act.put, List.setIfInBounds_toArray, List.set_cons_zero, List.set_cons_succ]
        refine lexH_yieldE rfl rfl ?_
        apply Exists.intro
        refine ⟨fun W hW => ?_, ?_⟩
        focus (go_simp; exact rfl)
        simp only [List.getElem_toArray, List.getElem_cons_succ, List.getElem_cons_zero, Act.put, List.setIfInBounds_toArray, List.set_cons_zero, List.set_cons_succ]
        refine lexH_yieldE rfl rfl ?_
        apply Exists.intro
        refine ⟨fun W hW => ?_, ?_⟩
        focus (go_simp; exact rfl)
        simp only [List.getElem_toArray, List.getElem_cons_succ, List.getElem_cons_zero, Act.put, List.setIfInBounds_toArray, List.set_cons_zero, List.set_cons_succ]
        refine lexH_load rfl rfl _ _ rfl rfl L11.out ?_
        simp only [List.getElem_toArray, List.getElem_cons_succ, List.getElem_cons_zero, Act.put, List.setIfInBounds_toArray, List.set_cons_zero, List.set_cons_succ]
        refine lexH_load rfl rfl _ _ rfl rfl LQ.out ?_
        simp only [List.getElem_toArray, List.getElem_cons_succ, List.getElem_cons_zero, Act.put, List.setIfInBounds_toArray, List.set_cons_zero, List.set_cons_succ]
        refine lexH_call 38 #[.int .u8 (q.kind : Int), vl, .slice a n c] rfl rfl ?_ ?_
        focus (go_simp; done)
        refine (HOF.out _ _ _ HOK.out (HNU.out.below HB0.out)).mono ?_
        rintro e W1 ⟨rfl, hb1⟩
        have HB1 := Lib.hid (HB0.out.trans (hb1.mono HB0.out.size))
        clear hb1
        refine ⟨_, rfl, HB1.out, ?_⟩
        simp only [List.getElem_toArray, List.getElem_cons_succ, List.getElem_cons_zero, Act.put, List.setIfInBounds_toArray, List.set_cons_zero, List.set_cons_succ]
        refine lexH_call 15 #[.agg ((ofN q.kind fun i => (listN q).getD i 0).cells a n c), .agg (q.cells a n c)] rfl rfl ?_ ?_
        focus (go_simp; done)
        refine (csame_any (ofN q.kind fun i => (listN q).getD i 0) q a a n c n c x x W1 (HS0.out.later (HB2.out.trans (HB1.out.mono HB2.out.size))) (HS0.out.later (HB2.out.trans (HB1.out.mono HB2.out.size)))).mono ?_
        rintro e W3 ⟨rfl, hb3⟩
        have HB3 := Lib.hid (HB1.out.trans (hb3.mono HB1.out.size))
        clear hb3
        refine ⟨_, rfl, HB3.out, ?_⟩
        simp only [List.getElem_toArray, List.getElem_cons_succ, List.getElem_cons_zero, Act.put, List.setIfInBounds_toArray, List.set_cons_zero, List.set_cons_succ]
        refine lexH_yieldE rfl rfl ?_
        apply Exists.intro
        refine ⟨fun W hW => ?_, ?_⟩
        focus (go_simp; exact rfl)
        simp only [List.getElem_toArray, List.getElem_cons_succ, List.getElem_cons_zero, Act.put, List.setIfInBounds_toArray, List.set_cons_zero, List.set_cons_succ]
        refine lexH_nil ?_
        go_wp2_with (fail)
        go_ret
        exact ⟨by rw [HE.out]; rfl, HB2.out.trans (HB3.out.mono HB2.out.size)⟩
    · have hn8I : (8 : Int) < n := by omega
      have HE := Lib.hid (show R = false by rw [HRR.out, decide_eq_false hn8]; simp)
      generalize hasK q.kind = H at *
      clear hok HRR
      go_wp2_with (fail)
      go_ret
      exact ⟨by rw [HE.out]; rfl, HB2.out⟩
end Go.Proofs.YtkmjkkeldbocdaaDoor
