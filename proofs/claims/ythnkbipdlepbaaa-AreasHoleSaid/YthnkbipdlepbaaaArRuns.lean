/-
  areas: the landed Runs: the closure that tells a copy of the runs.
-/
import Derived.Test.YthnkbipdlepbaaaArNew
import Derived.RangeFuncNested
import Derived.RangeFuncBound
import Derived.RangeFuncCalls
import Derived.RangeFuncLeaves
import Derived.RangeFuncFrom
import Derived.OwnWalkIn
import Derived.TacticsInMore
import Derived.LoopNIn
import Derived.LoopIn
namespace Go.Proofs.Ythnkbipdlepbaaa
open Go.RowKit Go.Shelf Go
attribute [local go_sem] Oper.semAt_some

/-- Runs of an own row. -/
theorem owns_run {w : World} {B : Nat} {v : Value} {L : Rns} (h : w.ownsRow B TRun 3 v L.length (recV encR L)) {j : Nat} (hj : j < L.length) {y1 y2 y3 : Nat} (hy : L[j] = (y1, y2, y3)) :
    ∃ g c, v = .slice (some ⟨g, 0, none⟩) L.length c ∧ v.ownBlock = some g ∧ w.cell? ⟨g, j * 3, none⟩ = some (.int .i64 y1) ∧ w.cell? ⟨g, j * 3 + 1, none⟩ = some (.int .i64 y2) ∧ w.cell? ⟨g, j * 3 + 2, none⟩ = some (.int .u8 y3) := by
  obtain ⟨g, c, e, _, ho, _, hc, _⟩ := owns_where h (by omega)
  have hat := recV_at encR_len L j _ (List.getElem?_eq_getElem hj)
  rw [hy] at hat
  exact ⟨g, c, e, ho, hc (j * 3) _ (by omega) (hat 0 _ rfl), hc (j * 3 + 1) _ (by omega) (hat 1 _ rfl), hc (j * 3 + 2) _ (by omega) (hat 2 _ rfl)⟩
theorem owns_cells {w : World} {B n s : Nat} {T : TypeId} {v : Value} {xs : List Value} (h : w.ownsRow B T s v n xs) {g : Nat} (hg : v.ownBlock = some g) : ∃ A t, w.heap[g]? = some (.cells A t (0, 0)) := by
  obtain ⟨_, ⟨rfl, _⟩ | ⟨g', c, cur, rfl, _, hh, _⟩⟩ := h
  · cases hg
  · cases hg
    exact ⟨cur, T, hh⟩
set_option maxRecDepth 100000 in
set_option maxHeartbeats 4000000 in
theorem tells_ar {w : World} {Bn d : Nat} {L : Rns} (hc : w.cell? ⟨Bn, 0, none⟩ = some (.pointer (some ⟨d, 0, none⟩))) (hA : AAt w d L) (hl1 : L.length ≤ 32) :
    Tells Try.prog 36 #[.pointer (some ⟨Bn, 0, none⟩)] (fun x => #[runV x]) L (fun _ => False) w := by
  intro m hm l Kp Pn J Jx W0 hW hK hJ hY h0
  have hBn := World.block_lt_of_cell? _ _ hc
  have HC := Lib.hid (show W0.cell? ⟨Bn, 0, none⟩ = some (.pointer (some ⟨d, 0, none⟩)) from by rw [hW.cell (p := ⟨Bn, 0, none⟩) hBn]; exact hc)
  have HA := Lib.hid (hA.later hW)
  have HY := Lib.hid hY
  have HJ := Lib.hid hJ
  have HK := Lib.hid hK
  have H0 := Lib.hid h0
  have hm1 : 1 ≤ m := by omega
  clear hc hA hY hJ hK hW hBn h0
  show CallsIn Fence.wide m Try.prog 36 #[.func (.yield l) #[] #[], .pointer (some ⟨Bn, 0, none⟩)] W0 _
  refine callsIn_of_wp Try.func36 rfl trivial ?_ rfl
  simp only [Try.ntmps36, List.size_toArray, List.length_cons, List.length_nil, Nat.reduceAdd, Nat.reduceSub, Array.replicate_succ, Array.replicate_zero, List.push_toArray, List.append_toArray, List.nil_append, List.cons_append]
  have cs := HC.out
  gi_wp2_with (fail)
  clear cs
  refine ⟨trivial, (callsIn_wide.2 (aall_any HA.out hl1)).mono ?_⟩
  rintro e W1 ⟨rfl, hb1⟩
  have HB1 := Lib.hid hb1
  have HA1 := Lib.hid (HA.out.later hb1)
  clear hb1
  gi_wp2_with (fail)
  refine ⟨trivial, (callsIn_wide.2 (clone_runs (AAt.src HA1.out hl1) (Nat.le_trans hl1 (by decide)))).mono ?_⟩
  rintro e W2 ⟨v, rfl, ho, hb2⟩
  obtain ⟨va, vc, rfl, _⟩ := owns_slice ho
  have HB2 := Lib.hid (HB1.out.trans (hb2.mono HB1.out.size))
  have HO := Lib.hid ho
  have HJ2 := Lib.hid (HJ.out [] W0 _ none H0.out (grown_none HB2.out) (fun r e => by cases e))
  have HK0 := Lib.hid (HK.out.below W0 W2 (Nat.le_refl _) HB2.out)
  have HPN := Lib.hid (show ∀ g, (Value.slice va L.length vc).ownBlock = some g → Pn g W2 from fun g hg => HK.out.new (HK.out.below W0 W0 (Nat.le_refl _) (Below.refl _ _)) HB2.out (Nat.le_trans HB1.out.size (ho.lt g hg).1))
  clear ho hb2 H0
  gi_wp2_with (fail)
  gi_loopw [9] (fun i wr => ∃ (j : Nat) (pre : List (Fin L.length)), i = .int .i64 j ∧ j ≤ L.length ∧ Hid (pre.map Fin.val = List.range j) ∧ Hid (J pre wr) ∧ Hid (Kp W0 wr) ∧ Hid (∀ g, (Value.slice va L.length vc).ownBlock = some g → Pn g wr ∧ wr.heap[g]? = W2.heap[g]?)) (fun i _ => L.length - (intOf i).toNat)
  case atStart => exact ⟨0, [], rfl, Nat.zero_le _, rfl, HJ2, HK0, Lib.hid (fun g hg => ⟨HPN.out g hg, rfl⟩)⟩
  case round =>
    obtain ⟨j, pre, rfl, hj, HPR, HJJ, HKW, HG⟩ := hrel
    by_cases hjl : j < L.length
    · obtain ⟨q, hq⟩ : ∃ q, L[j]'hjl = q := ⟨_, rfl⟩
      obtain ⟨y1, y2, y3⟩ := q
      obtain ⟨g, c, hv, hgo, c0, c1, c2⟩ := owns_run HO.out hjl hq
      simp only [Value.slice.injEq] at hv
      obtain ⟨rfl, _, rfl⟩ := hv
      have hblk := (HG.out g hgo).2
      have hPg := (HG.out g hgo).1
      obtain ⟨A, t, hob⟩ := owns_cells HO.out hgo
      have hjI : (j : Int) < (L.length : Int) := by omega
      have k0 := (World.cell?_of_block (a := ⟨g, j * 3, none⟩) hblk).trans c0
      have k1 := (World.cell?_of_block (a := ⟨g, j * 3 + 1, none⟩) hblk).trans c1
      have k2 := (World.cell?_of_block (a := ⟨g, j * 3 + 2, none⟩) hblk).trans c2
      have HQ := Lib.hid hq
      have HNR := Lib.hid (run_row wr (y1, y2, y3))
      have hb := (Below.refl wr.heap.size wr).alloc (Nat.le_refl _) (.cells #[.int .i64 y1, .int .i64 y2, .int .u8 y3] TRun)
      have hglt : g < wr.heap.size := (Array.getElem?_eq_some_iff.1 (hblk.trans hob)).1
      have HGA := Lib.hid (show Pn g (wr.alloc (.cells #[.int .i64 y1, .int .i64 y2, .int .u8 y3] TRun)) ∧ (wr.alloc (.cells #[.int .i64 y1, .int .i64 y2, .int .u8 y3] TRun)).heap[g]? = some (.cells A t (0, 0)) from ⟨HK.out.lat hPg hglt (HK.out.size HKW.out) hb, (hb.block g hglt).trans (hblk.trans hob)⟩)
      have hJ2 := HJ.out pre wr _ none HJJ.out (grown_none hb) (fun r e => by cases e)
      have HK2 := Lib.hid (HK.out.trans HKW.out (HK.out.below wr _ (HK.out.size HKW.out) hb))
      have HP2 := Lib.hid (show (pre ++ [(⟨j, hjl⟩ : Fin L.length)]).map Fin.val = List.range (j + 1) by
        rw [List.map_append, HPR.out, List.range_succ]; rfl)
      have hYj := HY.out pre ⟨j, hjl⟩ _ hJ2 ⟨j + 1, hjl, HP2.out⟩
      dsimp only at hYj
      rw [hq] at hYj
      unfold runV at hYj
      dsimp only at hYj
      obtain ⟨fn, tmps, assign, body, hyy, hR⟩ := hYj
      have HOB := Lib.hid hob
      have HGO := Lib.hid hgo
      clear c0 c1 c2 hblk hb hJ2 hq hPg hob hgo hglt
      have m0 := HNR.out.cell 0 (by decide)
      have m1 := HNR.out.cell 1 (by decide)
      have m2 := HNR.out.cell 2 (by decide)
      simp only [rnV, if_true, if_false, Nat.reduceEqDiff] at m0 m1 m2
      gi_wp2_with (fail)
      clear m0 m1 m2 k0 k1 k2
      refine hR.mono ?_
      rintro e W3 (⟨rfl, hJ3, hk3⟩ | ⟨rfl, hJx3⟩)
      · have HJ3 := Lib.hid hJ3
        have HK3 := Lib.hid (HK.out.trans HK2.out hk3)
        have h3 := HK.out.keep hk3 HGA.out.1 HGA.out.2 rfl
        have HG3 := Lib.hid (show ∀ g', (Value.slice (some ⟨g, 0, none⟩) L.length vc).ownBlock = some g' → Pn g' W3 ∧ W3.heap[g']? = W2.heap[g']? from fun g' hg' => by
          obtain rfl : g = g' := Option.some.inj (HGO.out.symm.trans hg')
          exact ⟨h3.2, h3.1.trans HOB.out.symm⟩)
        clear hJ3 hk3 hyy hR HJJ HKW h3
        gi_wp2_with (fail)
        go_roundw
        case rel => exact ⟨j + 1, _, by go_num, hjl, HP2, HJ3, HK3, HG3⟩
        case measure => simp [intOf]; omega
      · clear hyy hR
        gi_wp2_with (fail)
        refine bodyPost_ret (results_none rfl _ _ _) rfl ?_
        exact ⟨⟨_, rfl⟩, .inr ⟨_, ⟨j + 1, hjl, HP2.out⟩, hJx3⟩⟩
    · obtain rfl : j = L.length := by omega
      gi_wp2_with (fail)
      go_end0
      exact ⟨⟨_, rfl⟩, .inl ⟨pre, HPR.out, HJJ.out⟩⟩
set_option maxRecDepth 100000 in
set_option maxHeartbeats 4000000 in
theorem tells_no {w : World} {Bn : Nat} (hc : w.cell? ⟨Bn, 0, none⟩ = some (.pointer none)) :
    Tells Try.prog 36 #[.pointer (some ⟨Bn, 0, none⟩)] (fun x => #[runV x]) [] (fun _ => False) w := by
  intro m hm l Kp Pn J Jx W0 hW hK hJ hY h0
  have hBn := World.block_lt_of_cell? _ _ hc
  have HC := Lib.hid (show W0.cell? ⟨Bn, 0, none⟩ = some (.pointer none) from by rw [hW.cell (p := ⟨Bn, 0, none⟩) hBn]; exact hc)
  have HJ := Lib.hid hJ
  have H0 := Lib.hid h0
  have hm1 : 1 ≤ m := by omega
  clear hc hY hJ hK hW hBn h0
  show CallsIn Fence.wide m Try.prog 36 #[.func (.yield l) #[] #[], .pointer (some ⟨Bn, 0, none⟩)] W0 _
  refine callsIn_of_wp Try.func36 rfl trivial ?_ rfl
  simp only [Try.ntmps36, List.size_toArray, List.length_cons, List.length_nil, Nat.reduceAdd, Nat.reduceSub, Array.replicate_succ, Array.replicate_zero, List.push_toArray, List.append_toArray, List.nil_append, List.cons_append]
  have cs := HC.out
  gi_wp2_with (fail)
  clear cs
  refine ⟨trivial, (callsIn_wide.2 (aall_no _)).mono ?_⟩
  rintro e W1 ⟨rfl, rfl⟩
  gi_wp2_with (fail)
  refine ⟨trivial, (callsIn_wide.2 (clone_none _)).mono ?_⟩
  rintro e W2 ⟨rfl, hb2⟩
  have HJ2 := Lib.hid (HJ.out [] W0 _ none H0.out (grown_none hb2) (fun r e => by cases e))
  clear hb2 H0
  gi_wp2_with (fail)
  gi_loopw [9] (fun i wr => i = .int .i64 0 ∧ Hid (J [] wr)) (fun _ _ => 0)
  case atStart => exact ⟨rfl, HJ2⟩
  case round =>
    obtain ⟨rfl, HJJ⟩ := hrel
    gi_wp2_with (fail)
    go_end0
    exact ⟨⟨_, rfl⟩, .inl ⟨[], rfl, HJJ.out⟩⟩
section
variable {w : World} {d : Nat} {f : Nat → Nat}
theorem call_runs : ∀ args W, (callFunc 36 args).run Try.prog W = .ok (.enter 36 args) W := enters_of Try.func36 (by kernel_rfl) rfl
theorem func_not_nil (k : FuncId) (xs lb : Array Value) (W : World) : (binOp .eql TSeq (.func (.func k) xs lb) .nilFunc).run Try.prog W = .ok (.bool false) W := by kernel_rfl
set_option maxRecDepth 100000 in
theorem aruns_any (h : IsAr (thA d (rns f)) d f) (hA : AAt w d (rns f)) : Calls Try.prog 23 #[.pointer (some ⟨d, 0, none⟩)] w (TellP (thA d (rns f)) (rns f) w) := by
  have hb := (Below.refl w.heap.size w).alloc (Nat.le_refl _) (.cells #[.pointer (some ⟨d, 0, none⟩)] 23)
  have HT := Lib.hid (show TellP (thA d (rns f)) (rns f) w (.returned (.func (.func 36) #[] #[.pointer (some ⟨w.heap.size, 0, none⟩)])) (w.alloc (.cells #[.pointer (some ⟨d, 0, none⟩)] 23)) from
    ⟨_, _, fun _ => False, rfl, hb, call_runs, func_not_nil _ _ _, fun _ hk => hk.elim, tells_ar (by simp [go_sem]) (RowAt.later hA hb) h.2.2.2⟩)
  clear hb
  go_enter Try.func23, Try.ntmps23
  go_wp2_with (fail)
  go_ret
  exact HT.out
set_option maxRecDepth 100000 in
theorem aruns_no (w : World) : Calls Try.prog 23 #[.pointer none] w (TellP Thg.no [] w) := by
  have hb := (Below.refl w.heap.size w).alloc (Nat.le_refl _) (.cells #[.pointer none] 23)
  have HT := Lib.hid (show TellP Thg.no [] w (.returned (.func (.func 36) #[] #[.pointer (some ⟨w.heap.size, 0, none⟩)])) (w.alloc (.cells #[.pointer none] 23)) from
    ⟨_, _, fun _ => False, rfl, hb, call_runs, func_not_nil _ _ _, fun _ hk => hk.elim, tells_no (by simp [go_sem])⟩)
  clear hb
  go_enter Try.func23, Try.ntmps23
  go_wp2_with (fail)
  go_ret
  exact HT.out
end
end Go.Proofs.Ythnkbipdlepbaaa
