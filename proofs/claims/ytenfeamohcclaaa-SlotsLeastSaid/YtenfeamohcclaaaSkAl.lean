/-
  slots: the landed All: a closure that asks each slot when it is its turn; Used: a range over it.
-/
import Derived.Test.YtenfeamohcclaaaSkAt
import Derived.Test.YtenfeamohcclaaaRangeP
import Derived.RangeFuncNested
import Derived.RangeFuncBound
import Derived.RangeFuncCalls
import Derived.RangeFuncLeaves
import Derived.RangeFuncFrom
import Derived.OwnWalkIn
import Derived.TacticsInMore
import Derived.LoopNIn
import Derived.LoopIn
namespace Go.Proofs.Ytenfeamohcclaaa
open Go.RowKit Go.Shelf Go
attribute [local go_sem] Oper.semAt_some

theorem allL_pre (f : Nat → Ownr) (i : Nat) : ∀ n, i ≤ n → ∃ T, allL f n = allL f i ++ T
  | 0, h => ⟨[], by rw [show i = 0 by omega]; simp⟩
  | n + 1, h => by
    by_cases e : i = n + 1
    · exact ⟨[], by rw [e]; simp⟩
    · obtain ⟨T, hT⟩ := allL_pre f i n (by omega)
      rw [allL_succ]
      by_cases hf : ownB f n = true
      · exact ⟨T ++ [n], by rw [if_pos hf, hT, List.append_assoc]⟩
      · exact ⟨T, by rw [if_neg hf]; exact hT⟩
theorem allL_at {f : Nat → Ownr} {i N : Nat} (hi : i < N) (h : ownB f i = true) :
    ∃ hj : (allL f i).length < (allL f N).length, (allL f N)[(allL f i).length]'hj = i ∧ (allL f (i + 1)).length = (allL f i).length + 1 := by
  obtain ⟨T, hT⟩ := allL_pre f (i + 1) N hi
  have e : allL f (i + 1) = allL f i ++ [i] := by rw [allL_succ, if_pos h]
  rw [e] at hT
  have hl : (allL f N).length = (allL f i).length + 1 + T.length := by rw [hT]; simp; omega
  refine ⟨by omega, ?_, by rw [e]; simp⟩
  have h2 : (allL f N)[(allL f i).length]? = some i := by rw [hT]; simp
  exact (List.getElem?_eq_some_iff.1 h2).2
theorem tkB_nat {f : Nat → Ownr} {N i : Nat} (hi : i < N) : tkB f N (i : Int) = ownB f i := by
  unfold tkB rgO ownB
  rw [if_pos ⟨by omega, by omega⟩, Int.toNat_natCast]
set_option maxRecDepth 100000 in
set_option maxHeartbeats 4000000 in
theorem tells_sk {w : World} {b1 N : Nat} {d : Option Nat} {m : Bool} {f : Nat → Ownr} {own : Nat → Prop} (I : SlI f N) (hc1 : w.cell? ⟨b1, 0, none⟩ = some (.pointer (d.map fun d => ⟨d, 0, none⟩)))
    (hA : ∀ W, (∀ k, own k → W.heap[k]? = w.heap[k]?) → SkMay W d m N f) (ho1 : own b1) (holt : ∀ k, own k → k < w.heap.size) :
    Tells Try.prog 28 #[.pointer (some ⟨b1, 0, none⟩)] inV (allL f N) own w := by
  intro q hq l Kp Pn J Jx W0 hW hK hJ hY h0
  have HW := Lib.hid hW
  have HC1 := Lib.hid hc1
  have HA := Lib.hid hA
  have HY := Lib.hid hY
  have HJ := Lib.hid hJ
  have HK := Lib.hid hK
  have HI := Lib.hid I
  have hN := I.le
  have h1 : 1 ≤ q := by omega
  have HSM := Lib.hid (show ∀ V, Kp W0 V → ∀ k, own k → V.heap[k]? = w.heap[k]? from fun V hV k hk => (hK.own hV k hk).trans (hW.block k (holt k hk)))
  have HK0 := Lib.hid (hK.below W0 W0 (Nat.le_refl _) (Below.refl _ _))
  clear hc1 hA hY hJ hK hW I
  have c1 : W0.cell? ⟨b1, 0, none⟩ = some (.pointer (d.map fun d => ⟨d, 0, none⟩)) := (World.cell?_of_block (a := ⟨b1, 0, none⟩) (HSM.out W0 HK0.out b1 ho1)).trans HC1.out
  have HL0 := Lib.hid (len_sk (HA.out W0 (HSM.out W0 HK0.out)))
  have HT := Lib.hid (fun W hW (x : Int) => taken_sk (HA.out W hW) HI.out x)
  generalize (Option.map (fun d => (⟨d, 0, none⟩ : Addr)) d) = D at *
  show CallsIn Fence.wide q Try.prog 28 #[.func (.yield l) #[] #[], .pointer (some ⟨b1, 0, none⟩)] W0 _
  refine callsIn_of_wp Try.func28 rfl trivial ?_ rfl
  simp only [Try.ntmps28, List.size_toArray, List.length_cons, List.length_nil, Nat.reduceAdd, Nat.reduceSub, Array.replicate_succ, Array.replicate_zero, List.push_toArray, List.append_toArray, List.nil_append, List.cons_append]
  gi_wp2_with (fail)
  refine ⟨trivial, (callsIn_wide.2 HL0.out).mono ?_⟩
  rintro e w' ⟨rfl, rfl⟩
  gi_wp2_with (fail)
  gi_loopw [6] (fun iv wr => ∃ (i : Nat) (pre : List (Fin (allL f N).length)), iv = .int .i64 i ∧ i ≤ N ∧ Hid (pre.map Fin.val = List.range (allL f i).length) ∧ Hid (J pre wr) ∧ Hid (Kp W0 wr)) (fun iv _ => N - (intOf iv).toNat)
  case atStart => exact ⟨0, [], rfl, Nat.zero_le _, Lib.hid rfl, Lib.hid h0, HK0⟩
  case round =>
    clear h0 c1
    obtain ⟨i, pre, rfl, hi, HPR, HJJ, HKW⟩ := hrel
    by_cases hil : i < N
    · have hilI : (i : Int) < (N : Int) := by omega
      have HSZ := Lib.hid (HK.out.size HKW.out)
      have c1 : wr.cell? ⟨b1, 0, none⟩ = some (.pointer D) := (World.cell?_of_block (a := ⟨b1, 0, none⟩) (HSM.out wr HKW.out b1 ho1)).trans HC1.out
      have HTi := Lib.hid (HT.out wr (HSM.out wr HKW.out) (i : Int))
      rw [tkB_nat hil] at HTi
      gi_wp2_with (fail)
      refine ⟨trivial, (callsIn_wide.2 HTi.out).mono ?_⟩
      rintro e w1 ⟨rfl, hb⟩
      have HJ1 := Lib.hid (HJ.out pre wr _ none HJJ.out (grown_none hb) (fun r e => by cases e))
      have HK1 := Lib.hid (HK.out.trans HKW.out (HK.out.below wr w1 HSZ.out hb))
      clear hb c1 HTi
      by_cases hF : ownB f i = true
      · obtain ⟨hj, hat, hnx⟩ := allL_at hil hF
        have HP2 := Lib.hid (show (pre ++ [(⟨_, hj⟩ : Fin (allL f N).length)]).map Fin.val = List.range (allL f (i + 1)).length by
          rw [List.map_append, HPR.out, hnx, List.range_succ]; rfl)
        have hYj := HY.out pre ⟨_, hj⟩ _ HJ1.out ⟨_, by rw [hnx] at HP2; exact hj, by rw [hnx] at HP2; exact HP2.out⟩
        dsimp only at hYj
        rw [hat] at hYj
        obtain ⟨fn, tmps, assign, body, hyy, hR⟩ := hYj
        have HLE := Lib.hid (show (allL f (i + 1)).length ≤ (allL f N).length from by omega)
        rw [hF]
        clear hat hnx hF
        gi_wp2_with (fail)
        refine hR.mono ?_
        rintro e W3 (⟨rfl, hJ3, hk3⟩ | ⟨rfl, hJx3⟩)
        · have HJ3 := Lib.hid hJ3
          have HK3 := Lib.hid (HK.out.trans HK1.out hk3)
          clear hJ3 hk3 hyy hR HJJ HKW
          gi_wp2_with (fail)
          go_roundw
          case rel => exact ⟨i + 1, _, by go_num, hil, HP2, HJ3, HK3⟩
          case measure => simp [intOf]; omega
        · clear hyy hR
          gi_wp2_with (fail)
          refine bodyPost_ret (results_none rfl _ _ _) rfl ?_
          exact ⟨⟨_, rfl⟩, .inr ⟨_, ⟨_, HLE.out, HP2.out⟩, hJx3⟩⟩
      · have HP1 := Lib.hid (show pre.map Fin.val = List.range (allL f (i + 1)).length from HPR.out.trans (by rw [allL_succ, if_neg hF]))
        rw [show ownB f i = false from by simpa using hF]
        clear hF HPR
        gi_wp2_with (fail)
        refine ⟨fun f e => (by cases e), ?_⟩
        gi_wp2_with (fail)
        go_roundw
        case rel => exact ⟨i + 1, pre, by go_num, hil, HP1, HJ1, HK1⟩
        case measure => simp [intOf]; omega
    · obtain rfl : i = N := by omega
      gi_wp2_with (fail)
      go_end0
      exact ⟨⟨_, rfl⟩, .inl ⟨pre, HPR.out, HJJ.out⟩⟩
theorem call_all (args : Array Value) (W : World) : (callFunc 28 args).run Try.prog W = .ok (.enter 28 args) W := by kernel_rfl
theorem all_not_nil (g : Nat) (lb : Array Value) (W : World) : (binOp .eql TSeq1 (.func (.func g) #[] lb) .nilFunc).run Try.prog W = .ok (.bool false) W := by kernel_rfl
/-- All, whatever slots. -/
theorem all_gen {X : Thg} {w : World} {d : Option Nat} {m : Bool} {N : Nat} {f : Nat → Ownr} {L : List Nat} (hL : allL f N = L) (I : SlI f N) (hlt : ∀ k, X.has k → k < w.heap.size)
    (hA : ∀ W, (∀ k, X.has k → W.heap[k]? = w.heap[k]?) → SkMay W d m N f) : Calls Try.prog 20 #[.pointer (d.map fun d => ⟨d, 0, none⟩)] w (TellS X L w) := by
  have hb := (Below.refl w.heap.size w).alloc (Nat.le_refl _) (.cells #[.pointer (d.map fun d => ⟨d, 0, none⟩)] 24)
  have hs : (w.alloc (.cells #[.pointer (d.map fun d => ⟨d, 0, none⟩)] 24)).heap.size = w.heap.size + 1 := by simp
  have HT := Lib.hid (show TellS X L w (.returned (.func (.func 28) #[] #[.pointer (some ⟨w.heap.size, 0, none⟩)])) (w.alloc (.cells #[.pointer (d.map fun d => ⟨d, 0, none⟩)] 24)) from
    ⟨_, _, fun k => X.has k ∨ k = w.heap.size, rfl, hb, call_all, all_not_nil _ _, fun k hk => (by
      rw [hs]
      rcases hk with h | rfl
      · exact ⟨.inl h, by have := hlt k h; omega⟩
      · exact ⟨.inr (Nat.le_refl _), by omega⟩),
      hL ▸ tells_sk I (by simp [go_sem]) (fun W hW => hA W (fun k hk => (hW k (.inl hk)).trans (hb.block k (hlt k hk)))) (.inr rfl) (fun k hk => by
        rw [hs]
        rcases hk with h | rfl
        · have := hlt k h; omega
        · omega)⟩)
  clear hb hs hA hlt
  generalize (Option.map (fun d => (⟨d, 0, none⟩ : Addr)) d) = D at *
  go_enter Try.func20, Try.ntmps20
  go_wp2_with (fail)
  go_ret
  exact HT.out
end Go.Proofs.Ytenfeamohcclaaa
