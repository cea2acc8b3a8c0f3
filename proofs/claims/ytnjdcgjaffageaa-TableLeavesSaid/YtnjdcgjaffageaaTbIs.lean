/-
  table: the landed Leaves: a closure that reads the memory in each round; the landed table is what the laws want.
-/
import Derived.Test.YtnjdcgjaffageaaTbSet
import Derived.RangeFuncNested
import Derived.RangeFuncBound
import Derived.RangeFuncCalls
import Derived.RangeFuncLeaves
import Derived.RangeFuncFrom
import Derived.OwnWalkIn
import Derived.TacticsInMore
import Derived.LoopNIn
import Derived.LoopIn
namespace Go.Proofs.Ytnjdcgjaffageaa
open Go.RowKit Go.Shelf Go
attribute [local go_sem] Oper.semAt_some

theorem MemAt.blocks {w w' : World} {M : MB} {ST : Nat → Nat} {B : Nat → UInt8} {K : Nat → Mk} (H : MemAt w M ST B K) (h : ∀ k, M.has k → w'.heap[k]? = w.heap[k]?) : MemAt w' M ST B K := by
  have hm := h M.m (.inl rfl)
  obtain ⟨k0, e0⟩ := H.c0
  obtain ⟨k1, f1, e1⟩ := H.c1
  obtain ⟨k2, f2, e2⟩ := H.c2
  exact ⟨⟨k0, (World.cell?_of_block (a := ⟨M.m, 0, none⟩) hm).trans e0⟩, ⟨k1, f1, (World.cell?_of_block (a := ⟨M.m, 1, none⟩) hm).trans e1⟩, ⟨k2, f2, (World.cell?_of_block (a := ⟨M.m, 2, none⟩) hm).trans e2⟩,
    H.starts.block (h _ (.inr (.inl rfl))), H.bytes.block (h _ (.inr (.inr (.inl rfl)))), H.marks.block (h _ (.inr (.inr (.inr rfl)))), H.st, H.n8, H.T4, H.T1, H.d1, H.d2, H.d3, H.d4, H.d5⟩
theorem leafL_pre (R : Nat → Nat) (i : Nat) : ∀ n, i ≤ n → ∃ T, leafL R n = leafL R i ++ T
  | 0, h => ⟨[], by rw [show i = 0 by omega]; simp⟩
  | n + 1, h => by
    by_cases e : i = n + 1
    · exact ⟨[], by rw [e]; simp⟩
    · obtain ⟨T, hT⟩ := leafL_pre R i n (by omega)
      rw [leafL_succ]
      split
      · exact ⟨T, hT⟩
      · exact ⟨T ++ [(n, R n)], by rw [hT, List.append_assoc]⟩
/-- The next one that is told. -/
theorem leafL_at (R : Nat → Nat) {i : Nat} (hi : i < 32) (h : R i ≠ 0) : ∃ hj : (leafL R i).length < (leafL R 32).length, (leafL R 32)[(leafL R i).length]'hj = (i, R i) ∧ (leafL R (i + 1)).length = (leafL R i).length + 1 := by
  obtain ⟨T, hT⟩ := leafL_pre R (i + 1) 32 hi
  have e : leafL R (i + 1) = leafL R i ++ [(i, R i)] := by rw [leafL_succ, if_neg h]
  rw [e] at hT
  have hl : (leafL R 32).length = (leafL R i).length + 1 + T.length := by rw [hT]; simp; omega
  refine ⟨by omega, ?_, by rw [e]; simp⟩
  have h2 : (leafL R 32)[(leafL R i).length]? = some (i, R i) := by rw [hT]; simp
  exact (List.getElem?_eq_some_iff.1 h2).2
set_option maxRecDepth 100000 in
set_option maxHeartbeats 4000000 in
theorem tells_tab {M : MB} {ST : Nat → Nat} {B : Nat → UInt8} {K : Nat → Mk} {R : Nat → Nat} (hlf : ∀ W, MemAt W M ST B K → ∀ i : Nat, i < 32 → Calls Try.prog 22 #[.pointer (some ⟨M.m, 0, none⟩), .int .i64 0, .int .i64 ((i : Int) * 32)] W fun e w' =>
      e = .returned (.tuple #[.int .i64 (R i), .int .i64 (if R i = 0 then 7 else 0)]) ∧ Below W.heap.size W w')
    {w : World} {b1 b2 : Nat} (hc1 : w.cell? ⟨b1, 0, none⟩ = some (.pointer (some ⟨M.m, 0, none⟩))) (hc2 : w.cell? ⟨b2, 0, none⟩ = some (.int .i64 0)) (hM : MemAt w M ST B K) :
    Tells Try.prog 25 #[.pointer (some ⟨b1, 0, none⟩), .pointer (some ⟨b2, 0, none⟩)] lfV (leafL R 32) (fun k => M.has k ∨ k = b1 ∨ k = b2) w := by
  intro q hq l Kp Pn J Jx W0 hW hK hJ hY h0
  have hB1 := World.block_lt_of_cell? _ _ hc1
  have hB2 := World.block_lt_of_cell? _ _ hc2
  have HC1 := Lib.hid (show W0.cell? ⟨b1, 0, none⟩ = some (.pointer (some ⟨M.m, 0, none⟩)) from by rw [hW.cell (p := ⟨b1, 0, none⟩) hB1]; exact hc1)
  have HC2 := Lib.hid (show W0.cell? ⟨b2, 0, none⟩ = some (.int .i64 0) from by rw [hW.cell (p := ⟨b2, 0, none⟩) hB2]; exact hc2)
  have HM := Lib.hid (hM.later hW)
  have HY := Lib.hid hY
  have HJ := Lib.hid hJ
  have HK := Lib.hid hK
  have HLF := Lib.hid hlf
  have h1 : 1 ≤ q := by omega
  clear hc1 hc2 hM hY hJ hK hW hB1 hB2 hlf
  show CallsIn Fence.wide q Try.prog 25 #[.func (.yield l) #[] #[], .pointer (some ⟨b1, 0, none⟩), .pointer (some ⟨b2, 0, none⟩)] W0 _
  refine callsIn_of_wp Try.func25 rfl trivial ?_ rfl
  simp only [Try.ntmps25, List.size_toArray, List.length_cons, List.length_nil, Nat.reduceAdd, Nat.reduceSub, Array.replicate_succ, Array.replicate_zero, List.push_toArray, List.append_toArray, List.nil_append, List.cons_append]
  gi_wp2_with (fail)
  gi_loopw [7] (fun iv wr => ∃ (i : Nat) (pre : List (Fin (leafL R 32).length)), iv = .int .i64 i ∧ i ≤ 32 ∧ Hid (pre.map Fin.val = List.range (leafL R i).length) ∧ Hid (J pre wr) ∧ Hid (Kp W0 wr)) (fun iv _ => 32 - (intOf iv).toNat)
  case atStart => exact ⟨0, [], rfl, Nat.zero_le _, rfl, h0, HK.out.below W0 W0 (Nat.le_refl _) (Below.refl _ _)⟩
  case round =>
    clear h0
    obtain ⟨i, pre, rfl, hi, HPR, HJJ, HKW⟩ := hrel
    by_cases hil : i < 32
    · have hilI : (i : Int) < 32 := by omega
      have hsame := HK.out.own HKW.out
      have c1 : wr.cell? ⟨b1, 0, none⟩ = some (.pointer (some ⟨M.m, 0, none⟩)) := (World.cell?_of_block (a := ⟨b1, 0, none⟩) (hsame b1 (.inr (.inl rfl)))).trans HC1.out
      have c2 : wr.cell? ⟨b2, 0, none⟩ = some (.int .i64 0) := (World.cell?_of_block (a := ⟨b2, 0, none⟩) (hsame b2 (.inr (.inr rfl)))).trans HC2.out
      have HMR := Lib.hid (HM.out.blocks (fun k hk => hsame k (.inl hk)))
      have HSZ := Lib.hid (HK.out.size HKW.out)
      clear hsame
      gi_wp2_with (fail)
      refine ⟨trivial, (callsIn_wide.2 (HLF.out wr HMR.out i hil)).mono ?_⟩
      rintro e W1 ⟨rfl, hb⟩
      have HJ1 := Lib.hid (HJ.out pre wr _ none HJJ.out (grown_none hb) (fun r e => by cases e))
      have HK1 := Lib.hid (HK.out.trans HKW.out (HK.out.below wr W1 HSZ.out hb))
      clear hb c1 c2
      by_cases h : R i = 0
      · have HP1 := Lib.hid (show pre.map Fin.val = List.range (leafL R (i + 1)).length from HPR.out.trans (show List.range (leafL R i).length = List.range (leafL R (i + 1)).length from by rw [leafL_succ R i, if_pos h]))
        rw [if_pos h]
        generalize R i = ri at *
        gi_wp2_with (fail)
        refine ⟨fun f e => (by cases e), ?_⟩
        gi_wp2_with (fail)
        go_roundw
        case rel => exact ⟨i + 1, pre, by go_num, hil, HP1, HJ1, HK1⟩
        case measure => simp [intOf]; omega
      · obtain ⟨hj, hat, hnx⟩ := leafL_at R hil h
        rw [if_neg h]
        have HP2 := Lib.hid (show (pre ++ [(⟨_, hj⟩ : Fin (leafL R 32).length)]).map Fin.val = List.range (leafL R (i + 1)).length by
          rw [List.map_append, HPR.out, hnx, List.range_succ]; rfl)
        have hYj := HY.out pre ⟨_, hj⟩ _ HJ1.out ⟨_, by rw [hnx] at HP2; exact hj, by rw [hnx] at HP2; exact HP2.out⟩
        dsimp only at hYj
        rw [hat] at hYj
        obtain ⟨fn, tmps, assign, body, hyy, hR⟩ := hYj
        have HLE := Lib.hid (show (leafL R (i + 1)).length ≤ (leafL R 32).length from by omega)
        clear hat hnx h
        generalize R i = ri at *
        gi_wp2_with (fail)
        refine hR.mono ?_
        rintro e W3 (⟨rfl, hJ3, hk3⟩ | ⟨rfl, hJx3⟩)
        · have HJ3 := Lib.hid hJ3
          have HK3 := Lib.hid (HK.out.trans HK1.out hk3)
          clear hJ3 hk3 hyy hR HJJ HKW
          gi_wp2_with (fail)
          go_roundw
          case rel => exact ⟨i + 1, _, by go_num, hil, HP2, HJ3, HK3⟩
          case measure => simp [intOf]; omega
        · clear hyy hR
          gi_wp2_with (fail)
          refine bodyPost_ret (results_none rfl _ _ _) rfl ?_
          exact ⟨⟨_, rfl⟩, .inr ⟨_, ⟨_, HLE.out, HP2.out⟩, hJx3⟩⟩
    · obtain rfl : i = 32 := by omega
      gi_wp2_with (fail)
      go_end0
      exact ⟨⟨_, rfl⟩, .inl ⟨pre, HPR.out, HJJ.out⟩⟩
theorem call_leaves (args : Array Value) (W : World) : (callFunc 25 args).run Try.prog W = .ok (.enter 25 args) W := by kernel_rfl
theorem leaves_not_nil (g : Nat) (lb : Array Value) (W : World) : (binOp .eql TSeq2 (.func (.func g) #[] lb) .nilFunc).run Try.prog W = .ok (.bool false) W := by kernel_rfl
section
variable {w : World} {M : MB} {ST : Nat → Nat} {B : Nat → UInt8} {K : Nat → Mk} {R : Nat → Nat} {E : Nat → Nat → Ent}
set_option maxRecDepth 100000 in
theorem leaves_lan (H : MemAt w M ST B K) (T : MemT M B R E) : Calls Try.prog 16 #[.pointer (some ⟨M.m, 0, none⟩), .int .i64 0] w (TellQ (thM M ST B K) (leafL R 32) w) := by
  have hb1 := (Below.refl w.heap.size w).alloc (Nat.le_refl _) (.cells #[.pointer (some ⟨M.m, 0, none⟩)] 34)
  have hb := hb1.alloc hb1.size (.cells #[.int .i64 0] 3)
  have hX : ∀ k, M.has k → k < w.heap.size := (thM M ST B K).lt w H
  have HT := Lib.hid (show TellQ (thM M ST B K) (leafL R 32) w (.returned (.func (.func 25) #[] #[.pointer (some ⟨w.heap.size, 0, none⟩), .pointer (some ⟨w.heap.size + 1, 0, none⟩)])) ((w.alloc (.cells #[.pointer (some ⟨M.m, 0, none⟩)] 34)).alloc (.cells #[.int .i64 0] 3)) from
    ⟨_, _, fun k => M.has k ∨ k = w.heap.size ∨ k = w.heap.size + 1, rfl, hb, call_leaves, leaves_not_nil _ _, fun k hk => (by
      have hs : ((w.alloc (.cells #[.pointer (some ⟨M.m, 0, none⟩)] 34)).alloc (.cells #[.int .i64 0] 3)).heap.size = w.heap.size + 2 := by simp
      rw [hs]
      rcases hk with h | rfl | rfl
      · exact ⟨.inl h, by have := hX k h; omega⟩
      · exact ⟨.inr (Nat.le_refl _), by omega⟩
      · exact ⟨.inr (by omega), by omega⟩),
      tells_tab (M := M) (ST := ST) (B := B) (K := K) (fun W HW i hi => leaf_any HW T (i * 32) i (R i) ((i : Int) * 32) (by simp) (by omega) (by omega) rfl) (by simp [go_sem]) (by simp [go_sem]) (H.later hb)⟩)
  clear hb hb1 hX H T
  go_enter Try.func16, Try.ntmps16
  go_wp2_with (fail)
  go_ret
  exact HT.out
end
theorem tb_ok : TabOk IsTab where
  toWordOk := word_lanok
  made := fun w A hA => tmade_any w A hA
  setLeaf := fun {X m R E w} p l _ hl h hA => by
    obtain ⟨M, ST, B, K, rfl, rfl, T⟩ := h
    exact setLeaf_lan hA T p l hl
  set := fun {X m R E w} p k n _ hk hn h hA => by
    obtain ⟨M, ST, B, K, rfl, rfl, T⟩ := h
    exact set_lan hA T p k n hk hn
  get := fun {X m R E w} p hp h hA => by
    obtain ⟨M, ST, B, K, rfl, rfl, T⟩ := h
    exact get_lan hA T p hp
  leaves := fun {X m R E w} h hA => by
    obtain ⟨M, ST, B, K, rfl, rfl, T⟩ := h
    exact leaves_lan hA T
end Go.Proofs.Ytnjdcgjaffageaa
