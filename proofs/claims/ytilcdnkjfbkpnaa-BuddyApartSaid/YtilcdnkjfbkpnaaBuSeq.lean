/-
  buddy: Blocks, as an iterator: it tells the free blocks, whatever the body does that leaves the node alone.
-/
import Derived.Test.YtilcdnkjfbkpnaaBuNext
import Derived.RangeFuncNested
import Derived.RangeFuncBound
import Derived.RangeFuncCalls
import Derived.RangeFuncLeaves
import Derived.RangeFuncFrom
import Derived.Shelf.Abstract
import Derived.Shelf.RegionOpen
import Derived.OwnWalkIn
import Derived.TacticsInMore
import Derived.LoopNIn
import Derived.LoopIn
namespace Go.Proofs.Ytilcdnkjfbkpnaa
open Go.RowKit Go.Shelf Go
attribute [local go_sem] Oper.semAt_some

theorem blocks_any (s : Option Addr) (w : World) :
    Calls Try.prog 19 #[.pointer s] w fun e w' => e = .returned (.func (.func 36) #[] #[.pointer (some ⟨w.heap.size, 0, none⟩)]) ∧ w' = w.alloc (.cells #[.pointer s] 23) := by
  go_enter Try.func19, Try.ntmps19
  go_wp2_with (fail)
  go_ret
  exact ⟨rfl, rfl⟩

/-- What a round may turn: the blocks of C, and from B on what is no cells. -/
structure KpC (C : Nat → Prop) (B : Nat) (W W' : World) : Prop where
  size : W.heap.size ≤ W'.heap.size
  same : ∀ k o, W.heap[k]? = some o → ¬ C k → (k < B ∨ o.isCells = true) → W'.heap[k]? = some o
section
variable {C : Nat → Prop} {B : Nat} {W W' W'' : World}
theorem KpC.refl (C : Nat → Prop) (B : Nat) (W : World) : KpC C B W W := ⟨Nat.le_refl _, fun _ _ h _ _ => h⟩
theorem KpC.trans (h : KpC C B W W') (k : KpC C B W' W'') : KpC C B W W'' := ⟨Nat.le_trans h.size k.size, fun i o hi hc hb => k.same i o (h.same i o hi hc hb) hc hb⟩
theorem KpC.of_below (h : Below W.heap.size W W') : KpC C B W W' := ⟨h.size, fun k _ hk _ _ => (h.block k (Array.getElem?_eq_some_iff.1 hk).1).trans hk⟩
theorem KpC.of_only (h : Only C W W') : KpC C B W W' := ⟨h.size, fun k _ hk hc _ => (h.block k (Array.getElem?_eq_some_iff.1 hk).1 hc).trans hk⟩
theorem KpC.put (l : Nat) {o : Obj} (o' : Obj) (hB : B ≤ l) (hl : W.heap[l]? = some o) (ho : o.isCells = false) : KpC C B W (W.putObj l o') :=
  ⟨by simp [World.putObj], fun k x hk _ hb => (World.putObj_heap_other (fun e => by
    subst e
    rw [hl] at hk
    injection hk with hk
    subst hk
    rcases hb with h | h
    · omega
    · rw [ho] at h; cases h)).trans hk⟩
theorem KpC.row (h : KpC C B W W') {b n : Nat} {f : Nat → Value} (R : RowAt W b n f) (hc : ¬ C b) : RowAt W' b n f := by
  obtain ⟨A, t, hA, hf⟩ := R
  exact ⟨A, t, h.same b _ hA hc (.inr rfl), hf⟩
theorem KpC.cell (h : KpC C B W W') {b o : Nat} {v : Value} (hv : W.cell? ⟨b, o, none⟩ = some v) (hc : ¬ C b) : W'.cell? ⟨b, o, none⟩ = some v := by
  obtain ⟨x, hx, hxc⟩ := cells_of_cell hv
  exact (World.cell?_of_block (a := ⟨b, o, none⟩) ((h.same b x hx hc (.inr hxc)).trans hx.symm)).trans hv
theorem KpC.fmap (h : KpC C B W W') {α : Type} {R : Value → Option (MDat × List MemPlace)} {E : Elem R α} {b : Nat} {f : Int → Option α} (M : FMap Try.prog 3 E W b f) (hb : b < B) (hc : ¬ C b) : FMap Try.prog 3 E W' b f := by
  obtain ⟨D, l, ⟨es, clock, hm, r⟩, q⟩ := M
  exact ⟨D, l, ⟨es, clock, h.same b _ hm hc (.inl hb), r⟩, q⟩
theorem KpC.node (h : KpC C B W W') {d n : Nat} {mb : Nat → Nat} {tb : Nat} {L T : List (Int × Int)} (N : NodeAt W d n mb tb L T) (hd : ¬ C d) (ho : ∀ k, own6 mb tb k → k < B ∧ ¬ C k) : NodeAt W' d n mb tb L T :=
  ⟨h.row N.row hd, fun o hlo => h.fmap (N.free o hlo) (ho _ (.inr ⟨o, hlo, rfl⟩)).1 (ho _ (.inr ⟨o, hlo, rfl⟩)).2, h.fmap N.tkn (ho _ (.inl rfl)).1 (ho _ (.inl rfl)).2, N.inj, N.ntb, N.bnd, N.tbnd⟩
end
theorem grown_none {W W' : World} (h : Below W.heap.size W W') : W.grownBy W' none := ⟨h.os, h.tape, h.output, h.size, fun k hk _ => h.block k hk⟩

section
variable {d n : Nat} {mb : Nat → Nat} {tb : Nat} {L T : List (Int × Int)}
/-- A block's value. -/
def blk (p : Int × Int) : Value := .agg #[.int .i64 p.1, .int .i64 p.2]
/-- The j-th one. -/
def nextA (L : List (Int × Int)) (j : Nat) : Int × Int := L.getD j (0, 0)
theorem next_eq (L : List (Int × Int)) (j : Nat) : nextV L j = .tuple #[.agg #[.int .i64 (nextA L j).1, .int .i64 (nextA L j).2], .bool (decide (j < L.length))] := by
  unfold nextV nextA
  by_cases h : j < L.length
  · rw [dif_pos h, getD_at h, decide_eq_true h]
  · rw [dif_neg h, decide_eq_false h, List.getD_eq_getElem?_getD, List.getElem?_eq_none (by omega)]; rfl
theorem next_of {w : World} (N : NodeAt w d n mb tb L T) (I : Inv n L T) {z : Int} {i j : Nat} (hz : z = i) (hi : i ≤ 200) (h1 : ∀ k, ∀ hk : k < L.length, k < j → L[k].1 < (i : Int)) (h2 : ∀ hj : j < L.length, (i : Int) ≤ L[j].1) :
    Calls Try.prog 37 #[.pointer (some ⟨d, 0, none⟩), .int .i64 z] w fun e w' => e = .returned (.tuple #[.agg #[.int .i64 (nextA L j).1, .int .i64 (nextA L j).2], .bool (decide (j < L.length))]) ∧ Below w.heap.size w w' := by
  subst hz
  have h := next_any N I hi h1 h2
  rw [next_eq] at h
  exact h
/-- How much is left. -/
def seqM (x y : Value) (wr : World) : Nat :=
  match y with
  | .bool true => 200 - (match x with
    | .pointer (some p) => (match wr.cell? p with
      | some (.int _ q) => q.toNat
      | _ => 0)
    | _ => 0)
  | _ => 0
theorem seqM_no (x : Value) (wr : World) : seqM x (.bool false) wr = 0 := rfl
theorem seqM_yes {xb : Nat} {wr : World} {q : Int} (h : wr.cell? ⟨xb, 0, none⟩ = some (.int .i64 q)) : seqM (.pointer (some ⟨xb, 0, none⟩)) (.bool true) wr = 200 - q.toNat := by
  simp [seqM, h]
set_option maxRecDepth 100000 in
set_option maxHeartbeats 4000000 in
theorem blocks_in (m : Nat) (hm : 1 ≤ m) (l Bn B : Nat) (C : Nat → Prop) (I : Inv n L T) (J Jx : List (Fin L.length) → World → Prop) (w0 : World)
    (hJ : AbidesFrom w0.heap.size J)
    (hY : ∀ pre (x : Fin L.length) W, J pre W → pre.length < L.length → YieldAt Fence.wide (m - 1) Try.prog l #[blk (L[x.val]'x.isLt)] W fun e W' =>
      (e = .returned (.bool true) ∧ J (pre ++ [x]) W' ∧ KpC C B W W') ∨ (e = .returned (.bool false) ∧ Jx (pre ++ [x]) W'))
    (N : NodeAt w0 d n mb tb L T) (hc : w0.cell? ⟨Bn, 0, none⟩ = some (.pointer (some ⟨d, 0, none⟩))) (hd : ¬ C d) (ho : ∀ k, own6 mb tb k → k < B ∧ ¬ C k) (hBn : ¬ C Bn) (hB : B ≤ w0.heap.size) (hC : ∀ k, C k → k < B) (h0 : J [] w0) :
    CallsIn Fence.wide m Try.prog 36 #[.func (.yield l) #[] #[], .pointer (some ⟨Bn, 0, none⟩)] w0 fun e W' => (∃ v, e = .returned v) ∧
      ((∃ xs : List (Fin L.length), xs.map Fin.val = List.range L.length ∧ J xs W') ∨ (∃ pre : List (Fin L.length), (∃ k, k ≤ L.length ∧ pre.map Fin.val = List.range k) ∧ Jx pre W')) := by
  have HY := Lib.hid hY
  have HJ := Lib.hid hJ
  have HC := Lib.hid hc
  have HOW := Lib.hid ho
  have HCL := Lib.hid hC
  clear hY hJ hc ho hC
  refine callsIn_of_wp Try.func36 rfl trivial ?_ rfl
  simp only [Try.ntmps36, List.size_toArray, List.length_cons, List.length_nil, Nat.reduceAdd, Nat.reduceSub, Array.replicate_succ, Array.replicate_zero, List.push_toArray, List.append_toArray, List.nil_append, List.cons_append]
  have h1 := HC.out
  gi_wp2_with (fail)
  clear h1
  refine ⟨trivial, (callsIn_wide.2 (next_of N I (z := 0) (i := 0) (j := 0) rfl (by decide) (fun k _ h => absurd h (Nat.not_lt_zero _)) (fun hj => (N.bnd _ (List.getElem_mem hj)).1))).mono ?_⟩
  rintro e w1 ⟨rfl, hb1⟩
  have ha : Below w1.heap.size w1 (w1.alloc (.cells #[.int .i64 (nextA L 0).1, .int .i64 (nextA L 0).2] 42)) := (Below.refl _ w1).alloc (Nat.le_refl _) _
  have hb2 := hb1.trans (ha.mono hb1.size)
  have HX := Lib.hid (block_row w1 (nextA L 0).1 (nextA L 0).2)
  have HK := Lib.hid (KpC.of_below (C := C) (B := B) hb2)
  have HJ0 := Lib.hid (HJ.out [] w0 _ none h0 (grown_none hb2) (fun r e => by cases e))
  have HLE := Lib.hid hb1.size
  obtain ⟨b, hb⟩ : ∃ b, decide (0 < L.length) = b := ⟨_, rfl⟩
  rw [hb]
  have HBD := Lib.hid hb
  have HNX := Lib.hid (show nextA L 0 = ((nextA L 0).1, (nextA L 0).2) from rfl)
  generalize (nextA L 0).1 = y1 at *
  generalize (nextA L 0).2 = y2 at *
  clear ha hb1 hb2 h0 hb
  gi_wp2_with (fail)
  generalize w1.heap.size = xb at *
  generalize w1.alloc (.cells #[.int .i64 y1, .int .i64 y2] 42) = w2 at *
  gi_loopw [3, 4] (fun x y wr => ∃ (j : Nat) (pre : List (Fin L.length)) (xb : Nat) (b : Bool) (y1 y2 : Int), x = .pointer (some ⟨xb, 0, none⟩) ∧ y = .bool b ∧ j ≤ L.length ∧ w0.heap.size ≤ xb ∧ Hid (decide (j < L.length) = b) ∧ Hid (nextA L j = (y1, y2)) ∧ Hid (pre.map Fin.val = List.range j) ∧ Hid (J pre wr) ∧ Hid (RowAt wr xb 2 (blkV y1 y2)) ∧ Hid (KpC C B w0 wr))
    (fun x y wr => seqM x y wr)
  case atStart => exact ⟨0, [], xb, b, y1, y2, rfl, rfl, Nat.zero_le _, HLE.out, HBD, HNX, rfl, HJ0.out, HX, HK⟩
  case round =>
    clear HJ0 HX HK HBD HNX HLE
    obtain ⟨j, pre, xb, b, y1, y2, rfl, rfl, hj, hxb, HBD, HNX, HPR, HJJ, HX, HK⟩ := hrel
    cases b with
    | false =>
      gi_wp2_with (fail)
      go_end0
      have : j = L.length := by have := of_decide_eq_false HBD.out; omega
      subst this
      exact ⟨⟨_, rfl⟩, .inl ⟨pre, HPR.out, HJJ.out⟩⟩
    | true =>
      have hjl : j < L.length := of_decide_eq_true HBD.out
      have c0 : wr.cell? ⟨xb, 0, none⟩ = some (.int .i64 y1) := HX.out.cell 0 (by decide)
      have c1 : wr.cell? ⟨xb, 1, none⟩ = some (.int .i64 y2) := HX.out.cell 1 (by decide)
      have hy : (y1, y2) = L[j] := by rw [← HNX.out]; exact getD_at hjl
      have hlen : pre.length < L.length := by
        have := congrArg List.length HPR.out
        simp at this
        omega
      have hbk : blk (L[j]'hjl) = .agg #[.int .i64 y1, .int .i64 y2] := by rw [← hy]; rfl
      have hYj := HY.out pre ⟨j, hjl⟩ wr HJJ.out hlen
      dsimp only at hYj
      rw [hbk] at hYj
      obtain ⟨fn, tmps, assign, body, hyy, hR⟩ := hYj
      have hM := seqM_yes c0
      have HM := Lib.hid hM
      have HP2 := Lib.hid (show (pre ++ [(⟨j, hjl⟩ : Fin L.length)]).map Fin.val = List.range (j + 1) by
        rw [List.map_append, HPR.out, List.range_succ]; rfl)
      clear hbk hM
      gi_wp2_with (fail)
      clear c0 c1
      refine hR.mono ?_
      rintro e W3 (⟨rfl, hJ3, hk3⟩ | ⟨rfl, hJx3⟩)
      · have hxC : ¬ C xb := fun h => by have := HCL.out xb h; omega
        have HX3 := Lib.hid (hk3.row HX.out hxC)
        have HK3 := Lib.hid (HK.out.trans hk3)
        have HJ3 := Lib.hid hJ3
        have HHY := Lib.hid hy
        have hy1 : 0 ≤ y1 ∧ y1 < 128 := by have h := N.bnd _ (List.getElem_mem hjl); rw [← hy] at h; exact h
        have c0 : W3.cell? ⟨xb, 0, none⟩ = some (.int .i64 y1) := HX3.out.cell 0 (by decide)
        have c1 : W3.cell? ⟨xb, 1, none⟩ = some (.int .i64 y2) := HX3.out.cell 1 (by decide)
        have cB : (W3.alloc (.cells #[.int .i64 y1, .int .i64 y2] 42)).cell? ⟨Bn, 0, none⟩ = some (.pointer (some ⟨d, 0, none⟩)) := by
          have h := HK3.out.cell HC.out hBn
          rw [((Below.refl W3.heap.size W3).alloc (Nat.le_refl _) _).cell (p := ⟨Bn, 0, none⟩) (World.block_lt_of_cell? _ _ h)]
          exact h
        have ha : Below W3.heap.size W3 (W3.alloc (.cells #[.int .i64 y1, .int .i64 y2] 42)) := (Below.refl _ W3).alloc (Nat.le_refl _) _
        have HA := Lib.hid ha
        have HX4 := Lib.hid (block_row W3 y1 y2)
        have HN4 := Lib.hid ((HK3.out.node N hd HOW.out).later ha)
        clear hJ3 hk3 hyy hR HX HJJ HX3 ha hy
        gi_wp2_with (fail)
        clear c0 c1 cB
        have hyj : ∀ k, ∀ hk : k < L.length, k < j + 1 → L[k].1 < ((y1.toNat + 1 : Nat) : Int) := fun k hk h => by
          have h2 := (I.ris.index hk hjl).1 (by omega)
          rw [← HHY.out] at h2
          have h2 : L[k].1 ≤ y1 := h2
          omega
        have hyk : ∀ hj : j + 1 < L.length, ((y1.toNat + 1 : Nat) : Int) ≤ L[j + 1].1 := fun h => by
          have h2 := List.pairwise_iff_getElem.1 I.ris j (j + 1) hjl h (by omega)
          rw [← HHY.out] at h2
          have h2 : y1 < L[j + 1].1 := h2
          omega
        have HYK := Lib.hid hyk
        refine ⟨trivial, (callsIn_wide.2 (next_of HN4.out I (z := y1 + 1) (i := y1.toNat + 1) (j := j + 1) (by omega) (by omega) hyj hyk)).mono ?_⟩
        rintro e W5 ⟨rfl, hb5⟩
        have hbX : Below W3.heap.size W3 W5 := HA.out.trans (hb5.mono HA.out.size)
        have HX5 := Lib.hid (HX4.out.later hb5)
        have HL3 := Lib.hid (show w0.heap.size ≤ W3.heap.size from HK3.out.size)
        generalize hXB : W3.heap.size = xb2 at *
        have HXB := Lib.hid hXB
        clear hXB
        have b0 : W5.cell? ⟨xb2, 0, none⟩ = some (.int .i64 y1) := HX5.out.cell 0 (by decide)
        have b1 : W5.cell? ⟨xb2, 1, none⟩ = some (.int .i64 y2) := HX5.out.cell 1 (by decide)
        have f0 := HX5.out.frozen 0
        have f1 := HX5.out.frozen 1
        obtain ⟨b', hb'⟩ : ∃ b', decide (j + 1 < L.length) = b' := ⟨_, rfl⟩
        rw [hb']
        have HBD2 := Lib.hid hb'
        have HNX2 := Lib.hid (show nextA L (j + 1) = ((nextA L (j + 1)).1, (nextA L (j + 1)).2) from rfl)
        generalize (nextA L (j + 1)).1 = z1 at *
        generalize (nextA L (j + 1)).2 = z2 at *
        have hb6 : Below W3.heap.size W3 ((W5.setCell ⟨xb2, 0, none⟩ (.int .i64 z1)).setCell ⟨xb2, 1, none⟩ (.int .i64 z2)) := by
          rw [HXB.out]
          exact (hbX.setCell (p := ⟨xb2, 0, none⟩) (Nat.le_refl _) _).setCell (p := ⟨xb2, 1, none⟩) (Nat.le_refl _) _
        have HX6 := Lib.hid (set_block HX5.out z1 z2)
        have HJ6 := Lib.hid (HJ.out _ W3 _ none HJ3.out (grown_none hb6) (fun r e => by cases e))
        have HK6 := Lib.hid (HK3.out.trans (KpC.of_below hb6))
        have HLT := Lib.hid (show seqM (.pointer (some ⟨xb2, 0, none⟩)) (.bool b') ((W5.setCell ⟨xb2, 0, none⟩ (.int .i64 z1)).setCell ⟨xb2, 1, none⟩ (.int .i64 z2)) < 200 - y1.toNat by
          cases b' with
          | false => rw [seqM_no]; omega
          | true =>
            have h := of_decide_eq_true HBD2.out
            rw [seqM_yes (HX6.out.cell 0 (by decide))]
            have h2 := HYK.out h
            have h3 : nextA L (j + 1) = L[j + 1] := getD_at h
            rw [← h3, HNX2.out] at h2
            have h2 : ((y1.toNat + 1 : Nat) : Int) ≤ z1 := h2
            omega)
        clear hb5 hb6 hbX hb' HX4 HX5 HJ3 HK3 HA HN4
        gi_wp2_with (fail)
        go_roundw
        case rel => exact ⟨j + 1, pre ++ [⟨j, hjl⟩], xb2, b', z1, z2, rfl, rfl, hjl, HL3.out, HBD2, HNX2, HP2, HJ6, HX6, HK6⟩
        case measure => rw [HM.out]; exact HLT.out
      · clear hyy hR
        gi_wp2_with (fail)
        refine bodyPost_ret (results_none rfl _ _ _) rfl ?_
        exact ⟨⟨_, rfl⟩, .inr ⟨_, ⟨j + 1, hjl, HP2.out⟩, hJx3⟩⟩
end
end Go.Proofs.Ytilcdnkjfbkpnaa
