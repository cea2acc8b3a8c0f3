/-
  buddy: Blocks told to a body that lets a boxed slice grow: whatever relation the body keeps.
-/
import Derived.Test.YtilcdnkjfbkpnaaBuPw
import Derived.Maps.AppendAt
namespace Go.Proofs.Ytilcdnkjfbkpnaa
open Go.RowKit Go.Shelf Go
attribute [local go_sem] Oper.semAt_some

section
variable {d n : Nat} {mb : Nat → Nat} {tb : Nat} {L T : List (Int × Int)}
set_option maxRecDepth 100000 in
set_option maxHeartbeats 4000000 in
theorem blocks_inK (m : Nat) (hm : 1 ≤ m) (l Bn : Nat) (Kp : World → World → Prop) (P : Nat → World → Prop) (I : Inv n L T) (J Jx : List (Fin L.length) → World → Prop) (w0 : World)
    (hJ : AbidesFrom w0.heap.size J)
    (hY : ∀ pre (x : Fin L.length) W, J pre W → pre.length < L.length → YieldAt Fence.wide (m - 1) Try.prog l #[blk (L[x.val]'x.isLt)] W fun e W' =>
      (e = .returned (.bool true) ∧ J (pre ++ [x]) W' ∧ Kp W W') ∨ (e = .returned (.bool false) ∧ Jx (pre ++ [x]) W'))
    (N : NodeAt w0 d n mb tb L T) (hc : w0.cell? ⟨Bn, 0, none⟩ = some (.pointer (some ⟨d, 0, none⟩))) 
    (hKt : ∀ {A B C : World}, Kp A B → Kp B C → Kp A C) (hKb : ∀ W W', w0.heap.size ≤ W.heap.size → Below W.heap.size W W' → Kp W W') (hKs : ∀ {W W'}, Kp W W' → W.heap.size ≤ W'.heap.size)
    (hKx : ∀ {W W' : World} {xb : Nat} {y1 y2 : Int}, Kp W W' → P xb W → RowAt W xb 2 (blkV y1 y2) → RowAt W' xb 2 (blkV y1 y2)) (hKp : ∀ {W W' : World}, Kp w0 W → Below W.heap.size W W' → P W.heap.size W')
    (hKn : ∀ {W : World}, Kp w0 W → NodeAt W d n mb tb L T) (hKc : ∀ {W : World}, Kp w0 W → W.cell? ⟨Bn, 0, none⟩ = some (.pointer (some ⟨d, 0, none⟩))) (h0 : J [] w0) :
    CallsIn Fence.wide m Try.prog 36 #[.func (.yield l) #[] #[], .pointer (some ⟨Bn, 0, none⟩)] w0 fun e W' => (∃ v, e = .returned v) ∧
      ((∃ xs : List (Fin L.length), xs.map Fin.val = List.range L.length ∧ J xs W') ∨ (∃ pre : List (Fin L.length), (∃ k, k ≤ L.length ∧ pre.map Fin.val = List.range k) ∧ Jx pre W')) := by
  have HY := Lib.hid hY
  have HJ := Lib.hid hJ
  have HC := Lib.hid hc
  clear hY hJ hc
  refine callsIn_of_wp Try.func36 rfl trivial ?_ rfl
  simp only [Try.ntmps36, List.size_toArray, List.length_cons, List.length_nil, Nat.reduceAdd, Nat.reduceSub, Array.replicate_succ, Array.replicate_zero, List.push_toArray, List.append_toArray, List.nil_append, List.cons_append]
  have h1 := HC.out
  gi_wp2_with (fail)
  clear h1
  refine ⟨trivial, (callsIn_wide.2 (next_of N I (z := 0) (i := 0) (j := 0) rfl (by decide) (fun k _ h => absurd h (Nat.not_lt_zero _)) (fun hj => (N.bnd _ (List.getElem_mem hj)).1))).mono ?_⟩
  rintro e w1 ⟨rfl, hb1⟩
  have ha : Below w1.heap.size w1 (w1.alloc (.cells #[.int .i64 (nextA L 0).1, .int .i64 (nextA L 0).2] 42)) := (Below.refl _ w1).alloc (Nat.le_refl _) _
  have hb2 := hb1.trans (ha.mono hb1.size)
  have HX := Lib.hid (block_row w1 (nextA L 0).1 (nextA L 0).2)
  have HK := Lib.hid (hKb _ _ (Nat.le_refl _) hb2)
  have HP := Lib.hid (hKp (hKb _ _ (Nat.le_refl _) hb1) ha)
  have HJ0 := Lib.hid (HJ.out [] w0 _ none h0 (grown_none hb2) (fun r e => by cases e))
  have HLE := Lib.hid hb1.size
  obtain ⟨b, hb⟩ : ∃ b, decide (0 < L.length) = b := ⟨_, rfl⟩
  rw [hb]
  have HBD := Lib.hid hb
  have HNX := Lib.hid (show nextA L 0 = ((nextA L 0).1, (nextA L 0).2) from rfl)
  generalize (nextA L 0).1 = y1 at *
  generalize (nextA L 0).2 = y2 at *
  clear ha hb1 hb2 h0 hb
  gi_wp2_with (fail)
  generalize w1.heap.size = xb at *
  generalize w1.alloc (.cells #[.int .i64 y1, .int .i64 y2] 42) = w2 at *
  gi_loopw [3, 4] (fun x y wr => ∃ (j : Nat) (pre : List (Fin L.length)) (xb : Nat) (b : Bool) (y1 y2 : Int), x = .pointer (some ⟨xb, 0, none⟩) ∧ y = .bool b ∧ j ≤ L.length ∧ w0.heap.size ≤ xb ∧ Hid (decide (j < L.length) = b) ∧ Hid (nextA L j = (y1, y2)) ∧ Hid (pre.map Fin.val = List.range j) ∧ Hid (J pre wr) ∧ Hid (RowAt wr xb 2 (blkV y1 y2)) ∧ Hid (Kp w0 wr) ∧ Hid (P xb wr))
    (fun x y wr => seqM x y wr)
  case atStart => exact ⟨0, [], xb, b, y1, y2, rfl, rfl, Nat.zero_le _, HLE.out, HBD, HNX, rfl, HJ0.out, HX, HK, HP⟩
  case round =>
    clear HJ0 HX HK HP HBD HNX HLE
    obtain ⟨j, pre, xb, b, y1, y2, rfl, rfl, hj, hxb, HBD, HNX, HPR, HJJ, HX, HK, HP⟩ := hrel
    cases b with
    | false =>
      gi_wp2_with (fail)
      go_end0
      have : j = L.length := by have := of_decide_eq_false HBD.out; omega
      subst this
      exact ⟨⟨_, rfl⟩, .inl ⟨pre, HPR.out, HJJ.out⟩⟩
    | true =>
      have hjl : j < L.length := of_decide_eq_true HBD.out
      have c0 : wr.cell? ⟨xb, 0, none⟩ = some (.int .i64 y1) := HX.out.cell 0 (by decide)
      have c1 : wr.cell? ⟨xb, 1, none⟩ = some (.int .i64 y2) := HX.out.cell 1 (by decide)
      have hy : (y1, y2) = L[j] := by rw [← HNX.out]; exact getD_at hjl
      have hlen : pre.length < L.length := by
        have := congrArg List.length HPR.out
        simp at this
        omega
      have hbk : blk (L[j]'hjl) = .agg #[.int .i64 y1, .int .i64 y2] := by rw [← hy]; rfl
      have hYj := HY.out pre ⟨j, hjl⟩ wr HJJ.out hlen
      dsimp only at hYj
      rw [hbk] at hYj
      obtain ⟨fn, tmps, assign, body, hyy, hR⟩ := hYj
      have hM := seqM_yes c0
      have HM := Lib.hid hM
      have HP2 := Lib.hid (show (pre ++ [(⟨j, hjl⟩ : Fin L.length)]).map Fin.val = List.range (j + 1) by
        rw [List.map_append, HPR.out, List.range_succ]; rfl)
      clear hbk hM
      gi_wp2_with (fail)
      clear c0 c1
      refine hR.mono ?_
      rintro e W3 (⟨rfl, hJ3, hk3⟩ | ⟨rfl, hJx3⟩)
      · have HX3 := Lib.hid (hKx hk3 HP.out HX.out)
        have HK3 := Lib.hid (hKt HK.out hk3)
        have HJ3 := Lib.hid hJ3
        have HHY := Lib.hid hy
        have hy1 : 0 ≤ y1 ∧ y1 < 128 := by have h := N.bnd _ (List.getElem_mem hjl); rw [← hy] at h; exact h
        have c0 : W3.cell? ⟨xb, 0, none⟩ = some (.int .i64 y1) := HX3.out.cell 0 (by decide)
        have c1 : W3.cell? ⟨xb, 1, none⟩ = some (.int .i64 y2) := HX3.out.cell 1 (by decide)
        have cB : (W3.alloc (.cells #[.int .i64 y1, .int .i64 y2] 42)).cell? ⟨Bn, 0, none⟩ = some (.pointer (some ⟨d, 0, none⟩)) := by
          have h := hKc HK3.out
          rw [((Below.refl W3.heap.size W3).alloc (Nat.le_refl _) _).cell (p := ⟨Bn, 0, none⟩) (World.block_lt_of_cell? _ _ h)]
          exact h
        have ha : Below W3.heap.size W3 (W3.alloc (.cells #[.int .i64 y1, .int .i64 y2] 42)) := (Below.refl _ W3).alloc (Nat.le_refl _) _
        have HA := Lib.hid ha
        have HX4 := Lib.hid (block_row W3 y1 y2)
        have HN4 := Lib.hid ((hKn HK3.out).later ha)
        clear hJ3 hk3 hyy hR HX HJJ HX3 HP ha hy
        gi_wp2_with (fail)
        clear c0 c1 cB
        have hyj : ∀ k, ∀ hk : k < L.length, k < j + 1 → L[k].1 < ((y1.toNat + 1 : Nat) : Int) := fun k hk h => by
          have h2 := (I.ris.index hk hjl).1 (by omega)
          rw [← HHY.out] at h2
          have h2 : L[k].1 ≤ y1 := h2
          omega
        have hyk : ∀ hj : j + 1 < L.length, ((y1.toNat + 1 : Nat) : Int) ≤ L[j + 1].1 := fun h => by
          have h2 := List.pairwise_iff_getElem.1 I.ris j (j + 1) hjl h (by omega)
          rw [← HHY.out] at h2
          have h2 : y1 < L[j + 1].1 := h2
          omega
        have HYK := Lib.hid hyk
        refine ⟨trivial, (callsIn_wide.2 (next_of HN4.out I (z := y1 + 1) (i := y1.toNat + 1) (j := j + 1) (by omega) (by omega) hyj hyk)).mono ?_⟩
        rintro e W5 ⟨rfl, hb5⟩
        have hbX : Below W3.heap.size W3 W5 := HA.out.trans (hb5.mono HA.out.size)
        have HX5 := Lib.hid (HX4.out.later hb5)
        have HL3 := Lib.hid (show w0.heap.size ≤ W3.heap.size from hKs HK3.out)
        generalize hXB : W3.heap.size = xb2 at *
        have HXB := Lib.hid hXB
        clear hXB
        have b0 : W5.cell? ⟨xb2, 0, none⟩ = some (.int .i64 y1) := HX5.out.cell 0 (by decide)
        have b1 : W5.cell? ⟨xb2, 1, none⟩ = some (.int .i64 y2) := HX5.out.cell 1 (by decide)
        have f0 := HX5.out.frozen 0
        have f1 := HX5.out.frozen 1
        obtain ⟨b', hb'⟩ : ∃ b', decide (j + 1 < L.length) = b' := ⟨_, rfl⟩
        rw [hb']
        have HBD2 := Lib.hid hb'
        have HNX2 := Lib.hid (show nextA L (j + 1) = ((nextA L (j + 1)).1, (nextA L (j + 1)).2) from rfl)
        generalize (nextA L (j + 1)).1 = z1 at *
        generalize (nextA L (j + 1)).2 = z2 at *
        have hb6 : Below W3.heap.size W3 ((W5.setCell ⟨xb2, 0, none⟩ (.int .i64 z1)).setCell ⟨xb2, 1, none⟩ (.int .i64 z2)) := by
          rw [HXB.out]
          exact (hbX.setCell (p := ⟨xb2, 0, none⟩) (Nat.le_refl _) _).setCell (p := ⟨xb2, 1, none⟩) (Nat.le_refl _) _
        have HX6 := Lib.hid (set_block HX5.out z1 z2)
        have HJ6 := Lib.hid (HJ.out _ W3 _ none HJ3.out (grown_none hb6) (fun r e => by cases e))
        have HK6 := Lib.hid (hKt HK3.out (hKb _ _ (hKs HK3.out) hb6))
        have HP6 := Lib.hid (show P xb2 _ by
          have h := hKp HK3.out hb6
          rw [HXB.out] at h
          exact h)
        have HLT := Lib.hid (show seqM (.pointer (some ⟨xb2, 0, none⟩)) (.bool b') ((W5.setCell ⟨xb2, 0, none⟩ (.int .i64 z1)).setCell ⟨xb2, 1, none⟩ (.int .i64 z2)) < 200 - y1.toNat by
          cases b' with
          | false => rw [seqM_no]; omega
          | true =>
            have h := of_decide_eq_true HBD2.out
            rw [seqM_yes (HX6.out.cell 0 (by decide))]
            have h2 := HYK.out h
            have h3 : nextA L (j + 1) = L[j + 1] := getD_at h
            rw [← h3, HNX2.out] at h2
            have h2 : ((y1.toNat + 1 : Nat) : Int) ≤ z1 := h2
            omega)
        clear hb5 hb6 hbX hb' HX4 HX5 HJ3 HK3 HA HN4
        gi_wp2_with (fail)
        go_roundw
        case rel => exact ⟨j + 1, pre ++ [⟨j, hjl⟩], xb2, b', z1, z2, rfl, rfl, hjl, HL3.out, HBD2, HNX2, HP2, HJ6, HX6, HK6, HP6⟩
        case measure => rw [HM.out]; exact HLT.out
      · clear hyy hR
        gi_wp2_with (fail)
        refine bodyPost_ret (results_none rfl _ _ _) rfl ?_
        exact ⟨⟨_, rfl⟩, .inr ⟨_, ⟨j + 1, hjl, HP2.out⟩, hJx3⟩⟩
end
end Go.Proofs.Ytilcdnkjfbkpnaa
