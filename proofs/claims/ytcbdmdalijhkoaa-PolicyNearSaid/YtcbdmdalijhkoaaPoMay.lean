/-
  policy, the document's: May.
-/
import Derived.Test.YtcbdmdalijhkoaaPoCpB
import Derived.Test.YtcbdmdalijhkoaaRefWalk
namespace Go.Proofs.Ytcbdmdalijhkoaa
open Go.RowKit Go
attribute [local go_sem] Oper.semAt_some

theorem rhas_nat (m : Nat) (hm : m ≤ 255) (i : Nat) (hi : i < 8) (w : World) : Calls Try.prog 18 #[.int .u8 (m : Int), .int .i64 (i : Int)] w fun e w' => e = .returned (.bool (hasM m i)) ∧ w = w' := by
  have h := rhas_any m hm (i : Int) w
  rw [decide_eq_true (show (0 : Int) ≤ (i : Int) by omega), decide_eq_true (show (i : Int) ≤ 7 by omega), Bool.true_and, Bool.true_and, Int.toNat_natCast] at h
  exact h
/-- As far as i: how many bits; all of nodes. -/
def bitsU (g : Nat → Int) (m i b : Nat) : Prop := (inN m i).length = b ∧ ∀ x ∈ inN m i, (x : Int) < g 0
set_option maxRecDepth 100000 in
set_option maxHeartbeats 8000000 in
theorem rmayP_any (A : Array Value) (g : Nat → Int) (k m : Nat) (hk : k ≤ 255) (hm : m ≤ 255) (w : World) (hA : Cfg A g) :
    Calls Try.prog 7 #[.agg A, polV k m] w fun e w' => e = .returned (.bool (mayP g k m)) ∧ Below w.heap.size w w' := by
  have HC0 := Lib.hid (cpb_new w hA k m)
  have HA := Lib.hid hA
  cases hmb : mayB g with
  | false =>
    have HMB := Lib.hid hmb
    have HF := Lib.hid (show mayP g k m = false from by unfold mayP; rw [hmb]; rfl)
    clear hA hmb
    have C0 := HC0.out.cfg
    go_enter Try.func7, Try.ntmps7
    go_wp2_with (refine wpList_load_cfg rfl _ rfl _ rfl C0 ?_)
    refine (refmay_any A g _ HA.out).mono ?_
    rintro e w1 ⟨rfl, hb⟩
    rw [HMB.out]
    have HB1 := Lib.hid (HC0.out.later hb).bel
    clear hb C0
    go_wp2_with (fail)
    go_ret
    rw [HF.out]
    exact ⟨rfl, HB1.out⟩
  | true =>
    have HMB := Lib.hid hmb
    clear hA hmb
    have C0 := HC0.out.cfg
    go_enter Try.func7, Try.ntmps7
    go_wp2_with (refine wpList_load_cfg rfl _ rfl _ rfl C0 ?_)
    refine (refmay_any A g _ HA.out).mono ?_
    rintro e w1 ⟨rfl, hb⟩
    rw [HMB.out]
    have HC1 := Lib.hid (HC0.out.later hb)
    clear hb C0 HC0
    generalize hpb : w.heap.size + 1 = pb at *
    go_wp2_with (fail)
    go_loopw [5, 6] (fun bv iv wr => ∃ i b : Nat, iv = .int .i64 i ∧ i ≤ 8 ∧ bv = .int .i64 b ∧ b ≤ i ∧ Hid (bitsU g m i b) ∧ Hid (CpB w A g k m wr)) (fun _ iv _ => 8 - (intOf iv).toNat)
    case atStart => exact ⟨0, 0, rfl, by decide, rfl, Nat.le_refl _, Lib.hid ⟨rfl, fun x h => absurd h List.not_mem_nil⟩, HC1⟩
    case round =>
      clear HC1
      obtain ⟨i, b, rfl, hi, rfl, hbi, HU, HC⟩ := hrel
      have c0 := HC.out.cfg.cell 0 (by decide)
      have p0 := HC.out.k0
      have p1 := HC.out.k1
      rw [hpb] at p0 p1
      by_cases hlt : i < 8
      · have hltI : (i : Int) < 8 := by omega
        have HH := Lib.hid (rhas_nat m hm i hlt wr)
        cases hh : hasM m i with
        | false =>
          have HU2 := Lib.hid (show bitsU g m (i + 1) b from by
            have h2 := HU.out
            unfold bitsU at h2 ⊢
            rw [inN_succ, hh]
            exact h2)
          rw [hh] at HH
          clear hh
          go_wp2_with (fail)
          refine HH.out.mono ?_
          rintro e w2 ⟨rfl, rfl⟩
          clear c0 p0 p1
          go_wp2_with (fail)
          go_roundw
          case rel => exact ⟨i + 1, b, by go_num, hlt, rfl, by omega, HU2, HC⟩
          case measure => simp [intOf]; omega
        | true =>
          rw [hh] at HH
          by_cases hg : (i : Int) < g 0
          · have HU2 := Lib.hid (show bitsU g m (i + 1) (b + 1) from by
              obtain ⟨h2, h3⟩ := HU.out
              unfold bitsU
              rw [inN_succ, if_pos hh]
              exact ⟨by rw [List.length_append, h2]; rfl, fun x hx => by
                rcases List.mem_append.1 hx with h | h
                · exact h3 x h
                · rw [List.mem_singleton] at h
                  rw [h]
                  exact hg⟩)
            clear hh
            go_wp2_with (fail)
            refine HH.out.mono ?_
            rintro e w2 ⟨rfl, rfl⟩
            clear p0 p1
            go_wp2_with (fail)
            go_roundw
            case rel => exact ⟨i + 1, b + 1, by go_num, hlt, by go_num, by omega, HU2, HC⟩
            case measure => simp [intOf]; omega
          · have HF := Lib.hid (show mayP g k m = false from by
              unfold mayP
              rw [HMB.out, Bool.true_and, show (inN m 8).all (fun i => decide ((i : Int) < g 0)) = false from ?_, Bool.false_and]
              rw [List.all_eq_false]
              exact ⟨i, mem_inN.2 ⟨hlt, hh⟩, by simpa using hg⟩)
            clear hh
            go_wp2_with (fail)
            refine HH.out.mono ?_
            rintro e w2 ⟨rfl, rfl⟩
            clear p0 p1
            go_wp2_with (fail)
            go_ret
            rw [HF.out]
            exact ⟨rfl, HC.out.bel⟩
      · obtain rfl : i = 8 := by omega
        have HF := Lib.hid (show mayP g k m = (if k = 0 then decide (b = 0) else if k = 1 then decide (b = 1) else if k = 2 ∨ k = 3 then decide (0 < b) else false) from by
          obtain ⟨h2, h3⟩ := HU.out
          unfold mayP kindB
          rw [HMB.out, Bool.true_and, show (inN m 8).all (fun i => decide ((i : Int) < g 0)) = true from List.all_eq_true.2 (fun x hx => decide_eq_true (h3 x hx)), Bool.true_and, h2])
        clear c0 p1 HU
        rcases (show k = 0 ∨ k = 1 ∨ k = 2 ∨ k = 3 ∨ 4 ≤ k by omega) with rfl | rfl | rfl | rfl | h4
        · have HG := Lib.hid (show ((b : Int) == 0) = decide (b = 0) from by rw [Bool.eq_iff_iff]; simp)
          have HF2 := Lib.hid (show mayP g 0 m = decide (b = 0) from HF.out.trans (by simp))
          clear HF
          go_wp2_with (fail)
          go_ret
          refine ⟨?_, HC.out.bel⟩
          rw [HF2.out, ← HG.out]
          first | rfl | simp [go_sem]
        · have HG := Lib.hid (show ((b : Int) == 1) = decide (b = 1) from by rw [Bool.eq_iff_iff]; simp; omega)
          have HF2 := Lib.hid (show mayP g 1 m = decide (b = 1) from HF.out.trans (by simp))
          clear HF
          go_wp2_with (fail)
          go_ret
          refine ⟨?_, HC.out.bel⟩
          rw [HF2.out, ← HG.out]
          first | rfl | simp [go_sem]
        · have HG := Lib.hid (show decide ((0 : Int) < (b : Int)) = decide (0 < b) from by rw [Bool.eq_iff_iff]; simp)
          have HF2 := Lib.hid (show mayP g 2 m = decide (0 < b) from HF.out.trans (by simp))
          clear HF
          go_wp2_with (fail)
          go_ret
          refine ⟨?_, HC.out.bel⟩
          rw [HF2.out, ← HG.out]
          first | rfl | simp [go_sem]
        · have HG := Lib.hid (show decide ((0 : Int) < (b : Int)) = decide (0 < b) from by rw [Bool.eq_iff_iff]; simp)
          have HF2 := Lib.hid (show mayP g 3 m = decide (0 < b) from HF.out.trans (by simp))
          clear HF
          go_wp2_with (fail)
          go_ret
          refine ⟨?_, HC.out.bel⟩
          rw [HF2.out, ← HG.out]
          first | rfl | simp [go_sem]
        · have HF2 := Lib.hid (show mayP g k m = false from HF.out.trans (by rw [if_neg (by omega), if_neg (by omega), if_neg (by omega)]))
          clear HF
          have q0 : ((k : Int) == 0) = false := by simp; omega
          have q1 : ((k : Int) == 1) = false := by simp; omega
          have q2 : ((k : Int) == 2) = false := by simp; omega
          have q3 : ((k : Int) == 3) = false := by simp; omega
          go_wp2_with (fail)
          go_ret
          refine ⟨?_, HC.out.bel⟩
          rw [HF2.out]
          rfl
end Go.Proofs.Ytcbdmdalijhkoaa
