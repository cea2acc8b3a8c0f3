/-
  rmap: the landed Of: a closure that asks the map for each page.
-/
import Derived.Test.YtjjcbbnnilafdaaRmMs
import Derived.RangeFuncNested
import Derived.RangeFuncBound
import Derived.RangeFuncCalls
import Derived.RangeFuncLeaves
import Derived.RangeFuncFrom
import Derived.OwnWalkIn
import Derived.TacticsInMore
import Derived.LoopNIn
import Derived.LoopIn
namespace Go.Proofs.Ytjjcbbnnilafdaa
open Go.RowKit Go.Shelf Go Go.Maps
attribute [local go_sem] Oper.semAt_some

/-- What the iterator reads: the field, and each page's answer. -/
structure Asks (W : World) (d : Nat) (m : Option Nat) (p : Int) (F : Nat → Option Nat) : Prop where
  c1 : W.cell? ⟨d, 1, none⟩ = some (.map m)
  look : ∀ i : Nat, i < 1024 → (Instr.lookup 51 (.map m) (.agg #[.int .i64 p, .int .i64 (i : Int)]) true).run Try.prog W = .ok (.tuple #[.int .i64 (((F i).getD 0 : Nat) : Int), .bool (F i).isSome]) W
/-- The pages that are told. -/
def askL (F : Nat → Option Nat) : Nat → List (Nat × Nat)
  | 0 => []
  | n + 1 => match F n with
    | some x => askL F n ++ [(n, x)]
    | none => askL F n
theorem askL_pre (F : Nat → Option Nat) (i : Nat) : ∀ n, i ≤ n → ∃ T, askL F n = askL F i ++ T
  | 0, h => ⟨[], by rw [show i = 0 by omega]; simp⟩
  | n + 1, h => by
    by_cases e : i = n + 1
    · exact ⟨[], by rw [e]; simp⟩
    · obtain ⟨T, hT⟩ := askL_pre F i n (by omega)
      cases hf : F n with
      | none => exact ⟨T, by rw [askL, hf]; exact hT⟩
      | some x => exact ⟨T ++ [(n, x)], by rw [askL, hf]; dsimp only; rw [hT, List.append_assoc]⟩
theorem askL_at {F : Nat → Option Nat} {i x : Nat} (hi : i < 1024) (h : F i = some x) :
    ∃ hj : (askL F i).length < (askL F 1024).length, (askL F 1024)[(askL F i).length]'hj = (i, x) ∧ (askL F (i + 1)).length = (askL F i).length + 1 := by
  obtain ⟨T, hT⟩ := askL_pre F (i + 1) 1024 hi
  have e : askL F (i + 1) = askL F i ++ [(i, x)] := by rw [askL, h]
  rw [e] at hT
  have hl : (askL F 1024).length = (askL F i).length + 1 + T.length := by rw [hT]; simp; omega
  refine ⟨by omega, ?_, by rw [e]; simp⟩
  have h2 : (askL F 1024)[(askL F i).length]? = some (i, x) := by rw [hT]; simp
  exact (List.getElem?_eq_some_iff.1 h2).2
set_option maxRecDepth 100000 in
set_option maxHeartbeats 4000000 in
theorem tells_mp {w : World} {b1 b2 d : Nat} {m : Option Nat} {p : Int} {F : Nat → Option Nat} {own : Nat → Prop} (hc1 : w.cell? ⟨b1, 0, none⟩ = some (.pointer (some ⟨d, 0, none⟩))) (hc2 : w.cell? ⟨b2, 0, none⟩ = some (.int .i64 p))
    (hA : ∀ W, (∀ k, own k → W.heap[k]? = w.heap[k]?) → Asks W d m p F) (ho1 : own b1) (ho2 : own b2) (holt : ∀ k, own k → k < w.heap.size) :
    Tells Try.prog 27 #[.pointer (some ⟨b1, 0, none⟩), .pointer (some ⟨b2, 0, none⟩)] pfV (askL F 1024) own w := by
  intro q hq l Kp Pn J Jx W0 hW hK hJ hY h0
  have HW := Lib.hid hW
  have HC1 := Lib.hid hc1
  have HC2 := Lib.hid hc2
  have HA := Lib.hid hA
  have HY := Lib.hid hY
  have HJ := Lib.hid hJ
  have HK := Lib.hid hK
  have h1 : 1 ≤ q := by omega
  have HSM := Lib.hid (show ∀ V, Kp W0 V → ∀ k, own k → V.heap[k]? = w.heap[k]? from fun V hV k hk => (hK.own hV k hk).trans (hW.block k (holt k hk)))
  have HK0 := Lib.hid (hK.below W0 W0 (Nat.le_refl _) (Below.refl _ _))
  clear hc1 hc2 hA hY hJ hK hW
  have c1 : W0.cell? ⟨b1, 0, none⟩ = some (.pointer (some ⟨d, 0, none⟩)) := (World.cell?_of_block (a := ⟨b1, 0, none⟩) (HSM.out W0 HK0.out b1 ho1)).trans HC1.out
  show CallsIn Fence.wide q Try.prog 27 #[.func (.yield l) #[] #[], .pointer (some ⟨b1, 0, none⟩), .pointer (some ⟨b2, 0, none⟩)] W0 _
  refine callsIn_of_wp Try.func27 rfl trivial ?_ rfl
  simp only [Try.ntmps27, List.size_toArray, List.length_cons, List.length_nil, Nat.reduceAdd, Nat.reduceSub, Array.replicate_succ, Array.replicate_zero, List.push_toArray, List.append_toArray, List.nil_append, List.cons_append]
  gi_wp2_with (fail)
  gi_loopw [9] (fun iv wr => ∃ (i : Nat) (pre : List (Fin (askL F 1024).length)), iv = .int .i64 i ∧ i ≤ 1024 ∧ Hid (pre.map Fin.val = List.range (askL F i).length) ∧ Hid (J pre wr) ∧ Hid (Kp W0 wr)) (fun iv _ => 1024 - (intOf iv).toNat)
  case atStart => exact ⟨0, [], rfl, Nat.zero_le _, rfl, h0, HK0⟩
  case round =>
    clear h0 c1
    obtain ⟨i, pre, rfl, hi, HPR, HJJ, HKW⟩ := hrel
    by_cases hil : i < 1024
    · have hilI : (i : Int) < 1024 := by omega
      have hsame := HSM.out wr HKW.out
      have HSZ := Lib.hid (HK.out.size HKW.out)
      have c1 : wr.cell? ⟨b1, 0, none⟩ = some (.pointer (some ⟨d, 0, none⟩)) := (World.cell?_of_block (a := ⟨b1, 0, none⟩) (hsame b1 ho1)).trans HC1.out
      have c2 : wr.cell? ⟨b2, 0, none⟩ = some (.int .i64 p) := (World.cell?_of_block (a := ⟨b2, 0, none⟩) (hsame b2 ho2)).trans HC2.out
      have AS := Lib.hid (HA.out wr hsame)
      clear hsame
      have L0 := Lib.hid (show ∀ W, W = wr.drew → (loadVar 24 ⟨b1, 0, none⟩).run Try.prog W = .ok (.pointer (some ⟨d, 0, none⟩)) W from fun W hW => by
        subst hW
        exact run_loadVar_cell (fun _ => by kernel_rfl) c1)
      have L1 := Lib.hid (show ∀ W, W = wr.drew → (loadVar 51 ⟨d, 1, none⟩).run Try.prog W = .ok (.map m) W from fun W hW => by
        subst hW
        exact run_loadVar_cell (fun _ => by kernel_rfl) AS.out.c1)
      have L2 := Lib.hid (show ∀ W, W = wr.drew → (loadVar 3 ⟨b2, 0, none⟩).run Try.prog W = .ok (.int .i64 p) W from fun W hW => by
        subst hW
        exact run_loadVar_cell (fun _ => by kernel_rfl) c2)
      have L3 := Lib.hid (show ∀ W, W = wr.drew → (Instr.lookup 51 (.map m) (.agg #[.int .i64 p, .int .i64 (i : Int)]) true).run Try.prog W = .ok (.tuple #[.int .i64 (((F i).getD 0 : Nat) : Int), .bool (F i).isSome]) W from fun W hW => by
        subst hW
        have hsz : wr.drew.heap = wr.heap := rfl
        exact (HA.out wr.drew (fun k hk => (HSM.out wr HKW.out k hk))).look i hil)
      clear AS c1 c2
      gi_wp2_with (fail)
      refine wpIn_wide.2 ?_
      refine wp_region_lex1 (fun W => W = wr.drew) [(0, false), (1, false), (2, false), (3, false), (4, false), (5, false), (6, false), (7, false), (8, false), (9, false), (10, false), (11, false), (12, false)] (by kernel_rfl) (by kernel_rfl) rfl (by kernel_rfl) rfl ?_
      intro V0 hV0 hS0
      clear hS0
      refine lexH_load rfl rfl _ _ rfl rfl L0.out ?_
      simp only [List.getElem_toArray, List.getElem_cons_zero, Act.put, List.setIfInBounds_toArray, List.set_cons_zero, List.set_cons_succ]
      refine lexH_yieldE rfl rfl ?_
      apply Exists.intro
      refine ⟨fun W hW => ?_, ?_⟩
      focus (go_simp; exact rfl)
      simp only [List.getElem_toArray, List.getElem_cons_succ, List.getElem_cons_zero, Act.put, List.setIfInBounds_toArray, List.set_cons_zero, List.set_cons_succ]
      refine lexH_yieldE rfl rfl ?_
      apply Exists.intro
      refine ⟨fun W hW => ?_, ?_⟩
      focus (go_simp; exact rfl)
      simp only [List.getElem_toArray, List.getElem_cons_succ, List.getElem_cons_zero, Act.put, List.setIfInBounds_toArray, List.set_cons_zero, List.set_cons_succ]
      refine lexH_load rfl rfl _ _ rfl rfl L1.out ?_
      simp only [List.getElem_toArray, List.getElem_cons_succ, List.getElem_cons_zero, Act.put, List.setIfInBounds_toArray, List.set_cons_zero, List.set_cons_succ]
      refine lexH_load rfl rfl _ _ rfl rfl L2.out ?_
      simp only [List.getElem_toArray, List.getElem_cons_succ, List.getElem_cons_zero, Act.put, List.setIfInBounds_toArray, List.set_cons_zero, List.set_cons_succ]
      refine lexH_yieldE rfl rfl ?_
      apply Exists.intro
      refine ⟨fun W hW => ?_, ?_⟩
      focus (go_simp; exact rfl)
      simp only [List.getElem_toArray, List.getElem_cons_succ, List.getElem_cons_zero, Act.put, List.setIfInBounds_toArray, List.set_cons_zero, List.set_cons_succ]
      refine lexH_yieldE rfl rfl ?_
      apply Exists.intro
      refine ⟨fun W hW => ?_, ?_⟩
      focus (go_simp; exact rfl)
      simp only [List.getElem_toArray, List.getElem_cons_succ, List.getElem_cons_zero, Act.put, List.setIfInBounds_toArray, List.set_cons_zero, List.set_cons_succ]
      refine lexH_look rfl rfl _ _ _ rfl rfl rfl L3.out ?_
      simp only [List.getElem_toArray, List.getElem_cons_succ, List.getElem_cons_zero, Act.put, List.setIfInBounds_toArray, List.set_cons_zero, List.set_cons_succ]
      refine lexH_yieldE rfl rfl ?_
      apply Exists.intro
      refine ⟨fun W hW => ?_, ?_⟩
      focus (go_simp; exact rfl)
      simp only [List.getElem_toArray, List.getElem_cons_succ, List.getElem_cons_zero, Act.put, List.setIfInBounds_toArray, List.set_cons_zero, List.set_cons_succ]
      refine lexH_yieldE rfl rfl ?_
      apply Exists.intro
      refine ⟨fun W hW => ?_, ?_⟩
      focus (go_simp; exact rfl)
      simp only [List.getElem_toArray, List.getElem_cons_succ, List.getElem_cons_zero, Act.put, List.setIfInBounds_toArray, List.set_cons_zero, List.set_cons_succ]
      refine lexH_yieldE rfl rfl ?_
      apply Exists.intro
      refine ⟨fun W hW => ?_, ?_⟩
      focus (go_simp; exact rfl)
      simp only [List.getElem_toArray, List.getElem_cons_succ, List.getElem_cons_zero, Act.put, List.setIfInBounds_toArray, List.set_cons_zero, List.set_cons_succ]
      refine lexH_yieldE rfl rfl ?_
      apply Exists.intro
      refine ⟨fun W hW => ?_, ?_⟩
      focus (go_simp; exact rfl)
      simp only [List.getElem_toArray, List.getElem_cons_succ, List.getElem_cons_zero, Act.put, List.setIfInBounds_toArray, List.set_cons_zero, List.set_cons_succ]
      refine lexH_yieldE rfl rfl ?_
      apply Exists.intro
      refine ⟨fun W hW => ?_, ?_⟩
      focus (go_simp; exact rfl)
      simp only [List.getElem_toArray, List.getElem_cons_succ, List.getElem_cons_zero, Act.put, List.setIfInBounds_toArray, List.set_cons_zero, List.set_cons_succ]
      refine lexH_nil ?_
      have hb : Below wr.heap.size wr V0 := by rw [hV0]; exact below_drewN (Below.refl _ _) 1
      have HJ1 := Lib.hid (HJ.out pre wr _ none HJJ.out (grown_none hb) (fun r e => by cases e))
      have HK1 := Lib.hid (HK.out.trans HKW.out (HK.out.below wr V0 HSZ.out hb))
      clear hb hV0 L0 L1 L2 L3
      cases hF : F i with
      | none =>
        have HP1 := Lib.hid (show pre.map Fin.val = List.range (askL F (i + 1)).length from HPR.out.trans (by rw [askL, hF]))
        simp only [Option.getD_none, Option.isSome_none]
        clear hF HPR
        gi_wp2_with (fail)
        refine ⟨fun f e => (by cases e), ?_⟩
        gi_wp2_with (fail)
        go_roundw
        case rel => exact ⟨i + 1, pre, by go_num, hil, HP1, HJ1, HK1⟩
        case measure => simp [intOf]; omega
      | some x =>
        obtain ⟨hj, hat, hnx⟩ := askL_at hil hF
        have HP2 := Lib.hid (show (pre ++ [(⟨_, hj⟩ : Fin (askL F 1024).length)]).map Fin.val = List.range (askL F (i + 1)).length by
          rw [List.map_append, HPR.out, hnx, List.range_succ]; rfl)
        have hYj := HY.out pre ⟨_, hj⟩ _ HJ1.out ⟨_, by rw [hnx] at HP2; exact hj, by rw [hnx] at HP2; exact HP2.out⟩
        dsimp only at hYj
        rw [hat] at hYj
        obtain ⟨fn, tmps, assign, body, hyy, hR⟩ := hYj
        have HLE := Lib.hid (show (askL F (i + 1)).length ≤ (askL F 1024).length from by omega)
        simp only [Option.getD_some, Option.isSome_some]
        clear hat hnx hF
        gi_wp2_with (fail)
        refine hR.mono ?_
        rintro e W3 (⟨rfl, hJ3, hk3⟩ | ⟨rfl, hJx3⟩)
        · have HJ3 := Lib.hid hJ3
          have HK3 := Lib.hid (HK.out.trans HK1.out hk3)
          clear hJ3 hk3 hyy hR HJJ HKW
          gi_wp2_with (fail)
          go_roundw
          case rel => exact ⟨i + 1, _, by go_num, hil, HP2, HJ3, HK3⟩
          case measure => simp [intOf]; omega
        · clear hyy hR
          gi_wp2_with (fail)
          refine bodyPost_ret (results_none rfl _ _ _) rfl ?_
          exact ⟨⟨_, rfl⟩, .inr ⟨_, ⟨_, HLE.out, HP2.out⟩, hJx3⟩⟩
    · obtain rfl : i = 1024 := by omega
      gi_wp2_with (fail)
      go_end0
      exact ⟨⟨_, rfl⟩, .inl ⟨pre, HPR.out, HJJ.out⟩⟩
set_option maxRecDepth 100000 in
set_option maxHeartbeats 4000000 in
theorem tells_none {w : World} {b1 b2 : Nat} {own : Nat → Prop} (hc1 : w.cell? ⟨b1, 0, none⟩ = some (.pointer none)) :
    Tells Try.prog 27 #[.pointer (some ⟨b1, 0, none⟩), .pointer (some ⟨b2, 0, none⟩)] pfV [] own w := by
  intro q hq l Kp Pn J Jx W0 hW hK hJ hY h0
  have h1 : 1 ≤ q := by omega
  have hb1 := World.block_lt_of_cell? _ _ hc1
  have HJ := Lib.hid h0
  have c1 : W0.cell? ⟨b1, 0, none⟩ = some (.pointer none) := by rw [hW.cell (p := ⟨b1, 0, none⟩) hb1]; exact hc1
  clear hc1 hJ hY hK hW h0
  show CallsIn Fence.wide q Try.prog 27 #[.func (.yield l) #[] #[], .pointer (some ⟨b1, 0, none⟩), .pointer (some ⟨b2, 0, none⟩)] W0 _
  refine callsIn_of_wp Try.func27 rfl trivial ?_ rfl
  simp only [Try.ntmps27, List.size_toArray, List.length_cons, List.length_nil, Nat.reduceAdd, Nat.reduceSub, Array.replicate_succ, Array.replicate_zero, List.push_toArray, List.append_toArray, List.nil_append, List.cons_append]
  gi_wp2_with (fail)
  refine bodyPost_ret (results_none rfl _ _ _) rfl ?_
  exact ⟨⟨_, rfl⟩, .inl ⟨[], rfl, HJ.out⟩⟩
theorem call_of (args : Array Value) (W : World) : (callFunc 27 args).run Try.prog W = .ok (.enter 27 args) W := by kernel_rfl
theorem of_not_nil (g : Nat) (lb : Array Value) (W : World) : (binOp .eql TSeq2 (.func (.func g) #[] lb) .nilFunc).run Try.prog W = .ok (.bool false) W := by kernel_rfl
/-- The pages of a process, as they are asked for. -/
theorem askL_of (f : Nat → Ownr) (N : Nat) (p : Int) (F : Nat → Option Nat) (hF : ∀ i : Nat, (F i).map (fun (k : Nat) => (k : Int)) = fmO f N (p, (i : Int))) : ∀ n, askL F n = ofL f N p n
  | 0 => rfl
  | n + 1 => by
    have ih := askL_of f N p F hF n
    cases h : F n with
    | none =>
      have h2 := hF n
      rw [h] at h2
      rw [ofL_skipF h2.symm, askL, h]
      exact ih
    | some x =>
      have h2 := hF n
      rw [h] at h2
      obtain ⟨k, hk, hp, hf⟩ := ofL_takeF h2.symm
      have hk2 : (x : Int) = (k : Int) := hk
      obtain rfl : x = k := by omega
      rw [askL, h, ofL, if_pos hp, hf]
      dsimp only
      rw [ih]
/-- Of, where each page's answer is known. -/
theorem of_gen {X : Thg} {w : World} {d : Nat} {m : Option Nat} {p : Int} {F : Nat → Option Nat} {L : List (Nat × Nat)} (hL : askL F 1024 = L) (hlt : ∀ k, X.has k → k < w.heap.size)
    (hA : ∀ W, (∀ k, X.has k → W.heap[k]? = w.heap[k]?) → Asks W d m p F) : Calls Try.prog 19 #[.pointer (some ⟨d, 0, none⟩), .int .i64 p] w (TellR X L w) := by
  have hb1 := (Below.refl w.heap.size w).alloc (Nat.le_refl _) (.cells #[.pointer (some ⟨d, 0, none⟩)] 24)
  have hb := hb1.alloc hb1.size (.cells #[.int .i64 p] 3)
  have hs : ((w.alloc (.cells #[.pointer (some ⟨d, 0, none⟩)] 24)).alloc (.cells #[.int .i64 p] 3)).heap.size = w.heap.size + 2 := by simp
  have HT := Lib.hid (show TellR X L w (.returned (.func (.func 27) #[] #[.pointer (some ⟨w.heap.size, 0, none⟩), .pointer (some ⟨w.heap.size + 1, 0, none⟩)])) ((w.alloc (.cells #[.pointer (some ⟨d, 0, none⟩)] 24)).alloc (.cells #[.int .i64 p] 3)) from
    ⟨_, _, fun k => X.has k ∨ k = w.heap.size ∨ k = w.heap.size + 1, rfl, hb, call_of, of_not_nil _ _, fun k hk => (by
      rw [hs]
      rcases hk with h | rfl | rfl
      · exact ⟨.inl h, by have := hlt k h; omega⟩
      · exact ⟨.inr (Nat.le_refl _), by omega⟩
      · exact ⟨.inr (by omega), by omega⟩),
      hL ▸ tells_mp (by simp [go_sem]) (by simp [go_sem]) (fun W hW => hA W (fun k hk => (hW k (.inl hk)).trans (hb.block k (hlt k hk)))) (.inr (.inl rfl)) (.inr (.inr rfl)) (fun k hk => by
        rw [hs]
        rcases hk with h | rfl | rfl
        · have := hlt k h; omega
        · omega
        · omega)⟩)
  clear hb hb1 hs
  go_enter Try.func19, Try.ntmps19
  go_wp2_with (fail)
  go_ret
  exact HT.out
theorem of_none {X : Thg} {w : World} {p : Int} : Calls Try.prog 19 #[.pointer none, .int .i64 p] w (TellR X [] w) := by
  have hb1 := (Below.refl w.heap.size w).alloc (Nat.le_refl _) (.cells #[.pointer none] 24)
  have hb := hb1.alloc hb1.size (.cells #[.int .i64 p] 3)
  have hs : ((w.alloc (.cells #[.pointer none] 24)).alloc (.cells #[.int .i64 p] 3)).heap.size = w.heap.size + 2 := by simp
  have HT := Lib.hid (show TellR X [] w (.returned (.func (.func 27) #[] #[.pointer (some ⟨w.heap.size, 0, none⟩), .pointer (some ⟨w.heap.size + 1, 0, none⟩)])) ((w.alloc (.cells #[.pointer none] 24)).alloc (.cells #[.int .i64 p] 3)) from
    ⟨_, _, fun k => k = w.heap.size ∨ k = w.heap.size + 1, rfl, hb, call_of, of_not_nil _ _, fun k hk => (by
      rw [hs]
      rcases hk with rfl | rfl
      · exact ⟨.inr (Nat.le_refl _), by omega⟩
      · exact ⟨.inr (by omega), by omega⟩),
      tells_none (by simp [go_sem])⟩)
  clear hb hb1 hs
  go_enter Try.func19, Try.ntmps19
  go_wp2_with (fail)
  go_ret
  exact HT.out
end Go.Proofs.Ytjjcbbnnilafdaa
