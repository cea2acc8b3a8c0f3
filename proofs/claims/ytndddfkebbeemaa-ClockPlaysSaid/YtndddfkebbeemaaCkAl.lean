/-
  clock: the landed All: a closure that walks a copy of the ring, and asks Has ahead of each yield.
-/
import Derived.Test.YtndddfkebbeemaaCkNw
import Derived.Test.YtndddfkebbeemaaRangeP
import Derived.RangeFuncNested
import Derived.RangeFuncBound
import Derived.RangeFuncCalls
import Derived.RangeFuncLeaves
import Derived.RangeFuncFrom
import Derived.OwnWalkIn
import Derived.TacticsInMore
import Derived.LoopNIn
import Derived.LoopIn
namespace Go.Proofs.Ytndddfkebbeemaa
open Go.RowKit Go.Shelf Go
attribute [local go_sem] Oper.semAt_some

theorem cells_some {W : World} {a : Addr} (h : (W.cell? a).isSome = true) : ∃ o, W.heap[a.block]? = some o ∧ o.isCells = true := by
  unfold World.cell? at h
  cases hb : W.heap[a.block]? with
  | none => simp [hb] at h
  | some o =>
    refine ⟨o, rfl, ?_⟩
    cases o <;> simp [hb] at h <;> rfl
/-- The copy of the ring, and that a body keeps it. -/
structure RgK (Pn : Nat → World → Prop) (v : Value) (N : List Nat) (W : World) : Prop where
  win : WinAt W v N
  pn : ∀ k, v.ownBlock = some k → Pn k W
section
variable {Kp : World → World → Prop} {Pn : Nat → World → Prop} {own : Nat → Prop} {W0 W W' : World} {v : Value} {N : List Nat}
theorem RgK.new (hK : KpOk Kp Pn own W0) (h0 : Kp W0 W0) (h : RgP W0 N (.returned v) W) : RgK Pn v N W := by
  obtain ⟨v2, e, h1, h2, h3⟩ := h
  injection e with e
  subst e
  exact ⟨h1, fun k hk => hK.new h0 h3 (h2 k hk)⟩
theorem RgK.later (hK : KpOk Kp Pn own W0) (h : RgK Pn v N W) (hs : W0.heap.size ≤ W.heap.size) (hb : Below W.heap.size W W') : RgK Pn v N W' :=
  ⟨h.win.later hb, fun k hk => hK.lat (h.pn k hk) (h.win.lt hk) hs hb⟩
theorem RgK.keep (hK : KpOk Kp Pn own W0) (h : RgK Pn v N W) (hp : 0 < N.length) (hk : Kp W W') : RgK Pn v N W' := by
  obtain ⟨g, o, c, e, h1, h2, hg, h3, h4⟩ := h.win.where hp
  obtain ⟨ob, ho, hc⟩ := cells_some (h3 0 (by omega)).1
  have hge : v.ownBlock = some g := by rw [e]; rfl
  have h5 := hK.keep hk (h.pn g hge) ho hc
  exact ⟨h.win.block2 (fun k hk2 => by
    rw [hge] at hk2
    injection hk2 with hk2
    subst hk2
    exact h5.1.trans ho.symm), fun k hk2 => by
    rw [hge] at hk2
    injection hk2 with hk2
    subst hk2
    exact h5.2⟩
end
set_option maxRecDepth 100000 in
set_option maxHeartbeats 4000000 in
theorem tells_ck {w : World} {b1 : Nat} {d : Option Nat} {m : Bool} {L : List Fr} {own : Nat → Prop} (I : ClI L) (hc1 : w.cell? ⟨b1, 0, none⟩ = some (.pointer (d.map fun d => ⟨d, 0, none⟩)))
    (hA : ∀ W, (∀ k, own k → W.heap[k]? = w.heap[k]?) → CkMay W d m L) (ho1 : own b1) (holt : ∀ k, own k → k < w.heap.size) :
    Tells Try.prog 34 #[.pointer (some ⟨b1, 0, none⟩)] inV (namesL L) own w := by
  intro q hq l Kp Pn J Jx W0 hW hK hJ hY h0
  have HC1 := Lib.hid hc1
  have HA := Lib.hid hA
  have HY := Lib.hid hY
  have HJ := Lib.hid hJ
  have HK := Lib.hid hK
  have hN : (namesL L).length ≤ 1000 := by rw [namesL_len]; exact I.len
  have HZ := Lib.hid (show ∀ x ∈ namesL L, InZ (x : Int) ∧ hasL L (x : Int) = true from fun x hx => ⟨⟨by omega, I.le x hx⟩, ck_mem.2 hx⟩)
  have h1 : 1 ≤ q := by omega
  have HSM := Lib.hid (show ∀ V, Kp W0 V → ∀ k, own k → V.heap[k]? = w.heap[k]? from fun V hV k hk => (hK.own hV k hk).trans (hW.block k (holt k hk)))
  have HK0 := Lib.hid (hK.below W0 W0 (Nat.le_refl _) (Below.refl _ _))
  clear hc1 hA hY hJ hK hW I
  have c1 : W0.cell? ⟨b1, 0, none⟩ = some (.pointer (d.map fun d => ⟨d, 0, none⟩)) := (World.cell?_of_block (a := ⟨b1, 0, none⟩) (HSM.out W0 HK0.out b1 ho1)).trans HC1.out
  show CallsIn Fence.wide q Try.prog 34 #[.func (.yield l) #[] #[], .pointer (some ⟨b1, 0, none⟩)] W0 _
  cases d with
  | none =>
    obtain ⟨_, hL⟩ := HA.out W0 (HSM.out W0 HK0.out)
    subst hL
    have HJ0 := Lib.hid h0
    clear h0
    simp only [Option.map_none] at c1
    refine callsIn_of_wp Try.func34 rfl trivial ?_ rfl
    simp only [Try.ntmps34, List.size_toArray, List.length_cons, List.length_nil, Nat.reduceAdd, Nat.reduceSub, Array.replicate_succ, Array.replicate_zero, List.push_toArray, List.append_toArray, List.nil_append, List.cons_append]
    gi_wp2_with (fail)
    refine bodyPost_ret (results_none rfl _ _ _) rfl ?_
    exact ⟨⟨_, rfl⟩, .inl ⟨[], rfl, HJ0.out⟩⟩
  | some p =>
    obtain ⟨v, mo, hat, hmo⟩ := HA.out W0 (HSM.out W0 HK0.out)
    have c0 := hat.c0
    have HCL := Lib.hid (clone_ck hat.win hN)
    obtain ⟨a0, n0, e0⟩ := hat.win.slice
    rw [e0] at c0 HCL
    have HHAS := Lib.hid (fun W hW (x : Int) (hx : InZ x) => has_ck (HA.out W hW) hx)
    simp only [Option.map_some] at c1 HC1 HHAS
    generalize hNe : namesL L = N at *
    clear hat hmo e0
    refine callsIn_of_wp Try.func34 rfl trivial ?_ rfl
    simp only [Try.ntmps34, List.size_toArray, List.length_cons, List.length_nil, Nat.reduceAdd, Nat.reduceSub, Array.replicate_succ, Array.replicate_zero, List.push_toArray, List.append_toArray, List.nil_append, List.cons_append]
    gi_wp2_with (fail)
    refine ⟨trivial, (callsIn_wide.2 HCL.out).mono ?_⟩
    rintro e w1 hp1
    obtain ⟨v1, rfl, hw1, hv1, hb1⟩ := hp1
    have HR1 := Lib.hid (RgK.new HK.out HK0.out ⟨v1, rfl, hw1, hv1, hb1⟩)
    have HJ1 := Lib.hid (HJ.out [] W0 w1 none h0 (grown_none hb1) (fun r e => by cases e))
    have HK1 := Lib.hid (HK.out.below W0 w1 (Nat.le_refl _) hb1)
    obtain ⟨a1, n1, e1⟩ := hw1.slice
    have HE1 := Lib.hid e1
    rw [e1]
    clear hw1 hv1 hb1 h0 c0 c1 e1
    gi_wp2_with (fail)
    gi_loopw [4, 13] (fun _ iv wr => ∃ (i : Nat) (pre : List (Fin N.length)), iv = .int .i64 i ∧ i ≤ N.length ∧ Hid (pre.map Fin.val = List.range i) ∧ Hid (J pre wr) ∧ Hid (Kp W0 wr) ∧ Hid (RgK Pn v1 N wr)) (fun _ iv _ => N.length - (intOf iv).toNat)
    case atStart => exact ⟨0, [], rfl, Nat.zero_le _, Lib.hid rfl, HJ1, HK1, HR1⟩
    case round =>
      clear HJ1 HK1 HR1
      obtain ⟨i, pre, rfl, hi, HPR, HJJ, HKW, HRG⟩ := hrel
      by_cases hil : i < N.length
      · have hilI : (i : Int) < (N.length : Int) := by omega
        have HSZ := Lib.hid (HK.out.size HKW.out)
        have c1 : wr.cell? ⟨b1, 0, none⟩ = some (.pointer (some ⟨p, 0, none⟩)) := (World.cell?_of_block (a := ⟨b1, 0, none⟩) (HSM.out wr HKW.out b1 ho1)).trans HC1.out
        obtain ⟨g, o, c, e2, _, _, _, _, hcc⟩ := HRG.out.win.where (by omega)
        obtain ⟨X, hX⟩ : ∃ X, N[i]'hil = X := ⟨_, rfl⟩
        have k0 := hcc i X (by rw [List.getElem?_eq_getElem hil, hX])
        have hzx := HZ.out X (by rw [← hX]; exact List.getElem_mem hil)
        have HHi := Lib.hid (HHAS.out wr (HSM.out wr HKW.out) (X : Int) hzx.1)
        rw [hzx.2] at HHi
        obtain ⟨rfl, rfl⟩ : a1 = some ⟨g, o, none⟩ ∧ n1 = c := by
          have h5 := HE1.out.symm.trans e2
          simp only [Value.slice.injEq] at h5
          exact ⟨h5.1, h5.2.2⟩
        have HX := Lib.hid hX
        clear e2 hcc hzx hX
        gi_wp2_with (fail)
        refine ⟨trivial, (callsIn_wide.2 HHi.out).mono ?_⟩
        rintro e w2 ⟨rfl, hb⟩
        have HJ1 := Lib.hid (HJ.out pre wr _ none HJJ.out (grown_none hb) (fun r e => by cases e))
        have HK1 := Lib.hid (HK.out.trans HKW.out (HK.out.below wr w2 HSZ.out hb))
        have HR1 := Lib.hid (HRG.out.later HK.out HSZ.out hb)
        clear hb c1 HHi k0
        have HP2 := Lib.hid (show (pre ++ [(⟨i, hil⟩ : Fin N.length)]).map Fin.val = List.range (i + 1) by
          rw [List.map_append, HPR.out, List.range_succ]; rfl)
        have hYj := HY.out pre ⟨i, hil⟩ _ HJ1.out ⟨i + 1, hil, HP2.out⟩
        dsimp only at hYj
        rw [HX.out] at hYj
        obtain ⟨fn, tmps, assign, body, hyy, hR⟩ := hYj
        gi_wp2_with (fail)
        refine hR.mono ?_
        rintro e W3 (⟨rfl, hJ3, hk3⟩ | ⟨rfl, hJx3⟩)
        · have HJ3 := Lib.hid hJ3
          have HK3 := Lib.hid (HK.out.trans HK1.out hk3)
          have HR3 := Lib.hid (HR1.out.keep HK.out (by omega) hk3)
          clear hJ3 hk3 hyy hR HJJ HKW HRG
          gi_wp2_with (fail)
          go_roundw
          case rel => exact ⟨i + 1, _, by go_num, hil, HP2, HJ3, HK3, HR3⟩
          case measure => simp [intOf]; omega
        · clear hyy hR
          gi_wp2_with (fail)
          refine bodyPost_ret (results_none rfl _ _ _) rfl ?_
          exact ⟨⟨_, rfl⟩, .inr ⟨_, ⟨i + 1, hil, HP2.out⟩, hJx3⟩⟩
      · obtain rfl : i = N.length := by omega
        gi_wp2_with (fail)
        go_end0
        exact ⟨⟨_, rfl⟩, .inl ⟨pre, HPR.out, HJJ.out⟩⟩
theorem call_all (args : Array Value) (W : World) : (callFunc 34 args).run Try.prog W = .ok (.enter 34 args) W := by kernel_rfl
theorem all_not_nil (g : Nat) (lb : Array Value) (W : World) : (binOp .eql TSeq1 (.func (.func g) #[] lb) .nilFunc).run Try.prog W = .ok (.bool false) W := by kernel_rfl
/-- All, whatever clock. -/
theorem all_gen {X : Thg} {w : World} {d : Option Nat} {m : Bool} {L : List Fr} (I : ClI L) (hlt : ∀ k, X.has k → k < w.heap.size)
    (hA : ∀ W, (∀ k, X.has k → W.heap[k]? = w.heap[k]?) → CkMay W d m L) : Calls Try.prog 23 #[.pointer (d.map fun d => ⟨d, 0, none⟩)] w (TellS X (namesL L) w) := by
  have hb := (Below.refl w.heap.size w).alloc (Nat.le_refl _) (.cells #[.pointer (d.map fun d => ⟨d, 0, none⟩)] 24)
  have hs : (w.alloc (.cells #[.pointer (d.map fun d => ⟨d, 0, none⟩)] 24)).heap.size = w.heap.size + 1 := by simp
  have HT := Lib.hid (show TellS X (namesL L) w (.returned (.func (.func 34) #[] #[.pointer (some ⟨w.heap.size, 0, none⟩)])) (w.alloc (.cells #[.pointer (d.map fun d => ⟨d, 0, none⟩)] 24)) from
    ⟨_, _, fun k => X.has k ∨ k = w.heap.size, rfl, hb, call_all, all_not_nil _ _, fun k hk => (by
      rw [hs]
      rcases hk with h | rfl
      · exact ⟨.inl h, by have := hlt k h; omega⟩
      · exact ⟨.inr (Nat.le_refl _), by omega⟩),
      tells_ck I (by simp [go_sem]) (fun W hW => hA W (fun k hk => (hW k (.inl hk)).trans (hb.block k (hlt k hk)))) (.inr rfl) (fun k hk => by
        rw [hs]
        rcases hk with h | rfl
        · have := hlt k h; omega
        · omega)⟩)
  clear hb hs hA hlt
  generalize (Option.map (fun d => (⟨d, 0, none⟩ : Addr)) d) = D at *
  go_enter Try.func23, Try.ntmps23
  go_wp2_with (fail)
  go_ret
  exact HT.out
end Go.Proofs.Ytndddfkebbeemaa
