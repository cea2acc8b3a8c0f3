/-
  The walk of CallsRight, for whatever calls.
-/
import Derived.Test.YtkmjkkeldbocdaaDoorCsLawForms
namespace Go.Proofs.YtkmjkkeldbocdaaDoor
open Go.RowKit Go
attribute [local go_sem] Oper.semAt_some

theorem wrong_parts {g : Nat → Int} {q : CallM} {n : Nat} (h : wrongC g q n = false) : mayB g = true ∧ mayC q n = true ∧ badC g q n = false := by
  unfold wrongC at h
  cases h1 : mayB g with
  | false => rw [h1] at h; cases h
  | true =>
    cases h2 : mayC q n with
    | false => rw [h1, h2] at h; cases h
    | true => rw [h1, h2] at h; exact ⟨rfl, rfl, h⟩
def qS : CallM := ⟨1, 0, 0, 0, 0, 0, 0, 0, 0, 0, 0⟩
theorem qS_in : CsIn qS 0 := ⟨⟨by decide, by decide, by decide, by decide, by decide⟩, by decide, by decide, by decide, by decide, by decide, by decide, by decide⟩
theorem spawn_wrong (g : Nat → Int) : wrongC g qS 0 = !mayB g := by
  unfold wrongC
  rw [show mayC qS 0 = true from by decide +kernel, show badC g qS 0 = false from rfl]
  cases mayB g <;> rfl
theorem right_more {g h : Nat → Int} {q : CallM} {n : Nat} (h1 : wrongC g q n = false) (h2 : mayB h = true) (h3 : g 0 ≤ h 0) (h4 : q.kind ≠ 14) (h5 : q.kind ≠ 15) : wrongC h q n = false := by
  obtain ⟨a1, a2, a3⟩ := wrong_parts h1
  have hb : badC h q n = false := by
    have hnode : nodeC g q = false → nodeC h q = false := fun e => by
      unfold nodeC at *
      have := of_decide_eq_false e
      exact decide_eq_false (by omega)
    unfold badC at a3 ⊢
    rw [if_neg h4, if_neg h5] at a3 ⊢
    by_cases c1 : q.kind = 18
    · rw [c1] at a3 ⊢
      have e : (pagesC q || nodeC g q) = false := a3
      rw [Bool.or_eq_false_iff] at e
      show (pagesC q || nodeC h q) = false
      rw [e.1, hnode e.2]
      rfl
    · by_cases c2 : q.kind = 19 ∨ q.kind = 20
      · have e : nodeC g q = false := by
          rcases c2 with c2 | c2 <;> (rw [c2] at a3; exact a3)
        rcases c2 with c2 | c2 <;> (rw [c2]; exact hnode e)
      · rw [if_neg c1, if_neg c2] at a3 ⊢
        exact a3
  unfold wrongC
  rw [h2, a2, hb]
  rfl
/-- The boxes. -/
structure RiB (w : World) (A : Array Value) (g : Nat → Int) (B : Array Value) (h : Nat → Int) (q : CallM) (a : Option Addr) (n c : Nat) (W : World) : Prop where
  c1 : CfgAt W w.heap.size A g
  c2 : CfgAt W (w.heap.size + 1) B h
  b3 : W.heap[w.heap.size + 2]? = some (.cells (q.cells a n c) 29 (0, 0))
  bel : Below w.heap.size w W
theorem RiB.later {w W W' : World} {A B : Array Value} {g h : Nat → Int} {q : CallM} {a : Option Addr} {n c : Nat} (H : RiB w A g B h q a n c W) (hb : Below W.heap.size W W') : RiB w A g B h q a n c W' :=
  ⟨H.c1.later hb, H.c2.later hb, by rw [hb.block _ (Array.getElem?_eq_some_iff.1 H.b3).1]; exact H.b3, H.bel.trans (hb.mono H.bel.size)⟩
theorem rib_new (w : World) {A B : Array Value} {g h : Nat → Int} (hA : Cfg A g) (hB : Cfg B h) (q : CallM) (a : Option Addr) (n c : Nat) : RiB w A g B h q a n c (((w.alloc (.cells A 50)).alloc (.cells B 50)).alloc (.cells (q.cells a n c) 29)) := by
  have b0 : Below (w.alloc (.cells A 50)).heap.size (w.alloc (.cells A 50)) (((w.alloc (.cells A 50)).alloc (.cells B 50)).alloc (.cells (q.cells a n c) 29)) := ((Below.refl _ _).alloc (Nat.le_refl _) _).alloc (by simp) _
  have h2 := CfgAt.new (w.alloc (.cells A 50)) hB
  rw [show (w.alloc (.cells A 50)).heap.size = w.heap.size + 1 by simp] at h2
  have h3 := heap_alloc_new ((w.alloc (.cells A 50)).alloc (.cells B 50)) (.cells (q.cells a n c) 29)
  rw [show ((w.alloc (.cells A 50)).alloc (.cells B 50)).heap.size = w.heap.size + 2 by simp] at h3
  exact ⟨(CfgAt.new w hA).later b0, h2.later ((Below.refl _ _).alloc (Nat.le_refl _) _), h3, (((Below.refl _ _).alloc (Nat.le_refl _) _).alloc (by simp) _).alloc (by simp; omega) _⟩
section
variable {P : World → Prop} (ok : CsOk P)
include ok
set_option maxRecDepth 100000 in
set_option maxHeartbeats 16000000 in
theorem lright_any {A B : Array Value} {g h : Nat → Int} {q : CallM} {a : Option Addr} {n c : Nat} {x : Nat → UInt8} {w : World} (hP : P w) (hA : Cfg A g) (hB : Cfg B h) (hq : CallIn q) (S : Src w a n x) :
    Calls Tryd.prog 8 #[.agg A, .agg B, .agg (q.cells a n c)] w fun e w' => e = .returned (.bool true) ∧ Below w.heap.size w w' := by
  have HP := Lib.hid hP
  clear hP
  have HT0 := Lib.hid (rib_new w hA hB q a n c)
  have HA := Lib.hid hA
  have HBB := Lib.hid hB
  have HQ := Lib.hid hq
  have HX := Lib.hid S
  have k11 : (((w.alloc (.cells A 50)).alloc (.cells B 50)).alloc (.cells (q.cells a n c) 29)).cell? ⟨w.heap.size + 2, 11, none⟩ = some (.slice a n c) := by
    rw [cell_of_row _ _ _ _ _ _ HT0.out.b3]
    rfl
  clear hA hB hq S
  by_cases hn : n ≤ 1000
  · have hnI : ¬ (1000 : Int) < (n : Int) := by omega
    have HIn := Lib.hid (HQ.out.of (show n ≤ 2000 by omega))
    have C1 := HT0.out.c1
    have B3 := HT0.out.b3
    go_enter Tryd.func8, Tryd.ntmps8
    go_wp2_with (first | (refine wpList_load_cfg rfl _ rfl _ rfl C1 ?_) | (refine wpList_load_call rfl _ rfl _ rfl B3 ?_) | fail)
    generalize ((w.alloc (.cells A 50)).alloc (.cells B 50)).alloc (.cells (q.cells a n c) 29) = wb at *
    refine (ok.wrong (ok.later HP.out HT0.out.bel) HA.out HIn.out (HX.out.later HT0.out.bel)).mono ?_
    rintro ee w1 ⟨rfl, hb1⟩
    have HT1 := Lib.hid (HT0.out.later hb1)
    clear hb1 C1 B3 k11
    cases hw : wrongC g q n with
    | true =>
      go_wp2_with (fail)
      refine (cknown_any ok _ (ok.later HP.out HT1.out.bel)).mono ?_
      rintro ee wk ⟨rfl, hbk⟩
      have HBK := Lib.hid (HT1.out.bel.trans (hbk.mono HT1.out.bel.size))
      clear hbk
      go_wp2_with (fail)
      go_ret
      exact ⟨rfl, HBK.out⟩
    | false =>
      have HW := Lib.hid hw
      obtain ⟨hmg, hmc, _⟩ := wrong_parts hw
      have B3 := HT1.out.b3
      go_wp2_with (refine wpList_load_call rfl _ rfl _ rfl B3 ?_)
      refine (ok.may (ok.later HP.out HT1.out.bel) HIn.out (HX.out.later HT1.out.bel)).mono ?_
      rw [hmc]
      rintro ee w2 ⟨rfl, hb2⟩
      have HT2 := Lib.hid (HT1.out.later hb2)
      clear hb2 B3 hw
      have B3 := HT2.out.b3
      go_wp2_with (refine wpList_load_call rfl _ rfl _ rfl B3 ?_)
      refine (ok.bytes (ok.later HP.out HT2.out.bel) HIn.out (HX.out.later HT2.out.bel)).mono ?_
      rintro ee w3 (⟨-, v, rfl, hby, hb3⟩ | ⟨hmd, au, cu, rfl, hb3⟩)
      · have HT3 := Lib.hid (HT2.out.later hb3)
        clear hby hb3 B3
        have n1 := HT3.out.c1.cell 0 (by decide)
        have n2 := HT3.out.c2.cell 0 (by decide)
        by_cases hg : h 0 < g 0
        · go_wp2_with (fail)
          refine (cknown_any ok _ (ok.later HP.out HT3.out.bel)).mono ?_
          rintro ee wk ⟨rfl, hbk⟩
          have HBK := Lib.hid (HT3.out.bel.trans (hbk.mono HT3.out.bel.size))
          clear hbk
          go_wp2_with (fail)
          go_ret
          exact ⟨rfl, HBK.out⟩
        · have C2 := HT3.out.c2
          have hgd : decide (h 0 < g 0) = false := decide_eq_false hg
          go_wp2_with (refine wpList_load_cfg rfl _ rfl _ rfl C2 ?_)
          refine (ok.wrong (q := qS) (a := none) (n := 0) (c := 0) (x := fun _ => 0) (w := w3) (ok.later HP.out HT3.out.bel) HBB.out qS_in (Src.nil _ _ _)).mono ?_
          rw [spawn_wrong]
          rintro ee w4 ⟨rfl, hb4⟩
          have HT4 := Lib.hid (HT3.out.later hb4)
          clear hb4 C2 n1 n2
          cases hmh : mayB h with
          | false =>
            go_wp2_with (fail)
            refine (cknown_any ok _ (ok.later HP.out HT4.out.bel)).mono ?_
            rintro ee wk ⟨rfl, hbk⟩
            have HBK := Lib.hid (HT4.out.bel.trans (hbk.mono HT4.out.bel.size))
            clear hbk
            go_wp2_with (fail)
            go_ret
            exact ⟨rfl, HBK.out⟩
          | true =>
            have k0 : w4.cell? ⟨w.heap.size + 2, 0, none⟩ = some (.int .u8 (q.kind : Int)) := by rw [cell_of_row _ _ _ _ _ _ HT4.out.b3]; rfl
            by_cases e14 : q.kind = 14
            · have e14I : (q.kind : Int) = 14 := by omega
              rw [e14I] at k0
              go_wp2_with (fail)
              refine (cknown_any ok _ (ok.later HP.out HT4.out.bel)).mono ?_
              rintro ee wk ⟨rfl, hbk⟩
              have HBK := Lib.hid (HT4.out.bel.trans (hbk.mono HT4.out.bel.size))
              clear hbk
              go_wp2_with (fail)
              go_ret
              exact ⟨rfl, HBK.out⟩
            · by_cases e15 : q.kind = 15
              · have e15I : (q.kind : Int) = 15 := by omega
                rw [e15I] at k0
                go_wp2_with (fail)
                refine (cknown_any ok _ (ok.later HP.out HT4.out.bel)).mono ?_
                rintro ee wk ⟨rfl, hbk⟩
                have HBK := Lib.hid (HT4.out.bel.trans (hbk.mono HT4.out.bel.size))
                clear hbk
                go_wp2_with (fail)
                go_ret
                exact ⟨rfl, HBK.out⟩
              · have f1 : ((q.kind : Int) == 14) = false := by simp; omega
                have f2 : ((q.kind : Int) == 15) = false := by simp; omega
                have f3 : ¬ (q.kind : Int) = 14 := by omega
                have f4 : ¬ (q.kind : Int) = 15 := by omega
                have hwm := right_more HW.out hmh (by omega) e14 e15
                have C2 := HT4.out.c2
                have B3 := HT4.out.b3
                go_wp2_with (first | (refine wpList_load_cfg rfl _ rfl _ rfl C2 ?_) | (refine wpList_load_call rfl _ rfl _ rfl B3 ?_) | fail)
                refine (ok.wrong (ok.later HP.out HT4.out.bel) HBB.out HIn.out (HX.out.later HT4.out.bel)).mono ?_
                rw [hwm]
                rintro ee w5 ⟨rfl, hb5⟩
                have HT5 := Lib.hid (HT4.out.later hb5)
                clear hb5 k0 C2 B3
                go_wp2_with (fail)
                refine (cknown_any ok _ (ok.later HP.out HT5.out.bel)).mono ?_
                rintro ee wk ⟨rfl, hbk⟩
                have HBK := Lib.hid (HT5.out.bel.trans (hbk.mono HT5.out.bel.size))
                clear hbk
                go_wp2_with (fail)
                go_ret
                exact ⟨rfl, HBK.out⟩
      · rw [hmc] at hmd
        cases hmd
  · have hnI : (1000 : Int) < (n : Int) := by omega
    go_enter Tryd.func8, Tryd.ntmps8
    go_wp2_with (fail)
    refine (cknown_any ok _ (ok.later HP.out HT0.out.bel)).mono ?_
    rintro ee wk ⟨rfl, hbk⟩
    have HBK := Lib.hid (HT0.out.bel.trans (hbk.mono HT0.out.bel.size))
    clear hbk
    go_wp2_with (fail)
    go_ret
    exact ⟨rfl, HBK.out⟩
end
end Go.Proofs.YtkmjkkeldbocdaaDoor
