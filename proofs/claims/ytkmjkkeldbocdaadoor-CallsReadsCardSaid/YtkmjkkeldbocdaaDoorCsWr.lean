/-
  calls, the document's Wrong.
-/
import Derived.Test.YtkmjkkeldbocdaaDoorCsWrA
import Derived.Test.YtkmjkkeldbocdaaDoorCsWrB
import Derived.Test.YtkmjkkeldbocdaaDoorCsWrC
import Derived.Test.YtkmjkkeldbocdaaDoorCsWrD
namespace Go.Proofs.YtkmjkkeldbocdaaDoor
open Go.RowKit Go
attribute [local go_sem] Oper.semAt_some

set_option maxRecDepth 100000 in
set_option maxHeartbeats 8000000 in
theorem wrong_any {A : Array Value} {g : Nat → Int} {q : CallM} {a : Option Addr} {n c : Nat} {x : Nat → UInt8} {w : World} (hA : Cfg A g) (hI : CsIn q n) (S : Src w a n x) :
    Calls Tryd.prog 24 #[.agg A, .agg (q.cells a n c)] w fun e w' => e = .returned (.bool (wrongC g q n)) ∧ Below w.heap.size w w' := by
  cases hg : mayB g with
  | false =>
    have HW := Lib.hid (show wrongC g q n = true from by unfold wrongC; rw [hg]; rfl)
    have HB0 := Lib.hid (wrb_new w hA q a n c)
    have HRM := Lib.hid (fun W => refmay_any A g W hA)
    rw [hg] at HRM
    clear hA hI S hg
    go_enter Tryd.func24, Tryd.ntmps24
    have C0 := HB0.out.cfg
    go_wp2_with (refine wpList_load_cfg rfl _ rfl _ rfl C0 ?_)
    refine (HRM.out _).mono ?_
    rintro e w1 ⟨rfl, hb⟩
    have HB1 := Lib.hid (HB0.out.later hb)
    clear hb C0
    go_wp2_with (fail)
    go_ret
    rw [HW.out]
    exact ⟨rfl, HB1.out.bel⟩
  | true =>
    cases hm : mayC q n with
    | false =>
      have HW := Lib.hid (show wrongC g q n = true from by unfold wrongC; rw [hg, hm]; rfl)
      have HB0 := Lib.hid (wrb_new w hA q a n c)
      have HRM := Lib.hid (fun W => refmay_any A g W hA)
      have HCM := Lib.hid (fun W (hS : Src W a n x) => cmay_any q hI.ok a n c x hI.n W hS)
      have HS := Lib.hid S
      rw [hg] at HRM
      rw [hm] at HCM
      clear hA hI S hg hm
      go_enter Tryd.func24, Tryd.ntmps24
      have C0 := HB0.out.cfg
      go_wp2_with (refine wpList_load_cfg rfl _ rfl _ rfl C0 ?_)
      generalize hwb : (w.alloc (.cells A 50)).alloc (.cells (q.cells a n c) 29) = wb at *
      refine (HRM.out _).mono ?_
      rintro e w1 ⟨rfl, hb⟩
      have HB1 := Lib.hid (HB0.out.later hb)
      have K1 := HB1.out.blk
      clear hb C0 hwb
      go_wp2_with (refine wpList_load_call rfl _ rfl _ rfl K1 ?_)
      refine (HCM.out _ (HS.out.later (HB1.out.bel.mono (Nat.le_refl _)))).mono ?_
      rintro e w2 ⟨rfl, hb⟩
      have HB2 := Lib.hid (HB1.out.later hb)
      clear hb K1
      go_wp2_with (fail)
      go_ret
      rw [HW.out]
      exact ⟨rfl, HB2.out.bel⟩
    | true =>
      have hk := (mayC_parts hm).1
      have h21 := of_decide_eq_true hk
      rcases (show q.kind = 1 ∨ q.kind = 2 ∨ q.kind = 3 ∨ q.kind = 4 ∨ q.kind = 5 ∨ q.kind = 6 ∨ q.kind = 7 ∨ q.kind = 8 ∨ q.kind = 9 ∨ q.kind = 10 ∨ q.kind = 11 ∨ q.kind = 12 ∨ q.kind = 13 ∨ q.kind = 14 ∨ q.kind = 15 ∨ q.kind = 16 ∨ q.kind = 17 ∨ q.kind = 18 ∨ q.kind = 19 ∨ q.kind = 20 ∨ q.kind = 21 by omega) with h | h | h | h | h | h | h | h | h | h | h | h | h | h | h | h | h | h | h | h | h
      · exact wr1_any hA hI S h hg hm
      · exact wr2_any hA hI S h hg hm
      · exact wr3_any hA hI S h hg hm
      · exact wr4_any hA hI S h hg hm
      · exact wr5_any hA hI S h hg hm
      · exact wr6_any hA hI S h hg hm
      · exact wr7_any hA hI S h hg hm
      · exact wr8_any hA hI S h hg hm
      · exact wr9_any hA hI S h hg hm
      · exact wr10_any hA hI S h hg hm
      · exact wr11_any hA hI S h hg hm
      · exact wr12_any hA hI S h hg hm
      · exact wr13_any hA hI S h hg hm
      · exact wr14_any hA hI S h hg hm
      · exact wr15_any hA hI S h hg hm
      · exact wr16_any hA hI S h hg hm
      · exact wr17_any hA hI S h hg hm
      · exact wr18_any hA hI S h hg hm
      · exact wr19_any hA hI S h hg hm
      · exact wr20_any hA hI S h hg hm
      · exact wr21_any hA hI S h hg hm
end Go.Proofs.YtkmjkkeldbocdaaDoor
