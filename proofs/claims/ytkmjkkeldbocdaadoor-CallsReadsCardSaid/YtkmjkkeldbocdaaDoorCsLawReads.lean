/-
  The walk of CallsReads, for whatever calls.
-/
import Derived.Test.YtkmjkkeldbocdaaDoorCsVal
namespace Go.Proofs.YtkmjkkeldbocdaaDoor
open Go.RowKit Go
attribute [local go_sem] Oper.semAt_some

theorem seven_one : ∀ u ∈ [Value.int .u8 77], u.oneCell' = true := by
  intro u h
  rw [List.mem_singleton.1 h]
  rfl
/-- The four that were read lie. -/
structure RdB (w : World) (n : Nat) (x : Nat → UInt8) (g cap b4 b6 b8 b10 : Nat) (a4 a6 a8 a10 : Option Addr) (c4 c6 c8 c10 : Nat) (W : World) : Prop where
  sn : Snoc w n x 77 g cap W
  k4 : W.heap[b4]? = some (.cells ((rdQ x n).cells a4 (rdM x n) c4) 29 (0, 0))
  k6 : W.heap[b6]? = some (.cells ((rdQ x n).cells a6 (rdM x n) c6) 29 (0, 0))
  k8 : W.heap[b8]? = some (.cells (rsA (rrE x n) (rrV x n) a8 (rrM x n) c8) 41 (0, 0))
  k10 : W.heap[b10]? = some (.cells (rsA (rrE x n) (rrV x n) a10 (rrM x n) c10) 41 (0, 0))
  s4 : Src W a4 (rdM x n) (rdY x n)
  s6 : Src W a6 (rdM x n) (rdY x n)
  s8 : Src W a8 (rrM x n) (shX x 24)
  s10 : Src W a10 (rrM x n) (shX x 24)
theorem kept_at {w W : World} {b : Nat} {o : Obj} (h : w.heap[b]? = some o) (hb : Below w.heap.size w W) : W.heap[b]? = some o := by
  rw [hb.block _ (Array.getElem?_eq_some_iff.1 h).1]
  exact h
theorem RdB.later {w W W' : World} {n : Nat} {x : Nat → UInt8} {g cap b4 b6 b8 b10 : Nat} {a4 a6 a8 a10 : Option Addr} {c4 c6 c8 c10 : Nat} (h : RdB w n x g cap b4 b6 b8 b10 a4 a6 a8 a10 c4 c6 c8 c10 W) (hb : Below W.heap.size W W') : RdB w n x g cap b4 b6 b8 b10 a4 a6 a8 a10 c4 c6 c8 c10 W' :=
  ⟨h.sn.later hb, kept_at h.k4 hb, kept_at h.k6 hb, kept_at h.k8 hb, kept_at h.k10 hb, h.s4.later hb, h.s6.later hb, h.s8.later hb, h.s10.later hb⟩
section
variable {P : World → Prop} (ok : CsOk P)
include ok
set_option maxRecDepth 100000 in
set_option maxHeartbeats 16000000 in
theorem lreads_any {a : Option Addr} {n c : Nat} {x : Nat → UInt8} {w : World} (hP : P w) (hB : BytIn w a n c x) :
    Calls Tryd.prog 4 #[.slice a n c] w fun e w' => e = .returned (.bool true) ∧ Below w.heap.size w w' := by
  have HP := Lib.hid hP
  clear hP
  obtain ⟨i0, hi, hz0, hz1, hz2⟩ := info_parts infoByte
  have HBI := Lib.hid hB
  by_cases hn : n ≤ 2000
  · have hnI : ¬ (2000 : Int) < (n : Int) := by omega
    have HN := Lib.hid (show n ≤ 2030 by omega)
    have HOW := Lib.hid (World.ownsRow_made w (e := 5) (base := w.heap.size) (size := 1) #[] 0 (Nat.le_refl _) (Nat.zero_le _) (by simp))
    have hba : Below w.heap.size w (w.alloc (.cells #[] 5)) := (Below.refl _ _).alloc (Nat.le_refl _) _
    have HBA := Lib.hid hba
    have HSA := Lib.hid (hB.1.later hba)
    have KB := Lib.hid (show ∀ W1 : World, (w.alloc (.cells #[] 5)).grownBy W1 (Value.slice (some ⟨w.heap.size, 0, none⟩) 0 0).ownBlock → w.heap.size ≤ (W1.alloc (.cells #[.int .u8 77] 5)).heap.size from fun W1 h => by have h2 := h.size; simp at h2 ⊢; omega)
    clear hba hB
    go_enter Tryd.func4, Tryd.ntmps4
    go_upto_region 4 with (first
      | (at_builtin; refine wpList_append_src _ rfl _ _ 27 rfl w.heap.size 5 i0 _ 1 1 Tryd.underlying27 hi hz0 hz1 hz2 rfl (by decide) _ _ _ rfl HOW.out _ _ _ (bytL n x) rfl (by rw [bytL_len]; omega) HSA.out.cells (bytL_one _ _) (by unfold maxLen; omega) (by omega) HBA.out.size ?_; intro v1 W1 hown1 hg1 _; rw [Nat.zero_add, List.nil_append] at hown1; have HO1 := Lib.hid hown1; have HG1 := Lib.hid hg1; have HSZ := Lib.hid (KB.out W1 hg1); clear hown1 hg1)
      | (at_builtin; refine wpList_append_src _ rfl _ _ 27 rfl w.heap.size 5 i0 _ 1 1 Tryd.underlying27 hi hz0 hz1 hz2 rfl (by decide) _ _ _ rfl (HO1.out.alloc _) _ _ _ [.int .u8 77] rfl rfl (one_src W1 77) seven_one (by unfold maxLen; omega) (by omega) HSZ.out ?_; intro v2 W2 hown2 hg2 _; obtain ⟨g, cap, e2, hsn⟩ := snoc_made (b := 77) HO1.out HG1.out hown2 hg2; subst e2; have HSN := Lib.hid hsn; have hcap := hsn.le; clear hown2 hg2 HO1 HG1 HSZ hsn)
      | fail)
    clear HOW HSA KB HBA hi hz0 hz1 hz2
    go_wp2_with (fail)
    refine (ok.readB (ok.later HP.out HSN.out.bel) HSN.out.part HN.out).mono ?_
    intro ee wr hrd
    obtain ⟨a4, c4, rfl, hs, hb⟩ := rdP_val hrd
    have hba : Below wr.heap.size wr (wr.alloc (.cells ((rdQ x n).cells a4 (rdM x n) c4) 29)) := (Below.refl _ _).alloc (Nat.le_refl _) _
    have hb2 := hb.trans (hba.mono hb.size)
    have HSN2 := Lib.hid (HSN.out.later hb2)
    have K4 := Lib.hid (show (wr.alloc (.cells ((rdQ x n).cells a4 (rdM x n) c4) 29)).heap[wr.heap.size]? = some (.cells ((rdQ x n).cells a4 (rdM x n) c4) 29 (0, 0)) from heap_alloc_new wr _)
    have S4 := Lib.hid (hs.later hba)
    clear hrd hs hb hba hb2 HSN
    go_upto_region 5 with (fail)
    generalize wr.alloc (.cells ((rdQ x n).cells a4 (rdM x n) c4) 29) = W4 at *
    generalize hb4d : wr.heap.size = b4 at *
    have HSN := HSN2
    clear HSN2
    go_wp2_with (fail)
    refine (read_in (HBI.out.later HSN.out.bel) HN.out).mono ?_
    intro ee wr hrd
    obtain ⟨a6, c6, rfl, hs, hb⟩ := rdP_val hrd
    have hba : Below wr.heap.size wr (wr.alloc (.cells ((rdQ x n).cells a6 (rdM x n) c6) 29)) := (Below.refl _ _).alloc (Nat.le_refl _) _
    have hb2 := hb.trans (hba.mono hb.size)
    have HSN2 := Lib.hid (HSN.out.later hb2)
    have K6 := Lib.hid (show (wr.alloc (.cells ((rdQ x n).cells a6 (rdM x n) c6) 29)).heap[wr.heap.size]? = some (.cells ((rdQ x n).cells a6 (rdM x n) c6) 29 (0, 0)) from heap_alloc_new wr _)
    have S6 := Lib.hid (hs.later hba)
    have K4n := Lib.hid (kept_at K4.out hb2)
    have S4n := Lib.hid (S4.out.later hb2)
    clear hrd hs hb hba hb2 HSN K4 S4
    go_upto_region 6 with (fail)
    generalize wr.alloc (.cells ((rdQ x n).cells a6 (rdM x n) c6) 29) = W6 at *
    generalize hb6d : wr.heap.size = b6 at *
    have HSN := HSN2
    clear HSN2
    have K4 := K4n
    have S4 := S4n
    clear K4n S4n
    go_wp2_with (fail)
    refine (ok.readrB HSN.out.part HN.out).mono ?_
    intro ee wr hrd
    obtain ⟨a8, c8, rfl, hs, hb⟩ := rrP_val hrd
    have hba : Below wr.heap.size wr (wr.alloc (.cells (rsA (rrE x n) (rrV x n) a8 (rrM x n) c8) 41)) := (Below.refl _ _).alloc (Nat.le_refl _) _
    have hb2 := hb.trans (hba.mono hb.size)
    have HSN2 := Lib.hid (HSN.out.later hb2)
    have K8 := Lib.hid (show (wr.alloc (.cells (rsA (rrE x n) (rrV x n) a8 (rrM x n) c8) 41)).heap[wr.heap.size]? = some (.cells (rsA (rrE x n) (rrV x n) a8 (rrM x n) c8) 41 (0, 0)) from heap_alloc_new wr _)
    have S8 := Lib.hid (hs.later hba)
    have K4n := Lib.hid (kept_at K4.out hb2)
    have S4n := Lib.hid (S4.out.later hb2)
    have K6n := Lib.hid (kept_at K6.out hb2)
    have S6n := Lib.hid (S6.out.later hb2)
    clear hrd hs hb hba hb2 HSN K4 S4 K6 S6
    go_upto_region 7 with (fail)
    generalize wr.alloc (.cells (rsA (rrE x n) (rrV x n) a8 (rrM x n) c8) 41) = W8 at *
    generalize hb8d : wr.heap.size = b8 at *
    have HSN := HSN2
    clear HSN2
    have K4 := K4n
    have S4 := S4n
    clear K4n S4n
    have K6 := K6n
    have S6 := S6n
    clear K6n S6n
    go_wp2_with (fail)
    refine (rread_in (HBI.out.later HSN.out.bel) HN.out).mono ?_
    intro ee wr hrd
    obtain ⟨a10, c10, rfl, hs, hb⟩ := rrP_val hrd
    have hba : Below wr.heap.size wr (wr.alloc (.cells (rsA (rrE x n) (rrV x n) a10 (rrM x n) c10) 41)) := (Below.refl _ _).alloc (Nat.le_refl _) _
    have hb2 := hb.trans (hba.mono hb.size)
    have HSN2 := Lib.hid (HSN.out.later hb2)
    have K10 := Lib.hid (show (wr.alloc (.cells (rsA (rrE x n) (rrV x n) a10 (rrM x n) c10) 41)).heap[wr.heap.size]? = some (.cells (rsA (rrE x n) (rrV x n) a10 (rrM x n) c10) 41 (0, 0)) from heap_alloc_new wr _)
    have S10 := Lib.hid (hs.later hba)
    have K4n := Lib.hid (kept_at K4.out hb2)
    have S4n := Lib.hid (S4.out.later hb2)
    have K6n := Lib.hid (kept_at K6.out hb2)
    have S6n := Lib.hid (S6.out.later hb2)
    have K8n := Lib.hid (kept_at K8.out hb2)
    have S8n := Lib.hid (S8.out.later hb2)
    clear hrd hs hb hba hb2 HSN K4 S4 K6 S6 K8 S8
    go_upto_region 8 with (fail)
    generalize wr.alloc (.cells (rsA (rrE x n) (rrV x n) a10 (rrM x n) c10) 41) = W10 at *
    generalize hb10d : wr.heap.size = b10 at *
    have HSN := HSN2
    clear HSN2
    have K4 := K4n
    have S4 := S4n
    clear K4n S4n
    have K6 := K6n
    have S6 := S6n
    clear K6n S6n
    have K8 := K8n
    have S8 := S8n
    clear K8n S8n
    have HR := Lib.hid (RdB.mk HSN.out K4.out K6.out K8.out K10.out S4.out S6.out S8.out S10.out)
    clear HSN K4 K6 K8 K10 S4 S6 S8 S10
    have B4 := HR.out.k4
    have B6 := HR.out.k6
    generalize erB (okC x n) = er1 at *
    generalize erB (okX x n) = er2 at *
    go_wp2_with (first | (refine wpList_load_call rfl _ rfl _ rfl B4 ?_) | (refine wpList_load_call rfl _ rfl _ rfl B6 ?_) | fail)
    refine (csame_any (rdQ x n) (rdQ x n) a4 a6 (rdM x n) c4 (rdM x n) c6 (rdY x n) (rdY x n) W10 HR.out.s4 HR.out.s6).mono ?_
    rw [sameC_self]
    rintro ee W11 ⟨rfl, hb⟩
    have HR2 := Lib.hid (HR.out.later hb)
    clear hb HR B4 B6
    have B8 := HR2.out.k8
    have B10 := HR2.out.k10
    go_wp2_with (first | (refine wpList_load_res rfl _ rfl _ rfl B8 ?_) | (refine wpList_load_res rfl _ rfl _ rfl B10 ?_) | fail)
    refine (rsame_any (rrE x n) (rrE x n) (rrV x n) (rrV x n) a8 a10 (rrM x n) (rrM x n) c8 c10 (shX x 24) (shX x 24) W11 HR2.out.s8 HR2.out.s10).mono ?_
    rw [sameR_self]
    rintro ee W12 ⟨rfl, hb⟩
    have HR3 := Lib.hid (HR2.out.later hb)
    clear hb HR2 B8 B10
    have cv1 := run_string_src (c := cap) HR3.out.sn.part.1
    have cv2 := run_string_src (c := c) (HBI.out.1.later HR3.out.sn.bel)
    have kl := HR3.out.sn.last
    generalize strB n x = SB at *
    go_wp2_with (fail)
    refine (cknown_any ok _ (ok.later HP.out HR3.out.sn.bel)).mono ?_
    rintro ee W13 ⟨rfl, hb⟩
    have HB := Lib.hid (HR3.out.sn.bel.trans (hb.mono HR3.out.sn.bel.size))
    clear hb cv1 cv2 kl HR3
    go_wp2_with (fail)
    go_ret
    exact ⟨rfl, HB.out⟩
  · have hnI : (2000 : Int) < (n : Int) := by omega
    go_enter Tryd.func4, Tryd.ntmps4
    go_wp2_with (fail)
    refine (cknown_any ok _ HP.out).mono ?_
    rintro ee wk ⟨rfl, hbk⟩
    have HBK := Lib.hid hbk
    clear hbk
    go_wp2_with (fail)
    go_ret
    exact ⟨rfl, HBK.out⟩
end
end Go.Proofs.YtkmjkkeldbocdaaDoor
