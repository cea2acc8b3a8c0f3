/-
  calls, the document's: whether two calls are alike: some of the cases.
-/
import Derived.Test.YtkmjkkeldbocdaaDoorCsSame
namespace Go.Proofs.YtkmjkkeldbocdaaDoor
open Go.RowKit Go
attribute [local go_sem] Oper.semAt_some

set_option maxRecDepth 100000 in
set_option maxHeartbeats 8000000 in
theorem csame6 (q r : CallM) (a b : Option Addr) (n c m d : Nat) (x1 x2 : Nat → UInt8) (w : World) (S1 : Src w a n x1) (S2 : Src w b m x2) (hb : ((strB n x1).toList == (strB m x2).toList) = true) (h0 : q.kind = r.kind) (h1 : q.pid = r.pid) (h2 : q.node = r.node) (h3 : q.page = r.page) (h4 : q.count = r.count) (hk : q.addr ≠ r.addr) : Calls Tryd.prog 15 #[.agg (q.cells a n c), .agg (r.cells b m d)] w fun e w' => e = .returned (.bool (sameC q r (strB n x1) (strB m x2))) ∧ Below w.heap.size w w' := by
  have S1 := Lib.hid S1
  have S2 := Lib.hid S2
  obtain ⟨w1, hw1⟩ : ∃ w1, w1 = (w.alloc (.cells (q.cells a n c) 29)).alloc (.cells (r.cells b m d) 29) := ⟨_, rfl⟩
  have HB1 := Lib.hid (show Below w.heap.size w w1 from by rw [hw1]; exact ((Below.refl _ _).alloc (Nat.le_refl _) _).alloc (by simp) _)
  have HA := Lib.hid (show RowAt w1 w.heap.size 12 (cellC (q.list a n c)) from by rw [hw1]; exact (row_list w q a n c _).alloc _)
  have HC := Lib.hid (show RowAt w1 (w.heap.size + 1) 12 (cellC (r.list b m d)) from by
    rw [hw1]
    have h5 := row_list (w.alloc (.cells (q.cells a n c) 29)) r b m d 29
    rw [World.size_alloc] at h5
    exact h5)
  have L0 := Lib.hid (show ∀ W, Kept w1.heap.size w1 W → (loadVar 29 ⟨w.heap.size, 0, none⟩).run Tryd.prog W = .ok (.agg (q.cells a n c)) W from fun W hW => load_call (HA.out.later hW.below) rfl)
  have L1 := Lib.hid (show ∀ W, Kept w1.heap.size w1 W → (loadVar 29 ⟨w.heap.size + 1, 0, none⟩).run Tryd.prog W = .ok (.agg (r.cells b m d)) W from fun W hW => load_call (HC.out.later hW.below) rfl)
  go_enter Tryd.func15, Tryd.ntmps15
  go_wp2_with (fail)
  rw [← hw1]
  clear hw1 HA HC
  refine wp_monoA (SameR w q r a b n c m d) ?_ ?_
  · refine wp_region_plan (Kept w1.heap.size w1) (.take 0 (.take 1 (.step 2 (.step 3 (.step 4 .fin .fin) .fin) (.step 3 (.step 2 (.step 4 .fin .fin) .fin) .fin)))) 5 (by kernel_rfl) (by kernel_rfl) (by kernel_rfl) (Below.refl _ w1).drew ?_
    intro W0 hW0 hK0
    have HK0 := Lib.hid hK0
    clear hW0 hK0
    refine lexP_load rfl rfl _ _ rfl rfl L0.out ?_
    simp only [List.getElem_toArray, List.getElem_cons_zero, Act.put, List.setIfInBounds_toArray, List.set_cons_zero, List.set_cons_succ]
    refine lexP_load rfl rfl _ _ rfl rfl L1.out ?_
    simp only [List.getElem_toArray, List.getElem_cons_succ, List.getElem_cons_zero, Act.put, List.setIfInBounds_toArray, List.set_cons_zero, List.set_cons_succ]
    clear L0 L1
    refine lexP_or rfl rfl ?_ ?_
    · unfold Oper.wp
      go_simp
      have HX := Lib.hid (rowC W0 [.int .u8 0, .int .i64 0, .int .i64 0, .int .i64 0, .int .i64 0, .int .i64 0, .int .i64 0, .int .u8 0, .int .u8 0, .int .u8 0, .int .u64 0, .slice none 0 0] 29)
      have HK1 := Lib.hid (show Kept w1.heap.size w1 (W0.alloc (.cells #[.int .u8 0, .int .i64 0, .int .i64 0, .int .i64 0, .int .i64 0, .int .i64 0, .int .i64 0, .int .u8 0, .int .u8 0, .int .u8 0, .int .u64 0, .slice none 0 0] 29)) from HK0.out.below.alloc HK0.out.below.size _)
      have HL0 := Lib.hid (show w1.heap.size ≤ W0.heap.size from HK0.out.below.size)
      refine ⟨HK1.out, ?_⟩
      clear HK0
      generalize W0.alloc (.cells #[.int .u8 0, .int .i64 0, .int .i64 0, .int .i64 0, .int .i64 0, .int .i64 0, .int .i64 0, .int .u8 0, .int .u8 0, .int .u8 0, .int .u64 0, .slice none 0 0] 29) = W1 at *
      generalize W0.heap.size = xb at *
      refine lexP_step rfl rfl ?_
      unfold Oper.wp
      go_simp
      have HY := Lib.hid (rowC W1 [.int .u8 0, .int .i64 0, .int .i64 0, .int .i64 0, .int .i64 0, .int .i64 0, .int .i64 0, .int .u8 0, .int .u8 0, .int .u8 0, .int .u64 0, .slice none 0 0] 29)
      have HX2 := Lib.hid (HX.out.alloc (.cells #[.int .u8 0, .int .i64 0, .int .i64 0, .int .i64 0, .int .i64 0, .int .i64 0, .int .i64 0, .int .u8 0, .int .u8 0, .int .u8 0, .int .u64 0, .slice none 0 0] 29))
      have HK2 := Lib.hid (show Kept w1.heap.size w1 (W1.alloc (.cells #[.int .u8 0, .int .i64 0, .int .i64 0, .int .i64 0, .int .i64 0, .int .i64 0, .int .i64 0, .int .u8 0, .int .u8 0, .int .u8 0, .int .u64 0, .slice none 0 0] 29)) from HK1.out.below.alloc HK1.out.below.size _)
      have HL1 := Lib.hid (show xb < W1.heap.size ∧ w1.heap.size ≤ W1.heap.size from ⟨HX.out.lt, HK1.out.below.size⟩)
      refine ⟨HK2.out, ?_⟩
      clear HK1 HX
      generalize W1.alloc (.cells #[.int .u8 0, .int .i64 0, .int .i64 0, .int .i64 0, .int .i64 0, .int .i64 0, .int .i64 0, .int .u8 0, .int .u8 0, .int .u8 0, .int .u64 0, .slice none 0 0] 29) = W2 at *
      generalize W1.heap.size = yb at *
      obtain ⟨W3, hW3⟩ : ∃ W3, W3 = W2.setCells xb 0 (q.cells a n c).toList := ⟨_, rfl⟩
      have HO := Lib.hid (show Only (fun k => k = xb) W2 W3 from by rw [hW3]; exact Only.setCells (S := fun k => k = xb) (b := xb) rfl (q.cells a n c).toList 0 W2)
      have HT := Lib.hid (show TwoC w q r a b n c m d xb yb (W3.setCells yb 0 (r.cells b m d).toList) from by
        rw [hW3]
        exact two_new HB1.out.size (HB1.out.trans (HK2.out.below.mono HB1.out.size)) HX2.out HY.out (by have := HL1.out; omega) (by have := HL0.out; have := HL1.out; omega) (by have := HL0.out; have := HL1.out; omega))
      have h1c : (q.cells a n c).all (·.oneCell') = true := by simp [Value.oneCell']
      have h2c : (r.cells b m d).all (·.oneCell') = true := by simp [Value.oneCell']
      have hth : W2.there xb 0 (q.cells a n c).size := HX2.out.there 0 12 (by decide)
      have hth2 : W3.there yb 0 (r.cells b m d).size := (HY.out.only HO.out (by have := HL1.out; omega)).there 0 12 (by decide)
      have hsz : (Tryd.prog.info? 29).map (·.size) = some (q.cells a n c).size := sizeCall
      have hsz2 : (Tryd.prog.info? 29).map (·.size) = some (r.cells b m d).size := sizeCall
      refine lexP_step rfl rfl ?_
      refine wp_store_mid (op := _) 29 (.tmp 5) (.tmp 7) rfl xb 0 (q.cells a n c) ?_ ?_ hth hsz h1c ?_
      · rfl
      · rfl
      rw [show W2.setCells xb 0 (q.cells a n c).toList = W3 from hW3.symm]
      refine ⟨HO.out.below HK2.out.below HK2.out.below.size (fun k hk => by have := HL0.out; have := HL1.out; omega), ?_⟩
      simp only [List.getElem_toArray, List.getElem_cons_succ, List.getElem_cons_zero, Act.put]
      refine lexP_last rfl rfl ?_
      refine wp_store_mid (op := _) 29 (.tmp 6) (.tmp 8) rfl yb 0 (r.cells b m d) ?_ ?_ hth2 hsz2 h2c ?_
      · rfl
      · rfl
      exact ⟨_, _, rfl, HT.out⟩
    · refine lexP_step rfl rfl ?_
      unfold Oper.wp
      go_simp
      have HX := Lib.hid (rowC W0 [.int .u8 0, .int .i64 0, .int .i64 0, .int .i64 0, .int .i64 0, .int .i64 0, .int .i64 0, .int .u8 0, .int .u8 0, .int .u8 0, .int .u64 0, .slice none 0 0] 29)
      have HK1 := Lib.hid (show Kept w1.heap.size w1 (W0.alloc (.cells #[.int .u8 0, .int .i64 0, .int .i64 0, .int .i64 0, .int .i64 0, .int .i64 0, .int .i64 0, .int .u8 0, .int .u8 0, .int .u8 0, .int .u64 0, .slice none 0 0] 29)) from HK0.out.below.alloc HK0.out.below.size _)
      have HL0 := Lib.hid (show w1.heap.size ≤ W0.heap.size from HK0.out.below.size)
      refine ⟨HK1.out, ?_⟩
      clear HK0
      generalize W0.alloc (.cells #[.int .u8 0, .int .i64 0, .int .i64 0, .int .i64 0, .int .i64 0, .int .i64 0, .int .i64 0, .int .u8 0, .int .u8 0, .int .u8 0, .int .u64 0, .slice none 0 0] 29) = W1 at *
      generalize W0.heap.size = xb at *
      refine lexP_step rfl rfl ?_
      unfold Oper.wp
      go_simp
      have HY := Lib.hid (rowC W1 [.int .u8 0, .int .i64 0, .int .i64 0, .int .i64 0, .int .i64 0, .int .i64 0, .int .i64 0, .int .u8 0, .int .u8 0, .int .u8 0, .int .u64 0, .slice none 0 0] 29)
      have HX2 := Lib.hid (HX.out.alloc (.cells #[.int .u8 0, .int .i64 0, .int .i64 0, .int .i64 0, .int .i64 0, .int .i64 0, .int .i64 0, .int .u8 0, .int .u8 0, .int .u8 0, .int .u64 0, .slice none 0 0] 29))
      have HK2 := Lib.hid (show Kept w1.heap.size w1 (W1.alloc (.cells #[.int .u8 0, .int .i64 0, .int .i64 0, .int .i64 0, .int .i64 0, .int .i64 0, .int .i64 0, .int .u8 0, .int .u8 0, .int .u8 0, .int .u64 0, .slice none 0 0] 29)) from HK1.out.below.alloc HK1.out.below.size _)
      have HL1 := Lib.hid (show xb < W1.heap.size ∧ w1.heap.size ≤ W1.heap.size from ⟨HX.out.lt, HK1.out.below.size⟩)
      refine ⟨HK2.out, ?_⟩
      clear HK1 HX
      generalize W1.alloc (.cells #[.int .u8 0, .int .i64 0, .int .i64 0, .int .i64 0, .int .i64 0, .int .i64 0, .int .i64 0, .int .u8 0, .int .u8 0, .int .u8 0, .int .u64 0, .slice none 0 0] 29) = W2 at *
      generalize W1.heap.size = yb at *
      obtain ⟨W3, hW3⟩ : ∃ W3, W3 = W2.setCells yb 0 (q.cells a n c).toList := ⟨_, rfl⟩
      have HO := Lib.hid (show Only (fun k => k = yb) W2 W3 from by rw [hW3]; exact Only.setCells (S := fun k => k = yb) (b := yb) rfl (q.cells a n c).toList 0 W2)
      have HT := Lib.hid (show TwoC w q r a b n c m d yb xb (W3.setCells xb 0 (r.cells b m d).toList) from by
        rw [hW3]
        exact two_new HB1.out.size (HB1.out.trans (HK2.out.below.mono HB1.out.size)) HY.out HX2.out (by have := HL1.out; omega) (by have := HL0.out; have := HL1.out; omega) (by have := HL0.out; have := HL1.out; omega))
      have h1c : (q.cells a n c).all (·.oneCell') = true := by simp [Value.oneCell']
      have h2c : (r.cells b m d).all (·.oneCell') = true := by simp [Value.oneCell']
      have hth : W2.there yb 0 (q.cells a n c).size := HY.out.there 0 12 (by decide)
      have hth2 : W3.there xb 0 (r.cells b m d).size := (HX2.out.only HO.out (by have := HL1.out; omega)).there 0 12 (by decide)
      have hsz : (Tryd.prog.info? 29).map (·.size) = some (q.cells a n c).size := sizeCall
      have hsz2 : (Tryd.prog.info? 29).map (·.size) = some (r.cells b m d).size := sizeCall
      refine lexP_step rfl rfl ?_
      refine wp_store_mid (op := _) 29 (.tmp 5) (.tmp 7) rfl yb 0 (q.cells a n c) ?_ ?_ hth hsz h1c ?_
      · rfl
      · rfl
      rw [show W2.setCells yb 0 (q.cells a n c).toList = W3 from hW3.symm]
      refine ⟨HO.out.below HK2.out.below HK2.out.below.size (fun k hk => by have := HL0.out; have := HL1.out; omega), ?_⟩
      simp only [List.getElem_toArray, List.getElem_cons_succ, List.getElem_cons_zero, Act.put]
      refine lexP_last rfl rfl ?_
      refine wp_store_mid (op := _) 29 (.tmp 6) (.tmp 8) rfl xb 0 (r.cells b m d) ?_ ?_ hth2 hsz2 h2c ?_
      · rfl
      · rfl
      exact ⟨_, _, rfl, HT.out⟩
  · rintro e x W hx
    cases e <;> try exact hx.elim
    obtain ⟨ab, bb, rfl, hT⟩ := hx
    simp only [Act.put, List.setIfInBounds_toArray, List.set_cons_zero, List.set_cons_succ]
    have HT := Lib.hid hT
    clear hT L0 L1
    have hs1 := run_string_src (c := c) (S1.out.later HT.out.bel)
    have hs2 := run_string_src (c := d) (S2.out.later HT.out.bel)
    have HB := Lib.hid HT.out.bel
    have ka0 : W.cell? ⟨ab, 0, none⟩ = some (.int .u8 (q.kind : Int)) := HT.out.ra.cell 0 (by decide)
    have kb0 : W.cell? ⟨bb, 0, none⟩ = some (.int .u8 (r.kind : Int)) := HT.out.rb.cell 0 (by decide)
    have ka1 : W.cell? ⟨ab, 1, none⟩ = some (.int .i64 q.pid) := HT.out.ra.cell 1 (by decide)
    have kb1 : W.cell? ⟨bb, 1, none⟩ = some (.int .i64 r.pid) := HT.out.rb.cell 1 (by decide)
    have ka2 : W.cell? ⟨ab, 2, none⟩ = some (.int .i64 q.node) := HT.out.ra.cell 2 (by decide)
    have kb2 : W.cell? ⟨bb, 2, none⟩ = some (.int .i64 r.node) := HT.out.rb.cell 2 (by decide)
    have ka3 : W.cell? ⟨ab, 3, none⟩ = some (.int .i64 q.page) := HT.out.ra.cell 3 (by decide)
    have kb3 : W.cell? ⟨bb, 3, none⟩ = some (.int .i64 r.page) := HT.out.rb.cell 3 (by decide)
    have ka4 : W.cell? ⟨ab, 4, none⟩ = some (.int .i64 q.count) := HT.out.ra.cell 4 (by decide)
    have kb4 : W.cell? ⟨bb, 4, none⟩ = some (.int .i64 r.count) := HT.out.rb.cell 4 (by decide)
    have ka5 : W.cell? ⟨ab, 5, none⟩ = some (.int .i64 q.addr) := HT.out.ra.cell 5 (by decide)
    have kb5 : W.cell? ⟨bb, 5, none⟩ = some (.int .i64 r.addr) := HT.out.rb.cell 5 (by decide)
    have ka6 : W.cell? ⟨ab, 6, none⟩ = some (.int .i64 q.size) := HT.out.ra.cell 6 (by decide)
    have kb6 : W.cell? ⟨bb, 6, none⟩ = some (.int .i64 r.size) := HT.out.rb.cell 6 (by decide)
    have ka7 : W.cell? ⟨ab, 7, none⟩ = some (.int .u8 (q.rights : Int)) := HT.out.ra.cell 7 (by decide)
    have kb7 : W.cell? ⟨bb, 7, none⟩ = some (.int .u8 (r.rights : Int)) := HT.out.rb.cell 7 (by decide)
    have ka8 : W.cell? ⟨ab, 8, none⟩ = some (.int .u8 (q.pk : Int)) := HT.out.ra.cell 8 (by decide)
    have kb8 : W.cell? ⟨bb, 8, none⟩ = some (.int .u8 (r.pk : Int)) := HT.out.rb.cell 8 (by decide)
    have ka9 : W.cell? ⟨ab, 9, none⟩ = some (.int .u8 (q.pm : Int)) := HT.out.ra.cell 9 (by decide)
    have kb9 : W.cell? ⟨bb, 9, none⟩ = some (.int .u8 (r.pm : Int)) := HT.out.rb.cell 9 (by decide)
    have ka10 : W.cell? ⟨ab, 10, none⟩ = some (.int .u64 (q.handle : Int)) := HT.out.ra.cell 10 (by decide)
    have kb10 : W.cell? ⟨bb, 10, none⟩ = some (.int .u64 (r.handle : Int)) := HT.out.rb.cell 10 (by decide)
    have ka11 : W.cell? ⟨ab, 11, none⟩ = some (.slice a n c) := HT.out.ra.cell 11 (by decide)
    have kb11 : W.cell? ⟨bb, 11, none⟩ = some (.slice b m d) := HT.out.rb.cell 11 (by decide)
    clear HT
    have HS := Lib.hid (show sameC q r (strB n x1) (strB m x2) = false from same_no (i := 5) (fun e => hk e))
    have gk : (q.addr == r.addr) = false := by rw [beq_eq_false_iff_ne]; omega
    have ek : ¬ q.addr = r.addr := by omega
    clear hk
    rw [← h0] at kb0
    rw [← h1] at kb1
    rw [← h2] at kb2
    rw [← h3] at kb3
    rw [← h4] at kb4
    clear h0 h1 h2 h3 h4
    generalize strB n x1 = s1 at hs1 hb
    generalize strB m x2 = s2 at hs2 hb
    go_wp2_with (fail)
    go_ret
    exact ⟨by rw [HS.out]; rfl, HB.out⟩
set_option maxRecDepth 100000 in
set_option maxHeartbeats 8000000 in
theorem csame7 (q r : CallM) (a b : Option Addr) (n c m d : Nat) (x1 x2 : Nat → UInt8) (w : World) (S1 : Src w a n x1) (S2 : Src w b m x2) (hb : ((strB n x1).toList == (strB m x2).toList) = true) (h0 : q.kind = r.kind) (h1 : q.pid = r.pid) (h2 : q.node = r.node) (h3 : q.page = r.page) (h4 : q.count = r.count) (h5 : q.addr = r.addr) (hk : q.size ≠ r.size) : Calls Tryd.prog 15 #[.agg (q.cells a n c), .agg (r.cells b m d)] w fun e w' => e = .returned (.bool (sameC q r (strB n x1) (strB m x2))) ∧ Below w.heap.size w w' := by
  have S1 := Lib.hid S1
  have S2 := Lib.hid S2
  obtain ⟨w1, hw1⟩ : ∃ w1, w1 = (w.alloc (.cells (q.cells a n c) 29)).alloc (.cells (r.cells b m d) 29) := ⟨_, rfl⟩
  have HB1 := Lib.hid (show Below w.heap.size w w1 from by rw [hw1]; exact ((Below.refl _ _).alloc (Nat.le_refl _) _).alloc (by simp) _)
  have HA := Lib.hid (show RowAt w1 w.heap.size 12 (cellC (q.list a n c)) from by rw [hw1]; exact (row_list w q a n c _).alloc _)
  have HC := Lib.hid (show RowAt w1 (w.heap.size + 1) 12 (cellC (r.list b m d)) from by
    rw [hw1]
    have h5 := row_list (w.alloc (.cells (q.cells a n c) 29)) r b m d 29
    rw [World.size_alloc] at h5
    exact h5)
  have L0 := Lib.hid (show ∀ W, Kept w1.heap.size w1 W → (loadVar 29 ⟨w.heap.size, 0, none⟩).run Tryd.prog W = .ok (.agg (q.cells a n c)) W from fun W hW => load_call (HA.out.later hW.below) rfl)
  have L1 := Lib.hid (show ∀ W, Kept w1.heap.size w1 W → (loadVar 29 ⟨w.heap.size + 1, 0, none⟩).run Tryd.prog W = .ok (.agg (r.cells b m d)) W from fun W hW => load_call (HC.out.later hW.below) rfl)
  go_enter Tryd.func15, Tryd.ntmps15
  go_wp2_with (fail)
  rw [← hw1]
  clear hw1 HA HC
  refine wp_monoA (SameR w q r a b n c m d) ?_ ?_
  · refine wp_region_plan (Kept w1.heap.size w1) (.take 0 (.take 1 (.step 2 (.step 3 (.step 4 .fin .fin) .fin) (.step 3 (.step 2 (.step 4 .fin .fin) .fin) .fin)))) 5 (by kernel_rfl) (by kernel_rfl) (by kernel_rfl) (Below.refl _ w1).drew ?_
    intro W0 hW0 hK0
    have HK0 := Lib.hid hK0
    clear hW0 hK0
    refine lexP_load rfl rfl _ _ rfl rfl L0.out ?_
    simp only [List.getElem_toArray, List.getElem_cons_zero, Act.put, List.setIfInBounds_toArray, List.set_cons_zero, List.set_cons_succ]
    refine lexP_load rfl rfl _ _ rfl rfl L1.out ?_
    simp only [List.getElem_toArray, List.getElem_cons_succ, List.getElem_cons_zero, Act.put, List.setIfInBounds_toArray, List.set_cons_zero, List.set_cons_succ]
    clear L0 L1
    refine lexP_or rfl rfl ?_ ?_
    · unfold Oper.wp
      go_simp
      have HX := Lib.hid (rowC W0 [.int .u8 0, .int .i64 0, .int .i64 0, .int .i64 0, .int .i64 0, .int .i64 0, .int .i64 0, .int .u8 0, .int .u8 0, .int .u8 0, .int .u64 0, .slice none 0 0] 29)
      have HK1 := Lib.hid (show Kept w1.heap.size w1 (W0.alloc (.cells #[.int .u8 0, .int .i64 0, .int .i64 0, .int .i64 0, .int .i64 0, .int .i64 0, .int .i64 0, .int .u8 0, .int .u8 0, .int .u8 0, .int .u64 0, .slice none 0 0] 29)) from HK0.out.below.alloc HK0.out.below.size _)
      have HL0 := Lib.hid (show w1.heap.size ≤ W0.heap.size from HK0.out.below.size)
      refine ⟨HK1.out, ?_⟩
      clear HK0
      generalize W0.alloc (.cells #[.int .u8 0, .int .i64 0, .int .i64 0, .int .i64 0, .int .i64 0, .int .i64 0, .int .i64 0, .int .u8 0, .int .u8 0, .int .u8 0, .int .u64 0, .slice none 0 0] 29) = W1 at *
      generalize W0.heap.size = xb at *
      refine lexP_step rfl rfl ?_
      unfold Oper.wp
      go_simp
      have HY := Lib.hid (rowC W1 [.int .u8 0, .int .i64 0, .int .i64 0, .int .i64 0, .int .i64 0, .int .i64 0, .int .i64 0, .int .u8 0, .int .u8 0, .int .u8 0, .int .u64 0, .slice none 0 0] 29)
      have HX2 := Lib.hid (HX.out.alloc (.cells #[.int .u8 0, .int .i64 0, .int .i64 0, .int .i64 0, .int .i64 0, .int .i64 0, .int .i64 0, .int .u8 0, .int .u8 0, .int .u8 0, .int .u64 0, .slice none 0 0] 29))
      have HK2 := Lib.hid (show Kept w1.heap.size w1 (W1.alloc (.cells #[.int .u8 0, .int .i64 0, .int .i64 0, .int .i64 0, .int .i64 0, .int .i64 0, .int .i64 0, .int .u8 0, .int .u8 0, .int .u8 0, .int .u64 0, .slice none 0 0] 29)) from HK1.out.below.alloc HK1.out.below.size _)
      have HL1 := Lib.hid (show xb < W1.heap.size ∧ w1.heap.size ≤ W1.heap.size from ⟨HX.out.lt, HK1.out.below.size⟩)
      refine ⟨HK2.out, ?_⟩
      clear HK1 HX
      generalize W1.alloc (.cells #[.int .u8 0, .int .i64 0, .int .i64 0, .int .i64 0, .int .i64 0, .int .i64 0, .int .i64 0, .int .u8 0, .int .u8 0, .int .u8 0, .int .u64 0, .slice none 0 0] 29) = W2 at *
      generalize W1.heap.size = yb at *
      obtain ⟨W3, hW3⟩ : ∃ W3, W3 = W2.setCells xb 0 (q.cells a n c).toList := ⟨_, rfl⟩
      have HO := Lib.hid (show Only (fun k => k = xb) W2 W3 from by rw [hW3]; exact Only.setCells (S := fun k => k = xb) (b := xb) rfl (q.cells a n c).toList 0 W2)
      have HT := Lib.hid (show TwoC w q r a b n c m d xb yb (W3.setCells yb 0 (r.cells b m d).toList) from by
        rw [hW3]
        exact two_new HB1.out.size (HB1.out.trans (HK2.out.below.mono HB1.out.size)) HX2.out HY.out (by have := HL1.out; omega) (by have := HL0.out; have := HL1.out; omega) (by have := HL0.out; have := HL1.out; omega))
      have h1c : (q.cells a n c).all (·.oneCell') = true := by simp [Value.oneCell']
      have h2c : (r.cells b m d).all (·.oneCell') = true := by simp [Value.oneCell']
      have hth : W2.there xb 0 (q.cells a n c).size := HX2.out.there 0 12 (by decide)
      have hth2 : W3.there yb 0 (r.cells b m d).size := (HY.out.only HO.out (by have := HL1.out; omega)).there 0 12 (by decide)
      have hsz : (Tryd.prog.info? 29).map (·.size) = some (q.cells a n c).size := sizeCall
      have hsz2 : (Tryd.prog.info? 29).map (·.size) = some (r.cells b m d).size := sizeCall
      refine lexP_step rfl rfl ?_
      refine wp_store_mid (op := _) 29 (.tmp 5) (.tmp 7) rfl xb 0 (q.cells a n c) ?_ ?_ hth hsz h1c ?_
      · rfl
      · rfl
      rw [show W2.setCells xb 0 (q.cells a n c).toList = W3 from hW3.symm]
      refine ⟨HO.out.below HK2.out.below HK2.out.below.size (fun k hk => by have := HL0.out; have := HL1.out; omega), ?_⟩
      simp only [List.getElem_toArray, List.getElem_cons_succ, List.getElem_cons_zero, Act.put]
      refine lexP_last rfl rfl ?_
      refine wp_store_mid (op := _) 29 (.tmp 6) (.tmp 8) rfl yb 0 (r.cells b m d) ?_ ?_ hth2 hsz2 h2c ?_
      · rfl
      · rfl
      exact ⟨_, _, rfl, HT.out⟩
    · refine lexP_step rfl rfl ?_
      unfold Oper.wp
      go_simp
      have HX := Lib.hid (rowC W0 [.int .u8 0, .int .i64 0, .int .i64 0, .int .i64 0, .int .i64 0, .int .i64 0, .int .i64 0, .int .u8 0, .int .u8 0, .int .u8 0, .int .u64 0, .slice none 0 0] 29)
      have HK1 := Lib.hid (show Kept w1.heap.size w1 (W0.alloc (.cells #[.int .u8 0, .int .i64 0, .int .i64 0, .int .i64 0, .int .i64 0, .int .i64 0, .int .i64 0, .int .u8 0, .int .u8 0, .int .u8 0, .int .u64 0, .slice none 0 0] 29)) from HK0.out.below.alloc HK0.out.below.size _)
      have HL0 := Lib.hid (show w1.heap.size ≤ W0.heap.size from HK0.out.below.size)
      refine ⟨HK1.out, ?_⟩
      clear HK0
      generalize W0.alloc (.cells #[.int .u8 0, .int .i64 0, .int .i64 0, .int .i64 0, .int .i64 0, .int .i64 0, .int .i64 0, .int .u8 0, .int .u8 0, .int .u8 0, .int .u64 0, .slice none 0 0] 29) = W1 at *
      generalize W0.heap.size = xb at *
      refine lexP_step rfl rfl ?_
      unfold Oper.wp
      go_simp
      have HY := Lib.hid (rowC W1 [.int .u8 0, .int .i64 0, .int .i64 0, .int .i64 0, .int .i64 0, .int .i64 0, .int .i64 0, .int .u8 0, .int .u8 0, .int .u8 0, .int .u64 0, .slice none 0 0] 29)
      have HX2 := Lib.hid (HX.out.alloc (.cells #[.int .u8 0, .int .i64 0, .int .i64 0, .int .i64 0, .int .i64 0, .int .i64 0, .int .i64 0, .int .u8 0, .int .u8 0, .int .u8 0, .int .u64 0, .slice none 0 0] 29))
      have HK2 := Lib.hid (show Kept w1.heap.size w1 (W1.alloc (.cells #[.int .u8 0, .int .i64 0, .int .i64 0, .int .i64 0, .int .i64 0, .int .i64 0, .int .i64 0, .int .u8 0, .int .u8 0, .int .u8 0, .int .u64 0, .slice none 0 0] 29)) from HK1.out.below.alloc HK1.out.below.size _)
      have HL1 := Lib.hid (show xb < W1.heap.size ∧ w1.heap.size ≤ W1.heap.size from ⟨HX.out.lt, HK1.out.below.size⟩)
      refine ⟨HK2.out, ?_⟩
      clear HK1 HX
      generalize W1.alloc (.cells #[.int .u8 0, .int .i64 0, .int .i64 0, .int .i64 0, .int .i64 0, .int .i64 0, .int .i64 0, .int .u8 0, .int .u8 0, .int .u8 0, .int .u64 0, .slice none 0 0] 29) = W2 at *
      generalize W1.heap.size = yb at *
      obtain ⟨W3, hW3⟩ : ∃ W3, W3 = W2.setCells yb 0 (q.cells a n c).toList := ⟨_, rfl⟩
      have HO := Lib.hid (show Only (fun k => k = yb) W2 W3 from by rw [hW3]; exact Only.setCells (S := fun k => k = yb) (b := yb) rfl (q.cells a n c).toList 0 W2)
      have HT := Lib.hid (show TwoC w q r a b n c m d yb xb (W3.setCells xb 0 (r.cells b m d).toList) from by
        rw [hW3]
        exact two_new HB1.out.size (HB1.out.trans (HK2.out.below.mono HB1.out.size)) HY.out HX2.out (by have := HL1.out; omega) (by have := HL0.out; have := HL1.out; omega) (by have := HL0.out; have := HL1.out; omega))
      have h1c : (q.cells a n c).all (·.oneCell') = true := by simp [Value.oneCell']
      have h2c : (r.cells b m d).all (·.oneCell') = true := by simp [Value.oneCell']
      have hth : W2.there yb 0 (q.cells a n c).size := HY.out.there 0 12 (by decide)
      have hth2 : W3.there xb 0 (r.cells b m d).size := (HX2.out.only HO.out (by have := HL1.out; omega)).there 0 12 (by decide)
      have hsz : (Tryd.prog.info? 29).map (·.size) = some (q.cells a n c).size := sizeCall
      have hsz2 : (Tryd.prog.info? 29).map (·.size) = some (r.cells b m d).size := sizeCall
      refine lexP_step rfl rfl ?_
      refine wp_store_mid (op := _) 29 (.tmp 5) (.tmp 7) rfl yb 0 (q.cells a n c) ?_ ?_ hth hsz h1c ?_
      · rfl
      · rfl
      rw [show W2.setCells yb 0 (q.cells a n c).toList = W3 from hW3.symm]
      refine ⟨HO.out.below HK2.out.below HK2.out.below.size (fun k hk => by have := HL0.out; have := HL1.out; omega), ?_⟩
      simp only [List.getElem_toArray, List.getElem_cons_succ, List.getElem_cons_zero, Act.put]
      refine lexP_last rfl rfl ?_
      refine wp_store_mid (op := _) 29 (.tmp 6) (.tmp 8) rfl xb 0 (r.cells b m d) ?_ ?_ hth2 hsz2 h2c ?_
      · rfl
      · rfl
      exact ⟨_, _, rfl, HT.out⟩
  · rintro e x W hx
    cases e <;> try exact hx.elim
    obtain ⟨ab, bb, rfl, hT⟩ := hx
    simp only [Act.put, List.setIfInBounds_toArray, List.set_cons_zero, List.set_cons_succ]
    have HT := Lib.hid hT
    clear hT L0 L1
    have hs1 := run_string_src (c := c) (S1.out.later HT.out.bel)
    have hs2 := run_string_src (c := d) (S2.out.later HT.out.bel)
    have HB := Lib.hid HT.out.bel
    have ka0 : W.cell? ⟨ab, 0, none⟩ = some (.int .u8 (q.kind : Int)) := HT.out.ra.cell 0 (by decide)
    have kb0 : W.cell? ⟨bb, 0, none⟩ = some (.int .u8 (r.kind : Int)) := HT.out.rb.cell 0 (by decide)
    have ka1 : W.cell? ⟨ab, 1, none⟩ = some (.int .i64 q.pid) := HT.out.ra.cell 1 (by decide)
    have kb1 : W.cell? ⟨bb, 1, none⟩ = some (.int .i64 r.pid) := HT.out.rb.cell 1 (by decide)
    have ka2 : W.cell? ⟨ab, 2, none⟩ = some (.int .i64 q.node) := HT.out.ra.cell 2 (by decide)
    have kb2 : W.cell? ⟨bb, 2, none⟩ = some (.int .i64 r.node) := HT.out.rb.cell 2 (by decide)
    have ka3 : W.cell? ⟨ab, 3, none⟩ = some (.int .i64 q.page) := HT.out.ra.cell 3 (by decide)
    have kb3 : W.cell? ⟨bb, 3, none⟩ = some (.int .i64 r.page) := HT.out.rb.cell 3 (by decide)
    have ka4 : W.cell? ⟨ab, 4, none⟩ = some (.int .i64 q.count) := HT.out.ra.cell 4 (by decide)
    have kb4 : W.cell? ⟨bb, 4, none⟩ = some (.int .i64 r.count) := HT.out.rb.cell 4 (by decide)
    have ka5 : W.cell? ⟨ab, 5, none⟩ = some (.int .i64 q.addr) := HT.out.ra.cell 5 (by decide)
    have kb5 : W.cell? ⟨bb, 5, none⟩ = some (.int .i64 r.addr) := HT.out.rb.cell 5 (by decide)
    have ka6 : W.cell? ⟨ab, 6, none⟩ = some (.int .i64 q.size) := HT.out.ra.cell 6 (by decide)
    have kb6 : W.cell? ⟨bb, 6, none⟩ = some (.int .i64 r.size) := HT.out.rb.cell 6 (by decide)
    have ka7 : W.cell? ⟨ab, 7, none⟩ = some (.int .u8 (q.rights : Int)) := HT.out.ra.cell 7 (by decide)
    have kb7 : W.cell? ⟨bb, 7, none⟩ = some (.int .u8 (r.rights : Int)) := HT.out.rb.cell 7 (by decide)
    have ka8 : W.cell? ⟨ab, 8, none⟩ = some (.int .u8 (q.pk : Int)) := HT.out.ra.cell 8 (by decide)
    have kb8 : W.cell? ⟨bb, 8, none⟩ = some (.int .u8 (r.pk : Int)) := HT.out.rb.cell 8 (by decide)
    have ka9 : W.cell? ⟨ab, 9, none⟩ = some (.int .u8 (q.pm : Int)) := HT.out.ra.cell 9 (by decide)
    have kb9 : W.cell? ⟨bb, 9, none⟩ = some (.int .u8 (r.pm : Int)) := HT.out.rb.cell 9 (by decide)
    have ka10 : W.cell? ⟨ab, 10, none⟩ = some (.int .u64 (q.handle : Int)) := HT.out.ra.cell 10 (by decide)
    have kb10 : W.cell? ⟨bb, 10, none⟩ = some (.int .u64 (r.handle : Int)) := HT.out.rb.cell 10 (by decide)
    have ka11 : W.cell? ⟨ab, 11, none⟩ = some (.slice a n c) := HT.out.ra.cell 11 (by decide)
    have kb11 : W.cell? ⟨bb, 11, none⟩ = some (.slice b m d) := HT.out.rb.cell 11 (by decide)
    clear HT
    have HS := Lib.hid (show sameC q r (strB n x1) (strB m x2) = false from same_no (i := 6) (fun e => hk e))
    have gk : (q.size == r.size) = false := by rw [beq_eq_false_iff_ne]; omega
    have ek : ¬ q.size = r.size := by omega
    clear hk
    rw [← h0] at kb0
    rw [← h1] at kb1
    rw [← h2] at kb2
    rw [← h3] at kb3
    rw [← h4] at kb4
    rw [← h5] at kb5
    clear h0 h1 h2 h3 h4 h5
    generalize strB n x1 = s1 at hs1 hb
    generalize strB m x2 = s2 at hs2 hb
    go_wp2_with (fail)
    go_ret
    exact ⟨by rw [HS.out]; rfl, HB.out⟩
set_option maxRecDepth 100000 in
set_option maxHeartbeats 8000000 in
theorem csame8 (q r : CallM) (a b : Option Addr) (n c m d : Nat) (x1 x2 : Nat → UInt8) (w : World) (S1 : Src w a n x1) (S2 : Src w b m x2) (hb : ((strB n x1).toList == (strB m x2).toList) = true) (h0 : q.kind = r.kind) (h1 : q.pid = r.pid) (h2 : q.node = r.node) (h3 : q.page = r.page) (h4 : q.count = r.count) (h5 : q.addr = r.addr) (h6 : q.size = r.size) (hk : q.rights ≠ r.rights) : Calls Tryd.prog 15 #[.agg (q.cells a n c), .agg (r.cells b m d)] w fun e w' => e = .returned (.bool (sameC q r (strB n x1) (strB m x2))) ∧ Below w.heap.size w w' := by
  have S1 := Lib.hid S1
  have S2 := Lib.hid S2
  obtain ⟨w1, hw1⟩ : ∃ w1, w1 = (w.alloc (.cells (q.cells a n c) 29)).alloc (.cells (r.cells b m d) 29) := ⟨_, rfl⟩
  have HB1 := Lib.hid (show Below w.heap.size w w1 from by rw [hw1]; exact ((Below.refl _ _).alloc (Nat.le_refl _) _).alloc (by simp) _)
  have HA := Lib.hid (show RowAt w1 w.heap.size 12 (cellC (q.list a n c)) from by rw [hw1]; exact (row_list w q a n c _).alloc _)
  have HC := Lib.hid (show RowAt w1 (w.heap.size + 1) 12 (cellC (r.list b m d)) from by
    rw [hw1]
    have h5 := row_list (w.alloc (.cells (q.cells a n c) 29)) r b m d 29
    rw [World.size_alloc] at h5
    exact h5)
  have L0 := Lib.hid (show ∀ W, Kept w1.heap.size w1 W → (loadVar 29 ⟨w.heap.size, 0, none⟩).run Tryd.prog W = .ok (.agg (q.cells a n c)) W from fun W hW => load_call (HA.out.later hW.below) rfl)
  have L1 := Lib.hid (show ∀ W, Kept w1.heap.size w1 W → (loadVar 29 ⟨w.heap.size + 1, 0, none⟩).run Tryd.prog W = .ok (.agg (r.cells b m d)) W from fun W hW => load_call (HC.out.later hW.below) rfl)
  go_enter Tryd.func15, Tryd.ntmps15
  go_wp2_with (fail)
  rw [← hw1]
  clear hw1 HA HC
  refine wp_monoA (SameR w q r a b n c m d) ?_ ?_
  · refine wp_region_plan (Kept w1.heap.size w1) (.take 0 (.take 1 (.step 2 (.step 3 (.step 4 .fin .fin) .fin) (.step 3 (.step 2 (.step 4 .fin .fin) .fin) .fin)))) 5 (by kernel_rfl) (by kernel_rfl) (by kernel_rfl) (Below.refl _ w1).drew ?_
    intro W0 hW0 hK0
    have HK0 := Lib.hid hK0
    clear hW0 hK0
    refine lexP_load rfl rfl _ _ rfl rfl L0.out ?_
    simp only [List.getElem_toArray, List.getElem_cons_zero, Act.put, List.setIfInBounds_toArray, List.set_cons_zero, List.set_cons_succ]
    refine lexP_load rfl rfl _ _ rfl rfl L1.out ?_
    simp only [List.getElem_toArray, List.getElem_cons_succ, List.getElem_cons_zero, Act.put, List.setIfInBounds_toArray, List.set_cons_zero, List.set_cons_succ]
    clear L0 L1
    refine lexP_or rfl rfl ?_ ?_
    · unfold Oper.wp
      go_simp
      have HX := Lib.hid (rowC W0 [.int .u8 0, .int .i64 0, .int .i64 0, .int .i64 0, .int .i64 0, .int .i64 0, .int .i64 0, .int .u8 0, .int .u8 0, .int .u8 0, .int .u64 0, .slice none 0 0] 29)
      have HK1 := Lib.hid (show Kept w1.heap.size w1 (W0.alloc (.cells #[.int .u8 0, .int .i64 0, .int .i64 0, .int .i64 0, .int .i64 0, .int .i64 0, .int .i64 0, .int .u8 0, .int .u8 0, .int .u8 0, .int .u64 0, .slice none 0 0] 29)) from HK0.out.below.alloc HK0.out.below.size _)
      have HL0 := Lib.hid (show w1.heap.size ≤ W0.heap.size from HK0.out.below.size)
      refine ⟨HK1.out, ?_⟩
      clear HK0
      generalize W0.alloc (.cells #[.int .u8 0, .int .i64 0, .int .i64 0, .int .i64 0, .int .i64 0, .int .i64 0, .int .i64 0, .int .u8 0, .int .u8 0, .int .u8 0, .int .u64 0, .slice none 0 0] 29) = W1 at *
      generalize W0.heap.size = xb at *
      refine lexP_step rfl rfl ?_
      unfold Oper.wp
      go_simp
      have HY := Lib.hid (rowC W1 [.int .u8 0, .int .i64 0, .int .i64 0, .int .i64 0, .int .i64 0, .int .i64 0, .int .i64 0, .int .u8 0, .int .u8 0, .int .u8 0, .int .u64 0, .slice none 0 0] 29)
      have HX2 := Lib.hid (HX.out.alloc (.cells #[.int .u8 0, .int .i64 0, .int .i64 0, .int .i64 0, .int .i64 0, .int .i64 0, .int .i64 0, .int .u8 0, .int .u8 0, .int .u8 0, .int .u64 0, .slice none 0 0] 29))
      have HK2 := Lib.hid (show Kept w1.heap.size w1 (W1.alloc (.cells #[.int .u8 0, .int .i64 0, .int .i64 0, .int .i64 0, .int .i64 0, .int .i64 0, .int .i64 0, .int .u8 0, .int .u8 0, .int .u8 0, .int .u64 0, .slice none 0 0] 29)) from HK1.out.below.alloc HK1.out.below.size _)
      have HL1 := Lib.hid (show xb < W1.heap.size ∧ w1.heap.size ≤ W1.heap.size from ⟨HX.out.lt, HK1.out.below.size⟩)
      refine ⟨HK2.out, ?_⟩
      clear HK1 HX
      generalize W1.alloc (.cells #[.int .u8 0, .int .i64 0, .int .i64 0, .int .i64 0, .int .i64 0, .int .i64 0, .int .i64 0, .int .u8 0, .int .u8 0, .int .u8 0, .int .u64 0, .slice none 0 0] 29) = W2 at *
      generalize W1.heap.size = yb at *
      obtain ⟨W3, hW3⟩ : ∃ W3, W3 = W2.setCells xb 0 (q.cells a n c).toList := ⟨_, rfl⟩
      have HO := Lib.hid (show Only (fun k => k = xb) W2 W3 from by rw [hW3]; exact Only.setCells (S := fun k => k = xb) (b := xb) rfl (q.cells a n c).toList 0 W2)
      have HT := Lib.hid (show TwoC w q r a b n c m d xb yb (W3.setCells yb 0 (r.cells b m d).toList) from by
        rw [hW3]
        exact two_new HB1.out.size (HB1.out.trans (HK2.out.below.mono HB1.out.size)) HX2.out HY.out (by have := HL1.out; omega) (by have := HL0.out; have := HL1.out; omega) (by have := HL0.out; have := HL1.out; omega))
      have h1c : (q.cells a n c).all (·.oneCell') = true := by simp [Value.oneCell']
      have h2c : (r.cells b m d).all (·.oneCell') = true := by simp [Value.oneCell']
      have hth : W2.there xb 0 (q.cells a n c).size := HX2.out.there 0 12 (by decide)
      have hth2 : W3.there yb 0 (r.cells b m d).size := (HY.out.only HO.out (by have := HL1.out; omega)).there 0 12 (by decide)
      have hsz : (Tryd.prog.info? 29).map (·.size) = some (q.cells a n c).size := sizeCall
      have hsz2 : (Tryd.prog.info? 29).map (·.size) = some (r.cells b m d).size := sizeCall
      refine lexP_step rfl rfl ?_
      refine wp_store_mid (op := _) 29 (.tmp 5) (.tmp 7) rfl xb 0 (q.cells a n c) ?_ ?_ hth hsz h1c ?_
      · rfl
      · rfl
      rw [show W2.setCells xb 0 (q.cells a n c).toList = W3 from hW3.symm]
      refine ⟨HO.out.below HK2.out.below HK2.out.below.size (fun k hk => by have := HL0.out; have := HL1.out; omega), ?_⟩
      simp only [List.getElem_toArray, List.getElem_cons_succ, List.getElem_cons_zero, Act.put]
      refine lexP_last rfl rfl ?_
      refine wp_store_mid (op := _) 29 (.tmp 6) (.tmp 8) rfl yb 0 (r.cells b m d) ?_ ?_ hth2 hsz2 h2c ?_
      · rfl
      · rfl
      exact ⟨_, _, rfl, HT.out⟩
    · refine lexP_step rfl rfl ?_
      unfold Oper.wp
      go_simp
      have HX := Lib.hid (rowC W0 [.int .u8 0, .int .i64 0, .int .i64 0, .int .i64 0, .int .i64 0, .int .i64 0, .int .i64 0, .int .u8 0, .int .u8 0, .int .u8 0, .int .u64 0, .slice none 0 0] 29)
      have HK1 := Lib.hid (show Kept w1.heap.size w1 (W0.alloc (.cells #[.int .u8 0, .int .i64 0, .int .i64 0, .int .i64 0, .int .i64 0, .int .i64 0, .int .i64 0, .int .u8 0, .int .u8 0, .int .u8 0, .int .u64 0, .slice none 0 0] 29)) from HK0.out.below.alloc HK0.out.below.size _)
      have HL0 := Lib.hid (show w1.heap.size ≤ W0.heap.size from HK0.out.below.size)
      refine ⟨HK1.out, ?_⟩
      clear HK0
      generalize W0.alloc (.cells #[.int .u8 0, .int .i64 0, .int .i64 0, .int .i64 0, .int .i64 0, .int .i64 0, .int .i64 0, .int .u8 0, .int .u8 0, .int .u8 0, .int .u64 0, .slice none 0 0] 29) = W1 at *
      generalize W0.heap.size = xb at *
      refine lexP_step rfl rfl ?_
      unfold Oper.wp
      go_simp
      have HY := Lib.hid (rowC W1 [.int .u8 0, .int .i64 0, .int .i64 0, .int .i64 0, .int .i64 0, .int .i64 0, .int .i64 0, .int .u8 0, .int .u8 0, .int .u8 0, .int .u64 0, .slice none 0 0] 29)
      have HX2 := Lib.hid (HX.out.alloc (.cells #[.int .u8 0, .int .i64 0, .int .i64 0, .int .i64 0, .int .i64 0, .int .i64 0, .int .i64 0, .int .u8 0, .int .u8 0, .int .u8 0, .int .u64 0, .slice none 0 0] 29))
      have HK2 := Lib.hid (show Kept w1.heap.size w1 (W1.alloc (.cells #[.int .u8 0, .int .i64 0, .int .i64 0, .int .i64 0, .int .i64 0, .int .i64 0, .int .i64 0, .int .u8 0, .int .u8 0, .int .u8 0, .int .u64 0, .slice none 0 0] 29)) from HK1.out.below.alloc HK1.out.below.size _)
      have HL1 := Lib.hid (show xb < W1.heap.size ∧ w1.heap.size ≤ W1.heap.size from ⟨HX.out.lt, HK1.out.below.size⟩)
      refine ⟨HK2.out, ?_⟩
      clear HK1 HX
      generalize W1.alloc (.cells #[.int .u8 0, .int .i64 0, .int .i64 0, .int .i64 0, .int .i64 0, .int .i64 0, .int .i64 0, .int .u8 0, .int .u8 0, .int .u8 0, .int .u64 0, .slice none 0 0] 29) = W2 at *
      generalize W1.heap.size = yb at *
      obtain ⟨W3, hW3⟩ : ∃ W3, W3 = W2.setCells yb 0 (q.cells a n c).toList := ⟨_, rfl⟩
      have HO := Lib.hid (show Only (fun k => k = yb) W2 W3 from by rw [hW3]; exact Only.setCells (S := fun k => k = yb) (b := yb) rfl (q.cells a n c).toList 0 W2)
      have HT := Lib.hid (show TwoC w q r a b n c m d yb xb (W3.setCells xb 0 (r.cells b m d).toList) from by
        rw [hW3]
        exact two_new HB1.out.size (HB1.out.trans (HK2.out.below.mono HB1.out.size)) HY.out HX2.out (by have := HL1.out; omega) (by have := HL0.out; have := HL1.out; omega) (by have := HL0.out; have := HL1.out; omega))
      have h1c : (q.cells a n c).all (·.oneCell') = true := by simp [Value.oneCell']
      have h2c : (r.cells b m d).all (·.oneCell') = true := by simp [Value.oneCell']
      have hth : W2.there yb 0 (q.cells a n c).size := HY.out.there 0 12 (by decide)
      have hth2 : W3.there xb 0 (r.cells b m d).size := (HX2.out.only HO.out (by have := HL1.out; omega)).there 0 12 (by decide)
      have hsz : (Tryd.prog.info? 29).map (·.size) = some (q.cells a n c).size := sizeCall
      have hsz2 : (Tryd.prog.info? 29).map (·.size) = some (r.cells b m d).size := sizeCall
      refine lexP_step rfl rfl ?_
      refine wp_store_mid (op := _) 29 (.tmp 5) (.tmp 7) rfl yb 0 (q.cells a n c) ?_ ?_ hth hsz h1c ?_
      · rfl
      · rfl
      rw [show W2.setCells yb 0 (q.cells a n c).toList = W3 from hW3.symm]
      refine ⟨HO.out.below HK2.out.below HK2.out.below.size (fun k hk => by have := HL0.out; have := HL1.out; omega), ?_⟩
      simp only [List.getElem_toArray, List.getElem_cons_succ, List.getElem_cons_zero, Act.put]
      refine lexP_last rfl rfl ?_
      refine wp_store_mid (op := _) 29 (.tmp 6) (.tmp 8) rfl xb 0 (r.cells b m d) ?_ ?_ hth2 hsz2 h2c ?_
      · rfl
      · rfl
      exact ⟨_, _, rfl, HT.out⟩
  · rintro e x W hx
    cases e <;> try exact hx.elim
    obtain ⟨ab, bb, rfl, hT⟩ := hx
    simp only [Act.put, List.setIfInBounds_toArray, List.set_cons_zero, List.set_cons_succ]
    have HT := Lib.hid hT
    clear hT L0 L1
    have hs1 := run_string_src (c := c) (S1.out.later HT.out.bel)
    have hs2 := run_string_src (c := d) (S2.out.later HT.out.bel)
    have HB := Lib.hid HT.out.bel
    have ka0 : W.cell? ⟨ab, 0, none⟩ = some (.int .u8 (q.kind : Int)) := HT.out.ra.cell 0 (by decide)
    have kb0 : W.cell? ⟨bb, 0, none⟩ = some (.int .u8 (r.kind : Int)) := HT.out.rb.cell 0 (by decide)
    have ka1 : W.cell? ⟨ab, 1, none⟩ = some (.int .i64 q.pid) := HT.out.ra.cell 1 (by decide)
    have kb1 : W.cell? ⟨bb, 1, none⟩ = some (.int .i64 r.pid) := HT.out.rb.cell 1 (by decide)
    have ka2 : W.cell? ⟨ab, 2, none⟩ = some (.int .i64 q.node) := HT.out.ra.cell 2 (by decide)
    have kb2 : W.cell? ⟨bb, 2, none⟩ = some (.int .i64 r.node) := HT.out.rb.cell 2 (by decide)
    have ka3 : W.cell? ⟨ab, 3, none⟩ = some (.int .i64 q.page) := HT.out.ra.cell 3 (by decide)
    have kb3 : W.cell? ⟨bb, 3, none⟩ = some (.int .i64 r.page) := HT.out.rb.cell 3 (by decide)
    have ka4 : W.cell? ⟨ab, 4, none⟩ = some (.int .i64 q.count) := HT.out.ra.cell 4 (by decide)
    have kb4 : W.cell? ⟨bb, 4, none⟩ = some (.int .i64 r.count) := HT.out.rb.cell 4 (by decide)
    have ka5 : W.cell? ⟨ab, 5, none⟩ = some (.int .i64 q.addr) := HT.out.ra.cell 5 (by decide)
    have kb5 : W.cell? ⟨bb, 5, none⟩ = some (.int .i64 r.addr) := HT.out.rb.cell 5 (by decide)
    have ka6 : W.cell? ⟨ab, 6, none⟩ = some (.int .i64 q.size) := HT.out.ra.cell 6 (by decide)
    have kb6 : W.cell? ⟨bb, 6, none⟩ = some (.int .i64 r.size) := HT.out.rb.cell 6 (by decide)
    have ka7 : W.cell? ⟨ab, 7, none⟩ = some (.int .u8 (q.rights : Int)) := HT.out.ra.cell 7 (by decide)
    have kb7 : W.cell? ⟨bb, 7, none⟩ = some (.int .u8 (r.rights : Int)) := HT.out.rb.cell 7 (by decide)
    have ka8 : W.cell? ⟨ab, 8, none⟩ = some (.int .u8 (q.pk : Int)) := HT.out.ra.cell 8 (by decide)
    have kb8 : W.cell? ⟨bb, 8, none⟩ = some (.int .u8 (r.pk : Int)) := HT.out.rb.cell 8 (by decide)
    have ka9 : W.cell? ⟨ab, 9, none⟩ = some (.int .u8 (q.pm : Int)) := HT.out.ra.cell 9 (by decide)
    have kb9 : W.cell? ⟨bb, 9, none⟩ = some (.int .u8 (r.pm : Int)) := HT.out.rb.cell 9 (by decide)
    have ka10 : W.cell? ⟨ab, 10, none⟩ = some (.int .u64 (q.handle : Int)) := HT.out.ra.cell 10 (by decide)
    have kb10 : W.cell? ⟨bb, 10, none⟩ = some (.int .u64 (r.handle : Int)) := HT.out.rb.cell 10 (by decide)
    have ka11 : W.cell? ⟨ab, 11, none⟩ = some (.slice a n c) := HT.out.ra.cell 11 (by decide)
    have kb11 : W.cell? ⟨bb, 11, none⟩ = some (.slice b m d) := HT.out.rb.cell 11 (by decide)
    clear HT
    have HS := Lib.hid (show sameC q r (strB n x1) (strB m x2) = false from same_no (i := 7) (fun e => hk (Int.ofNat_inj.1 e)))
    have gk : (((q.rights : Nat) : Int) == ((r.rights : Nat) : Int)) = false := by rw [beq_eq_false_iff_ne]; omega
    have ek : ¬ ((q.rights : Nat) : Int) = ((r.rights : Nat) : Int) := by omega
    clear hk
    rw [← h0] at kb0
    rw [← h1] at kb1
    rw [← h2] at kb2
    rw [← h3] at kb3
    rw [← h4] at kb4
    rw [← h5] at kb5
    rw [← h6] at kb6
    clear h0 h1 h2 h3 h4 h5 h6
    generalize strB n x1 = s1 at hs1 hb
    generalize strB m x2 = s2 at hs2 hb
    go_wp2_with (fail)
    go_ret
    exact ⟨by rw [HS.out]; rfl, HB.out⟩
end Go.Proofs.YtkmjkkeldbocdaaDoor
