/-
  magazine: a pair that is not there, or a zero one; the walk of MagazineNone.
-/
import Derived.Test.YtaadjgnfihkaeaaMgStk
namespace Go.Proofs.Ytaadjgnfihkaeaa
open Go.RowKit Go
/-- Not there, or a zero one. -/
def MGone (v : Value) (w : World) : Prop := v = .pointer none ∨ ∃ z, v = .pointer (some ⟨z, 0, none⟩) ∧ RowAt w z 3 (mV 0 ⟨z, .slice none 0 0, .slice none 0 0⟩)
section
variable {w w' : World} {v : Value}
theorem MGone.later (h : MGone v w) (hb : Below w.heap.size w w') : MGone v w' := h.imp id fun ⟨z, e, R⟩ => ⟨z, e, R.later hb⟩
def BackP (w : World) (v : Value) (e : Ending) (w' : World) : Prop := e = .returned v ∧ Below w.heap.size w w'
theorem zero_cells {z : Nat} (R : RowAt w z 3 (mV 0 ⟨z, .slice none 0 0, .slice none 0 0⟩)) : w.cell? ⟨z, 0, none⟩ = some (.int .i64 0) ∧ w.cell? ⟨z, 1, none⟩ = some (.slice none 0 0) ∧ w.cell? ⟨z, 2, none⟩ = some (.slice none 0 0) :=
  ⟨R.cell 0 (by decide), R.cell 1 (by decide), R.cell 2 (by decide)⟩
set_option maxRecDepth 100000 in
set_option maxHeartbeats 2000000 in
theorem missing_gone (h : MGone v w) : Calls Try.prog 24 #[v] w fun e w' => e = .returned (.bool true) ∧ w = w' := by
  rcases h with rfl | ⟨z, rfl, R⟩
  · go_enter Try.func24, Try.ntmps24
    go_wp2_with (fail)
    go_ret
    exact ⟨rfl, rfl⟩
  · obtain ⟨c0, c1, c2⟩ := zero_cells R
    clear R
    go_enter Try.func24, Try.ntmps24
    go_wp2_with (fail)
    go_ret
    exact ⟨rfl, rfl⟩
set_option maxRecDepth 100000 in
set_option maxHeartbeats 2000000 in
theorem rounds_gone (h : MGone v w) : Calls Try.prog 11 #[v] w (BackP w (.int .i64 0)) := by
  have hb := Lib.hid (Below.refl w.heap.size w)
  rcases h with rfl | ⟨z, rfl, R⟩
  · go_enter Try.func11, Try.ntmps11
    go_wp2_with (fail)
    go_ret
    exact ⟨rfl, hb.out⟩
  · obtain ⟨c0, c1, c2⟩ := zero_cells R
    clear R
    go_enter Try.func11, Try.ntmps11
    go_wp2_with (fail)
    go_ret
    exact ⟨rfl, hb.out⟩
set_option maxRecDepth 100000 in
set_option maxHeartbeats 2000000 in
theorem len_gone (h : MGone v w) : Calls Try.prog 23 #[v] w (BackP w (.int .i64 0)) := by
  have hb := Lib.hid (Below.refl w.heap.size w)
  rcases h with rfl | ⟨z, rfl, R⟩
  · go_enter Try.func23, Try.ntmps23
    go_wp2_with (fail)
    go_ret
    exact ⟨rfl, hb.out⟩
  · obtain ⟨c0, c1, c2⟩ := zero_cells R
    clear R
    go_enter Try.func23, Try.ntmps23
    go_wp2_with (fail)
    go_quiet (fail)
    have hb2 := Lib.hid (below_drewN (Below.refl w.heap.size w) nq)
    go_wp2_with (fail)
    go_ret
    exact ⟨rfl, hb2.out⟩
set_option maxRecDepth 100000 in
set_option maxHeartbeats 2000000 in
theorem put_gone (h : MGone v w) (x y : Int) : Calls Try.prog 12 #[v, .agg #[.int .i64 x, .int .i64 y]] w (BackP w (.bool false)) := by
  have hba : Below w.heap.size w (w.alloc (.cells #[.int .i64 x, .int .i64 y] 33)) := (Below.refl w.heap.size w).alloc (Nat.le_refl _) _
  have HG := Lib.hid (h.later hba)
  have HB := Lib.hid hba
  clear h hba
  go_enter Try.func12, Try.ntmps12
  go_wp2_with (fail)
  refine (missing_gone HG.out).mono ?_
  rintro e w' ⟨rfl, rfl⟩
  go_wp2_with (fail)
  go_ret
  exact ⟨rfl, HB.out⟩
set_option maxRecDepth 100000 in
set_option maxHeartbeats 2000000 in
theorem load_gone (h : MGone v w) (u : Value) : Calls Try.prog 16 #[v, u] w (BackP w (.int .i64 1)) := by
  have HG := Lib.hid h
  have HB := Lib.hid (Below.refl w.heap.size w)
  clear h
  go_enter Try.func16, Try.ntmps16
  go_wp2_with (fail)
  refine (missing_gone HG.out).mono ?_
  rintro e w' ⟨rfl, rfl⟩
  go_wp2_with (fail)
  go_ret
  exact ⟨rfl, HB.out⟩
set_option maxRecDepth 100000 in
set_option maxHeartbeats 2000000 in
theorem unload_gone (h : MGone v w) : Calls Try.prog 18 #[v] w (BackP w (.tuple #[.slice none 0 0, .int .i64 1])) := by
  have HG := Lib.hid h
  have HB := Lib.hid (Below.refl w.heap.size w)
  clear h
  go_enter Try.func18, Try.ntmps18
  go_wp2_with (fail)
  refine (missing_gone HG.out).mono ?_
  rintro e w' ⟨rfl, rfl⟩
  go_wp2_with (fail)
  go_ret2
  exact ⟨rfl, HB.out⟩
set_option maxRecDepth 100000 in
set_option maxHeartbeats 2000000 in
theorem get_gone (h : MGone v w) : Calls Try.prog 14 #[v] w (BackP w (.tuple #[.agg #[.int .i64 0, .int .i64 0], .bool false])) := by
  have hba : Below w.heap.size w (w.alloc (.cells #[.int .i64 0, .int .i64 0] 33)) := (Below.refl w.heap.size w).alloc (Nat.le_refl _) _
  have HG := Lib.hid (h.later hba)
  have HB := Lib.hid hba
  have HX := Lib.hid (obj_row w 0 0)
  clear h hba
  go_enter Try.func14, Try.ntmps14
  go_wp2_with (fail)
  generalize w.alloc (.cells #[.int .i64 0, .int .i64 0] 33) = w1 at *
  generalize hXX : w.heap.size = X at HX ⊢
  refine (missing_gone HG.out).mono ?_
  rintro e w' ⟨rfl, rfl⟩
  have b0 := HX.out.cell 0 (by decide)
  have b1 := HX.out.cell 1 (by decide)
  have g0 := HX.out.frozen 0
  have g1 := HX.out.frozen 1
  have e0 : obV 0 0 0 = .int .i64 0 := rfl
  have e1 : obV 0 0 1 = .int .i64 0 := rfl
  rw [e0] at b0
  rw [e1] at b1
  have HB2 := Lib.hid (show Below X w ((w1.setCell ⟨X, 0, none⟩ (.int .i64 0)).setCell ⟨X, 1, none⟩ (.int .i64 0)) from by
    rw [← hXX]
    rw [← hXX] at HX
    exact (HB.out.setCell (p := ⟨w.heap.size, 0, none⟩) (Nat.le_refl _) _).setCell (p := ⟨w.heap.size, 1, none⟩) (Nat.le_refl _) _)
  have HX4 := Lib.hid (set_obj HX.out 0 0)
  have HXX := Lib.hid hXX
  clear e0 e1 HX HB HG hXX
  go_wp2_with (fail)
  exact ret_obj (b := .bool false) rfl rfl rfl rfl HX4.out ⟨rfl, by rw [HXX.out]; exact HB2.out⟩
set_option maxRecDepth 100000 in
set_option maxHeartbeats 2000000 in
theorem all_gone (h : MGone v w) : Calls Try.prog 21 #[v] w fun e w' => ∃ a c, e = .returned (.slice a 0 c) ∧ Below w.heap.size w w' := by
  rcases h with rfl | ⟨z, rfl, R⟩
  · have hb := Lib.hid (Below.refl w.heap.size w)
    go_enter Try.func21, Try.ntmps21
    go_wp2_with (fail)
    go_ret
    exact ⟨none, 0, rfl, hb.out⟩
  · have HR := Lib.hid R
    clear R
    have L1 := Lib.hid (show ∀ V, Kept w.heap.size w V → (loadVar 29 ⟨z, 1, none⟩).run Try.prog V = .ok (.slice none 0 0) V from fun V hV => run_loadVar_cell (fun _ => by kernel_rfl) (zero_cells (HR.out.later hV.below)).2.1)
    have L2 := Lib.hid (show ∀ V, Kept w.heap.size w V → (loadVar 29 ⟨z, 2, none⟩).run Try.prog V = .ok (.slice none 0 0) V from fun V hV => run_loadVar_cell (fun _ => by kernel_rfl) (zero_cells (HR.out.later hV.below)).2.2)
    go_enter Try.func21, Try.ntmps21
    go_wp2_with (fail)
    refine wp_region_lex1 (Kept w.heap.size w) [(0, false), (1, false), (2, false), (3, false), (4, false), (5, false), (6, false), (7, false), (8, false), (9, false), (10, true), (11, true), (12, false)] (by kernel_rfl) (by kernel_rfl) rfl (by kernel_rfl) (Below.refl _ w).drew ?_
    intro W0 hW0 hK0
    clear hW0
    refine lexH_yieldE rfl rfl ?_
    apply Exists.intro
    refine ⟨fun W hW => ?_, ?_⟩
    focus (go_simp; exact rfl)
    simp only [List.getElem_toArray, List.getElem_cons_zero, Act.put, List.setIfInBounds_toArray, List.set_cons_zero, List.set_cons_succ]
    refine lexH_yieldE rfl rfl ?_
    apply Exists.intro
    refine ⟨fun W hW => ?_, ?_⟩
    focus (go_simp; exact rfl)
    simp only [List.getElem_toArray, List.getElem_cons_succ, List.getElem_cons_zero, Act.put, List.setIfInBounds_toArray, List.set_cons_zero, List.set_cons_succ]
    refine lexH_yieldE rfl rfl ?_
    apply Exists.intro
    refine ⟨fun W hW => ?_, ?_⟩
    focus (go_simp; exact rfl)
    simp only [List.getElem_toArray, List.getElem_cons_succ, List.getElem_cons_zero, Act.put, List.setIfInBounds_toArray, List.set_cons_zero, List.set_cons_succ]
    refine lexH_yieldE rfl rfl ?_
    apply Exists.intro
    refine ⟨fun W hW => ?_, ?_⟩
    focus (go_simp; exact rfl)
    simp only [List.getElem_toArray, List.getElem_cons_succ, List.getElem_cons_zero, Act.put, List.setIfInBounds_toArray, List.set_cons_zero, List.set_cons_succ]
    refine lexH_load rfl rfl _ _ rfl rfl L2.out ?_
    simp only [List.getElem_toArray, List.getElem_cons_succ, List.getElem_cons_zero, Act.put, List.setIfInBounds_toArray, List.set_cons_zero, List.set_cons_succ]
    refine lexH_yieldE rfl rfl ?_
    apply Exists.intro
    refine ⟨fun W hW => ?_, ?_⟩
    focus (go_simp; exact rfl)
    simp only [List.getElem_toArray, List.getElem_cons_succ, List.getElem_cons_zero, Act.put, List.setIfInBounds_toArray, List.set_cons_zero, List.set_cons_succ]
    refine lexH_yieldE rfl rfl ?_
    apply Exists.intro
    refine ⟨fun W hW => ?_, ?_⟩
    focus (go_simp; exact rfl)
    simp only [List.getElem_toArray, List.getElem_cons_succ, List.getElem_cons_zero, Act.put, List.setIfInBounds_toArray, List.set_cons_zero, List.set_cons_succ]
    refine lexH_yieldE rfl rfl ?_
    apply Exists.intro
    refine ⟨fun W hW => ?_, ?_⟩
    focus (go_simp; exact rfl)
    simp only [List.getElem_toArray, List.getElem_cons_succ, List.getElem_cons_zero, Act.put, List.setIfInBounds_toArray, List.set_cons_zero, List.set_cons_succ]
    refine lexH_yieldE rfl rfl ?_
    apply Exists.intro
    refine ⟨fun W hW => ?_, ?_⟩
    focus (go_simp; exact rfl)
    simp only [List.getElem_toArray, List.getElem_cons_succ, List.getElem_cons_zero, Act.put, List.setIfInBounds_toArray, List.set_cons_zero, List.set_cons_succ]
    refine lexH_load rfl rfl _ _ rfl rfl L1.out ?_
    simp only [List.getElem_toArray, List.getElem_cons_succ, List.getElem_cons_zero, Act.put, List.setIfInBounds_toArray, List.set_cons_zero, List.set_cons_succ]
    refine lexH_eff rfl rfl ?_
    unfold Oper.wp
    go_simp
    have hba : Below W0.heap.size W0 (W0.alloc (.cells #[.slice none 0 0, .slice none 0 0] 29)) := (Below.refl _ _).alloc (Nat.le_refl _) _
    have hb1 := hK0.below.trans (hba.mono hK0.below.size)
    have HB1 := Lib.hid hb1
    have HC := Lib.hid (sliceCells (w := W0) (.slice none 0 0) (.slice none 0 0))
    refine ⟨hb1, ?_⟩
    clear hba hb1 hK0
    generalize W0.alloc (.cells #[.slice none 0 0, .slice none 0 0] 29) = W1 at *
    generalize W0.heap.size = sb at *
    refine lexH_call 30 #[.slice (some ⟨sb, 0, none⟩) 2 2] rfl rfl ?_ ?_
    focus (go_simp; done)
    have hs0 : SrcO W1 (.slice none 0 0) [] := ⟨none, 0, rfl, fun h => absurd h (Nat.lt_irrefl _)⟩
    refine (concat_any hs0 hs0 (by decide) (by decide) HC.out.1 HC.out.2).mono ?_
    rintro e w3 ⟨v3, rfl, hown, hb⟩
    obtain ⟨a, c, e3⟩ := owns_len hown
    subst e3
    have HF := Lib.hid (HB1.out.trans (hb.mono HB1.out.size))
    refine ⟨_, rfl, HF.out, ?_⟩
    clear hown hb HB1 HC L1 L2
    simp only [List.getElem_toArray, List.getElem_cons_succ, List.getElem_cons_zero, Act.put, List.setIfInBounds_toArray, List.set_cons_zero, List.set_cons_succ]
    refine lexH_yieldE rfl rfl ?_
    apply Exists.intro
    refine ⟨fun W hW => ?_, ?_⟩
    focus (go_simp; exact rfl)
    simp only [List.getElem_toArray, List.getElem_cons_succ, List.getElem_cons_zero, Act.put, List.setIfInBounds_toArray, List.set_cons_zero, List.set_cons_succ]
    refine lexH_nil ?_
    go_wp2_with (fail)
    go_ret
    exact ⟨a, c, rfl, HF.out⟩
end
theorem zero_at (w : World) : RowAt (w.alloc (.cells #[.int .i64 0, .slice none 0 0, .slice none 0 0] 50)) w.heap.size 3 (mV 0 ⟨w.heap.size, .slice none 0 0, .slice none 0 0⟩) :=
  RowAt.new w _ _ _ _ fun i hi => by
    rcases (show i = 0 ∨ i = 1 ∨ i = 2 by omega) with rfl | rfl | rfl <;> rfl
def noneV (z : Nat) (i : Nat) : Value := if i = 0 then .pointer none else .pointer (some ⟨z, 0, none⟩)
end Go.Proofs.Ytaadjgnfihkaeaa
