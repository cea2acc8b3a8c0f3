/-
  May: whether a config may be.
-/
import Derived.Test.YtcbdmdalijhkoaaEq
namespace Go.Proofs.Ytcbdmdalijhkoaa
open Go.RowKit Go

theorem Cfg.unique {A B : Array Value} {g : Nat → Int} (h1 : Cfg A g) (h2 : Cfg B g) : A = B := by
  apply Array.ext_getElem?
  intro i
  by_cases h : i < 94
  · rw [h1.get i h, h2.get i h]
  · rw [Array.getElem?_eq_none (by rw [h1.size]; omega), Array.getElem?_eq_none (by rw [h2.size]; omega)]
theorem Cfg.of (g : Nat → Int) : ∃ A, Cfg A g := ⟨Array.ofFn (n := 94) fun i => Value.int .i64 (g i), by simp, fun i h => by simp [h]⟩

/-- May. -/
def mayB (g : Nat → Int) : Bool :=
  withinB (g 0) 1 8 && (withinB (g 1) 1 16 && (withinB (g 90) 0 1024 && (homesB g && (framesB g && (distB g && (waterB g && cfgEq g (bareG g)))))))

theorem of_withinB {n a b : Int} (h : withinB n a b = true) : a ≤ n ∧ n ≤ b := of_decide_eq_true h

/-- What the walk of May knows: the block of the config, seen in every world of the class. -/
structure MayHere (A : Array Value) (g : Nat → Int) (w : World) : Prop where
  n : ∀ W, Kept (w.heap.size + 1) (w.alloc (.cells A 26)) W → (loadVar 3 ⟨w.heap.size, 0, none⟩).run Try.prog W = .ok (.int .i64 (g 0)) W
  c : ∀ W, Kept (w.heap.size + 1) (w.alloc (.cells A 26)) W → (loadVar 3 ⟨w.heap.size, 1, none⟩).run Try.prog W = .ok (.int .i64 (g 1)) W
  s : ∀ W, Kept (w.heap.size + 1) (w.alloc (.cells A 26)) W → (loadVar 3 ⟨w.heap.size, 90, none⟩).run Try.prog W = .ok (.int .i64 (g 90)) W
  all : ∀ W, Kept (w.heap.size + 1) (w.alloc (.cells A 26)) W → (loadVar 26 ⟨w.heap.size, 0, none⟩).run Try.prog W = .ok (.agg A) W
theorem mayHere {A : Array Value} {g : Nat → Int} (C : Cfg A g) (w : World) : MayHere A g w := by
  have hc : ∀ i, i < 94 → ∀ W, Kept (w.heap.size + 1) (w.alloc (.cells A 26)) W → (loadVar 3 ⟨w.heap.size, i, none⟩).run Try.prog W = .ok (.int .i64 (g i)) W := fun i hi W hW =>
    run_loadVar_cell agg3 (by rw [hW.cell (by omega), cell_of_row _ _ _ _ _ _ (heap_alloc_new w _)]; exact C.get i hi)
  refine ⟨hc 0 (by decide), hc 1 (by decide), hc 90 (by decide), fun W hW => ?_⟩
  exact run_loadVar_row W w.heap.size 26 _ A (0, 0) _ (by rw [hW.below.block _ (by omega)]; exact heap_alloc_new w _) Try.underlying26 rfl (by rw [C.size]; kernel_rfl)

set_option maxRecDepth 100000 in
theorem within_kept {B : Nat} {w W : World} {n a b : Int} {v : Bool} (h : withinB n a b = v) (hW : Kept B w W) :
    Calls Try.prog 27 #[.int .i64 n, .int .i64 a, .int .i64 b] W fun e w' => e = .returned (.bool v) ∧ Kept B w w' :=
  (within_is h W).mono fun _ _ ⟨h1, h2⟩ => ⟨h1, h2 ▸ hW⟩

set_option maxRecDepth 100000 in
theorem homes_kept {B : Nat} {w W : World} {A : Array Value} {g : Nat → Int} {v : Bool} (hA : Cfg A g) (h0 : withinB (g 0) 1 8 = true) (h1 : withinB (g 1) 1 16 = true) (h : homesB g = v) (hB : B ≤ w.heap.size) (hW : Kept B w W) :
    Calls Try.prog 28 #[.agg A] W fun e w' => e = .returned (.bool v) ∧ Kept B w w' :=
  (homes_any A g W hA (of_withinB h0).1 (of_withinB h0).2 (of_withinB h1).1 (of_withinB h1).2).mono fun _ _ ⟨e, b⟩ => ⟨h ▸ e, hW.call hB b⟩
set_option maxRecDepth 100000 in
theorem frames_kept {B : Nat} {w W : World} {A : Array Value} {g : Nat → Int} {v : Bool} (hA : Cfg A g) (h0 : withinB (g 0) 1 8 = true) (h : framesB g = v) (hB : B ≤ w.heap.size) (hW : Kept B w W) :
    Calls Try.prog 29 #[.agg A] W fun e w' => e = .returned (.bool v) ∧ Kept B w w' :=
  (framesMay_any A g W hA (of_withinB h0).1 (of_withinB h0).2).mono fun _ _ ⟨e, b⟩ => ⟨h ▸ e, hW.call hB b⟩
set_option maxRecDepth 100000 in
theorem dist_kept {B : Nat} {w W : World} {A : Array Value} {g : Nat → Int} {v : Bool} (hA : Cfg A g) (h0 : withinB (g 0) 1 8 = true) (h : distB g = v) (hB : B ≤ w.heap.size) (hW : Kept B w W) :
    Calls Try.prog 30 #[.agg A] W fun e w' => e = .returned (.bool v) ∧ Kept B w w' :=
  (dist_any A g W hA (of_withinB h0).1 (of_withinB h0).2).mono fun _ _ ⟨e, b⟩ => ⟨h ▸ e, hW.call hB b⟩
set_option maxRecDepth 100000 in
theorem water_kept {B : Nat} {w W : World} {A : Array Value} {g : Nat → Int} {v : Bool} (hA : Cfg A g) (h0 : withinB (g 0) 1 8 = true) (h : waterB g = v) (hB : B ≤ w.heap.size) (hW : Kept B w W) :
    Calls Try.prog 31 #[.agg A] W fun e w' => e = .returned (.bool v) ∧ Kept B w w' :=
  (water_any A g W hA (of_withinB h0).1 (of_withinB h0).2).mono fun _ _ ⟨e, b⟩ => ⟨h ▸ e, hW.call hB b⟩
set_option maxRecDepth 100000 in
theorem bare_kept {B : Nat} {w W : World} {A A2 : Array Value} {g : Nat → Int} (hA : Cfg A g) (hA2 : Cfg A2 (bareG g)) (h0 : withinB (g 0) 1 8 = true) (h1 : withinB (g 1) 1 16 = true) (hB : B ≤ w.heap.size) (hW : Kept B w W) :
    Calls Try.prog 32 #[.agg A] W fun e w' => e = .returned (.agg A2) ∧ Kept B w w' :=
  (bare_any A g W hA (of_withinB h0).1 (of_withinB h0).2 (of_withinB h1).1 (of_withinB h1).2).mono fun _ _ ⟨_, e, c, b⟩ => ⟨(c.unique hA2) ▸ e, hW.call hB b⟩

theorem kept_new {w : World} {ob : Obj} {W : World} (h : Kept (w.heap.size + 1) (w.alloc ob) W) : Below w.heap.size w W :=
  ((Below.refl w.heap.size w).alloc (Nat.le_refl _) ob).trans (h.below.mono (by omega))

set_option maxRecDepth 100000 in
set_option maxHeartbeats 4000000 in
theorem may_any (A : Array Value) (g : Nat → Int) (w : World) (hA : Cfg A g) :
    Calls Try.prog 15 #[.agg A] w fun e w' => e = .returned (.bool (mayB g)) ∧ Below w.heap.size w w' := by
  have M := mayHere hA w
  have HA := Lib.hid hA
  obtain ⟨A2, hA2⟩ := Cfg.of (bareG g)
  have HA2 := Lib.hid hA2
  have hq := fun W => equal_cfg W A A2 g (bareG g) hA hA2
  have hB : w.heap.size + 1 ≤ (w.alloc (.cells A 26)).heap.size := by simp
  have HM := Lib.hid (show mayB g = (withinB (g 0) 1 8 && (withinB (g 1) 1 16 && (withinB (g 90) 0 1024 && (homesB g && (framesB g && (distB g && (waterB g && cfgEq g (bareG g)))))))) from rfl)
  cases h0 : withinB (g 0) 1 8
  rotate_left
  cases h1 : withinB (g 1) 1 16
  rotate_left
  cases h2 : withinB (g 90) 0 1024
  rotate_left
  cases h3 : homesB g
  rotate_left
  cases h4 : framesB g
  rotate_left
  cases h5 : distB g
  rotate_left
  cases h6 : waterB g
  rotate_left
  cases h7 : cfgEq g (bareG g)
  all_goals
    obtain ⟨v, hv⟩ : ∃ v, mayB g = v := ⟨_, rfl⟩
    have HV := Lib.hid hv
    rw [HM.out] at hv
    simp only [*, Bool.true_and, Bool.false_and] at hv
    subst hv
    try rw [h7] at hq
    clear HM hA hA2
    have H0 := Lib.hid h0
    clear h0
    try (have H1 := Lib.hid h1; clear h1)
    try (have H2 := Lib.hid h2; clear h2)
    try (have H3 := Lib.hid h3; clear h3)
    try (have H4 := Lib.hid h4; clear h4)
    try (have H5 := Lib.hid h5; clear h5)
    try (have H6 := Lib.hid h6; clear h6)
    try (have H7 := Lib.hid h7; clear h7)
    go_enter Try.func15, Try.ntmps15
    go_wp2_with (fail)
    refine wp_region_kept (w.heap.size + 1) (by kernel_rfl) (by kernel_rfl) ?_
    repeat (first
      | go_big_quiet_skip
      | (go_big_quiet_want; first
        | (refine quiet_load _ _ rfl rfl M.n ?_; simp only [Act.put, List.setIfInBounds_toArray, List.set_cons_zero, List.set_cons_succ]; go_big_quiet_on)
        | (refine quiet_load _ _ rfl rfl M.c ?_; simp only [Act.put, List.setIfInBounds_toArray, List.set_cons_zero, List.set_cons_succ]; go_big_quiet_on)
        | (refine quiet_load _ _ rfl rfl M.s ?_; simp only [Act.put, List.setIfInBounds_toArray, List.set_cons_zero, List.set_cons_succ]; go_big_quiet_on)
        | (refine quiet_load _ _ rfl rfl M.all ?_; simp only [Act.put, List.setIfInBounds_toArray, List.set_cons_zero, List.set_cons_succ]; go_big_quiet_on)
        | (go_big_quiet_op; first | go_big_quiet_on | (refine ⟨_, fun _ _ => rfl, ?_⟩; go_big_quiet_on) | go_big_quiet_call ((intro hC; first
          | (go_at_call 27; first | exact within_kept H0.out hC | exact within_kept H1.out hC | exact within_kept H2.out hC)
          | (go_at_call 28; exact homes_kept HA.out H0.out H1.out H3.out hB hC)
          | (go_at_call 29; exact frames_kept HA.out H0.out H4.out hB hC)
          | (go_at_call 30; exact dist_kept HA.out H0.out H5.out hB hC)
          | (go_at_call 31; exact water_kept HA.out H0.out H6.out hB hC)
          | (go_at_call 32; exact bare_kept HA.out HA2.out H0.out H1.out hB hC))))))
    refine wpQuiet_nil ?_
    intro W hC
    have HC := Lib.hid (kept_new hC)
    clear hC hq
    go_wp2_with (fail)
    go_ret
    exact ⟨by rw [HV.out]; rfl, HC.out⟩
end Go.Proofs.Ytcbdmdalijhkoaa
