/-
  areas: the landed part, join.
-/
import Derived.Test.YthnkbipdlepbaaaArAt
import Derived.Test.YthnkbipdlepbaaaLexIn
namespace Go.Proofs.Ythnkbipdlepbaaa
open Go.RowKit Go.Shelf Go
attribute [local go_sem] Oper.semAt_some

theorem results_cell1 {fn : Func} {p : Tmp} {ty : TypeId} (h : fn.results = #[.cell p ty]) (tmps : Array Value) (P : Program) (w : World) :
    (results fn tmps).run P w = ((asAddr (tmps.getD p undef)).run P w).andThen fun a w₁ => (loadVar ty a).run P w₁ := by
  simp only [results, h]
  simp [Sem.run_bind, Result.andThen]
/-- One result, a run that lies in a cell. -/
theorem ret_run {fn : Func} {p : Tmp} (h : fn.results = #[.cell p 39]) {a : Act} {w : World} {Q : Ending → World → Prop} {B : Nat} {x y z : Int} (hp : a.tmps.getD p undef = .pointer (some ⟨B, 0, none⟩)) (hd : a.defers = [])
    (h0 : w.cell? ⟨B, 0, none⟩ = some (.int .i64 x)) (h1 : w.cell? ⟨B, 1, none⟩ = some (.int .i64 y)) (h2 : w.cell? ⟨B, 2, none⟩ = some (.int .u8 z)) (hR : Q (.returned (.agg #[.int .i64 x, .int .i64 y, .int .u8 z])) w) : bodyPost Try.prog fn Q .ret a w := by
  refine bodyPost_ret_by ?_ hd hR
  rw [results_cell1 h, hp]
  have hl := load_run h0 h1 h2
  simp only [asAddr, Sem.run_pure, Result.andThen_ok, hl]
set_option maxRecDepth 100000 in
set_option maxHeartbeats 4000000 in
theorem part_any (w : World) (a b r s t : Nat) (h : a + b ≤ 1024) (hs : s ≤ 1024) (ht : t ≤ 1024) :
    Calls Try.prog 38 #[.agg #[.int .i64 a, .int .i64 b, .int .u8 r], .int .i64 s, .int .i64 t] w fun e w' => e = .returned (runV (partR (a, b, r) s t)) ∧ Below w.heap.size w w' := by
  obtain ⟨M, hM⟩ : ∃ M, max s a = M := ⟨_, rfl⟩
  obtain ⟨N, hN⟩ : ∃ N, min t (a + b) = N := ⟨_, rfl⟩
  have HM := Lib.hid hM
  have HN := Lib.hid hN
  have HD := Lib.hid (show wrap64 ((N : Int) - M) = (N : Int) - M from IntWalk.wrap64_in _ ⟨by omega, by omega⟩)
  have HP := Lib.hid (show partR (a, b, r) s t = (M, N - M, r) from by simp only [partR, hM, hN])
  have HE := Lib.hid h
  clear hM hN h hs ht
  obtain ⟨w1, hw1⟩ : ∃ w1, (w.alloc (.cells #[.int .i64 a, .int .i64 b, .int .u8 r] TRun)).alloc (.cells #[.int .i64 0, .int .i64 0, .int .u8 0] TRun) = w1 := ⟨_, rfl⟩
  have hb1 : Below w.heap.size w w1 := by rw [← hw1]; exact ((Below.refl _ _).alloc (Nat.le_refl _) _).alloc (by simp) _
  have hs1 : w1.heap.size = w.heap.size + 2 := by rw [← hw1]; simp
  have HR1 := Lib.hid (show RowAt w1 w.heap.size 3 (rnV (a, b, r)) from by rw [← hw1]; exact (run_row w (a, b, r)).alloc _)
  have HR2 := Lib.hid (show RowAt w1 (w.heap.size + 1) 3 (rnV (0, 0, 0)) from by
    rw [← hw1]
    have := run_row (w.alloc (.cells #[.int .i64 a, .int .i64 b, .int .u8 r] TRun)) (0, 0, 0)
    simpa using this)
  have HB1 := Lib.hid hb1
  have hlt : w.heap.size < w1.heap.size := by omega
  go_enter Try.func38, Try.ntmps38
  go_wp2_with (fail)
  try rw [hw1]
  have L0 := Lib.hid (show ∀ U, Kept w1.heap.size w1 U → (loadVar 3 ⟨w.heap.size, 0, none⟩).run Try.prog U = .ok (.int .i64 a) U from fun U hU => run_loadVar_cell (fun _ => by kernel_rfl) ((HR1.out.later hU.below).cell 0 (by decide)))
  have L1 := Lib.hid (show ∀ U, Kept w1.heap.size w1 U → (loadVar 39 ⟨w.heap.size, 0, none⟩).run Try.prog U = .ok (.agg #[.int .i64 a, .int .i64 b, .int .u8 r]) U from fun U hU => by
    have h := HR1.out.later hU.below
    exact load_run (h.cell 0 (by decide)) (h.cell 1 (by decide)) (h.cell 2 (by decide)))
  clear hw1 hb1 hs1
  refine wp_region_lex (Kept w1.heap.size w1) [(0, false), (1, false), (2, false), (3, false), (4, false), (5, false), (6, true), (7, false), (8, false), (9, false)] (by kernel_rfl) (by kernel_rfl) rfl (by kernel_rfl) ⟨rfl, rfl, rfl, Nat.le_refl _, fun _ _ => rfl⟩ ?_
  intro W0 hK0
  refine lexH_yieldE rfl rfl ?_
  apply Exists.intro
  refine ⟨fun W hW => ?_, ?_⟩
  focus (go_simp; exact rfl)
  simp only [List.getElem_toArray, List.getElem_cons_zero, Act.put, List.setIfInBounds_toArray, List.set_cons_zero, List.set_cons_succ]
  refine lexH_yieldE rfl rfl ?_
  apply Exists.intro
  refine ⟨fun W hW => ?_, ?_⟩
  focus (go_simp; exact rfl)
  simp only [List.getElem_toArray, List.getElem_cons_succ, List.getElem_cons_zero, Act.put, List.setIfInBounds_toArray, List.set_cons_zero, List.set_cons_succ]
  refine lexH_load rfl rfl _ _ rfl rfl L0.out ?_
  simp only [List.getElem_toArray, List.getElem_cons_succ, List.getElem_cons_zero, Act.put, List.setIfInBounds_toArray, List.set_cons_zero, List.set_cons_succ]
  refine lexH_yield rfl rfl (v := .int .i64 M) (fun W hW => by
    go_simp
    have h := HM.out
    split <;> omega) ?_
  simp only [List.getElem_toArray, List.getElem_cons_succ, List.getElem_cons_zero, Act.put, List.setIfInBounds_toArray, List.set_cons_zero, List.set_cons_succ]
  refine lexH_yieldE rfl rfl ?_
  apply Exists.intro
  refine ⟨fun W hW => ?_, ?_⟩
  focus (go_simp; exact rfl)
  simp only [List.getElem_toArray, List.getElem_cons_succ, List.getElem_cons_zero, Act.put, List.setIfInBounds_toArray, List.set_cons_zero, List.set_cons_succ]
  refine lexH_load rfl rfl _ _ rfl rfl L1.out ?_
  simp only [List.getElem_toArray, List.getElem_cons_succ, List.getElem_cons_zero, Act.put, List.setIfInBounds_toArray, List.set_cons_zero, List.set_cons_succ]
  refine lexH_call 34 #[.agg #[.int .i64 a, .int .i64 b, .int .u8 r]] rfl rfl ?_ ?_
  focus (go_simp; done)
  refine (aend_any _ a b r (by have := HE.out; omega)).mono ?_
  rintro e W1 ⟨rfl, hb⟩
  have hK1 : Kept w1.heap.size w1 W1 := hK0.call (Nat.le_refl _) hb
  clear hb
  refine ⟨_, rfl, hK1, ?_⟩
  simp only [List.getElem_toArray, List.getElem_cons_succ, List.getElem_cons_zero, Act.put, List.setIfInBounds_toArray, List.set_cons_zero, List.set_cons_succ]
  refine lexH_yield rfl rfl (v := .int .i64 N) (fun W hW => by
    go_simp
    have h := HN.out
    split <;> omega) ?_
  simp only [List.getElem_toArray, List.getElem_cons_succ, List.getElem_cons_zero, Act.put, List.setIfInBounds_toArray, List.set_cons_zero, List.set_cons_succ]
  refine lexH_yieldE rfl rfl ?_
  apply Exists.intro
  refine ⟨fun W hW => ?_, ?_⟩
  focus (go_simp; exact rfl)
  simp only [List.getElem_toArray, List.getElem_cons_succ, List.getElem_cons_zero, Act.put, List.setIfInBounds_toArray, List.set_cons_zero, List.set_cons_succ]
  refine lexH_yieldE rfl rfl ?_
  apply Exists.intro
  refine ⟨fun W hW => ?_, ?_⟩
  focus (go_simp; exact rfl)
  simp only [List.getElem_toArray, List.getElem_cons_succ, List.getElem_cons_zero, Act.put, List.setIfInBounds_toArray, List.set_cons_zero, List.set_cons_succ]
  refine lexH_nil ?_
  have hR1 := HR1.out.later hK1.below
  have hR2 := HR2.out.later hK1.below
  have c2 : W1.cell? ⟨w.heap.size, 2, none⟩ = some (.int .u8 r) := hR1.cell 2 (by decide)
  have z0 := hR2.frozen 0
  have z1 := hR2.frozen 1
  have z2 := hR2.frozen 2
  have o0 : W1.cell? ⟨w.heap.size + 1, 0, none⟩ = some (.int .i64 0) := hR2.cell 0 (by decide)
  have o1 : W1.cell? ⟨w.heap.size + 1, 1, none⟩ = some (.int .i64 0) := hR2.cell 1 (by decide)
  have o2 : W1.cell? ⟨w.heap.size + 1, 2, none⟩ = some (.int .u8 0) := hR2.cell 2 (by decide)
  have HB := Lib.hid (HB1.out.trans (hK1.below.mono HB1.out.size))
  have hd := HD.out
  by_cases hlt2 : (N : Int) - M < 0
  · go_wp2_with (fail)
    refine ret_run rfl rfl rfl (B := w.heap.size + 1) (x := M) (y := 0) (z := r) (by simp [go_sem, o0]) (by simp [go_sem, o1]) (by simp [go_sem, o2]) ?_
    refine ⟨?_, ((HB.out.setCell (p := ⟨w.heap.size + 1, 0, none⟩) (Nat.le_succ _) _).setCell (p := ⟨w.heap.size + 1, 1, none⟩) (Nat.le_succ _) _).setCell (p := ⟨w.heap.size + 1, 2, none⟩) (Nat.le_succ _) _⟩
    rw [HP.out]
    unfold runV
    dsimp only
    rw [show ((N - M : Nat) : Int) = 0 by omega]
  · go_wp2_with (fail)
    refine ret_run rfl rfl rfl (B := w.heap.size + 1) (x := M) (y := (N : Int) - M) (z := r) (by simp [go_sem, o0]) (by simp [go_sem, o1]) (by simp [go_sem, o2]) ?_
    refine ⟨?_, ((HB.out.setCell (p := ⟨w.heap.size + 1, 0, none⟩) (Nat.le_succ _) _).setCell (p := ⟨w.heap.size + 1, 1, none⟩) (Nat.le_succ _) _).setCell (p := ⟨w.heap.size + 1, 2, none⟩) (Nat.le_succ _) _⟩
    rw [HP.out]
    unfold runV
    dsimp only
    rw [show ((N - M : Nat) : Int) = (N : Int) - M by omega]
end Go.Proofs.Ythnkbipdlepbaaa
