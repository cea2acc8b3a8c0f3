/-
  cmp.Compare, cmp.Or on two numbers, and the order's closure.
-/
import Derived.Test.YtcbdmdalijhkoaaAsk
import Derived.Test.YtcbdmdalijhkoaaSort
namespace Go.Proofs.Ytcbdmdalijhkoaa
open Go.RowKit Go Go.Sort

theorem nan_any (x : Int) (w : World) : Calls Try.prog 44 #[.int .i64 x] w fun e w' => e = .returned (.bool false) ∧ w = w' := by
  go_enter Try.func44, Try.ntmps44
  go_wp2
  go_ret
  exact ⟨by simp, rfl⟩
def cmpI (x y : Int) : Int := if x < y then -1 else if y < x then 1 else 0
theorem compare_any (x y : Int) (w : World) : Calls Try.prog 37 #[.int .i64 x, .int .i64 y] w fun e w' => e = .returned (.int .i64 (cmpI x y)) ∧ w = w' := by
  go_enter Try.func37, Try.ntmps37
  go_wp2_with (go_at_call 44; refine (nan_any _ _).mono ?_; rintro e w' ⟨rfl, rfl⟩)
  all_goals (go_ret; refine ⟨?_, rfl⟩; unfold cmpI; (repeat' split) <;> first | rfl | (exfalso; omega))

/-- The first one that is not nought. -/
def orI (u v : Int) : Int := if u = 0 then v else u
theorem or_any (u v : Int) (b c : Nat) (w : World) (h0 : w.cell? ⟨b, 0, none⟩ = some (.int .i64 u)) (h1 : w.cell? ⟨b, 1, none⟩ = some (.int .i64 v)) :
    Calls Try.prog 36 #[.slice (some ⟨b, 0, none⟩) 2 c] w fun e w' => e = .returned (.int .i64 (orI u v)) ∧ w = w' := by
  by_cases hu : u = 0
  · subst hu
    have HE := Lib.hid (show orI 0 v = v from rfl)
    by_cases hv : v = 0
    · subst hv
      go_enter Try.func36, Try.ntmps36
      go_wp2_with (fail)
      refine wp_loop_rounds 3 ?_
      iterate 3 (rw [rounds_succ]; go_wp2_with (fail))
      go_ret
      exact ⟨by rw [HE.out]; rfl, rfl⟩
    · have hv' : (v != 0) = true := by simpa using hv
      clear hv
      go_enter Try.func36, Try.ntmps36
      go_wp2_with (fail)
      refine wp_loop_rounds 3 ?_
      iterate 2 (rw [rounds_succ]; go_wp2_with (fail))
      go_ret
      exact ⟨by rw [HE.out]; rfl, rfl⟩
  · have hu' : (u != 0) = true := by simpa using hu
    have HE := Lib.hid (show orI u v = u by unfold orI; rw [if_neg hu])
    clear hu
    go_enter Try.func36, Try.ntmps36
    go_wp2_with (fail)
    refine wp_loop_rounds 3 ?_
    rw [rounds_succ]; go_wp2_with (fail)
    go_ret
    exact ⟨by rw [HE.out]; rfl, rfl⟩

/-- The order's closure. -/
def ordI (g : Nat → Int) (k x y : Nat) : Int := orI (cmpI (g (26 + k * 8 + x)) (g (26 + k * 8 + y))) (cmpI x y)
set_option maxRecDepth 100000 in
set_option maxHeartbeats 2000000 in
theorem closure_any (A : Array Value) (g : Nat → Int) (b nb k x y : Nat) (w : World) (C : CfgAt w b A g) (hn : w.cell? ⟨nb, 0, none⟩ = some (.int .i64 k)) (hk : k < 8) (hx : x < 8) (hy : y < 8) :
    Calls Try.prog 35 #[.int .i64 x, .int .i64 y, .pointer (some ⟨b, 0, none⟩), .pointer (some ⟨nb, 0, none⟩)] w fun e w' => e = .returned (.int .i64 (ordI g k x y)) ∧ ∃ q os', w' = grow (w.drewN q) os' := by
  have cx := C.cell (26 + k * 8 + x) (by omega)
  have cy := C.cell (26 + k * 8 + y) (by omega)
  have HE := Lib.hid (show ordI g k x y = orI (cmpI (g (26 + k * 8 + x)) (g (26 + k * 8 + y))) (cmpI x y) from rfl)
  generalize g (26 + k * 8 + x) = u at cx HE
  generalize g (26 + k * 8 + y) = v at cy HE
  have ik : (k : Int) < 8 := by omega
  have ix : (x : Int) < 8 := by omega
  have iy : (y : Int) < 8 := by omega
  go_enter Try.func35, Try.ntmps35
  go_wp2_with (fail)
  refine still_tail 16 (by kernel_rfl) (by kernel_rfl) ?_
  simp only [List.take_succ_cons, List.take_zero, List.drop_succ_cons, List.drop_zero]
  repeat still_step
  still_call ((compare_any u v _).mono fun _ _ ⟨h1, h2⟩ => ⟨h1, h2.symm⟩)
  repeat still_step
  still_call ((compare_any x y _).mono fun _ _ ⟨h1, h2⟩ => ⟨h1, h2.symm⟩)
  repeat still_step
  refine wpStill_nil ?_
  generalize cmpI u v = p at HE
  generalize cmpI x y = q at HE
  go_wp2_with (fail)
  refine (or_any p q w.heap.size 2 _ (by go_simp) (by go_simp)).mono ?_
  rintro e w' ⟨rfl, rfl⟩
  go_wp2_with (fail)
  go_ret
  exact ⟨by rw [HE.out]; rfl, 1, _, (congrArg World.drew (alloc_eq_grow w _)).trans rfl⟩
end Go.Proofs.Ytcbdmdalijhkoaa
