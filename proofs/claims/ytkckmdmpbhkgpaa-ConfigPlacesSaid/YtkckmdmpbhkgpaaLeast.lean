/-
  Least; the law's own config of two nodes.
-/
import Derived.Test.YtkckmdmpbhkgpaaAsk
import Derived.Laws.Tables
import Derived.Great.BuildSlice
namespace Go.Proofs.Ytkckmdmpbhkgpaa
open Go.RowKit Go

/-- The cells of the config g. -/
def ofG (g : Nat → Int) : Array Value := Array.ofFn (n := 94) fun i => Value.int .i64 (g i)
theorem cfg_ofG (g : Nat → Int) : Cfg (ofG g) g := ⟨by simp [ofG], fun i h => by simp [ofG, h]⟩

def least0 (x : Int) (i : Nat) : Int := if i = 0 then 1 else if i = 1 then 1 else if i = 90 then x else 0
def leastG (x : Int) (i : Nat) : Int := if i = 0 then 1 else if i = 1 then 1 else if i = 90 then x else if i = 18 then x else 0
theorem built0 (x : Int) : Try.prog.built 26 [(0, .int .i64 1), (1, .int .i64 1), (5, .int .i64 x)] = some (ofG (least0 x)) := by kernel_rfl

def updG (g : Nat → Int) (i : Nat) (x : Int) (j : Nat) : Int := if j = i then x else g j
theorem Cfg.set {A : Array Value} {g : Nat → Int} (C : Cfg A g) (i : Nat) (x : Int) : Cfg (A.setIfInBounds i (.int .i64 x)) (updG g i x) := by
  refine ⟨by simp [C.size], fun j hj => ?_⟩
  unfold updG
  by_cases h : j = i
  · subst h
    rw [if_pos rfl, Array.getElem?_setIfInBounds_self_of_lt (by rw [C.size]; exact hj)]
  · rw [if_neg h, Array.getElem?_setIfInBounds_ne (by omega)]
    exact C.get j hj
theorem Cfg.ext {A : Array Value} {g h : Nat → Int} (C : Cfg A g) (e : ∀ i, i < 94 → g i = h i) : Cfg A h := ⟨C.size, fun i hi => by rw [C.get i hi, e i hi]⟩

/-- A whole config into its block, the last one and the one ahead of it. -/
theorem store_last (w : World) {Z L : Array Value} (hz : Z.size = 94) {g : Nat → Int} (C : Cfg L g) :
    (storeVar 26 ⟨w.heap.size, 0, none⟩ (.agg L)).run Try.prog (w.alloc (.cells Z 26)) = .ok () (w.alloc (.cells L 26)) :=
  run_storeVar_new (P := Try.prog) w 26 Z L (by rw [C.size]; kernel_rfl) (by rw [hz, C.size]) C.one
theorem store_ahead (w : World) {Z L : Array Value} (ob : Obj) (hz : Z.size = 94) {g : Nat → Int} (C : Cfg L g) :
    (storeVar 26 ⟨w.heap.size, 0, none⟩ (.agg L)).run Try.prog ((w.alloc (.cells Z 26)).alloc ob) = .ok () ((w.alloc (.cells L 26)).alloc ob) := by
  rw [run_storeVar_row _ _ _ _ Z L (heap_alloc2_old w (.cells Z 26) ob) (by rw [C.size]; kernel_rfl) (by rw [hz, C.size]) C.one, setRow_alloc_old _ _ _ _ (by simp), World.setRow_alloc_new]
theorem cfgInfo {A : Array Value} {g : Nat → Int} (C : Cfg A g) : (Try.prog.info? 26).map (·.size) = some A.size := by rw [C.size]; kernel_rfl

/-- How many frames Least gives. -/
def clampF (n : Int) : Int := if n < 4 then 4 else if 128 < n then 128 else n
theorem least_any (n : Int) (w : World) :
    Calls Try.prog 12 #[.int .i64 n] w fun e w' => ∃ A', e = .returned (.agg A') ∧ Cfg A' (leastG (clampF n)) ∧ Below w.heap.size w w' := by
  obtain ⟨x, hx⟩ : ∃ x, x = clampF n := ⟨_, rfl⟩
  have HX := Lib.hid hx
  obtain ⟨Z, hz, hZ⟩ := zeroCfg
  have hb := built0 x
  have hL := cfg_ofG (least0 x)
  generalize ofG (least0 x) = L at hb hL
  have hS1 := store_last (w.alloc (.cells Z 26)) hz hL
  rw [show (w.alloc (.cells Z 26)).heap.size = w.heap.size + 1 by simp] at hS1
  have l18 : L[18]? = some (.int .i64 0) := hL.get 18 (by decide)
  have hM := hL.set 18 x
  have HS2 := Lib.hid (store_ahead w (.cells (L.setIfInBounds 18 (.int .i64 x)) 26) hz hM)
  have HR := Lib.hid (heap_alloc2_old w (.cells (L.setIfInBounds 18 (.int .i64 x)) 26) (.cells (L.setIfInBounds 18 (.int .i64 x)) 26))
  have HG := Lib.hid (heap_alloc2_new w (.cells Z 26) (.cells (L.setIfInBounds 18 (.int .i64 x)) 26))
  have HI := Lib.hid (cfgInfo hM)
  have HE := Lib.hid (show Cfg (L.setIfInBounds 18 (.int .i64 x)) (leastG (clampF n)) from hx ▸ hM.ext (fun i _ => by
    unfold updG leastG least0
    by_cases e : i = 18
    · subst e; rfl
    · rw [if_neg e, if_neg e]))
  have HS1 := Lib.hid hS1
  have HB := Lib.hid hb
  clear hz hS1 hL hb hM
  have hcs : (n < 4 ∧ x = 4) ∨ (128 < n ∧ x = 128) ∨ (4 ≤ n ∧ n ≤ 128 ∧ n = x) := by
    rw [hx]; unfold clampF
    by_cases h1 : n < 4
    · rw [if_pos h1]; exact .inl ⟨h1, rfl⟩
    · rw [if_neg h1]
      by_cases h2 : 128 < n
      · rw [if_pos h2]; exact .inr (.inl ⟨h2, rfl⟩)
      · rw [if_neg h2]; exact .inr (.inr ⟨by omega, by omega, rfl⟩)
  clear hx
  rcases hcs with ⟨h1, rfl⟩ | ⟨h1, rfl⟩ | ⟨h1, h2, rfl⟩
  all_goals
    go_enter Try.func12, Try.ntmps12
    go_wp2_with (first
      | (refine wpList_buildTo rfl 26 _ rfl (some 8) rfl L ?hb ?_; case hb => simpa [Act.eval] using HB.out)
      | (refine wpList_store_run rfl 26 _ _ rfl (w.heap.size + 1) L _ rfl rfl HS1.out ?_)
      | (refine wpList_store_run rfl 26 _ _ rfl w.heap.size _ _ rfl rfl HS2.out ?_)
      | (refine wpList_load_row rfl 26 _ rfl (w.heap.size + 1) rfl 26 _ (0, 0) _ HG.out Try.underlying26 rfl HI.out ?_))
    refine bodyPost_ret (v := .agg _) ?_ rfl ⟨_, rfl, HE.out, ?_⟩
    · exact results_cell_row rfl _ _ _ _ _ (0, 0) _ rfl HR.out Try.underlying26 rfl HI.out
    · exact ((Below.refl _ _).alloc (Nat.le_refl _) _).alloc (by simp) _
end Go.Proofs.Ytkckmdmpbhkgpaa
