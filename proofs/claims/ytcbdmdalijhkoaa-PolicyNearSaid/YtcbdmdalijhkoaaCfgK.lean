/-
  A config as a value: its cells one by one; a config stored whole.
-/
import Derived.Test.YtcbdmdalijhkoaaAsk
import Derived.Laws.Tables
import Derived.Great.BuildSlice
namespace Go.Proofs.Ytcbdmdalijhkoaa
open Go.RowKit Go

/-- The cells of the config g. -/
def ofG (g : Nat → Int) : Array Value := Array.ofFn (n := 94) fun i => Value.int .i64 (g i)
theorem cfg_ofG (g : Nat → Int) : Cfg (ofG g) g := ⟨by simp [ofG], fun i h => by simp [ofG, h]⟩

def updG (g : Nat → Int) (i : Nat) (x : Int) (j : Nat) : Int := if j = i then x else g j
theorem Cfg.set {A : Array Value} {g : Nat → Int} (C : Cfg A g) (i : Nat) (x : Int) : Cfg (A.setIfInBounds i (.int .i64 x)) (updG g i x) := by
  refine ⟨by simp [C.size], fun j hj => ?_⟩
  unfold updG
  by_cases h : j = i
  · subst h
    rw [if_pos rfl, Array.getElem?_setIfInBounds_self_of_lt (by rw [C.size]; exact hj)]
  · rw [if_neg h, Array.getElem?_setIfInBounds_ne (by omega)]
    exact C.get j hj
theorem Cfg.ext {A : Array Value} {g h : Nat → Int} (C : Cfg A g) (e : ∀ i, i < 94 → g i = h i) : Cfg A h := ⟨C.size, fun i hi => by rw [C.get i hi, e i hi]⟩

set_option maxRecDepth 100000 in
/-- A whole config into its block, the last one and the one ahead of it. -/
theorem store_last (w : World) {Z L : Array Value} (hz : Z.size = 94) {g : Nat → Int} (C : Cfg L g) :
    (storeVar 26 ⟨w.heap.size, 0, none⟩ (.agg L)).run Try.prog (w.alloc (.cells Z 26)) = .ok () (w.alloc (.cells L 26)) :=
  run_storeVar_new (P := Try.prog) w 26 Z L (by rw [C.size]; kernel_rfl) (by rw [hz, C.size]) C.one
set_option maxRecDepth 100000 in
theorem store_ahead (w : World) {Z L : Array Value} (ob : Obj) (hz : Z.size = 94) {g : Nat → Int} (C : Cfg L g) :
    (storeVar 26 ⟨w.heap.size, 0, none⟩ (.agg L)).run Try.prog ((w.alloc (.cells Z 26)).alloc ob) = .ok () ((w.alloc (.cells L 26)).alloc ob) := by
  rw [run_storeVar_row _ _ _ _ Z L (heap_alloc2_old w (.cells Z 26) ob) (by rw [C.size]; kernel_rfl) (by rw [hz, C.size]) C.one, setRow_alloc_old _ _ _ _ (by simp), World.setRow_alloc_new]
set_option maxRecDepth 100000 in
theorem cfgInfo {A : Array Value} {g : Nat → Int} (C : Cfg A g) : (Try.prog.info? 26).map (·.size) = some A.size := by rw [C.size]; kernel_rfl
end Go.Proofs.Ytcbdmdalijhkoaa
