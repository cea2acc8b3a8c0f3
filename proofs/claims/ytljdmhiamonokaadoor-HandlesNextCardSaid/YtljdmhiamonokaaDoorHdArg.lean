/-
  Places that come in by value.
-/
import Derived.Test.YtljdmhiamonokaaDoorIntArg
namespace Go.Proofs.YtljdmhiamonokaaDoor
open Go.ChangeShapes Go.WideShapes Go.ChangeAt Go.RowKit
theorem cells24 : Tryd.prog.cellsOf 24 = 2 := by kernel_rfl
section
variable {H : Type} {enc : TypeId × Value → H} {W : World}
set_option maxRecDepth 100000 in
theorem obj_in {n : Nat} {cs : List Value} {y : DataW H × List MemPlace} (hl : cs.length = 2) (h : DataW.trod enc Tryd.prog W 0 (fun _ => true) true n 24 cs = some y) : ∃ p q : Int, cs = [.int .i64 p, .int .i64 q] := by
  obtain ⟨xs, n, _, _, _, hxl, hfld⟩ := DataW.trod_struct Tryd.underlying24 h
  have f0 : DataW.trod enc Tryd.prog W 0 (fun _ => true) true n 3 ((cs.drop 0).take (Tryd.prog.cellsOf 3)) = xs[0]? := hfld 0 _ rfl
  have f1 : DataW.trod enc Tryd.prog W 0 (fun _ => true) true n 3 ((cs.drop 1).take (Tryd.prog.cellsOf 3)) = xs[1]? := hfld 1 _ rfl
  have hxl3 : xs.length = 2 := hxl
  rw [List.getElem?_eq_getElem (by omega), cells3] at f0 f1
  obtain ⟨z0, e0, _⟩ := int_in f0
  obtain ⟨z1, e1, _⟩ := int_in f1
  have g0 := at_drop e0
  have g1 := at_drop e1
  match cs, hl with
  | [a, b], _ =>
    simp at g0 g1
    subst g0; subst g1
    exact ⟨z0, z1, rfl⟩
theorem obj_arg {base : Nat} {v : Value} {d : DataW H} {p : List MemPlace} (hv : Value.okWide Tryd.prog W .any base 24 v)
    (h : DataW.Trod enc Tryd.prog W 0 (fun _ => true) true 24 v d p) : ∃ x y : Int, v = .agg #[.int .i64 x, .int .i64 y] := by
  obtain ⟨A, rfl, hsz⟩ := okWide_struct Tryd.underlying24 hv
  rw [cells24] at hsz
  obtain ⟨fuel, hf⟩ := h
  obtain ⟨x, y, hq⟩ := obj_in (cs := A.toList) (by simpa using hsz) hf
  refine ⟨x, y, ?_⟩
  congr 1
  apply Array.ext'
  rw [hq]
end
end Go.Proofs.YtljdmhiamonokaaDoor
