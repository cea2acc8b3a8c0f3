/-
  A call that comes in by value.
-/
import Derived.Test.YtecklmiiiklagaaFrArgs
import Derived.Test.YtecklmiiiklagaaFrNone
namespace Go.Proofs.Ytecklmiiiklagaa
open Go.ChangeShapes Go.WideShapes Go.ChangeAt Go.RowKit

theorem cells26 : Try.prog.cellsOf 26 = 1 := by kernel_rfl
theorem cells22 : Try.prog.cellsOf 22 = 1 := by kernel_rfl

theorem op_arg {H : Type} {enc : TypeId × Value → H} {W : World} {base : Nat} {v : Value} {d : DataW H} {p : List MemPlace} (hv : Value.okWide Try.prog W .any base 28 v)
    (h : DataW.Trod enc Try.prog W 0 (fun _ => true) true 28 v d p) : ∃ A f a n bp bl bc x u, v = .agg A ∧ OpV A f a n bp bl bc x u := by
  obtain ⟨A, rfl, hsz⟩ := okWide_struct Try.underlying28 hv
  rw [cells28] at hsz
  obtain ⟨fuel, hf⟩ := h
  obtain ⟨xs, n, rfl, _, _, hxl, hfld⟩ := DataW.trod_struct Try.underlying28 hf
  have toA : ∀ {i : Nat} {v : Value}, A.toList[i]? = some v → A[i]? = some v := fun h => by simpa using h
  have f1 : DataW.trod enc Try.prog W 0 (fun _ => true) true n 3 ((A.toList.drop 1).take (Try.prog.cellsOf 3)) = xs[1]? := hfld 1 _ rfl
  have f2 : DataW.trod enc Try.prog W 0 (fun _ => true) true n 3 ((A.toList.drop 2).take (Try.prog.cellsOf 3)) = xs[2]? := hfld 2 _ rfl
  have f3 : DataW.trod enc Try.prog W 0 (fun _ => true) true n 3 ((A.toList.drop 3).take (Try.prog.cellsOf 3)) = xs[3]? := hfld 3 _ rfl
  have f4 : DataW.trod enc Try.prog W 0 (fun _ => true) true n 22 ((A.toList.drop 4).take (Try.prog.cellsOf 22)) = xs[4]? := hfld 4 _ rfl
  have f5 : DataW.trod enc Try.prog W 0 (fun _ => true) true n 25 ((A.toList.drop 5).take (Try.prog.cellsOf 25)) = xs[5]? := hfld 5 _ rfl
  have f6 : DataW.trod enc Try.prog W 0 (fun _ => true) true n 26 ((A.toList.drop 10).take (Try.prog.cellsOf 26)) = xs[6]? := hfld 6 _ rfl
  have hxl7 : xs.length = 7 := hxl
  rw [List.getElem?_eq_getElem (by omega)] at f1 f2 f3 f4 f5 f6
  rw [cells3] at f1 f2 f3
  rw [cells22] at f4
  rw [cells25] at f5
  rw [cells26] at f6
  obtain ⟨z1, e1⟩ := int_at f1
  obtain ⟨z2, e2⟩ := int_at f2
  obtain ⟨z3, e3⟩ := int_at f3
  obtain ⟨bp, bl, bc, e4⟩ : ∃ bp bl bc, A.toList[4]? = some (.slice bp bl bc) := by
    rcases DataW.trod_slice Try.underlying22 f4 with ⟨hcs, _⟩ | ⟨x, l, c, elems, rest, m, _, hcs, _⟩
    · exact ⟨_, _, _, at_drop hcs⟩
    · exact ⟨_, _, _, at_drop hcs⟩
  obtain ⟨y, hy⟩ := mark_at f5
  obtain ⟨u, e6, _, _⟩ := DataW.trod_int Try.underlying26 f6
  refine ⟨A, z1, z2, z3, bp, bl, bc, y, u, rfl, hsz, toA e1, toA e2, toA e3, toA e4, fun j v hv => toA ?_, toA (at_drop e6)⟩
  have h2 := hy j v hv
  have hj : j < 5 := (List.getElem?_eq_some_iff.1 hv).1
  rwa [List.getElem?_take_of_lt hj, List.getElem?_drop] at h2
end Go.Proofs.Ytecklmiiiklagaa
