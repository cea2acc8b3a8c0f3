/-
  A policy that comes in: two small numbers.
-/
import Derived.Test.YtcbdmdalijhkoaaArg
import Derived.Test.YtcbdmdalijhkoaaPoDoc
namespace Go.Proofs.Ytcbdmdalijhkoaa
open Go.ChangeShapes Go.WideShapes Go.ChangeAt Go.RowKit

theorem in_u8p {n : Int} (h : (Lit.int .u8 n).wf = true) : 0 ≤ n ∧ n ≤ 255 := by
  have := (Lit.wf_int_iff .u8 n).1 h
  have h1 : IntKind.u8.min = 0 := by decide
  have h2 : IntKind.u8.max = 255 := by decide
  omega
theorem cells5p : Try.prog.cellsOf 5 = 1 := by kernel_rfl
theorem cells27p : Try.prog.cellsOf 27 = 1 := by kernel_rfl
theorem cells29p : Try.prog.cellsOf 29 = 2 := by kernel_rfl
set_option maxRecDepth 100000 in
theorem pol_arg {H : Type} {enc : TypeId × Value → H} {W : World} {base : Nat} {v : Value} {d : DataW H} {p : List MemPlace} (hv : Value.okWide Try.prog W .any base 29 v)
    (h : DataW.Trod enc Try.prog W 0 (fun _ => true) true 29 v d p) : ∃ k m : Nat, k ≤ 255 ∧ m ≤ 255 ∧ v = polV k m := by
  obtain ⟨A, rfl, hsz⟩ := okWide_struct Try.underlying29 hv
  rw [cells29p] at hsz
  obtain ⟨fuel, hf⟩ := h
  obtain ⟨xs, n, rfl, _, _, hl, hel⟩ := DataW.trod_struct Try.underlying29 hf
  have some1 : ∀ (j : Nat) (f : Field), (Try.prog.fieldsOf 29)[j]? = some f → ∃ y, DataW.trod enc Try.prog W 0 (fun _ => true) true n f.type ((A.toList.drop f.offset).take (Try.prog.cellsOf f.type)) = some y := fun j f e1 => by
    have h1 := hel j f e1
    cases hy : xs[j]? with
    | none =>
      have h2 := (Array.getElem?_eq_some_iff.1 e1).1
      rw [List.getElem?_eq_none_iff, hl] at hy
      exact absurd h2 (by show ¬ j < (Try.prog.fieldsOf 29).size; exact Nat.not_lt.2 hy)
    | some y => exact ⟨y, h1.trans hy⟩
  obtain ⟨y0, hy0⟩ := some1 0 ⟨ "Kind", 27, 0, false, "", "", 0⟩ (by kernel_rfl)
  obtain ⟨y1, hy1⟩ := some1 1 ⟨ "Mask", 5, 1, false, "", "", 1⟩ (by kernel_rfl)
  rw [cells27p] at hy0
  rw [cells5p] at hy1
  obtain ⟨z0, e0, _, w0⟩ := DataW.trod_int Try.underlying27 hy0
  obtain ⟨z1, e1, _, w1⟩ := DataW.trod_int Try.underlying5 hy1
  have a0 := at_drop e0
  have a1 := at_drop e1
  have b0 : 0 ≤ z0 ∧ z0 ≤ 255 := in_u8p w0
  have b1 : 0 ≤ z1 ∧ z1 ≤ 255 := in_u8p w1
  refine ⟨z0.toNat, z1.toNat, by omega, by omega, ?_⟩
  unfold polV
  congr 1
  refine Array.ext_getElem? (fun i => ?_)
  rw [Int.toNat_of_nonneg b0.1, Int.toNat_of_nonneg b1.1]
  match i with
  | 0 => simpa using a0
  | 1 => simpa using a1
  | i + 2 =>
    rw [Array.getElem?_eq_none (by omega)]
    rfl
end Go.Proofs.Ytcbdmdalijhkoaa
