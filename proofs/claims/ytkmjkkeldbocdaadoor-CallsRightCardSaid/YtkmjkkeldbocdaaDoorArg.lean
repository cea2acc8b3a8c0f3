/-
  A config that comes in: ninety-four ints.
-/
import Derived.Test.YtkmjkkeldbocdaaDoorKit
import Derived.Test.YtkmjkkeldbocdaaDoorM00
import Derived.Test.YtkmjkkeldbocdaaDoorIntArg
namespace Go.Proofs.YtkmjkkeldbocdaaDoor
open Go.ChangeShapes Go.WideShapes Go.ChangeAt Go.RowKit

theorem at_part {cs : List Value} {o k i : Nat} {v : Value} (h : (((cs.drop o).take k).drop i).take 1 = [v]) : cs[o + i]? = some v := by
  have := at_drop h
  have hi : i < k := by
    by_cases e : i < k
    · exact e
    · rw [List.getElem?_take_eq_none (by omega)] at this; cases this
  rw [List.getElem?_take_of_lt hi, List.getElem?_drop] at this
  exact this

theorem cells47 : Tryd.prog.cellsOf 47 = 8 := by kernel_rfl
theorem cells46 : Tryd.prog.cellsOf 46 = 16 := by kernel_rfl
theorem cells48 : Tryd.prog.cellsOf 48 = 64 := by kernel_rfl
theorem cells50 : Tryd.prog.cellsOf 50 = 94 := by kernel_rfl

section
variable {H : Type} {enc : TypeId × Value → H} {w : World} {base : Nat} {sp : Nat → Bool} {held : Bool} {fuel : Nat} {x : DataW H × List MemPlace} {cs : List Value}
set_option maxRecDepth 100000 in
theorem ints_of_array {t : TypeId} {n : Nat} (ht : Tryd.prog.underlying t = some (.array n 3)) (h : DataW.trod enc Tryd.prog w base sp held fuel t cs = some x) : ∀ i, i < n → ∃ z, (cs.drop i).take 1 = [Value.int .i64 z] := by
  obtain ⟨xs, m, rfl, _, _, hl, hel⟩ := DataW.trod_array ht h
  intro i hi
  have h1 := hel i hi
  rw [cells3, Nat.mul_one] at h1
  cases hy : xs[i]? with
  | none => rw [List.getElem?_eq_none_iff] at hy; omega
  | some y =>
    rw [hy] at h1
    obtain ⟨z, e1, _, _⟩ := DataW.trod_int Tryd.underlying3 h1
    exact ⟨z, e1⟩
set_option maxRecDepth 100000 in
theorem ints_of_rows (h : DataW.trod enc Tryd.prog w base sp held fuel 48 cs = some x) : ∀ a i, a < 8 → i < 8 → ∃ z, (((cs.drop (a * 8)).take 8).drop i).take 1 = [Value.int .i64 z] := by
  obtain ⟨xs, m, rfl, _, _, hl, hel⟩ := DataW.trod_array Tryd.underlying48 h
  intro a i ha hi
  have h1 := hel a ha
  rw [cells47] at h1
  cases hy : xs[a]? with
  | none => rw [List.getElem?_eq_none_iff] at hy; omega
  | some y =>
    rw [hy] at h1
    exact ints_of_array Tryd.underlying47 h1 i hi
end

set_option maxRecDepth 100000 in
theorem cfg_arg {H : Type} {enc : TypeId × Value → H} {W : World} {base : Nat} {v : Value} {d : DataW H} {p : List MemPlace} (hv : Value.okWide Tryd.prog W .any base 50 v)
    (h : DataW.Trod enc Tryd.prog W 0 (fun _ => true) true 50 v d p) : ∃ A g, v = .agg A ∧ Cfg A g := by
  obtain ⟨A, rfl, hsz⟩ := okWide_struct Tryd.underlying50 hv
  rw [cells50] at hsz
  obtain ⟨fuel, hf⟩ := h
  obtain ⟨xs, n, rfl, _, _, hl, hel⟩ := DataW.trod_struct Tryd.underlying50 hf
  have key : ∀ i, i < 94 → ∃ z, A[i]? = some (.int .i64 z) := by
    intro i hi
    have toA : ∀ z, A.toList[i]? = some (Value.int .i64 z) → ∃ z, A[i]? = some (.int .i64 z) := fun z hz => ⟨z, by simpa using hz⟩
    have one : ∀ (j o : Nat) (f : Field), (Tryd.prog.fieldsOf 50)[j]? = some f → f.type = 3 → f.offset = o → i = o → ∃ z, A[i]? = some (.int .i64 z) := fun j o f e1 e2 e3 e4 => by
      have h1 := hel j f e1
      rw [e2, e3, cells3] at h1
      cases hy : xs[j]? with
      | none =>
        have h2 := (Array.getElem?_eq_some_iff.1 e1).1
        rw [List.getElem?_eq_none_iff, hl] at hy
        exact absurd h2 (by show ¬ j < (Tryd.prog.fieldsOf 50).size; exact Nat.not_lt.2 hy)
      | some y =>
        rw [hy] at h1
        obtain ⟨z, e5, _, _⟩ := DataW.trod_int Tryd.underlying3 h1
        subst e4
        exact toA z (at_drop e5)
    have some1 : ∀ (j : Nat) (f : Field), (Tryd.prog.fieldsOf 50)[j]? = some f → ∃ y, DataW.trod enc Tryd.prog W 0 (fun _ => true) true n f.type ((A.toList.drop f.offset).take (Tryd.prog.cellsOf f.type)) = some y := fun j f e1 => by
      have h1 := hel j f e1
      cases hy : xs[j]? with
      | none =>
        have h2 := (Array.getElem?_eq_some_iff.1 e1).1
        rw [List.getElem?_eq_none_iff, hl] at hy
        exact absurd h2 (by show ¬ j < (Tryd.prog.fieldsOf 50).size; exact Nat.not_lt.2 hy)
      | some y => exact ⟨y, h1.trans hy⟩
    by_cases a0 : i = 0
    · exact one 0 0 ⟨ "Nodes", 3, 0, false, "", "", 0⟩ (by kernel_rfl) rfl rfl a0
    by_cases a1 : i = 1
    · exact one 1 1 ⟨ "CPUs", 3, 1, false, "", "", 8⟩ (by kernel_rfl) rfl rfl a1
    by_cases a2 : i < 18
    · obtain ⟨y, hy⟩ := some1 2 ⟨ "Home", 46, 2, false, "", "", 16⟩ (by kernel_rfl)
      rw [cells46] at hy
      obtain ⟨z, hz⟩ := ints_of_array Tryd.underlying46 hy (i - 2) (by omega)
      have := at_part hz
      rw [show 2 + (i - 2) = i by omega] at this
      exact toA z this
    by_cases a3 : i < 26
    · obtain ⟨y, hy⟩ := some1 3 ⟨ "Frames", 47, 18, false, "", "", 144⟩ (by kernel_rfl)
      rw [cells47] at hy
      obtain ⟨z, hz⟩ := ints_of_array Tryd.underlying47 hy (i - 18) (by omega)
      have := at_part hz
      rw [show 18 + (i - 18) = i by omega] at this
      exact toA z this
    by_cases a4 : i < 90
    · obtain ⟨y, hy⟩ := some1 4 ⟨ "Distance", 48, 26, false, "", "", 208⟩ (by kernel_rfl)
      rw [cells48] at hy
      obtain ⟨z, hz⟩ := ints_of_rows hy ((i - 26) / 8) ((i - 26) % 8) (by omega) (by omega)
      have h1 := at_part hz
      have hlt : (i - 26) / 8 * 8 + (i - 26) % 8 < 64 := by omega
      rw [List.getElem?_take_of_lt hlt, List.getElem?_drop, show 26 + ((i - 26) / 8 * 8 + (i - 26) % 8) = i by omega] at h1
      exact toA z h1
    by_cases a5 : i = 90
    · exact one 5 90 ⟨ "Slots", 3, 90, false, "", "", 720⟩ (by kernel_rfl) rfl rfl a5
    by_cases a6 : i = 91
    · exact one 6 91 ⟨ "Min", 3, 91, false, "", "", 728⟩ (by kernel_rfl) rfl rfl a6
    by_cases a7 : i = 92
    · exact one 7 92 ⟨ "Low", 3, 92, false, "", "", 736⟩ (by kernel_rfl) rfl rfl a7
    · exact one 8 93 ⟨ "High", 3, 93, false, "", "", 744⟩ (by kernel_rfl) rfl rfl (by omega)
  refine ⟨A, fun i => match A[i]? with | some (.int .i64 z) => z | _ => 0, rfl, hsz, fun i hi => ?_⟩
  obtain ⟨z, hz⟩ := key i hi
  rw [hz]
end Go.Proofs.YtkmjkkeldbocdaaDoor
