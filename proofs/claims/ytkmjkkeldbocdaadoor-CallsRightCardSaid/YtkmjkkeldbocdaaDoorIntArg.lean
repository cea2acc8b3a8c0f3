/-
  Ints that come in. Of no program that has ints.
-/
import Derived.Test.YtkmjkkeldbocdaaDoorBounds
namespace Go.Proofs.YtkmjkkeldbocdaaDoor
open Go.ChangeShapes Go.WideShapes Go.ChangeAt Go.RowKit

theorem add_plain (b o i : Nat) : (⟨b, o, none⟩ : Addr).add i = ⟨b, o + i, none⟩ := by unfold Addr.add; split <;> simp_all
theorem cells3 : Tryd.prog.cellsOf 3 = 1 := by kernel_rfl
theorem head_of_take {l : List Value} {v : Value} (h : l.take 1 = [v]) : l[0]? = some v := by
  cases l with
  | nil => cases h
  | cons a r => simpa using h
theorem at_drop {cs : List Value} {o : Nat} {v : Value} (h : (cs.drop o).take 1 = [v]) : cs[o]? = some v := by
  have := head_of_take h
  simpa using this
section
variable {H : Type} {enc : TypeId × Value → H} {W : World} {fuel base : Nat} {sp : Nat → Bool} {held : Bool} {r : DataW H × List MemPlace} {cs : List Value}
theorem int_in (h : DataW.trod enc Tryd.prog W base sp held fuel 3 cs = some r) : ∃ z, cs = [.int .i64 z] ∧ -9223372036854775808 ≤ z ∧ z ≤ 9223372036854775807 := by
  obtain ⟨z, e, _, hw⟩ := DataW.trod_int Tryd.underlying3 h
  exact ⟨z, e, in_i64 hw⟩
end
section
variable {H : Type} {enc : TypeId × Value → H} {W : World} {base : Nat} {v : Value} {d : DataW H} {p : List MemPlace}
set_option maxRecDepth 100000 in
theorem int_arg (hv : Value.okWide Tryd.prog W .any base 3 v) (h : DataW.Trod enc Tryd.prog W 0 (fun _ => true) true 3 v d p) : ∃ z, v = .int .i64 z ∧ -9223372036854775808 ≤ z ∧ z ≤ 9223372036854775807 := by
  obtain ⟨z, rfl, _, _, hw⟩ := open_int Tryd.underlying3 hv h
  exact ⟨z, rfl, in_i64 hw⟩
set_option maxRecDepth 100000 in
theorem u64_arg (hv : Value.okWide Tryd.prog W .any base 26 v) (h : DataW.Trod enc Tryd.prog W 0 (fun _ => true) true 26 v d p) : ∃ z : Nat, v = .int .u64 z ∧ z < 18446744073709551616 := by
  obtain ⟨z, rfl, _, _, hw⟩ := open_int Tryd.underlying26 hv h
  obtain ⟨x, rfl, hx⟩ := in_u64 hw
  exact ⟨x, rfl, hx⟩
end
end Go.Proofs.YtkmjkkeldbocdaaDoor
