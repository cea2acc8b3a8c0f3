/-
  Slices of bytes, ints, bools that come in.
-/
import Derived.Test.YtkmjkkeldbocdaaDoorBounds
import Derived.Test.YtkmjkkeldbocdaaDoorByt
namespace Go.Proofs.YtkmjkkeldbocdaaDoor
open Go.ChangeShapes Go.WideShapes Go.ChangeAt Go.RowKit

theorem add_plain (b o i : Nat) : (⟨b, o, none⟩ : Addr).add i = ⟨b, o + i, none⟩ := Addr.add_mid b o i
theorem cells27 : Tryd.prog.cellsOf 27 = 1 := by kernel_rfl
theorem cells3 : Tryd.prog.cellsOf 3 = 1 := by kernel_rfl
theorem cells4 : Tryd.prog.cellsOf 4 = 1 := by kernel_rfl
theorem head_of_take {l : List Value} {v : Value} (h : l.take 1 = [v]) : l[0]? = some v := by
  cases l with
  | nil => cases h
  | cons a r => simpa using h
theorem at_drop {cs : List Value} {o : Nat} {v : Value} (h : (cs.drop o).take 1 = [v]) : cs[o]? = some v := by
  have := head_of_take h
  simpa using this

section
variable {H : Type} {enc : TypeId × Value → H} {W : World} {fuel base : Nat} {sp : Nat → Bool} {held : Bool} {r : DataW H × List MemPlace} {cs : List Value}
theorem bytes_in (h : DataW.trod enc Tryd.prog W base sp held fuel 27 cs = some r) : ∃ a n c x, cs = [.slice a n c] ∧ Src W a n x ∧ n ≤ 9223372036854775807 := by
  rcases open_ints Tryd.underlying27 Tryd.underlying5 (by kernel_rfl) h with ⟨rfl, _⟩ | ⟨a, l, c, zs, rfl, _, hl, hm, hz, _, hcell, hwf⟩
  · exact ⟨none, 0, 0, fun _ => 0, rfl, Src.nil _ _ _, by omega⟩
  · have hlz : l ≤ zs.length := by rw [hz]; split <;> omega
    refine ⟨some a, l, c, fun j => UInt8.ofNat (zs.getD j 0).toNat, rfl, fun _ => ⟨a, rfl, fun j hj => ?_⟩, by unfold maxLen at hm; omega⟩
    rw [hcell j (by omega)]
    obtain ⟨y, hy⟩ := in_u8 (hwf (zs.getD j 0) (by
      rw [List.getD_eq_getElem?_getD, List.getElem?_eq_getElem (by omega)]
      exact List.getElem_mem _))
    show some (Value.int .u8 (zs.getD j 0)) = some (.int .u8 ((UInt8.ofNat (zs.getD j 0).toNat).toNat : Nat))
    generalize zs.getD j 0 = z at hy ⊢
    subst hy
    simp
theorem int_in (h : DataW.trod enc Tryd.prog W base sp held fuel 3 cs = some r) : ∃ z, cs = [.int .i64 z] ∧ -9223372036854775808 ≤ z ∧ z ≤ 9223372036854775807 := by
  obtain ⟨z, e, _, hw⟩ := DataW.trod_int Tryd.underlying3 h
  exact ⟨z, e, in_i64 hw⟩
theorem bool_in (h : DataW.trod enc Tryd.prog W base sp held fuel 4 cs = some r) : ∃ z, cs = [.bool z] := by
  obtain ⟨z, e, _⟩ := DataW.trod_bool Tryd.underlying4 h
  exact ⟨z, e⟩
end

section
variable {H : Type} {enc : TypeId × Value → H} {W : World} {base : Nat} {v : Value} {d : DataW H} {p : List MemPlace}
set_option maxRecDepth 100000 in
theorem bytes_arg (hv : Value.okWide Tryd.prog W .any base 27 v) (h : DataW.Trod enc Tryd.prog W 0 (fun _ => true) true 27 v d p) : ∃ a n c x, v = .slice a n c ∧ Src W a n x ∧ n ≤ 9223372036854775807 := by
  obtain ⟨a, len, cap, rfl⟩ := okWide_slice Tryd.underlying27 hv
  obtain ⟨fuel, hf⟩ := h
  obtain ⟨a', n, c, x, e, hS, hn⟩ := bytes_in hf
  simp [Value.cells] at e
  obtain ⟨rfl, rfl, rfl⟩ := e
  exact ⟨_, _, _, x, rfl, hS, hn⟩
set_option maxRecDepth 100000 in
theorem int_arg (hv : Value.okWide Tryd.prog W .any base 3 v) (h : DataW.Trod enc Tryd.prog W 0 (fun _ => true) true 3 v d p) : ∃ z, v = .int .i64 z ∧ -9223372036854775808 ≤ z ∧ z ≤ 9223372036854775807 := by
  obtain ⟨z, rfl, _, _, hw⟩ := open_int Tryd.underlying3 hv h
  exact ⟨z, rfl, in_i64 hw⟩
set_option maxRecDepth 100000 in
theorem bool_arg (hv : Value.okWide Tryd.prog W .any base 4 v) (h : DataW.Trod enc Tryd.prog W 0 (fun _ => true) true 4 v d p) : ∃ z : Bool, v = .bool z := by
  obtain ⟨z, rfl, _, _⟩ := open_bool Tryd.underlying4 hv h
  exact ⟨z, rfl⟩
end
end Go.Proofs.YtkmjkkeldbocdaaDoor
