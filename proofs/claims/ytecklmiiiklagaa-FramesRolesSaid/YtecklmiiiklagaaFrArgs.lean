/-
  Slices that come in: bytes; a list of calls.
-/
import Derived.Test.YtecklmiiiklagaaBounds
import Derived.Test.YtecklmiiiklagaaArg
import Derived.Test.YtecklmiiiklagaaFrRoles
namespace Go.Proofs.Ytecklmiiiklagaa
open Go.ChangeShapes Go.WideShapes Go.ChangeAt Go.RowKit

theorem add_plain (b o i : Nat) : (⟨b, o, none⟩ : Addr).add i = ⟨b, o + i, none⟩ := Addr.add_mid b o i

theorem bytes_of {H : Type} {enc : TypeId × Value → H} {W : World} {d : DataW H} {p : List MemPlace} {a : Option Addr} {len cap : Nat}
    (h : DataW.Trod enc Try.prog W 0 (fun _ => true) true 22 (.slice a len cap) d p) : ∃ x : Nat → UInt8, (0 < len → ∃ ad, a = some ad ∧ ∀ j, j < len → W.cell? (ad.add j) = some (byV x j)) ∧ len ≤ 9223372036854775807 := by
  obtain ⟨fuel, hf⟩ := h
  rcases open_ints Try.underlying22 Try.underlying5 (by kernel_rfl) hf with ⟨hcs, _⟩ | ⟨x, l, c, zs, hcs, _, hl, hm, hz, _, hcell, hwf⟩
  · simp [Value.cells] at hcs
    obtain ⟨rfl, rfl, rfl⟩ := hcs
    exact ⟨fun _ => 0, fun h => absurd h (Nat.lt_irrefl _), by omega⟩
  · simp [Value.cells] at hcs
    obtain ⟨rfl, rfl, rfl⟩ := hcs
    simp only [if_true] at hz
    refine ⟨fun j => UInt8.ofNat (zs.getD j 0).toNat, fun _ => ⟨x, rfl, fun j hj => ?_⟩, by unfold maxLen at hm; omega⟩
    rw [hcell j (by omega)]
    obtain ⟨y, hy⟩ := in_u8 (hwf (zs.getD j 0) (by
      rw [List.getD_eq_getElem?_getD, List.getElem?_eq_getElem (by omega)]
      exact List.getElem_mem _))
    show some (Value.int .u8 (zs.getD j 0)) = some (.int .u8 ((UInt8.ofNat (zs.getD j 0).toNat).toNat : Nat))
    generalize zs.getD j 0 = z at hy ⊢
    subst hy
    simp

theorem cells28 : Try.prog.cellsOf 28 = 11 := by kernel_rfl
theorem cells25 : Try.prog.cellsOf 25 = 5 := by kernel_rfl
theorem cells23 : Try.prog.cellsOf 23 = 1 := by kernel_rfl

section
variable {H : Type} {enc : TypeId × Value → H} {W : World}
theorem int_at {n : Nat} {cs : List Value} {j : Nat} {y : DataW H × List MemPlace} (h : DataW.trod enc Try.prog W 0 (fun _ => true) true n 3 ((cs.drop j).take 1) = some y) : ∃ z, cs[j]? = some (.int .i64 z) := by
  obtain ⟨k, e1, _, _⟩ := DataW.trod_int Try.underlying3 h
  exact ⟨k, at_drop e1⟩
theorem mark_at {n : Nat} {cs : List Value} {y : DataW H × List MemPlace} (h : DataW.trod enc Try.prog W 0 (fun _ => true) true n 25 cs = some y) : ∃ x : Mk, ∀ (j : Nat) (v : Value), x.cells[j]? = some v → cs[j]? = some v := by
  obtain ⟨xs, n, _, _, _, hxl, hfld⟩ := DataW.trod_struct Try.underlying25 h
  have f0 : DataW.trod enc Try.prog W 0 (fun _ => true) true n 23 ((cs.drop 0).take (Try.prog.cellsOf 23)) = xs[0]? := hfld 0 _ rfl
  have f1 : DataW.trod enc Try.prog W 0 (fun _ => true) true n 3 ((cs.drop 1).take (Try.prog.cellsOf 3)) = xs[1]? := hfld 1 _ rfl
  have f2 : DataW.trod enc Try.prog W 0 (fun _ => true) true n 3 ((cs.drop 2).take (Try.prog.cellsOf 3)) = xs[2]? := hfld 2 _ rfl
  have f3 : DataW.trod enc Try.prog W 0 (fun _ => true) true n 3 ((cs.drop 3).take (Try.prog.cellsOf 3)) = xs[3]? := hfld 3 _ rfl
  have f4 : DataW.trod enc Try.prog W 0 (fun _ => true) true n 3 ((cs.drop 4).take (Try.prog.cellsOf 3)) = xs[4]? := hfld 4 _ rfl
  have hxl5 : xs.length = 5 := hxl
  rw [List.getElem?_eq_getElem (by omega)] at f0 f1 f2 f3 f4
  rw [cells3] at f1 f2 f3 f4
  rw [cells23] at f0
  obtain ⟨r, e0, _, _⟩ := DataW.trod_int Try.underlying23 f0
  have e0 := at_drop e0
  obtain ⟨o, e1⟩ := int_at f1
  obtain ⟨ow, e2⟩ := int_at f2
  obtain ⟨p, e3⟩ := int_at f3
  obtain ⟨i, e4⟩ := int_at f4
  refine ⟨⟨r, o, ow, p, i⟩, fun j v hv => ?_⟩
  have hj : j < 5 := (List.getElem?_eq_some_iff.1 hv).1
  rcases (show j = 0 ∨ j = 1 ∨ j = 2 ∨ j = 3 ∨ j = 4 by omega) with rfl | rfl | rfl | rfl | rfl
  · rw [e0]; exact hv
  · rw [e1]; exact hv
  · rw [e2]; exact hv
  · rw [e3]; exact hv
  · rw [e4]; exact hv
end

theorem ops_of {H : Type} {enc : TypeId × Value → H} {W : World} {d : DataW H} {p : List MemPlace} {a : Option Addr} {len cap : Nat}
    (h : DataW.Trod enc Try.prog W 0 (fun _ => true) true 62 (.slice a len cap) d p) : (∃ F X, OpRow W a len F X) ∧ len ≤ 9223372036854775807 := by
  obtain ⟨fuel, hf⟩ := h
  rcases DataW.trod_slice Try.underlying62 hf with ⟨hcs, _⟩ | ⟨x, l, c, elems, rest, m, _, hcs, _, _, hl, hm, hlen, hel, _, _⟩
  · simp [Value.cells] at hcs
    obtain ⟨rfl, rfl, rfl⟩ := hcs
    exact ⟨⟨fun _ => 0, fun _ => ⟨0, 0, 0, 0, 0⟩, fun i hi => absurd hi (Nat.not_lt_zero _)⟩, by omega⟩
  · simp [Value.cells] at hcs
    obtain ⟨rfl, rfl, rfl⟩ := hcs
    refine ⟨?_, by unfold maxLen at hm; omega⟩
    have each : ∀ i, i < len → ∃ cs : List Value, (∀ j, j < 11 → W.cell? ((x.add (i * 11)).add j) = cs[j]?) ∧ (∃ z, cs[0]? = some (.int .i64 z)) ∧ (∃ z, cs[1]? = some (.int .i64 z)) ∧ ∃ y : Mk, ∀ (j : Nat) (v : Value), y.cells[j]? = some v → cs[5 + j]? = some v := by
      intro i hi
      have h1 := hel i hi
      rw [cells28, List.getElem?_eq_getElem (by omega)] at h1
      obtain ⟨cs, hc, ht⟩ := Option.bind_eq_some_iff.1 h1
      obtain ⟨_, hcl, hat⟩ := World.cells?_some hc
      obtain ⟨xs, n, _, _, _, hxl, hfld⟩ := DataW.trod_struct Try.underlying28 ht
      have f0 : DataW.trod enc Try.prog W 0 (fun _ => true) true n 3 ((cs.drop 0).take (Try.prog.cellsOf 3)) = xs[0]? := hfld 0 _ rfl
      have f1 : DataW.trod enc Try.prog W 0 (fun _ => true) true n 3 ((cs.drop 1).take (Try.prog.cellsOf 3)) = xs[1]? := hfld 1 _ rfl
      have f5 : DataW.trod enc Try.prog W 0 (fun _ => true) true n 25 ((cs.drop 5).take (Try.prog.cellsOf 25)) = xs[5]? := hfld 5 _ rfl
      have hxl7 : xs.length = 7 := hxl
      rw [List.getElem?_eq_getElem (by omega)] at f0 f1 f5
      rw [cells3] at f0 f1
      rw [cells25] at f5
      obtain ⟨y, hy⟩ := mark_at f5
      refine ⟨cs, hat, int_at f0, int_at f1, y, fun j v hv => ?_⟩
      have h2 := hy j v hv
      have hj : j < 5 := (List.getElem?_eq_some_iff.1 hv).1
      rwa [List.getElem?_take_of_lt hj, List.getElem?_drop] at h2
    have key : ∀ i, i < len → ∃ t : Int × Mk, ∃ b o, some x = some (⟨b, o, none⟩ : Addr) ∧ W.cell? ⟨b, o + i * 11 + 1, none⟩ = some (.int .i64 t.1) ∧ W.rangeAt b (o + i * 11 + 5) t.2.cells := by
      intro i hi
      obtain ⟨b, o, spot⟩ := x
      have hspot : spot = none := by
        obtain ⟨cs, hat, ⟨z, hz⟩, _⟩ := each 0 (by omega)
        have h0 := hat 0 (by omega)
        rw [hz] at h0
        simpa [Addr.add] using World.cell?_spot h0
      subst hspot
      obtain ⟨cs, hat, _, ⟨z, hz⟩, y, hy⟩ := each i hi
      have a1 := hat 1 (by omega)
      rw [hz] at a1
      simp only [add_plain] at a1
      refine ⟨(z, y), b, o, rfl, a1, fun j v hv => ?_⟩
      have hj : j < 5 := (List.getElem?_eq_some_iff.1 hv).1
      have a2 := hat (5 + j) (by omega)
      rw [hy j v hv] at a2
      simp only [add_plain] at a2
      rw [show o + i * 11 + 5 + j = o + i * 11 + (5 + j) by omega]; exact a2
    classical
    refine ⟨fun i => if hi : i < len then (Classical.choose (key i hi)).1 else 0, fun i => if hi : i < len then (Classical.choose (key i hi)).2 else ⟨0, 0, 0, 0, 0⟩, fun i hi => ?_⟩
    have h := Classical.choose_spec (key i hi)
    simp only [dif_pos hi]
    exact h
end Go.Proofs.Ytecklmiiiklagaa
