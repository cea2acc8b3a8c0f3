/-
  device's law: a list of calls as it lies, and as it comes in.
-/
import Derived.Test.YtadjkanjlkammaaBytArg
namespace Go.Proofs.Ytadjkanjlkammaa
open Go.ChangeShapes Go.WideShapes Go.ChangeAt Go.RowKit

/-- A call. -/
structure Op4 where
  kind : Int
  slot : Int
  bp : Option Addr
  bl : Nat
  bc : Nat
  x : Nat → UInt8
  short : Bool
  fail : Bool
def Op4.cells (o : Op4) : List Value := [.int .i64 o.kind, .int .i64 o.slot, .slice o.bp o.bl o.bc, .bool o.short, .bool o.fail]
/-- Calls at a. -/
def OpsAt (w : World) (a : Option Addr) (len : Nat) (O : Nat → Op4) : Prop :=
  ∀ i, i < len → ∃ b o, a = some ⟨b, o, none⟩ ∧ w.rangeAt b (o + i * 5) (O i).cells ∧ Src w (O i).bp (O i).bl (O i).x ∧ (O i).bl ≤ 9223372036854775807
theorem OpsAt.later {w w' : World} {a : Option Addr} {len : Nat} {O : Nat → Op4} (h : OpsAt w a len O) (hb : Below w.heap.size w w') : OpsAt w' a len O := fun i hi => by
  obtain ⟨b, o, e, hc, hs, hl⟩ := h i hi
  exact ⟨b, o, e, fun j v hv => by rw [hb.cell (World.block_lt_of_cell? _ _ (hc j v hv))]; exact hc j v hv, hs.later hb, hl⟩

theorem cells34 : Try.prog.cellsOf 34 = 5 := by kernel_rfl

theorem ops_of {H : Type} {enc : TypeId × Value → H} {W : World} {d : DataW H} {p : List MemPlace} {a : Option Addr} {len cap : Nat}
    (h : DataW.Trod enc Try.prog W 0 (fun _ => true) true 22 (.slice a len cap) d p) : (∃ O, OpsAt W a len O) ∧ len ≤ 9223372036854775807 := by
  obtain ⟨fuel, hf⟩ := h
  rcases DataW.trod_slice Try.underlying22 hf with ⟨hcs, _⟩ | ⟨x, l, c, elems, rest, m, _, hcs, _, _, hl, hm, hlen, hel, _, _⟩
  · simp [Value.cells] at hcs
    obtain ⟨rfl, rfl, rfl⟩ := hcs
    exact ⟨⟨fun _ => ⟨0, 0, none, 0, 0, fun _ => 0, false, false⟩, fun i hi => absurd hi (Nat.not_lt_zero _)⟩, by omega⟩
  · simp [Value.cells] at hcs
    obtain ⟨rfl, rfl, rfl⟩ := hcs
    refine ⟨?_, by unfold maxLen at hm; omega⟩
    have each : ∀ i, i < len → ∃ (cs : List Value) (o : Op4), (∀ j, j < 5 → W.cell? ((x.add (i * 5)).add j) = cs[j]?) ∧ (∀ (j : Nat) (v : Value), o.cells[j]? = some v → cs[j]? = some v) ∧ Src W o.bp o.bl o.x ∧ o.bl ≤ 9223372036854775807 := by
      intro i hi
      have h1 := hel i hi
      rw [cells34, List.getElem?_eq_getElem (by omega)] at h1
      obtain ⟨cs, hc, ht⟩ := Option.bind_eq_some_iff.1 h1
      obtain ⟨_, hcl, hat⟩ := World.cells?_some hc
      obtain ⟨xs, n, _, _, _, hxl, hfld⟩ := DataW.trod_struct Try.underlying34 ht
      have f0 : DataW.trod enc Try.prog W 0 (fun _ => true) true n 3 ((cs.drop 0).take (Try.prog.cellsOf 3)) = xs[0]? := hfld 0 _ rfl
      have f1 : DataW.trod enc Try.prog W 0 (fun _ => true) true n 3 ((cs.drop 1).take (Try.prog.cellsOf 3)) = xs[1]? := hfld 1 _ rfl
      have f2 : DataW.trod enc Try.prog W 0 (fun _ => true) true n 32 ((cs.drop 2).take (Try.prog.cellsOf 32)) = xs[2]? := hfld 2 _ rfl
      have f3 : DataW.trod enc Try.prog W 0 (fun _ => true) true n 4 ((cs.drop 3).take (Try.prog.cellsOf 4)) = xs[3]? := hfld 3 _ rfl
      have f4 : DataW.trod enc Try.prog W 0 (fun _ => true) true n 4 ((cs.drop 4).take (Try.prog.cellsOf 4)) = xs[4]? := hfld 4 _ rfl
      have hxl5 : xs.length = 5 := hxl
      rw [List.getElem?_eq_getElem (by omega)] at f0 f1 f2 f3 f4
      rw [cells3] at f0 f1
      rw [cells32] at f2
      rw [cells4] at f3 f4
      obtain ⟨z0, e0, _⟩ := int_in f0
      obtain ⟨z1, e1, _⟩ := int_in f1
      obtain ⟨bp, bl, bc, y, e2, hS, hn⟩ := bytes_in f2
      obtain ⟨z3, e3⟩ := bool_in f3
      obtain ⟨z4, e4⟩ := bool_in f4
      refine ⟨cs, ⟨z0, z1, bp, bl, bc, y, z3, z4⟩, hat, fun j v hv => ?_, hS, hn⟩
      have hj : j < 5 := (List.getElem?_eq_some_iff.1 hv).1
      rcases (show j = 0 ∨ j = 1 ∨ j = 2 ∨ j = 3 ∨ j = 4 by omega) with rfl | rfl | rfl | rfl | rfl
      · rw [at_drop e0]; exact hv
      · rw [at_drop e1]; exact hv
      · rw [at_drop e2]; exact hv
      · rw [at_drop e3]; exact hv
      · rw [at_drop e4]; exact hv
    have key : ∀ i, i < len → ∃ t : Op4, ∃ b o, some x = some (⟨b, o, none⟩ : Addr) ∧ W.rangeAt b (o + i * 5) t.cells ∧ Src W t.bp t.bl t.x ∧ t.bl ≤ 9223372036854775807 := by
      intro i hi
      obtain ⟨b, o, spot⟩ := x
      have hspot : spot = none := by
        obtain ⟨cs, t, hat, hcs, _⟩ := each 0 (by omega)
        have h0 := hat 0 (by omega)
        rw [hcs 0 _ rfl] at h0
        simpa [Addr.add] using World.cell?_spot h0
      subst hspot
      obtain ⟨cs, t, hat, hcs, hS, hn⟩ := each i hi
      refine ⟨t, b, o, rfl, fun j v hv => ?_, hS, hn⟩
      have hj : j < 5 := (List.getElem?_eq_some_iff.1 hv).1
      have a2 := hat j (by omega)
      rw [hcs j v hv] at a2
      simp only [add_plain] at a2
      exact a2
    classical
    refine ⟨fun i => if hi : i < len then Classical.choose (key i hi) else ⟨0, 0, none, 0, 0, fun _ => 0, false, false⟩, fun i hi => ?_⟩
    have h := Classical.choose_spec (key i hi)
    simp only [dif_pos hi]
    exact h
end Go.Proofs.Ytadjkanjlkammaa
