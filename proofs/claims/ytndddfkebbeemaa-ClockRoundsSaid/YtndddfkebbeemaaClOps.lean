/-
  clock's laws: a list of calls as it lies, and as it comes in.
-/
import Derived.Test.YtndddfkebbeemaaIntArg
import Derived.Test.YtndddfkebbeemaaRow
import Derived.Test.YtndddfkebbeemaaClOk
namespace Go.Proofs.Ytndddfkebbeemaa
open Go.ChangeShapes Go.WideShapes Go.ChangeAt Go.RowKit

/-- A call. -/
structure OpA where
  kind : Int
  frame : Int
/-- Its number is a machine's. -/
def OpA.ok (o : OpA) : Prop := InZ o.frame
def OpA.cells (o : OpA) : List Value := [.int .i64 o.kind, .int .i64 o.frame]
/-- Calls at a. -/
def OpsAt (w : World) (a : Option Addr) (len : Nat) (O : Nat → OpA) : Prop :=
  ∀ i, i < len → ∃ b o, a = some ⟨b, o, none⟩ ∧ w.rangeAt b (o + i * 2) (O i).cells ∧ (O i).ok
theorem OpsAt.later {w w' : World} {a : Option Addr} {len : Nat} {O : Nat → OpA} (h : OpsAt w a len O) (hb : Below w.heap.size w w') : OpsAt w' a len O := fun i hi => by
  obtain ⟨b, o, e, hc, hk⟩ := h i hi
  exact ⟨b, o, e, fun j v hv => by rw [hb.cell (World.block_lt_of_cell? _ _ (hc j v hv))]; exact hc j v hv, hk⟩
/-- One call, in every later world. -/
theorem OpsAt.one {w : World} {a : Option Addr} {len : Nat} {O : Nat → OpA} (h : OpsAt w a len O) (k : Nat) (hk : k < len) : ∃ b o, a = some ⟨b, o, none⟩ ∧ b < w.heap.size ∧ (O k).ok ∧ ∀ W, Below w.heap.size w W →
    W.cell? ⟨b, o + k * 2, none⟩ = some (.int .i64 (O k).kind) ∧ W.cell? ⟨b, o + k * 2 + 1, none⟩ = some (.int .i64 (O k).frame) := by
  obtain ⟨b, o, rfl, hc, hok⟩ := h k hk
  refine ⟨b, o, rfl, World.block_lt_of_cell? _ _ (hc 0 _ rfl), hok, fun W hW => ?_⟩
  have hh : ∀ j v, (O k).cells[j]? = some v → W.cell? ⟨b, o + k * 2 + j, none⟩ = some v := fun j v hv => by
    rw [hW.cell (World.block_lt_of_cell? _ _ (hc j v hv))]; exact hc j v hv
  exact ⟨hh 0 _ rfl, hh 1 _ rfl⟩

theorem cells31 : Try.prog.cellsOf 31 = 2 := by kernel_rfl

section
variable {H : Type} {enc : TypeId × Value → H} {W : World}
set_option maxRecDepth 100000 in
theorem op_cells {n : Nat} {cs : List Value} {y : DataW H × List MemPlace} (hl : cs.length = 2) (h : DataW.trod enc Try.prog W 0 (fun _ => true) true n 31 cs = some y) : ∃ o : OpA, cs = o.cells ∧ o.ok := by
  obtain ⟨xs, n, _, _, _, hxl, hfld⟩ := DataW.trod_struct Try.underlying31 h
  have f0 : DataW.trod enc Try.prog W 0 (fun _ => true) true n 3 ((cs.drop 0).take (Try.prog.cellsOf 3)) = xs[0]? := hfld 0 _ rfl
  have f1 : DataW.trod enc Try.prog W 0 (fun _ => true) true n 3 ((cs.drop 1).take (Try.prog.cellsOf 3)) = xs[1]? := hfld 1 _ rfl
  have hxl3 : xs.length = 2 := hxl
  rw [List.getElem?_eq_getElem (by omega), cells3] at f0 f1
  obtain ⟨z0, e0, _⟩ := int_in f0
  obtain ⟨z1, e1, hz1⟩ := int_in f1
  have g0 := at_drop e0
  have g1 := at_drop e1
  match cs, hl with
  | [a, b], _ =>
    simp at g0 g1
    subst g0; subst g1
    exact ⟨⟨z0, z1⟩, rfl, hz1⟩
end
set_option maxRecDepth 100000 in
theorem ops_of {H : Type} {enc : TypeId × Value → H} {W : World} {d : DataW H} {p : List MemPlace} {a : Option Addr} {len cap : Nat}
    (h : DataW.Trod enc Try.prog W 0 (fun _ => true) true 22 (.slice a len cap) d p) : ∃ O, OpsAt W a len O := by
  obtain ⟨fuel, hf⟩ := h
  rcases DataW.trod_slice Try.underlying22 hf with ⟨hcs, _⟩ | ⟨x, l, c, elems, rest, m, _, hcs, _, _, hl, hm, hlen, hel, _, _⟩
  · simp [Value.cells] at hcs
    obtain ⟨rfl, rfl, rfl⟩ := hcs
    exact ⟨fun _ => ⟨0, 0⟩, fun i hi => absurd hi (Nat.not_lt_zero _)⟩
  · simp [Value.cells] at hcs
    obtain ⟨rfl, rfl, rfl⟩ := hcs
    have each : ∀ i, i < len → ∃ o : OpA, o.ok ∧ ∀ j, j < 2 → W.cell? ((x.add (i * 2)).add j) = o.cells[j]? := by
      intro i hi
      have h1 := hel i hi
      rw [cells31, List.getElem?_eq_getElem (by omega)] at h1
      obtain ⟨cs, hc, ht⟩ := Option.bind_eq_some_iff.1 h1
      obtain ⟨_, hcl, hat⟩ := World.cells?_some hc
      obtain ⟨o, rfl, hok⟩ := op_cells hcl ht
      exact ⟨o, hok, hat⟩
    have key : ∀ i, i < len → ∃ t : OpA, ∃ b o, some x = some (⟨b, o, none⟩ : Addr) ∧ W.rangeAt b (o + i * 2) t.cells ∧ t.ok := by
      intro i hi
      obtain ⟨b, o, spot⟩ := x
      have hspot : spot = none := by
        obtain ⟨t, _, hat⟩ := each 0 (by omega)
        have h0 := hat 0 (by omega)
        rw [show t.cells[0]? = some (.int .i64 t.kind) from rfl] at h0
        simpa [Addr.add] using World.cell?_spot h0
      subst hspot
      obtain ⟨t, hok, hat⟩ := each i hi
      refine ⟨t, b, o, rfl, fun j v hv => ?_, hok⟩
      have hj : j < 2 := (List.getElem?_eq_some_iff.1 hv).1
      have a2 := hat j (by omega)
      rw [hv] at a2
      simp only [add_plain] at a2
      exact a2
    classical
    refine ⟨fun i => if hi : i < len then Classical.choose (key i hi) else ⟨0, 0⟩, fun i hi => ?_⟩
    have h := Classical.choose_spec (key i hi)
    simp only [dif_pos hi]
    exact h
end Go.Proofs.Ytndddfkebbeemaa
