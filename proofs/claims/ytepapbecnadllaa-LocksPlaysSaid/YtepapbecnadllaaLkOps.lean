/-
  locks' law: a list of calls as it lies, and as it comes in; a call by value.
-/
import Derived.Test.YtepapbecnadllaaIntArg
import Derived.Test.YtepapbecnadllaaRow
namespace Go.Proofs.Ytepapbecnadllaa
open Go.ChangeShapes Go.WideShapes Go.ChangeAt Go.RowKit

/-- A call. -/
structure Op3 where
  kind : Int
  who : Int
  lock : Int
def Op3.cells (o : Op3) : List Value := [.int .i64 o.kind, .int .i64 o.who, .int .i64 o.lock]
/-- Calls at a. -/
def OpsAt (w : World) (a : Option Addr) (len : Nat) (O : Nat → Op3) : Prop :=
  ∀ i, i < len → ∃ b o, a = some ⟨b, o, none⟩ ∧ w.rangeAt b (o + i * 3) (O i).cells
theorem OpsAt.later {w w' : World} {a : Option Addr} {len : Nat} {O : Nat → Op3} (h : OpsAt w a len O) (hb : Below w.heap.size w w') : OpsAt w' a len O := fun i hi => by
  obtain ⟨b, o, e, hc⟩ := h i hi
  exact ⟨b, o, e, fun j v hv => by rw [hb.cell (World.block_lt_of_cell? _ _ (hc j v hv))]; exact hc j v hv⟩
/-- One call, in every later world. -/
theorem OpsAt.one {w : World} {a : Option Addr} {len : Nat} {O : Nat → Op3} (h : OpsAt w a len O) (k : Nat) (hk : k < len) : ∃ b o, a = some ⟨b, o, none⟩ ∧ b < w.heap.size ∧ ∀ W, Below w.heap.size w W →
    W.cell? ⟨b, o + k * 3, none⟩ = some (.int .i64 (O k).kind) ∧ W.cell? ⟨b, o + k * 3 + 1, none⟩ = some (.int .i64 (O k).who) ∧ W.cell? ⟨b, o + k * 3 + 2, none⟩ = some (.int .i64 (O k).lock) := by
  obtain ⟨b, o, rfl, hc⟩ := h k hk
  refine ⟨b, o, rfl, World.block_lt_of_cell? _ _ (hc 0 _ rfl), fun W hW => ?_⟩
  have hh : ∀ j v, (O k).cells[j]? = some v → W.cell? ⟨b, o + k * 3 + j, none⟩ = some v := fun j v hv => by
    rw [hW.cell (World.block_lt_of_cell? _ _ (hc j v hv))]; exact hc j v hv
  exact ⟨hh 0 _ rfl, hh 1 _ rfl, hh 2 _ rfl⟩

theorem cells33 : Try.prog.cellsOf 33 = 3 := by kernel_rfl

section
variable {H : Type} {enc : TypeId × Value → H} {W : World}
theorem op_cells {n : Nat} {cs : List Value} {y : DataW H × List MemPlace} (hl : cs.length = 3) (h : DataW.trod enc Try.prog W 0 (fun _ => true) true n 33 cs = some y) : ∃ o : Op3, cs = o.cells := by
  obtain ⟨xs, n, _, _, _, hxl, hfld⟩ := DataW.trod_struct Try.underlying33 h
  have f0 : DataW.trod enc Try.prog W 0 (fun _ => true) true n 3 ((cs.drop 0).take (Try.prog.cellsOf 3)) = xs[0]? := hfld 0 _ rfl
  have f1 : DataW.trod enc Try.prog W 0 (fun _ => true) true n 3 ((cs.drop 1).take (Try.prog.cellsOf 3)) = xs[1]? := hfld 1 _ rfl
  have f2 : DataW.trod enc Try.prog W 0 (fun _ => true) true n 3 ((cs.drop 2).take (Try.prog.cellsOf 3)) = xs[2]? := hfld 2 _ rfl
  have hxl3 : xs.length = 3 := hxl
  rw [List.getElem?_eq_getElem (by omega), cells3] at f0 f1 f2
  obtain ⟨z0, e0, _⟩ := int_in f0
  obtain ⟨z1, e1, _⟩ := int_in f1
  obtain ⟨z2, e2, _⟩ := int_in f2
  have g0 := at_drop e0
  have g1 := at_drop e1
  have g2 := at_drop e2
  match cs, hl with
  | [a, b, c], _ =>
    simp at g0 g1 g2
    subst g0; subst g1; subst g2
    exact ⟨⟨z0, z1, z2⟩, rfl⟩
theorem op_arg {base : Nat} {v : Value} {d : DataW H} {p : List MemPlace} (hv : Value.okWide Try.prog W .any base 33 v)
    (h : DataW.Trod enc Try.prog W 0 (fun _ => true) true 33 v d p) : ∃ o : Op3, v = .agg #[.int .i64 o.kind, .int .i64 o.who, .int .i64 o.lock] := by
  obtain ⟨A, rfl, hsz⟩ := okWide_struct Try.underlying33 hv
  rw [cells33] at hsz
  obtain ⟨fuel, hf⟩ := h
  obtain ⟨o, ho⟩ := op_cells (cs := A.toList) (by simpa using hsz) hf
  refine ⟨o, ?_⟩
  congr 1
  apply Array.ext'
  rw [ho]; rfl
end
theorem ops_of {H : Type} {enc : TypeId × Value → H} {W : World} {d : DataW H} {p : List MemPlace} {a : Option Addr} {len cap : Nat}
    (h : DataW.Trod enc Try.prog W 0 (fun _ => true) true 22 (.slice a len cap) d p) : ∃ O, OpsAt W a len O := by
  obtain ⟨fuel, hf⟩ := h
  rcases DataW.trod_slice Try.underlying22 hf with ⟨hcs, _⟩ | ⟨x, l, c, elems, rest, m, _, hcs, _, _, hl, hm, hlen, hel, _, _⟩
  · simp [Value.cells] at hcs
    obtain ⟨rfl, rfl, rfl⟩ := hcs
    exact ⟨fun _ => ⟨0, 0, 0⟩, fun i hi => absurd hi (Nat.not_lt_zero _)⟩
  · simp [Value.cells] at hcs
    obtain ⟨rfl, rfl, rfl⟩ := hcs
    have each : ∀ i, i < len → ∃ o : Op3, ∀ j, j < 3 → W.cell? ((x.add (i * 3)).add j) = o.cells[j]? := by
      intro i hi
      have h1 := hel i hi
      rw [cells33, List.getElem?_eq_getElem (by omega)] at h1
      obtain ⟨cs, hc, ht⟩ := Option.bind_eq_some_iff.1 h1
      obtain ⟨_, hcl, hat⟩ := World.cells?_some hc
      obtain ⟨o, rfl⟩ := op_cells hcl ht
      exact ⟨o, hat⟩
    have key : ∀ i, i < len → ∃ t : Op3, ∃ b o, some x = some (⟨b, o, none⟩ : Addr) ∧ W.rangeAt b (o + i * 3) t.cells := by
      intro i hi
      obtain ⟨b, o, spot⟩ := x
      have hspot : spot = none := by
        obtain ⟨t, hat⟩ := each 0 (by omega)
        have h0 := hat 0 (by omega)
        rw [show t.cells[0]? = some (.int .i64 t.kind) from rfl] at h0
        simpa [Addr.add] using World.cell?_spot h0
      subst hspot
      obtain ⟨t, hat⟩ := each i hi
      refine ⟨t, b, o, rfl, fun j v hv => ?_⟩
      have hj : j < 3 := (List.getElem?_eq_some_iff.1 hv).1
      have a2 := hat j (by omega)
      rw [hv] at a2
      simp only [add_plain] at a2
      exact a2
    classical
    refine ⟨fun i => if hi : i < len then Classical.choose (key i hi) else ⟨0, 0, 0⟩, fun i hi => ?_⟩
    have h := Classical.choose_spec (key i hi)
    simp only [dif_pos hi]
    exact h
end Go.Proofs.Ytepapbecnadllaa
