/-
  table's laws: an entry that comes in; a list of them.
-/
import Derived.Test.YtnjdcgjaffageaaBuInts
import Derived.Test.YtnjdcgjaffageaaTbRef
namespace Go.Proofs.Ytnjdcgjaffageaa
open Go.ChangeShapes Go.WideShapes Go.ChangeAt Go.RowKit

def entC (x : Ent) : List Value := [.int .u8 x.1, .int .i64 x.2]
/-- Its numbers are a machine's. -/
def EntIn (x : Ent) : Prop := x.1 < 256 ∧ InI x.2
/-- Entries at a. -/
def EntsIn (w : World) (a : Option Addr) (len : Nat) (O : Nat → Ent) : Prop :=
  ∀ i, i < len → ∃ b o, a = some ⟨b, o, none⟩ ∧ w.rangeAt b (o + i * 2) (entC (O i)) ∧ EntIn (O i)
theorem EntsIn.one {w : World} {a : Option Addr} {len : Nat} {O : Nat → Ent} (h : EntsIn w a len O) (k : Nat) (hk : k < len) : ∃ b o, a = some ⟨b, o, none⟩ ∧ b < w.heap.size ∧ EntIn (O k) ∧ ∀ W, Below w.heap.size w W →
    W.cell? ⟨b, o + k * 2, none⟩ = some (.int .u8 (O k).1) ∧ W.cell? ⟨b, o + k * 2 + 1, none⟩ = some (.int .i64 (O k).2) := by
  obtain ⟨b, o, rfl, hc, hok⟩ := h k hk
  refine ⟨b, o, rfl, World.block_lt_of_cell? _ _ (hc 0 _ rfl), hok, fun W hW => ?_⟩
  have hh : ∀ j v, (entC (O k))[j]? = some v → W.cell? ⟨b, o + k * 2 + j, none⟩ = some v := fun j v hv => by
    rw [hW.cell (World.block_lt_of_cell? _ _ (hc j v hv))]; exact hc j v hv
  exact ⟨hh 0 _ rfl, hh 1 _ rfl⟩
theorem cells23 : Try.prog.cellsOf 23 = 2 := by kernel_rfl
theorem cells5 : Try.prog.cellsOf 5 = 1 := by kernel_rfl
section
variable {H : Type} {enc : TypeId × Value → H} {W : World}
set_option maxRecDepth 100000 in
theorem ent_cells {n : Nat} {cs : List Value} {y : DataW H × List MemPlace} (hl : cs.length = 2) (h : DataW.trod enc Try.prog W 0 (fun _ => true) true n 23 cs = some y) : ∃ o : Ent, cs = entC o ∧ EntIn o := by
  obtain ⟨xs, n, _, _, _, hxl, hfld⟩ := DataW.trod_struct Try.underlying23 h
  have f0 : DataW.trod enc Try.prog W 0 (fun _ => true) true n 5 ((cs.drop 0).take (Try.prog.cellsOf 5)) = xs[0]? := hfld 0 _ rfl
  have f1 : DataW.trod enc Try.prog W 0 (fun _ => true) true n 3 ((cs.drop 1).take (Try.prog.cellsOf 3)) = xs[1]? := hfld 1 _ rfl
  have hxl3 : xs.length = 2 := hxl
  rw [List.getElem?_eq_getElem (by omega), cells5] at f0
  rw [List.getElem?_eq_getElem (by omega), cells3] at f1
  obtain ⟨z0, e0, _, hw0⟩ := DataW.trod_int Try.underlying5 f0
  obtain ⟨y0, rfl⟩ := in_u8 hw0
  obtain ⟨z1, e1, hz1⟩ := int_in f1
  have g0 := at_drop e0
  have g1 := at_drop e1
  match cs, hl with
  | [a, b], _ =>
    simp at g0 g1
    subst g0; subst g1
    exact ⟨(y0.toNat, z1), rfl, y0.toNat_lt, hz1⟩
set_option maxRecDepth 100000 in
theorem ent_arg {base : Nat} {v : Value} {d : DataW H} {p : List MemPlace} (hv : Value.okWide Try.prog W .any base 23 v)
    (h : DataW.Trod enc Try.prog W 0 (fun _ => true) true 23 v d p) : ∃ o : Ent, v = .agg #[.int .u8 o.1, .int .i64 o.2] ∧ EntIn o := by
  obtain ⟨A, rfl, hsz⟩ := okWide_struct Try.underlying23 hv
  rw [cells23] at hsz
  obtain ⟨fuel, hf⟩ := h
  obtain ⟨o, ho, hok⟩ := ent_cells (cs := A.toList) (by simpa using hsz) hf
  refine ⟨o, ?_, hok⟩
  congr 1
  apply Array.ext'
  rw [ho]; rfl
end
set_option maxRecDepth 100000 in
theorem ents_of {H : Type} {enc : TypeId × Value → H} {W : World} {d : DataW H} {p : List MemPlace} {a : Option Addr} {len cap : Nat}
    (h : DataW.Trod enc Try.prog W 0 (fun _ => true) true 33 (.slice a len cap) d p) : ∃ O, EntsIn W a len O := by
  obtain ⟨fuel, hf⟩ := h
  rcases DataW.trod_slice Try.underlying33 hf with ⟨hcs, _⟩ | ⟨x, l, c, elems, rest, m, _, hcs, _, _, hl, hm, hlen, hel, _, _⟩
  · simp [Value.cells] at hcs
    obtain ⟨rfl, rfl, rfl⟩ := hcs
    exact ⟨fun _ => (0, 0), fun i hi => absurd hi (Nat.not_lt_zero _)⟩
  · simp [Value.cells] at hcs
    obtain ⟨rfl, rfl, rfl⟩ := hcs
    have each : ∀ i, i < len → ∃ o : Ent, EntIn o ∧ ∀ j, j < 2 → W.cell? ((x.add (i * 2)).add j) = (entC o)[j]? := by
      intro i hi
      have h1 := hel i hi
      rw [cells23, List.getElem?_eq_getElem (by omega)] at h1
      obtain ⟨cs, hc, ht⟩ := Option.bind_eq_some_iff.1 h1
      obtain ⟨_, hcl, hat⟩ := World.cells?_some hc
      obtain ⟨o, rfl, hok⟩ := ent_cells hcl ht
      exact ⟨o, hok, hat⟩
    have key : ∀ i, i < len → ∃ t : Ent, ∃ b o, some x = some (⟨b, o, none⟩ : Addr) ∧ W.rangeAt b (o + i * 2) (entC t) ∧ EntIn t := by
      intro i hi
      obtain ⟨b, o, spot⟩ := x
      have hspot : spot = none := by
        obtain ⟨t, _, hat⟩ := each 0 (by omega)
        have h0 := hat 0 (by omega)
        rw [show (entC t)[0]? = some (.int .u8 t.1) from rfl] at h0
        simpa [Addr.add] using World.cell?_spot h0
      subst hspot
      obtain ⟨t, hok, hat⟩ := each i hi
      refine ⟨t, b, o, rfl, fun j v hv => ?_, hok⟩
      have hj : j < 2 := (List.getElem?_eq_some_iff.1 hv).1
      have a2 := hat j (by omega)
      rw [hv] at a2
      simp only [add_plain] at a2
      exact a2
    classical
    refine ⟨fun i => if hi : i < len then Classical.choose (key i hi) else (0, 0), fun i hi => ?_⟩
    have h := Classical.choose_spec (key i hi)
    simp only [dif_pos hi]
    exact h
end Go.Proofs.Ytnjdcgjaffageaa
