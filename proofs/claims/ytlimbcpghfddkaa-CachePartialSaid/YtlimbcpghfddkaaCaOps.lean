/-
  cache's laws: a list of calls as it lies, and as it comes in.
-/
import Derived.Test.YtlimbcpghfddkaaBytArg
namespace Go.Proofs.Ytlimbcpghfddkaa
open Go.ChangeShapes Go.WideShapes Go.ChangeAt Go.RowKit

/-- A call. -/
structure OpA where
  kind : Int
  fr : Int
  i : Int
  fill : UInt8
  short : Bool
def OpA.cells (o : OpA) : List Value := [.int .i64 o.kind, .int .i64 o.fr, .int .i64 o.i, .int .u8 (o.fill.toNat : Nat), .bool o.short]
/-- Calls at a. -/
def OpsA (w : World) (a : Option Addr) (len : Nat) (O : Nat → OpA) : Prop :=
  ∀ i, i < len → ∃ b o, a = some ⟨b, o, none⟩ ∧ w.rangeAt b (o + i * 5) (O i).cells ∧ (-9223372036854775808 ≤ (O i).fr ∧ (O i).fr ≤ 9223372036854775807) ∧ (-9223372036854775808 ≤ (O i).i ∧ (O i).i ≤ 9223372036854775807)
theorem OpsA.later {w w' : World} {a : Option Addr} {len : Nat} {O : Nat → OpA} (h : OpsA w a len O) (hb : Below w.heap.size w w') : OpsA w' a len O := fun i hi => by
  obtain ⟨b, o, e, hc, hs⟩ := h i hi
  exact ⟨b, o, e, fun j v hv => by rw [hb.cell (World.block_lt_of_cell? _ _ (hc j v hv))]; exact hc j v hv, hs⟩
theorem cells5 : Try.prog.cellsOf 5 = 1 := by kernel_rfl
theorem u8_in {H : Type} {enc : TypeId × Value → H} {W : World} {fuel base : Nat} {sp : Nat → Bool} {held : Bool} {r : DataW H × List MemPlace} {cs : List Value} (h : DataW.trod enc Try.prog W base sp held fuel 5 cs = some r) : ∃ z : UInt8, cs = [.int .u8 (z.toNat : Nat)] := by
  obtain ⟨z, e, _, hw⟩ := DataW.trod_int Try.underlying5 h
  obtain ⟨y, hy⟩ := in_u8 hw
  exact ⟨y, by rw [e, hy]⟩
theorem cells33 : Try.prog.cellsOf 33 = 5 := by kernel_rfl

theorem opsa_of {H : Type} {enc : TypeId × Value → H} {W : World} {d : DataW H} {p : List MemPlace} {a : Option Addr} {len cap : Nat}
    (h : DataW.Trod enc Try.prog W 0 (fun _ => true) true 22 (.slice a len cap) d p) : ∃ O, OpsA W a len O := by
  obtain ⟨fuel, hf⟩ := h
  rcases DataW.trod_slice Try.underlying22 hf with ⟨hcs, _⟩ | ⟨x, l, c, elems, rest, m, _, hcs, _, _, hl, hm, hlen, hel, _, _⟩
  · simp [Value.cells] at hcs
    obtain ⟨rfl, rfl, rfl⟩ := hcs
    exact ⟨fun _ => ⟨0, 0, 0, 0, false⟩, fun i hi => absurd hi (Nat.not_lt_zero _)⟩
  · simp [Value.cells] at hcs
    obtain ⟨rfl, rfl, rfl⟩ := hcs
    have each : ∀ i, i < len → ∃ (cs : List Value) (o : OpA), (∀ j, j < 5 → W.cell? ((x.add (i * 5)).add j) = cs[j]?) ∧ (∀ (j : Nat) (v : Value), o.cells[j]? = some v → cs[j]? = some v) ∧ (-9223372036854775808 ≤ o.fr ∧ o.fr ≤ 9223372036854775807) ∧ (-9223372036854775808 ≤ o.i ∧ o.i ≤ 9223372036854775807) := by
      intro i hi
      have h1 := hel i hi
      rw [cells33, List.getElem?_eq_getElem (by omega)] at h1
      obtain ⟨cs, hc, ht⟩ := Option.bind_eq_some_iff.1 h1
      obtain ⟨_, hcl, hat⟩ := World.cells?_some hc
      obtain ⟨xs, n, _, _, _, hxl, hfld⟩ := DataW.trod_struct Try.underlying33 ht
      have f0 : DataW.trod enc Try.prog W 0 (fun _ => true) true n 3 ((cs.drop 0).take (Try.prog.cellsOf 3)) = xs[0]? := hfld 0 _ rfl
      have f1 : DataW.trod enc Try.prog W 0 (fun _ => true) true n 3 ((cs.drop 1).take (Try.prog.cellsOf 3)) = xs[1]? := hfld 1 _ rfl
      have f2 : DataW.trod enc Try.prog W 0 (fun _ => true) true n 3 ((cs.drop 2).take (Try.prog.cellsOf 3)) = xs[2]? := hfld 2 _ rfl
      have f3 : DataW.trod enc Try.prog W 0 (fun _ => true) true n 5 ((cs.drop 3).take (Try.prog.cellsOf 5)) = xs[3]? := hfld 3 _ rfl
      have f4 : DataW.trod enc Try.prog W 0 (fun _ => true) true n 4 ((cs.drop 4).take (Try.prog.cellsOf 4)) = xs[4]? := hfld 4 _ rfl
      have hxl5 : xs.length = 5 := hxl
      rw [List.getElem?_eq_getElem (by omega)] at f0 f1 f2 f3 f4
      rw [cells3] at f0 f1 f2
      rw [cells5] at f3
      rw [cells4] at f4
      obtain ⟨z0, e0, _⟩ := int_in f0
      obtain ⟨z1, e1, b1⟩ := int_in f1
      obtain ⟨z2, e2, b2⟩ := int_in f2
      obtain ⟨z3, e3⟩ := u8_in f3
      obtain ⟨z4, e4⟩ := bool_in f4
      refine ⟨cs, ⟨z0, z1, z2, z3, z4⟩, hat, fun j v hv => ?_, b1, b2⟩
      have hj : j < 5 := (List.getElem?_eq_some_iff.1 hv).1
      rcases (show j = 0 ∨ j = 1 ∨ j = 2 ∨ j = 3 ∨ j = 4 by omega) with rfl | rfl | rfl | rfl | rfl
      · rw [at_drop e0]; exact hv
      · rw [at_drop e1]; exact hv
      · rw [at_drop e2]; exact hv
      · rw [at_drop e3]; exact hv
      · rw [at_drop e4]; exact hv
    have key : ∀ i, i < len → ∃ t : OpA, ∃ b o, some x = some (⟨b, o, none⟩ : Addr) ∧ W.rangeAt b (o + i * 5) t.cells ∧ (-9223372036854775808 ≤ t.fr ∧ t.fr ≤ 9223372036854775807) ∧ (-9223372036854775808 ≤ t.i ∧ t.i ≤ 9223372036854775807) := by
      intro i hi
      obtain ⟨b, o, spot⟩ := x
      have hspot : spot = none := by
        obtain ⟨cs, t, hat, hcs, _⟩ := each 0 (by omega)
        have h0 := hat 0 (by omega)
        rw [hcs 0 _ rfl] at h0
        simpa [Addr.add] using World.cell?_spot h0
      subst hspot
      obtain ⟨cs, t, hat, hcs, hS⟩ := each i hi
      refine ⟨t, b, o, rfl, fun j v hv => ?_, hS⟩
      have hj : j < 5 := (List.getElem?_eq_some_iff.1 hv).1
      have a2 := hat j (by omega)
      rw [hcs j v hv] at a2
      simp only [add_plain] at a2
      exact a2
    classical
    refine ⟨fun i => if hi : i < len then Classical.choose (key i hi) else ⟨0, 0, 0, 0, false⟩, fun i hi => ?_⟩
    have h := Classical.choose_spec (key i hi)
    simp only [dif_pos hi]
    exact h
/-- One call, in every later world. -/
theorem OpsA.one {w : World} {a : Option Addr} {len : Nat} {O : Nat → OpA} (h : OpsA w a len O) (k : Nat) (hk : k < len) : ∃ b o, a = some ⟨b, o, none⟩ ∧ b < w.heap.size ∧ (-9223372036854775808 ≤ (O k).fr ∧ (O k).fr ≤ 9223372036854775807) ∧ (-9223372036854775808 ≤ (O k).i ∧ (O k).i ≤ 9223372036854775807) ∧ ∀ W, Below w.heap.size w W →
    W.cell? ⟨b, o + k * 5, none⟩ = some (.int .i64 (O k).kind) ∧ W.cell? ⟨b, o + k * 5 + 1, none⟩ = some (.int .i64 (O k).fr) ∧ W.cell? ⟨b, o + k * 5 + 2, none⟩ = some (.int .i64 (O k).i) ∧ W.cell? ⟨b, o + k * 5 + 3, none⟩ = some (.int .u8 ((O k).fill.toNat : Nat)) ∧ W.cell? ⟨b, o + k * 5 + 4, none⟩ = some (.bool (O k).short) := by
  obtain ⟨b, o, rfl, hc, hs1, hs2⟩ := h k hk
  refine ⟨b, o, rfl, World.block_lt_of_cell? _ _ (hc 0 _ rfl), hs1, hs2, fun W hW => ?_⟩
  have hh : ∀ j v, (O k).cells[j]? = some v → W.cell? ⟨b, o + k * 5 + j, none⟩ = some v := fun j v hv => by
    rw [hW.cell (World.block_lt_of_cell? _ _ (hc j v hv))]; exact hc j v hv
  exact ⟨hh 0 _ rfl, hh 1 _ rfl, hh 2 _ rfl, hh 3 _ rfl, hh 4 _ rfl⟩
end Go.Proofs.Ytlimbcpghfddkaa
