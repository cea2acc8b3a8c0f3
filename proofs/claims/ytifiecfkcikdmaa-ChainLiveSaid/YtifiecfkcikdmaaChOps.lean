/-
  chain's laws: a list of calls as it lies, and as it comes in.
-/
import Derived.Test.YtifiecfkcikdmaaBytArg
namespace Go.Proofs.Ytifiecfkcikdmaa
open Go.ChangeShapes Go.WideShapes Go.ChangeAt Go.RowKit

/-- A call. -/
structure OpC where
  kind : Int
  at1 : Int
  turn : Int
  bp : Option Addr
  bl : Nat
  bc : Nat
  x : Nat → UInt8
def OpC.cells (o : OpC) : List Value := [.int .i64 o.kind, .int .i64 o.at1, .int .u64 o.turn, .slice o.bp o.bl o.bc]
/-- Calls at a. -/
def OpsC (w : World) (a : Option Addr) (len : Nat) (O : Nat → OpC) : Prop :=
  ∀ i, i < len → ∃ b o, a = some ⟨b, o, none⟩ ∧ w.rangeAt b (o + i * 4) (O i).cells ∧ Src w (O i).bp (O i).bl (O i).x ∧ (O i).bl ≤ 9223372036854775807
theorem OpsC.later {w w' : World} {a : Option Addr} {len : Nat} {O : Nat → OpC} (h : OpsC w a len O) (hb : Below w.heap.size w w') : OpsC w' a len O := fun i hi => by
  obtain ⟨b, o, e, hc, hs, hl⟩ := h i hi
  exact ⟨b, o, e, fun j v hv => by rw [hb.cell (World.block_lt_of_cell? _ _ (hc j v hv))]; exact hc j v hv, hs.later hb, hl⟩

theorem cells33 : Try.prog.cellsOf 33 = 1 := by kernel_rfl
theorem u64_in {H : Type} {enc : TypeId × Value → H} {W : World} {fuel base : Nat} {sp : Nat → Bool} {held : Bool} {r : DataW H × List MemPlace} {cs : List Value} (h : DataW.trod enc Try.prog W base sp held fuel 33 cs = some r) : ∃ z : Int, cs = [.int .u64 z] ∧ True := by
  obtain ⟨z, e, _, _⟩ := DataW.trod_int Try.underlying33 h
  exact ⟨z, e, trivial⟩
theorem u64_arg {H : Type} {enc : TypeId × Value → H} {W : World} {base : Nat} {v : Value} {d : DataW H} {p : List MemPlace} (hv : Value.okWide Try.prog W .any base 33 v) (h : DataW.Trod enc Try.prog W 0 (fun _ => true) true 33 v d p) : ∃ z : Int, v = .int .u64 z := by
  obtain ⟨z, rfl, _⟩ := open_int Try.underlying33 hv h
  exact ⟨z, rfl⟩
theorem cells35 : Try.prog.cellsOf 35 = 4 := by kernel_rfl

theorem opsc_of {H : Type} {enc : TypeId × Value → H} {W : World} {d : DataW H} {p : List MemPlace} {a : Option Addr} {len cap : Nat}
    (h : DataW.Trod enc Try.prog W 0 (fun _ => true) true 23 (.slice a len cap) d p) : (∃ O, OpsC W a len O) ∧ len ≤ 9223372036854775807 := by
  obtain ⟨fuel, hf⟩ := h
  rcases DataW.trod_slice Try.underlying23 hf with ⟨hcs, _⟩ | ⟨x, l, c, elems, rest, m, _, hcs, _, _, hl, hm, hlen, hel, _, _⟩
  · simp [Value.cells] at hcs
    obtain ⟨rfl, rfl, rfl⟩ := hcs
    exact ⟨⟨fun _ => ⟨0, 0, 0, none, 0, 0, fun _ => 0⟩, fun i hi => absurd hi (Nat.not_lt_zero _)⟩, by omega⟩
  · simp [Value.cells] at hcs
    obtain ⟨rfl, rfl, rfl⟩ := hcs
    refine ⟨?_, by unfold maxLen at hm; omega⟩
    have each : ∀ i, i < len → ∃ (cs : List Value) (o : OpC), (∀ j, j < 4 → W.cell? ((x.add (i * 4)).add j) = cs[j]?) ∧ (∀ (j : Nat) (v : Value), o.cells[j]? = some v → cs[j]? = some v) ∧ Src W o.bp o.bl o.x ∧ o.bl ≤ 9223372036854775807 := by
      intro i hi
      have h1 := hel i hi
      rw [cells35, List.getElem?_eq_getElem (by omega)] at h1
      obtain ⟨cs, hc, ht⟩ := Option.bind_eq_some_iff.1 h1
      obtain ⟨_, hcl, hat⟩ := World.cells?_some hc
      obtain ⟨xs, n, _, _, _, hxl, hfld⟩ := DataW.trod_struct Try.underlying35 ht
      have f0 : DataW.trod enc Try.prog W 0 (fun _ => true) true n 3 ((cs.drop 0).take (Try.prog.cellsOf 3)) = xs[0]? := hfld 0 _ rfl
      have f1 : DataW.trod enc Try.prog W 0 (fun _ => true) true n 3 ((cs.drop 1).take (Try.prog.cellsOf 3)) = xs[1]? := hfld 1 _ rfl
      have f2 : DataW.trod enc Try.prog W 0 (fun _ => true) true n 33 ((cs.drop 2).take (Try.prog.cellsOf 33)) = xs[2]? := hfld 2 _ rfl
      have f3 : DataW.trod enc Try.prog W 0 (fun _ => true) true n 22 ((cs.drop 3).take (Try.prog.cellsOf 22)) = xs[3]? := hfld 3 _ rfl
      have hxl4 : xs.length = 4 := hxl
      rw [List.getElem?_eq_getElem (by omega)] at f0 f1 f2 f3
      rw [cells3] at f0 f1
      rw [cells22] at f3
      rw [cells33] at f2
      obtain ⟨z0, e0, _⟩ := int_in f0
      obtain ⟨z1, e1, _⟩ := int_in f1
      obtain ⟨z2, e2, _⟩ := u64_in f2
      obtain ⟨bp, bl, bc, y, e3, hS, hn⟩ := bytes_in f3
      refine ⟨cs, ⟨z0, z1, z2, bp, bl, bc, y⟩, hat, fun j v hv => ?_, hS, hn⟩
      have hj : j < 4 := (List.getElem?_eq_some_iff.1 hv).1
      rcases (show j = 0 ∨ j = 1 ∨ j = 2 ∨ j = 3 by omega) with rfl | rfl | rfl | rfl
      · rw [at_drop e0]; exact hv
      · rw [at_drop e1]; exact hv
      · rw [at_drop e2]; exact hv
      · rw [at_drop e3]; exact hv
    have key : ∀ i, i < len → ∃ t : OpC, ∃ b o, some x = some (⟨b, o, none⟩ : Addr) ∧ W.rangeAt b (o + i * 4) t.cells ∧ Src W t.bp t.bl t.x ∧ t.bl ≤ 9223372036854775807 := by
      intro i hi
      obtain ⟨b, o, spot⟩ := x
      have hspot : spot = none := by
        obtain ⟨cs, t, hat, hcs, _⟩ := each 0 (by omega)
        have h0 := hat 0 (by omega)
        rw [hcs 0 _ rfl] at h0
        simpa [Addr.add] using World.cell?_spot h0
      subst hspot
      obtain ⟨cs, t, hat, hcs, hS, hn⟩ := each i hi
      refine ⟨t, b, o, rfl, fun j v hv => ?_, hS, hn⟩
      have hj : j < 4 := (List.getElem?_eq_some_iff.1 hv).1
      have a2 := hat j (by omega)
      rw [hcs j v hv] at a2
      simp only [add_plain] at a2
      exact a2
    classical
    refine ⟨fun i => if hi : i < len then Classical.choose (key i hi) else ⟨0, 0, 0, none, 0, 0, fun _ => 0⟩, fun i hi => ?_⟩
    have h := Classical.choose_spec (key i hi)
    simp only [dif_pos hi]
    exact h
/-- One call, in every later world. -/
theorem OpsC.one {w : World} {a : Option Addr} {len : Nat} {O : Nat → OpC} (h : OpsC w a len O) (k : Nat) (hk : k < len) : ∃ b o, a = some ⟨b, o, none⟩ ∧ b < w.heap.size ∧ Src w (O k).bp (O k).bl (O k).x ∧ (O k).bl ≤ 9223372036854775807 ∧ ∀ W, Below w.heap.size w W →
    W.cell? ⟨b, o + k * 4, none⟩ = some (.int .i64 (O k).kind) ∧ W.cell? ⟨b, o + k * 4 + 1, none⟩ = some (.int .i64 (O k).at1) ∧ W.cell? ⟨b, o + k * 4 + 2, none⟩ = some (.int .u64 (O k).turn) ∧ W.cell? ⟨b, o + k * 4 + 3, none⟩ = some (.slice (O k).bp (O k).bl (O k).bc) := by
  obtain ⟨b, o, rfl, hc, hs, hl⟩ := h k hk
  refine ⟨b, o, rfl, World.block_lt_of_cell? _ _ (hc 0 _ rfl), hs, hl, fun W hW => ?_⟩
  have hh : ∀ j v, (O k).cells[j]? = some v → W.cell? ⟨b, o + k * 4 + j, none⟩ = some v := fun j v hv => by
    rw [hW.cell (World.block_lt_of_cell? _ _ (hc j v hv))]; exact hc j v hv
  exact ⟨hh 0 _ rfl, hh 1 _ rfl, hh 2 _ rfl, hh 3 _ rfl⟩
def OpC.arr (o : OpC) : Array Value := #[.int .i64 o.kind, .int .i64 o.at1, .int .u64 o.turn, .slice o.bp o.bl o.bc]
def ocV (o : OpC) (i : Nat) : Value := if i = 0 then .int .i64 o.kind else if i = 1 then .int .i64 o.at1 else if i = 2 then .int .u64 o.turn else .slice o.bp o.bl o.bc
theorem sizeOpC : (Try.prog.info? 35).map (·.size) = some 4 := by kernel_rfl
theorem store_opc (w : World) (Z : Array Value) (hz : Z.size = 4) (o : OpC) :
    (storeVar 35 ⟨w.heap.size, 0, none⟩ (.agg o.arr)).run Try.prog (w.alloc (.cells Z 35)) = .ok () (w.alloc (.cells o.arr 35)) :=
  run_storeVar_new (P := Try.prog) w 35 Z _ sizeOpC hz (by simp [OpC.arr, Value.oneCell'])
theorem opc_row (w : World) (o : OpC) : RowAt (w.alloc (.cells o.arr 35)) w.heap.size 4 (ocV o) := RowAt.new w _ _ 4 _ fun i hi => by
  rcases (show i = 0 ∨ i = 1 ∨ i = 2 ∨ i = 3 by omega) with rfl | rfl | rfl | rfl <;> rfl
theorem opc_four {W : World} {ob : Nat} {o : OpC} (R : RowAt W ob 4 (ocV o)) : W.cell? ⟨ob, 0, none⟩ = some (.int .i64 o.kind) ∧ W.cell? ⟨ob, 1, none⟩ = some (.int .i64 o.at1) ∧ W.cell? ⟨ob, 2, none⟩ = some (.int .u64 o.turn) ∧ W.cell? ⟨ob, 3, none⟩ = some (.slice o.bp o.bl o.bc) :=
  ⟨R.cell 0 (by decide), R.cell 1 (by decide), R.cell 2 (by decide), R.cell 3 (by decide)⟩
end Go.Proofs.Ytifiecfkcikdmaa
