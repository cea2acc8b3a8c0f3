/-
  A script of calls that came in: its cells. And BitmapPlays at every input.
-/
import Derived.Test.YtkecmoljaopgbaaDoorKit
import Derived.Test.YtkecmoljaopgbaaDoorPlays
namespace Go.Proofs.YtkecmoljaopgbaaDoor
open Go.ChangeShapes Go.WideShapes Go.ChangeAt Go.RowKit

theorem cells30 : Tryd.prog.cellsOf 30 = 3 := by kernel_rfl
theorem cells3 : Tryd.prog.cellsOf 3 = 1 := by kernel_rfl

theorem one_int {H : Type} {enc : TypeId × Value → H} {W : World} {n : Nat} {cs : List Value} {j : Nat} {y : DataW H × List MemPlace}
    (h : DataW.trod enc Tryd.prog W 0 (fun _ => true) true n 3 ((cs.drop j).take 1) = some y) : ∃ z, cs[j]? = some (.int .i64 z) := by
  obtain ⟨k, e1, _, _⟩ := DataW.trod_int Tryd.underlying3 h
  refine ⟨k, ?_⟩
  have h2 : ((cs.drop j).take 1)[0]? = some (.int .i64 k) := by rw [e1]; rfl
  simpa using h2

theorem opRow_of {H : Type} {enc : TypeId × Value → H} {W : World} {d : DataW H} {p : List MemPlace} {a : Option Addr} {len cap : Nat}
    (h : DataW.Trod enc Tryd.prog W 0 (fun _ => true) true 22 (.slice a len cap) d p) : (∃ ops, OpRow W a len ops) ∧ len ≤ 9223372036854775807 := by
  obtain ⟨fuel, hf⟩ := h
  rcases DataW.trod_slice Tryd.underlying22 hf with ⟨hcs, _⟩ | ⟨x, l, c, elems, rest, m, _, hcs, _, _, hl, hm, hlen, hel, _, _⟩
  · simp [Value.cells] at hcs
    obtain ⟨rfl, rfl, rfl⟩ := hcs
    exact ⟨⟨fun _ => (0, 0, 0), fun i hi => absurd hi (Nat.not_lt_zero _)⟩, by omega⟩
  · simp [Value.cells] at hcs
    obtain ⟨rfl, rfl, rfl⟩ := hcs
    refine ⟨?_, by unfold maxLen at hm; omega⟩
    have key : ∀ i, i < len → ∃ t : Int × Int × Int, ∃ b o, some x = some (⟨b, o, none⟩ : Addr) ∧ W.cell? ⟨b, o + i * 3, none⟩ = some (.int .i64 t.1) ∧ W.cell? ⟨b, o + i * 3 + 1, none⟩ = some (.int .i64 t.2.1) ∧ W.cell? ⟨b, o + i * 3 + 2, none⟩ = some (.int .i64 t.2.2) := by
      intro i hi
      have each : ∀ i, i < len → ∃ cs : List Value, (∀ j, j < 3 → W.cell? ((x.add (i * 3)).add j) = cs[j]?) ∧ (∃ z, cs[0]? = some (.int .i64 z)) ∧ (∃ z, cs[1]? = some (.int .i64 z)) ∧ ∃ z, cs[2]? = some (.int .i64 z) := by
        intro i hi
        have h1 := hel i hi
        rw [cells30, List.getElem?_eq_getElem (by omega)] at h1
        obtain ⟨cs, hc, ht⟩ := Option.bind_eq_some_iff.1 h1
        obtain ⟨_, hcl, hat⟩ := World.cells?_some hc
        obtain ⟨xs, n, _, _, _, hxl, hfld⟩ := DataW.trod_struct Tryd.underlying30 ht
        have f0 : DataW.trod enc Tryd.prog W 0 (fun _ => true) true n 3 ((cs.drop 0).take (Tryd.prog.cellsOf 3)) = xs[0]? := hfld 0 _ rfl
        have f1 : DataW.trod enc Tryd.prog W 0 (fun _ => true) true n 3 ((cs.drop 1).take (Tryd.prog.cellsOf 3)) = xs[1]? := hfld 1 _ rfl
        have f2 : DataW.trod enc Tryd.prog W 0 (fun _ => true) true n 3 ((cs.drop 2).take (Tryd.prog.cellsOf 3)) = xs[2]? := hfld 2 _ rfl
        have hxl3 : xs.length = 3 := hxl
        rw [List.getElem?_eq_getElem (by omega)] at f0 f1 f2
        rw [cells3] at f0 f1 f2
        exact ⟨cs, hat, one_int f0, one_int f1, one_int f2⟩
      obtain ⟨b, o, spot⟩ := x
      have hspot : spot = none := by
        obtain ⟨cs, hat, ⟨z, hz⟩, _⟩ := each 0 (by omega)
        have h0 := hat 0 (by omega)
        rw [hz] at h0
        simpa [Addr.add] using World.cell?_spot h0
      subst hspot
      obtain ⟨cs, hat, ⟨z0, h0⟩, ⟨z1, h1⟩, ⟨z2, h2⟩⟩ := each i hi
      have a0 := hat 0 (by omega)
      have a1 := hat 1 (by omega)
      have a2 := hat 2 (by omega)
      rw [h0] at a0
      rw [h1] at a1
      rw [h2] at a2
      simp only [add_plain, Nat.add_zero] at a0 a1 a2
      exact ⟨(z0, z1, z2), b, o, rfl, a0, a1, a2⟩
    classical
    refine ⟨fun i => if hi : i < len then Classical.choose (key i hi) else (0, 0, 0), fun i hi => ?_⟩
    have h := Classical.choose_spec (key i hi)
    simp only [dif_pos hi]
    exact h

set_option maxRecDepth 100000 in
theorem plays_out (n : Int) (a : Option Addr) (len cap : Nat) (w : World) (hT : TabAt 0 Lib.deBruijn64tab w) (hn : len ≤ 9223372036854775807)
    (h : (300 < n ∧ n < 65536) ∨ (300 < n ∧ 65536 ≤ n ∧ 6 < len) ∨ (n ≤ 300 ∧ 200 < len)) :
    Calls Tryd.prog 3 #[.int .i64 n, .slice a len cap] w fun e w' => e = .returned (.bool true) ∧ Below w.heap.size w w' := by
  rcases h with ⟨h1, h2⟩ | ⟨h1, h2, h3⟩ | ⟨h1, h2⟩
  all_goals
    go_enter Tryd.func3, Tryd.ntmps3
    go_wp2_with (fail)
    refine (known_any _ hT).mono ?_
    rintro e w2 ⟨rfl, hb2⟩
    go_wp2_with (fail)
    go_ret
    exact ⟨rfl, hb2⟩

theorem plays_any (n : Int) (a : Option Addr) (len cap : Nat) (ops : Nat → Int × Int × Int) (w : World) (hn : len ≤ 9223372036854775807) (hc : OpRow w a len ops) (hT : TabAt 0 Lib.deBruijn64tab w) :
    Calls Tryd.prog 3 #[.int .i64 n, .slice a len cap] w fun e w' => e = .returned (.bool true) ∧ Below w.heap.size w w' := by
  by_cases h : (300 < n ∧ n < 65536) ∨ (300 < n ∧ 65536 ≤ n ∧ 6 < len) ∨ (n ≤ 300 ∧ 200 < len)
  · exact plays_out n a len cap w hT hn h
  · exact plays_in n a len cap ops w (by omega) hc hT
end Go.Proofs.YtkecmoljaopgbaaDoor
