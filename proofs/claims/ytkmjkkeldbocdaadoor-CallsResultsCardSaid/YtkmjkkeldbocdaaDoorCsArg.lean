/-
  calls, results and bytes that come in.
-/
import Derived.Test.YtkmjkkeldbocdaaDoorBytArg
import Derived.Test.YtkmjkkeldbocdaaDoorM01
namespace Go.Proofs.YtkmjkkeldbocdaaDoor
open Go.ChangeShapes Go.WideShapes Go.ChangeAt Go.RowKit

theorem in_u8c {n : Int} (h : (Lit.int .u8 n).wf = true) : 0 ≤ n ∧ n ≤ 255 := by
  have := (Lit.wf_int_iff .u8 n).1 h
  have h1 : IntKind.u8.min = 0 := by decide
  have h2 : IntKind.u8.max = 255 := by decide
  omega
theorem in_u64c {n : Int} (h : (Lit.int .u64 n).wf = true) : 0 ≤ n ∧ n < 18446744073709551616 := by
  have := (Lit.wf_int_iff .u64 n).1 h
  have h1 : IntKind.u64.min = 0 := by decide
  have h2 : IntKind.u64.max = 18446744073709551615 := by decide
  omega
section
variable {H : Type} {enc : TypeId × Value → H} {W : World} {fuel base : Nat} {sp : Nat → Bool} {held : Bool} {r : DataW H × List MemPlace} {cs : List Value}
/-- A field of what comes in. -/
theorem field_in {t : TypeId} {fs : Array Field} (ht : Tryd.prog.underlying t = some (.struct fs)) (h : DataW.trod enc Tryd.prog W base sp held fuel t cs = some r) (j : Nat) (T : TypeId) (o s : Nat)
    (hf : fs[j]?.map (fun f => (f.type, f.offset)) = some (T, o)) (hc : Tryd.prog.cellsOf T = s) : ∃ n y, DataW.trod enc Tryd.prog W base sp held n T ((cs.drop o).take s) = some y := by
  obtain ⟨xs, n, _, _, _, hl, hel⟩ := DataW.trod_struct ht h
  cases hfj : fs[j]? with
  | none => rw [hfj] at hf; cases hf
  | some f =>
    rw [hfj] at hf
    simp only [Option.map_some, Option.some.injEq, Prod.mk.injEq] at hf
    obtain ⟨rfl, rfl⟩ := hf
    have h1 := hel j f hfj
    rw [hc] at h1
    cases hy : xs[j]? with
    | none =>
      have h2 := (Array.getElem?_eq_some_iff.1 hfj).1
      rw [List.getElem?_eq_none_iff, hl] at hy
      exact absurd h2 (Nat.not_lt.2 hy)
    | some y => exact ⟨n, y, h1.trans hy⟩
end
theorem at_int {cs : List Value} {o : Nat} {k : IntKind} {z : Int} (h : (cs.drop o).take 1 = [.int k z]) : cs[o]? = some (.int k z) := at_drop h
theorem cells_c1 : Tryd.prog.cellsOf 22 = 1 := by kernel_rfl
theorem cells_c2 : Tryd.prog.cellsOf 25 = 2 := by kernel_rfl
theorem cells_c3 : Tryd.prog.cellsOf 5 = 1 := by kernel_rfl
theorem cells_c4 : Tryd.prog.cellsOf 26 = 1 := by kernel_rfl
theorem cells_c5 : Tryd.prog.cellsOf 23 = 1 := by kernel_rfl
theorem cells_c6 : Tryd.prog.cellsOf 32 = 1 := by kernel_rfl
theorem cells_c7 : Tryd.prog.cellsOf 29 = 12 := by kernel_rfl
theorem cells_c8 : Tryd.prog.cellsOf 41 = 3 := by kernel_rfl
/-- Bytes as they come in. -/
def BytIn (W : World) (a : Option Addr) (n c : Nat) (x : Nat → UInt8) : Prop := Src W a n x ∧ n ≤ c ∧ c ≤ maxLen ∧ (n = 0 ∨ ∃ g o, a = some ⟨g, o, none⟩)
section
variable {H : Type} {enc : TypeId × Value → H} {W : World} {fuel base : Nat} {sp : Nat → Bool} {held : Bool} {r : DataW H × List MemPlace} {cs : List Value}
theorem bytes_in2 (h : DataW.trod enc Tryd.prog W base sp held fuel 27 cs = some r) : ∃ a n c x, cs = [.slice a n c] ∧ BytIn W a n c x := by
  rcases open_ints Tryd.underlying27 Tryd.underlying5 (by kernel_rfl) h with ⟨rfl, _⟩ | ⟨a, l, c, zs, rfl, _, hl, hm, hz, _, hcell, hwf⟩
  · exact ⟨none, 0, 0, fun _ => 0, rfl, Src.nil _ _ _, Nat.le_refl _, Nat.zero_le _, .inl rfl⟩
  · have hlz : l ≤ zs.length := by rw [hz]; split <;> omega
    refine ⟨some a, l, c, fun j => UInt8.ofNat (zs.getD j 0).toNat, rfl, fun _ => ⟨a, rfl, fun j hj => ?_⟩, hl, hm, ?_⟩
    · rw [hcell j (by omega)]
      obtain ⟨y, hy⟩ := in_u8 (hwf (zs.getD j 0) (by
        rw [List.getD_eq_getElem?_getD, List.getElem?_eq_getElem (by omega)]
        exact List.getElem_mem _))
      show some (Value.int .u8 (zs.getD j 0)) = some (.int .u8 ((UInt8.ofNat (zs.getD j 0).toNat).toNat : Nat))
      generalize zs.getD j 0 = z at hy ⊢
      subst hy
      simp
    · by_cases h0 : l = 0
      · exact .inl h0
      · right
        have h1 := hcell 0 (by omega)
        obtain ⟨g, o, s⟩ := a
        cases s with
        | none => exact ⟨g, o, rfl⟩
        | some s =>
          exfalso
          simp [Addr.add, World.cell?] at h1
          split at h1 <;> cases h1
end
section
variable {H : Type} {enc : TypeId × Value → H} {W : World} {base : Nat} {v : Value} {d : DataW H} {p : List MemPlace}
set_option maxRecDepth 100000 in
theorem bytes_arg2 (hv : Value.okWide Tryd.prog W .any base 27 v) (h : DataW.Trod enc Tryd.prog W 0 (fun _ => true) true 27 v d p) : ∃ a n c x, v = .slice a n c ∧ BytIn W a n c x := by
  obtain ⟨a, len, cap, rfl⟩ := okWide_slice Tryd.underlying27 hv
  obtain ⟨fuel, hf⟩ := h
  obtain ⟨a', n, c, x, e, hS⟩ := bytes_in2 hf
  simp [Value.cells] at e
  obtain ⟨rfl, rfl, rfl⟩ := e
  exact ⟨_, _, _, x, rfl, hS⟩
set_option maxRecDepth 100000 in
theorem u8_arg (hv : Value.okWide Tryd.prog W .any base 5 v) (h : DataW.Trod enc Tryd.prog W 0 (fun _ => true) true 5 v d p) : ∃ b : UInt8, v = .int .u8 (b.toNat : Int) := by
  obtain ⟨z, rfl, _, _, hw⟩ := open_int Tryd.underlying5 hv h
  obtain ⟨b, rfl⟩ := in_u8 hw
  exact ⟨b, rfl⟩
/-- What is known of a call that comes in, whatever its bytes' number. -/
structure CallIn (q : CallM) : Prop where
  ok : q.Ok
  pid : -9223372036854775808 ≤ q.pid ∧ q.pid ≤ 9223372036854775807
  node : -9223372036854775808 ≤ q.node ∧ q.node ≤ 9223372036854775807
  page : -9223372036854775808 ≤ q.page ∧ q.page ≤ 9223372036854775807
  count : -9223372036854775808 ≤ q.count ∧ q.count ≤ 9223372036854775807
  addr : -9223372036854775808 ≤ q.addr ∧ q.addr ≤ 9223372036854775807
  size : -9223372036854775808 ≤ q.size ∧ q.size ≤ 9223372036854775807
theorem CallIn.of {q : CallM} (h : CallIn q) {n : Nat} (hn : n ≤ 2000) : CsIn q n := ⟨h.ok, h.pid, h.node, h.page, h.count, h.addr, h.size, hn⟩
set_option maxRecDepth 100000 in
set_option maxHeartbeats 2000000 in
theorem call_arg (hv : Value.okWide Tryd.prog W .any base 29 v) (h : DataW.Trod enc Tryd.prog W 0 (fun _ => true) true 29 v d p) : ∃ q a n c x, v = .agg (CallM.cells q a n c) ∧ CallIn q ∧ BytIn W a n c x := by
  obtain ⟨A, rfl, hsz⟩ := okWide_struct Tryd.underlying29 hv
  rw [cells_c7] at hsz
  obtain ⟨fuel, hf⟩ := h
  obtain ⟨n0, y0, h0⟩ := field_in Tryd.underlying29 hf 0 22 0 1 rfl cells_c1
  obtain ⟨n1, y1, h1⟩ := field_in Tryd.underlying29 hf 1 3 1 1 rfl cells3
  obtain ⟨n2, y2, h2⟩ := field_in Tryd.underlying29 hf 2 3 2 1 rfl cells3
  obtain ⟨n3, y3, h3⟩ := field_in Tryd.underlying29 hf 3 3 3 1 rfl cells3
  obtain ⟨n4, y4, h4⟩ := field_in Tryd.underlying29 hf 4 3 4 1 rfl cells3
  obtain ⟨n5, y5, h5⟩ := field_in Tryd.underlying29 hf 5 3 5 1 rfl cells3
  obtain ⟨n6, y6, h6⟩ := field_in Tryd.underlying29 hf 6 3 6 1 rfl cells3
  obtain ⟨n7, y7, h7⟩ := field_in Tryd.underlying29 hf 7 5 7 1 rfl cells_c3
  obtain ⟨n8, y8, h8⟩ := field_in Tryd.underlying29 hf 8 25 8 2 rfl cells_c2
  obtain ⟨n9, y9, h9⟩ := field_in Tryd.underlying29 hf 9 26 10 1 rfl cells_c4
  obtain ⟨n10, y10, h10⟩ := field_in Tryd.underlying29 hf 10 27 11 1 rfl cells27
  obtain ⟨n11, y11, h11⟩ := field_in Tryd.underlying25 h8 0 23 0 1 rfl cells_c5
  obtain ⟨n12, y12, h12⟩ := field_in Tryd.underlying25 h8 1 5 1 1 rfl cells_c3
  obtain ⟨z0, e0, _, w0⟩ := DataW.trod_int Tryd.underlying22 h0
  obtain ⟨z1, e1, _, w1⟩ := DataW.trod_int Tryd.underlying3 h1
  obtain ⟨z2, e2, _, w2⟩ := DataW.trod_int Tryd.underlying3 h2
  obtain ⟨z3, e3, _, w3⟩ := DataW.trod_int Tryd.underlying3 h3
  obtain ⟨z4, e4, _, w4⟩ := DataW.trod_int Tryd.underlying3 h4
  obtain ⟨z5, e5, _, w5⟩ := DataW.trod_int Tryd.underlying3 h5
  obtain ⟨z6, e6, _, w6⟩ := DataW.trod_int Tryd.underlying3 h6
  obtain ⟨z7, e7, _, w7⟩ := DataW.trod_int Tryd.underlying5 h7
  obtain ⟨z9, e9, _, w9⟩ := DataW.trod_int Tryd.underlying26 h9
  obtain ⟨z11, e11, _, w11⟩ := DataW.trod_int Tryd.underlying23 h11
  obtain ⟨z12, e12, _, w12⟩ := DataW.trod_int Tryd.underlying5 h12
  obtain ⟨a, n, c, x, e10, hB⟩ := bytes_in2 h10
  have a0 := at_drop e0
  have a1 := at_drop e1
  have a2 := at_drop e2
  have a3 := at_drop e3
  have a4 := at_drop e4
  have a5 := at_drop e5
  have a6 := at_drop e6
  have a7 := at_drop e7
  have a9 := at_drop e9
  have a10 := at_drop e10
  have a11 := at_drop e11
  have a12 := at_drop e12
  have b0 := in_u8c w0
  have b7 := in_u8c w7
  have b11 := in_u8c w11
  have b12 := in_u8c w12
  have b9 := in_u64c w9
  refine ⟨⟨z0.toNat, z1, z2, z3, z4, z5, z6, z7.toNat, z11.toNat, z12.toNat, z9.toNat⟩, a, n, c, x, ?_, ⟨⟨?_, ?_, ?_, ?_, ?_⟩, in_i64 w1, in_i64 w2, in_i64 w3, in_i64 w4, in_i64 w5, in_i64 w6⟩, hB⟩
  · congr 1
    refine Array.ext_getElem? (fun i => ?_)
    unfold CallM.cells
    dsimp only
    rw [Int.toNat_of_nonneg b0.1, Int.toNat_of_nonneg b7.1, Int.toNat_of_nonneg b11.1, Int.toNat_of_nonneg b12.1, Int.toNat_of_nonneg b9.1]
    rw [← Array.getElem?_toList]
    simp only [Value.cells] at a0 a1 a2 a3 a4 a5 a6 a7 a9 a10 a11 a12
    rw [List.getElem?_take_of_lt (by decide), List.getElem?_drop] at a11 a12
    match i with
    | 0 => exact a0
    | 1 => exact a1
    | 2 => exact a2
    | 3 => exact a3
    | 4 => exact a4
    | 5 => exact a5
    | 6 => exact a6
    | 7 => exact a7
    | 8 => exact a11
    | 9 => exact a12
    | 10 => exact a9
    | 11 => exact a10
    | i + 12 =>
      rw [Array.getElem?_toList, Array.getElem?_eq_none (by omega)]
      rfl
  all_goals (dsimp only; omega)
set_option maxRecDepth 100000 in
set_option maxHeartbeats 2000000 in
theorem res_arg (hv : Value.okWide Tryd.prog W .any base 41 v) (h : DataW.Trod enc Tryd.prog W 0 (fun _ => true) true 41 v d p) : ∃ (e : Int) (u : Nat) (a : Option Addr) (n c : Nat) (x : Nat → UInt8), v = rsV e u a n c ∧ (-9223372036854775808 ≤ e ∧ e ≤ 9223372036854775807) ∧ u < 18446744073709551616 ∧ BytIn W a n c x := by
  obtain ⟨A, rfl, hsz⟩ := okWide_struct Tryd.underlying41 hv
  rw [cells_c8] at hsz
  obtain ⟨fuel, hf⟩ := h
  obtain ⟨n0, y0, h0⟩ := field_in Tryd.underlying41 hf 0 32 0 1 rfl cells_c6
  obtain ⟨n1, y1, h1⟩ := field_in Tryd.underlying41 hf 1 26 1 1 rfl cells_c4
  obtain ⟨n2, y2, h2⟩ := field_in Tryd.underlying41 hf 2 27 2 1 rfl cells27
  obtain ⟨z0, e0, _, w0⟩ := DataW.trod_int Tryd.underlying32 h0
  obtain ⟨z1, e1, _, w1⟩ := DataW.trod_int Tryd.underlying26 h1
  obtain ⟨a, n, c, x, e2, hB⟩ := bytes_in2 h2
  have a0 := at_drop e0
  have a1 := at_drop e1
  have a2 := at_drop e2
  have b1 := in_u64c w1
  refine ⟨z0, z1.toNat, a, n, c, x, ?_, in_i64 w0, by omega, hB⟩
  congr 1
  refine Array.ext_getElem? (fun i => ?_)
  unfold rsA
  rw [Int.toNat_of_nonneg b1.1]
  rw [← Array.getElem?_toList]
  simp only [Value.cells] at a0 a1 a2
  match i with
  | 0 => exact a0
  | 1 => exact a1
  | 2 => exact a2
  | i + 3 =>
    rw [Array.getElem?_toList, Array.getElem?_eq_none (by omega)]
    rfl
end
end Go.Proofs.YtkmjkkeldbocdaaDoor
