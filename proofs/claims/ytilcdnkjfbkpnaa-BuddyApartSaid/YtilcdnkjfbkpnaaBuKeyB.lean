/-
  Blocks as a map's keys.
-/
import Derived.Test.YtilcdnkjfbkpnaaKMap
import Derived.Test.YtilcdnkjfbkpnaaKit
namespace Go.Proofs.Ytilcdnkjfbkpnaa
open Go.RowKit Go Go.Maps

def keyBlk (p : Int × Int) : Value := .agg #[.int .i64 p.1, .int .i64 p.2]
theorem keyType_block : Try.prog.keyType 42 = true := by kernel_rfl
theorem cellsOf_block : Try.prog.cellsOf 42 = 2 := by kernel_rfl
theorem cellsOf_int : Try.prog.cellsOf 3 = 1 := by kernel_rfl
theorem law_block : Keyed Try.prog 42 :=
  Keyed.of_law (deep_law_laid laidOut (m := 2) (by omega) (of_decide_eq_true (by kernel_rfl)) (by kernel_rfl) (by kernel_rfl))
theorem types_two : ∃ m, Try.prog.types.size = m + 1 := ⟨Try.prog.types.size - 1, by
  have h : (42 : Nat) < Try.prog.types.size := of_decide_eq_true (by kernel_rfl)
  omega⟩
theorem keyOf_block (x y : Int) (hx : (Lit.int .i64 x).wf = true) (hy : (Lit.int .i64 y).wf = true) : keyOf Try.prog 42 (keyBlk (x, y)) = some (.string (keyBytes [.int .i64 x, .int .i64 y])) := by
  obtain ⟨m, hm⟩ := types_two
  have hf : (keyBlk (x, y)).formed Try.prog 42 = true := by
    simp [keyBlk, Value.formed, Try.underlying42, cellsOf_block]
  unfold keyOf
  rw [Try.underlying42]
  simp only [keyType_block, hf, Bool.and_self, if_true]
  rw [hm]
  simp [keyBlk, Value.cells, Program.keyLits, Try.underlying42, Try.underlying3, cellsOf_block, cellsOf_int, hx, hy]
noncomputable def KB : KeyE Try.prog 42 (Int × Int) :=
  ⟨keyBlk, fun p => (Lit.int .i64 p.1).wf = true ∧ (Lit.int .i64 p.2).wf = true, fun p => .string (keyBytes [.int .i64 p.1, .int .i64 p.2]), law_block, fun p hp => keyOf_block p.1 p.2 hp.1 hp.2, fun p q h => by
    obtain ⟨a, b⟩ := p
    obtain ⟨c, d⟩ := q
    simp only [keyBlk, Value.agg.injEq] at h
    injection h with h
    injection h with h1 h2
    injection h2 with h2 _
    injection h1 with _ h1
    injection h2 with _ h2
    rw [h1, h2]⟩
end Go.Proofs.Ytilcdnkjfbkpnaa
