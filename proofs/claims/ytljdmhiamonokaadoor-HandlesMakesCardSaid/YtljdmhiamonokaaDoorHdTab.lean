/-
  handles: what the variable begins holds, read out of the row's list.
-/
import Derived.Test.YtljdmhiamonokaaDoorKitL
import Derived.WalkKit
namespace Go.Proofs.YtljdmhiamonokaaDoor
open Go.ChangeShapes Go.WideShapes Go.ChangeAt Go.RowKit

def laidL : List (String × DataW Unit) := [("byre/handles.begins", Rows.laid_byre_handles_begins)]
def begL : List Nat := [0, 5, 15, 64]
theorem gBeg : Tryd.prog.globalNamed "byre/handles.begins" = some 0 := by kernel_rfl
theorem tBeg : (Tryd.prog.globals[0]?).map (·.type) = some 37 := by kernel_rfl
theorem cellsU : Tryd.prog.cellsOf 36 = 1 := by kernel_rfl
theorem begParts : (Rows.laid_byre_handles_begins : DataW Unit) = .agg (begL.map fun (k : Nat) => DataW.lit (Lit.int .u64 (k : Int))) := by kernel_rfl
/-- The variable lies as the text lays it. -/
def BegAt (w : World) : Prop := ∀ j, j < 4 → w.cell? ⟨0, j, none⟩ = some (.int .u64 ((begL.getD j 0 : Nat) : Int))
theorem BegAt.later {w w' : World} (h : BegAt w) (hb : Below w.heap.size w w') : BegAt w' := fun j hj => by
  rw [hb.cell (World.block_lt_of_cell? _ _ (h j hj))]; exact h j hj
theorem beg_of_laid {W : World} (h : laidMetH Tryd.prog laidL W) : BegAt W := by
  rw [MakeChecks.laidMetH_plain _ _ _ (by kernel_rfl)] at h
  obtain ⟨ps, ⟨g, t, cs, fuel, p, q, hg, ht, hvar, hd, _, _⟩, _⟩ := h
  obtain rfl := Option.some.inj (gBeg.symm.trans hg)
  obtain rfl := Option.some.inj (tBeg.symm.trans ht)
  obtain ⟨xs, m, rfl, hx, hlen, hn, hel⟩ := DataW.trod_array Tryd.underlying37 hd
  rw [begParts] at hx
  simp only [Prod.mk.injEq, DataW.agg.injEq] at hx
  have hl4 : begL.length = 4 := by decide
  intro j hj
  have h1 := hel j hj
  have hxj : (xs.map (·.1))[j]? = some (.lit (.int .u64 ((begL.getD j 0 : Nat) : Int))) := by
    rw [← hx.1, List.getElem?_map, List.getElem?_eq_getElem (by omega)]
    simp [List.getD, List.getElem?_eq_getElem (show j < begL.length by omega)]
  rw [List.getElem?_map] at hxj
  cases hy : xs[j]? with
  | none => rw [hy] at hxj; cases hxj
  | some y =>
    rw [hy] at hxj h1
    simp only [Option.map_some, Option.some.injEq] at hxj
    rw [cellsU, Nat.mul_one] at h1
    obtain ⟨k, e1, e2, _⟩ := DataW.trod_int Tryd.underlying36 h1
    rw [e2] at hxj
    simp only [DataW.lit.injEq, Lit.int.injEq, true_and] at hxj
    have := World.var?_cell gBeg hvar j
    rw [this]
    have e3 : cs.toList[j]? = some (.int .u64 k) := by
      have : (cs.toList.drop j)[0]? = some (.int .u64 k) := by
        have h2 : ((cs.toList.drop j).take 1)[0]? = some (.int .u64 k) := by rw [e1]; rfl
        simpa using h2
      simpa using this
    rw [← hxj]
    simpa using e3
end Go.Proofs.YtljdmhiamonokaaDoor
