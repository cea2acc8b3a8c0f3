/-
  Slices of arrays that lie in a block; clear on them. Of no program.
-/
import Derived.Test.YtkmjkkeldbocdaaDoorRows
import Derived.WalkKit
import Derived.Deep.WholeRow
import Derived.Laws.CopyRow
import Derived.Deep.MidRow
namespace Go.Proofs.YtkmjkkeldbocdaaDoor
open Go.RowKit Go

theorem run_slice_to {P : Program} {t e : TypeId} {n s : Nat} (ht : P.underlying t = some (.array n e)) (hs : ∀ w, (sizeOf e).run P w = .ok s w) (c : Nat) (hc : c ≤ n) (W : World) (b o : Nat) :
    (Instr.sliceAt t (.pointer (some ⟨b, o, none⟩)) none (some (.int .i64 c)) none).run P W = .ok (.slice (some ⟨b, o, none⟩) c n) W := by
  have hl : P.arrayLen t = n := by simp [Program.arrayLen, ht]
  have he : P.elem t = e := by simp [Program.elem, ht]
  rw [run_sliceAt_array_h W t ⟨b, o, none⟩ (by rw [hl, he]; exact ht) .i64 c (by omega) (by rw [hl]; omega), he, hs, hl]
  simp [Result.andThen, slicedAt, Addr.add]

/-- The slice of an array from l on. -/
def fromV (b o n s l : Nat) : Value := .slice (some (if n = l then ⟨b, o, none⟩ else ⟨b, o + l * s, none⟩)) (n - l) (n - l)
theorem run_slice_from {P : Program} {t e : TypeId} {n s : Nat} (ht : P.underlying t = some (.array n e)) (hs : ∀ w, (sizeOf e).run P w = .ok s w) (l : Nat) (hl : l ≤ n) (W : World) (b o : Nat) :
    (Instr.sliceAt t (.pointer (some ⟨b, o, none⟩)) (some (.int .i64 l)) none none).run P W = .ok (fromV b o n s l) W := by
  have hn : P.arrayLen t = n := by simp [Program.arrayLen, ht]
  have he : P.elem t = e := by simp [Program.elem, ht]
  rw [run_sliceAt_array_l W t ⟨b, o, none⟩ (by rw [hn, he]; exact ht) .i64 l (by omega) (by rw [hn]; omega), he, hs, hn]
  simp only [Result.andThen, slicedAt, fromV, Int.toNat_natCast, Addr.add_lit]


/-- The array with noughts from lo to hi. -/
def wipe (B : Array Value) (lo hi : Nat) : Array Value := (B.toList.take lo ++ List.replicate (hi - lo) (Value.int .i64 0) ++ B.toList.drop hi).toArray
theorem wipe_self (B : Array Value) (lo : Nat) : wipe B lo lo = B := by simp [wipe]
theorem wipe_size (B : Array Value) (lo hi : Nat) (h : lo ≤ hi) (hh : hi ≤ B.size) : (wipe B lo hi).size = B.size := by simp [wipe]; omega
theorem wipe_get (B : Array Value) (lo hi i : Nat) (h : lo ≤ hi) (hh : hi ≤ B.size) : (wipe B lo hi)[i]? = if lo ≤ i ∧ i < hi then some (.int .i64 0) else B[i]? := by
  have e : (wipe B lo hi)[i]? = (B.toList.take lo ++ List.replicate (hi - lo) (Value.int .i64 0) ++ B.toList.drop hi)[i]? := by simp [wipe]
  rw [e]
  by_cases h1 : i < lo
  · rw [List.append_assoc, List.getElem?_append_left (by simp; omega), if_neg (by omega), List.getElem?_take_of_lt h1]; simp
  · by_cases h2 : i < hi
    · rw [List.getElem?_append_left (by simp; omega), List.getElem?_append_right (by simp; omega), if_pos (by omega), List.getElem?_replicate, if_pos (by simp; omega)]
    · rw [List.getElem?_append_right (by simp; omega), if_neg (by omega), List.getElem?_drop]
      have : (B.toList.take lo ++ List.replicate (hi - lo) (Value.int .i64 0)).length = hi := by simp; omega
      rw [this, show hi + (i - hi) = i by omega]; simp

theorem zeroCells_rep (s n : Nat) (hs : 0 < s) : Builtin.zeroCells (Array.replicate s (Value.int .i64 0)) n = Array.replicate (n * s) (Value.int .i64 0) := by
  apply Array.ext
  · simp [Builtin.zeroCells]
  · intro i h1 h2
    simp only [Builtin.zeroCells, Array.size_replicate, Array.getElem_map, Array.getElem_range, Array.getElem_replicate]
    rw [getElem!_pos _ _ (by simpa using Nat.mod_lt _ hs)]
    simp

theorem run_clear_from {P : Program} {ts e : TypeId} {s : Nat} {zv : Value} (ht : P.underlying ts = some (.slice e)) (hz : ∀ w, (zeroValue e).run P w = .ok zv w) (hc : zv.cells = Array.replicate s (.int .i64 0)) (hs : 0 < s)
    (T : TypeId) (b o n l : Nat) (hl : l ≤ n) (W : World) (B : Array Value) (t : TypeId) (hg : W.heap[b]? = some (.cells B t (0, 0))) (hB : o + n * s ≤ B.size) :
    (Builtin.clear_ #[ts] T #[fromV b o n s l]).run P W = .ok (.tuple #[]) (W.setRow b (wipe B (o + l * s) (o + n * s))) := by
  by_cases h : n = l
  · subst h
    rw [wipe_self, setRow_self W b B t _ hg]
    unfold Builtin.clear_ fromV
    simp [run_underlying ht, Result.andThen]
  · have hlt : l < n := by omega
    obtain ⟨m, hm⟩ : ∃ m, n - l = m + 1 := ⟨n - l - 1, by omega⟩
    have hms : (m + 1) * s + l * s = n * s := by rw [← hm, ← Nat.add_mul, Nat.sub_add_cancel hl]
    have hst := run_storeCells_at (P := P) b (o + l * s) t (List.replicate ((m + 1) * s) (Value.int .i64 0)) 0 B W hg (by simp; omega) (by simp [Value.oneCell'])
    unfold Builtin.clear_ fromV
    rw [if_neg h, hm]
    simp [run_underlying ht, Result.andThen]
    rw [hz W]
    simp only [hc, zeroCells_rep _ _ hs, Array.toList_replicate]
    rw [hst]
    simp only [Nat.add_zero, List.length_replicate, wipe]
    have e1 : o + n * s - (o + l * s) = (m + 1) * s := by omega
    have e2 : o + l * s + (m + 1) * s = o + n * s := by omega
    rw [e1, e2]

theorem setRow_alloc_old (w : World) (ob : Obj) (g : Nat) (cs : Array Value) (h : g < w.heap.size) : (w.alloc ob).setRow g cs = (w.setRow g cs).alloc ob := by
  simp only [World.setRow, World.alloc]
  congr 1
  apply Array.ext_getElem?
  intro i
  rw [Array.getElem?_modify, Array.getElem?_push, Array.getElem?_push, Array.size_modify, Array.getElem?_modify]
  by_cases h1 : i = w.heap.size
  · subst h1; rw [if_neg (by omega)]; simp
  · simp [h1]

/-- A store of a whole struct whose run is known. -/
theorem wpList_store_run {P : Program} {ops : Array Oper} {rest : List Oper} {op : Oper} {a : Act} {w : World} {Q : Exit → Act → World → Prop} (hgd : op.guard = none) (ty : TypeId) (x y : Operand) (ho : op.op = .store ty x y)
    (b : Nat) (cells : Array Value) (w2 : World) (hx : a.eval x = .pointer (some ⟨b, 0, none⟩)) (hy : a.eval y = .agg cells)
    (hr : (storeVar ty ⟨b, 0, none⟩ (.agg cells)).run P w = .ok () w2)
    (h : wpList P ops Q rest (a.put op.dst undef) w2) : wpList P ops Q (op :: rest) a w :=
  wpList_plain hgd fun _ hK => by
    unfold Oper.wp execOp
    simp only [ho, hx, hy, Instr.storeAt, Instr.sureAddr, Sem.run_bind, Sem.run_pure, Result.andThen_ok, hr]
    exact hK _ _ h
end Go.Proofs.YtkmjkkeldbocdaaDoor
