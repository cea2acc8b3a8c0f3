/-
  Strings of bytes: their length, their bytes, []byte of them; make of strings.
-/
import Derived.Test.YtkmjkkeldbocdaaDoorByt
import Derived.Lib.ConvBytes
namespace Go.Proofs.YtkmjkkeldbocdaaDoor
open Go.RowKit Go

theorem foldl_push_toList : ∀ (l : List UInt8) (r : ByteArray), ((l.map fun b => ((b.toNat : Nat) : Int)).foldl (fun r n => r.push (UInt8.ofNat n.toNat)) r).data.toList = r.data.toList ++ l
  | [], r => by simp
  | b :: l, r => by
    simp only [List.map_cons, List.foldl_cons]
    rw [foldl_push_toList l]
    simp [ByteArray.push]
theorem strB_toList (n : Nat) (f : Nat → UInt8) : (strB n f).data.toList = (List.range n).map f := by
  have h := foldl_push_toList ((List.range n).map f) ByteArray.empty
  rw [List.map_map] at h
  unfold strB
  rw [show ((List.range n).map fun i => ((f i).toNat : Int)) = (List.range n).map ((fun b : UInt8 => ((b.toNat : Nat) : Int)) ∘ f) from rfl, h]; rfl
theorem strB_size (n : Nat) (f : Nat → UInt8) : (strB n f).size = n := by
  show (strB n f).data.size = n
  rw [← Array.length_toList, strB_toList, List.length_map, List.length_range]
theorem strB_get {n : Nat} {f : Nat → UInt8} {i : Nat} (h : i < n) : (strB n f).data.toList.getD i 0 = f i := by
  rw [strB_toList, List.getD_eq_getElem?_getD, List.getElem?_map, List.getElem?_range h]; rfl
theorem strB_nil (f : Nat → UInt8) : strB 0 f = ByteArray.empty := rfl
theorem strB_eq_empty {n : Nat} {f : Nat → UInt8} : strB n f = ByteArray.empty ↔ n = 0 := by
  constructor
  · intro h
    have := strB_size n f
    rw [h] at this; exact this.symm
  · rintro rfl; rfl
theorem strB_inj {n : Nat} {f g : Nat → UInt8} (h : strB n f = strB n g) (i : Nat) (hi : i < n) : f i = g i := by
  rw [← strB_get (f := f) hi, ← strB_get (f := g) hi, h]

theorem below_bytesWorld (w : World) (e : TypeId) (s : ByteArray) : Below w.heap.size w (Lib.bytesWorld w e s) :=
  ⟨rfl, rfl, rfl, by rw [Lib.bytesWorld_size]; omega, fun k hk => Lib.bytesWorld_at_old w e s k hk⟩
/-- []byte(s). -/
theorem run_bytes (w : World) (n : Nat) (f : Nat → UInt8) : ∃ cap w', (convert 9 27 (.string (strB n f))).run Tryd.prog w = .ok (.slice (some ⟨w.heap.size, 0, none⟩) n cap) w' ∧ Src w' (some ⟨w.heap.size, 0, none⟩) n f ∧ Below w.heap.size w w' := by
  have h := Lib.run_convert_string_bytes (P := Tryd.prog) w 9 27 5 (strB n f) Tryd.underlying9 Tryd.underlying27 Tryd.underlying5
  rw [strB_size] at h
  refine ⟨_, _, h, fun _ => ⟨_, rfl, fun j hj => ?_⟩, below_bytesWorld _ _ _⟩
  rw [Addr.add_mid, Nat.zero_add, Lib.bytesWorld_cell _ _ _ _ (by rw [strB_size]; exact hj), strB_get hj]; rfl

theorem infoStr : (Tryd.prog.info? 9).map (fun i => (i.zero, i.size, i.bytes)) = some (some (.string ByteArray.empty), 1, 16) := by kernel_rfl
theorem agg9 (w : World) : (isAgg 9).run Tryd.prog w = .ok false w := by kernel_rfl
end Go.Proofs.YtkmjkkeldbocdaaDoor
