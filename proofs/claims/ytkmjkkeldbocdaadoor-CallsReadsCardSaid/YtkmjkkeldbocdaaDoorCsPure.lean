/-
  bytes of whole numbers. Of no program.
-/
import Derived.Test.YtkmjkkeldbocdaaDoorRows
namespace Go.Proofs.YtkmjkkeldbocdaaDoor
open Go

/-- Eight bytes of a number. -/
def wordL (n : Nat) : List UInt8 := (List.range 8).map fun i => UInt8.ofNat (n / 256 ^ i)
theorem wordL_len (n : Nat) : (wordL n).length = 8 := by simp [wordL]
theorem word_take {n i : Nat} (h : i < 8) : (wordL n).take (i + 1) = (wordL n).take i ++ [UInt8.ofNat (n / 256 ^ i)] := by
  rw [List.take_add_one]
  congr 1
  unfold wordL
  rw [List.getElem?_map, List.getElem?_range h]
  rfl
/-- The number of what lies from a place on: its first k bytes from behind. -/
def numT (f : Nat → Nat) : Nat → Nat
  | 0 => 0
  | k + 1 => numT f k * 256 + f (7 - k)
theorem numT_lt {f : Nat → Nat} (hf : ∀ i, f i < 256) : ∀ k, numT f k < 256 ^ k
  | 0 => by show 0 < 1; omega
  | k + 1 => by
    have h := numT_lt hf k
    have h2 := hf (7 - k)
    rw [Nat.pow_succ]
    unfold numT
    omega
theorem numT_small {f : Nat → Nat} (hf : ∀ i, f i < 256) {k : Nat} (hk : k ≤ 7) : numT f k < 72057594037927936 := by
  have h := numT_lt hf k
  have h2 : 256 ^ k ≤ 256 ^ 7 := Nat.pow_le_pow_right (by decide) hk
  have h3 : (256 : Nat) ^ 7 = 72057594037927936 := by decide
  omega
/-- The byte at a place, nought where there is none. -/
def atB (L : List UInt8) (p : Nat) : Nat := match L[p]? with | some b => b.toNat | none => 0
theorem atB_lt (L : List UInt8) (p : Nat) : atB L p < 256 := by
  unfold atB
  split
  · next b _ => exact b.toNat_lt
  · decide
/-- The number of eight bytes from a place on. -/
def numB (L : List UInt8) (p : Nat) : Nat := numT (fun i => atB L (p + i)) 8
end Go.Proofs.YtkmjkkeldbocdaaDoor
