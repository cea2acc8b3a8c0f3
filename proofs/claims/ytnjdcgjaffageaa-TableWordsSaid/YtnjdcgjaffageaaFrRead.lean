/-
  frames: Read, Write, Move.
-/
import Derived.Test.YtnjdcgjaffageaaFrPart
namespace Go.Proofs.Ytnjdcgjaffageaa
open Go.RowKit Go

theorem infoByte : (Try.prog.info? 5).map (fun i => (i.zero, i.size, i.bytes)) = some (some (.int .u8 0), 1, 1) := by kernel_rfl
theorem sizeByte : (Try.prog.info? 5).map (·.size) = some 1 := by kernel_rfl
theorem byV_one (B : Nat → UInt8) (i : Nat) : (byV B i).oneCell' = true := rfl
theorem below_grown {w w1 : World} (hg : w.grownBy w1 none) : Below w.heap.size w w1 := (Below.refl _ _).grown hg (Nat.le_refl _) (fun k h => by cases h)

/-- The row of a made slice of bytes. -/
theorem row_made {w w1 : World} {n : Nat} {e : TypeId} (h : w1.ownsRow w.heap.size e 1 (.slice (some ⟨w.heap.size, 0, none⟩) n n) n (madeCells #[Value.int .u8 0] n).toList) : RowAt w1 w.heap.size n (fun _ => Value.int .u8 0) := by
  rw [show madeCells #[Value.int .u8 0] n = madeCells #[Value.int .u8 0] (n * 1) by rw [Nat.mul_one]] at h
  obtain ⟨g, cap, hv, _, _, _, R⟩ := RowAt.of_owns h (fun _ => Value.int .u8 0) (fun i hi => by
    rw [made_at _ _ _ hi]
    have : i % (#[Value.int .u8 0] : Array Value).size = 0 := Nat.mod_one i
    rw [this]; rfl) (by intro h; cases h)
  cases hv
  rw [Nat.mul_one] at R; exact R

/-- What Read leaves. -/
def ReadAt (w : World) (x : Nat → Value) (n : Nat) (e : Ending) (w' : World) : Prop :=
  e = .returned (.tuple #[.slice (some ⟨w.heap.size, 0, none⟩) n n, .int .i64 0]) ∧ RowAt w' w.heap.size n x ∧ Below w.heap.size w w'

/-- k bytes x laid over B from o on. -/
def putB (B : Nat → UInt8) (o k : Nat) (x : Nat → UInt8) (i : Nat) : UInt8 := if o ≤ i ∧ i < o + k then x (i - o) else B i
theorem putF_byV (B : Nat → UInt8) (o k : Nat) (x : Nat → UInt8) (i : Nat) : putF (byV B) o k (byV x) i = byV (putB B o k x) i := by
  unfold putF byV putB
  by_cases h : o ≤ i ∧ i < o + k
  · rw [if_pos h, if_pos h]
  · rw [if_neg h, if_neg h]

/-- What a writing call leaves: a new value of the bytes. -/
def WroteAt (w : World) (M : MB) (ST : Nat → Nat) (B : Nat → UInt8) (K : Nat → Mk) (e : Ending) (w' : World) : Prop :=
  e = .returned (.int .i64 0) ∧ MemAt w' M ST B K ∧ Only (Eq M.bb) w w'

theorem src_move {w : World} {M : MB} {ST : Nat → Nat} {B : Nat → UInt8} {K : Nat → Mk} (H : MemAt w M ST B K) {f t : Nat} (hf : f * 256 + 256 ≤ M.T * 256) :
    0 < 256 → (some ⟨M.bb, t * 256, none⟩ : Option Addr) = some ⟨M.bb, t * 256, none⟩ ∧ ∃ ad : Addr, (some ⟨M.bb, f * 256, none⟩ : Option Addr) = some ad ∧ ∀ j, j < 256 → w.cell? (ad.add j) = some (byV (fun i => B (f * 256 + i)) j) :=
  fun _ => ⟨rfl, _, rfl, fun j hj => by rw [Addr.add_mid, H.bytes.cell _ (by omega)]; rfl⟩
end Go.Proofs.Ytnjdcgjaffageaa
