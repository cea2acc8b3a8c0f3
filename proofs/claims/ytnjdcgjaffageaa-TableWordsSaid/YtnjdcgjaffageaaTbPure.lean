/-
  table, by numbers: entries and their words; a root of leaves 0 to 3 and what they say. Of no program.
-/
import Derived.Test.YtnjdcgjaffageaaRows
namespace Go.Proofs.Ytnjdcgjaffageaa
open Go

/-- An entry: its kind, its number. -/
abbrev Ent := Nat × Int
def entOk (x : Ent) : Prop := x.1 ≤ 3 ∧ 0 ≤ x.2 ∧ x.2 ≤ 65535 ∧ (x.1 = 0 → x.2 = 0)
instance (x : Ent) : Decidable (entOk x) := inferInstanceAs (Decidable (_ ∧ _ ∧ _ ∧ _))
/-- Its word, or the refusal. -/
def wordE (x : Ent) : Int := if entOk x then 0 else 2
def wordV (x : Ent) : Nat := if entOk x then x.1 + 4 * x.2.toNat else 0
/-- A word's entry, or the refusal. -/
def isWord (w : Nat) : Prop := w ≤ 262143 ∧ (w % 4 = 0 → w = 0)
instance (w : Nat) : Decidable (isWord w) := inferInstanceAs (Decidable (_ ∧ _))
def entE (w : Nat) : Int := if isWord w then 0 else 5
def entV (w : Nat) : Ent := if isWord w then (w % 4, ((w / 4 : Nat) : Int)) else (0, 0)
theorem word_is {x : Ent} (h : entOk x) : isWord (wordV x) := by
  obtain ⟨k, n⟩ := x
  obtain ⟨h1, h2, h3, h4⟩ := h
  dsimp only at h1 h2 h3 h4
  have e : wordV (k, n) = k + 4 * n.toNat := if_pos ⟨h1, h2, h3, h4⟩
  rw [e]
  refine ⟨by omega, fun h => ?_⟩
  have hk : k = 0 := by omega
  have := h4 hk
  omega
theorem ent_word {x : Ent} (h : entOk x) : entV (wordV x) = x := by
  obtain ⟨k, n⟩ := x
  unfold entV
  rw [if_pos (word_is h)]
  have e : wordV (k, n) = k + 4 * n.toNat := if_pos h
  obtain ⟨h1, h2, h3, h4⟩ := h
  dsimp only at h1 h2 h3 h4
  rw [e]
  ext <;> dsimp only <;> omega
theorem ent_ok (w : Nat) : entOk (entV w) := by
  unfold entV
  split
  · next h =>
    obtain ⟨h1, h2⟩ := h
    refine ⟨by dsimp only; omega, by dsimp only; omega, by dsimp only; omega, fun h3 => ?_⟩
    dsimp only at h3 ⊢
    have := h2 h3
    omega
  · decide
theorem word_ent {w : Nat} (h : isWord w) : wordV (entV w) = w := by
  have h1 := ent_ok w
  have e : entV w = (w % 4, ((w / 4 : Nat) : Int)) := if_pos h
  unfold wordV
  rw [if_pos h1, e]
  dsimp only
  omega
/-- A page. -/
def Pg (p : Int) : Prop := 0 ≤ p ∧ p < 1024
instance (p : Int) : Decidable (Pg p) := inferInstanceAs (Decidable (_ ∧ _))
/-- A leaf is set; an entry is. -/
def setR (R : Nat → Nat) (i l : Nat) : Nat → Nat := fun j => if j = i then l else R j
def setX (X : Nat → Nat → Ent) (f i : Nat) (x : Ent) : Nat → Nat → Ent := fun g j => if g = f ∧ j = i then x else X g j
/-- What a page has. -/
def getX (R : Nat → Nat) (X : Nat → Nat → Ent) (p : Nat) : Ent := if R (p / 32) = 0 then (0, 0) else X (R (p / 32)) (p % 32)
/-- The leaves that are told. -/
def leafL (R : Nat → Nat) (n : Nat) : List (Nat × Nat) := (List.range n).filterMap fun i => if R i = 0 then none else some (i, R i)
end Go.Proofs.Ytnjdcgjaffageaa
