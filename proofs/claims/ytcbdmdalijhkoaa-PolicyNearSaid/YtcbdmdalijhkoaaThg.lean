/-
  A thing of the program's, whatever way it lies; a cell of a row of the call's own written over. Of no program. (Thg, TTurn: as in Fk, which wants api.Object.)
-/
import Derived.Test.YtcbdmdalijhkoaaOwn
import Derived.Test.YtcbdmdalijhkoaaKept
import Derived.Test.YtcbdmdalijhkoaaRec
namespace Go.Proofs.Ytcbdmdalijhkoaa
open Go.RowKit Go

/-- A thing: where it lies, its blocks; it stays where others turn. -/
structure Thg where
  At : World → Prop
  has : Nat → Prop
  only : ∀ (S : Nat → Prop) (w w' : World), At w → Only S w w' → (∀ k, has k → ¬ S k) → At w'
  lt : ∀ w, At w → ∀ k, has k → k < w.heap.size
/-- It turned (into Y), and nothing else did. -/
structure TTurn (w : World) (X : Thg) (w' : World) (Y : Thg) : Prop where
  at' : Y.At w'
  only : Only X.has w w'
  new : ∀ k, Y.has k → X.has k ∨ w.heap.size ≤ k
/-- Nothing. -/
def Thg.no : Thg := ⟨fun _ => True, fun _ => False, fun _ _ _ h _ _ => h, fun _ _ _ h => h.elim⟩
theorem Thg.later (X : Thg) {w w' : World} (h : X.At w) (hb : Below w.heap.size w w') : X.At w' := X.only (fun _ => False) w w' h (Only.of_below hb) (fun _ _ h => h)
/-- Where an own row that is not empty lies. -/
theorem owns_where {w : World} {B s n : Nat} {T : TypeId} {v : Value} {xs : List Value} (h : w.ownsRow B T s v n xs) (hn : 0 < n) :
    ∃ g c, v = .slice (some ⟨g, 0, none⟩) n c ∧ B ≤ g ∧ v.ownBlock = some g ∧ g < w.heap.size ∧ (∀ i u, i < n * s → xs[i]? = some u → w.cell? ⟨g, i, none⟩ = some u) ∧ (∀ i, w.frozen? ⟨g, i, none⟩ = false) := by
  obtain ⟨hl, ⟨rfl, h0⟩ | ⟨g, c, cur, rfl, hb, hh, h1, h2, h3, ht⟩⟩ := h
  · omega
  · refine ⟨g, c, rfl, hb, rfl, (Array.getElem?_eq_some_iff.1 hh).1, fun i u hi hu => ?_, fun i => by simp [World.frozen?, hh]⟩
    rw [cell_of_row _ _ _ _ _ _ hh]
    rw [← ht, List.getElem?_take_of_lt hi] at hu
    simpa using hu
/-- A cell of an own row is written over. -/
theorem owns_set {w : World} {B s n g c : Nat} {T : TypeId} {xs : List Value} (h : w.ownsRow B T s (.slice (some ⟨g, 0, none⟩) n c) n xs) (i : Nat) (u : Value) :
    (w.setCell ⟨g, i, none⟩ u).ownsRow B T s (.slice (some ⟨g, 0, none⟩) n c) n (xs.set i u) := by
  obtain ⟨hl, ⟨e, h0⟩ | ⟨g', c', cur, e, hb, hh, h1, h2, h3, ht⟩⟩ := h
  · cases e
  · simp only [Value.slice.injEq, Option.some.injEq, Addr.mk.injEq] at e
    obtain ⟨⟨rfl, _⟩, _, rfl⟩ := e
    refine ⟨by rw [List.length_set, hl], .inr ⟨g, c, cur.setIfInBounds i u, rfl, hb, by simp [World.setCell, Array.getElem?_modify, hh], h1, h2, by simpa using h3, ?_⟩⟩
    rw [Array.toList_setIfInBounds, List.take_set, ht]
end Go.Proofs.Ytcbdmdalijhkoaa
