/-
  Lists of records as they lie: s cells each. Of no program.
-/
import Derived.Test.YtcbdmdalijhkoaaOwn
namespace Go.Proofs.Ytcbdmdalijhkoaa
open Go.RowKit Go

/-- The cells of a list. -/
def recV {α : Type} (enc : α → List Value) : List α → List Value
  | [] => []
  | x :: r => enc x ++ recV enc r
section
variable {α : Type} {enc : α → List Value} {s : Nat}
theorem recV_len (hs : ∀ x, (enc x).length = s) : ∀ L : List α, (recV enc L).length = L.length * s
  | [] => by simp [recV]
  | x :: r => by rw [recV, List.length_append, hs, recV_len hs r, List.length_cons, Nat.add_mul, Nat.one_mul, Nat.add_comm]
theorem recV_append : ∀ L M : List α, recV enc (L ++ M) = recV enc L ++ recV enc M
  | [], _ => rfl
  | x :: r, M => by rw [List.cons_append, recV, recV, recV_append r M, List.append_assoc]
theorem recV_single (x : α) : recV enc [x] = enc x := by simp [recV]
theorem recV_at (hs : ∀ x, (enc x).length = s) : ∀ (L : List α) (i : Nat) (x : α), L[i]? = some x → ∀ (j : Nat) (v : Value), (enc x)[j]? = some v → (recV enc L)[i * s + j]? = some v
  | [], _, _, h => by simp at h
  | y :: r, 0, x, h => fun j v hj => by
    simp at h
    subst h
    rw [Nat.zero_mul, Nat.zero_add, recV, List.getElem?_append_left (List.getElem?_eq_some_iff.1 hj).1]
    exact hj
  | y :: r, i + 1, x, h => fun j v hj => by
    have ih := recV_at hs r i x (by simpa using h) j v hj
    rw [recV, List.getElem?_append_right (by rw [hs, Nat.add_mul]; omega), hs, show (i + 1) * s + j - s = i * s + j by rw [Nat.add_mul]; omega]
    exact ih
theorem recV_one (h1 : ∀ x, ∀ u ∈ enc x, u.oneCell' = true) : ∀ L : List α, ∀ u ∈ recV enc L, u.oneCell' = true
  | [], _, h => absurd h List.not_mem_nil
  | x :: r, u, h => by
    rw [recV, List.mem_append] at h
    exact h.elim (h1 x u) (recV_one h1 r u)
theorem recV_take (hs : ∀ x, (enc x).length = s) : ∀ (L : List α) (i : Nat), (recV enc L).take (i * s) = recV enc (L.take i)
  | [], _ => by simp [recV]
  | _ :: _, 0 => by simp [recV]
  | x :: r, i + 1 => by
    rw [recV, List.take_succ_cons, recV, List.take_append, hs, show (i + 1) * s - s = i * s by rw [Nat.add_mul]; omega, recV_take hs r i, List.take_of_length_le (by rw [hs, Nat.add_mul]; omega)]
theorem recV_drop (hs : ∀ x, (enc x).length = s) : ∀ (L : List α) (i : Nat), (recV enc L).drop (i * s) = recV enc (L.drop i)
  | [], _ => by simp [recV]
  | _ :: _, 0 => by simp
  | x :: r, i + 1 => by
    rw [recV, List.drop_succ_cons, List.drop_append, hs, show (i + 1) * s - s = i * s by rw [Nat.add_mul]; omega, recV_drop hs r i, List.drop_eq_nil_of_le (by rw [hs, Nat.add_mul]; omega), List.nil_append]

/-- A list lies at a, from block B on. -/
def RecsAt (w : World) (B : Nat) (a : Option Addr) (enc : α → List Value) (s : Nat) (L : List α) : Prop :=
  0 < L.length → ∃ g, a = some ⟨g, 0, none⟩ ∧ B ≤ g ∧ g < w.heap.size ∧ ∃ A t, w.heap[g]? = some (.cells A t (0, 0)) ∧ ∀ i, i < L.length * s → A[i]? = (recV enc L)[i]?
theorem RecsAt.nil (w : World) (B : Nat) (a : Option Addr) : RecsAt w B a enc s [] := fun h => absurd h (Nat.lt_irrefl _)
theorem RecsAt.later {w w' : World} {B : Nat} {a : Option Addr} {L : List α} (h : RecsAt w B a enc s L) (hb : Below w.heap.size w w') : RecsAt w' B a enc s L := fun hp => by
  obtain ⟨g, e, hg, hlt, A, t, hA, hi⟩ := h hp
  exact ⟨g, e, hg, Nat.lt_of_lt_of_le hlt hb.size, A, t, by rw [hb.block g hlt]; exact hA, hi⟩
theorem RecsAt.below {w w' : World} {B C : Nat} {a : Option Addr} {L : List α} (h : RecsAt w B a enc s L) (hb : Below C w w') (hc : w.heap.size ≤ C) : RecsAt w' B a enc s L := h.later (hb.mono hc)
theorem RecsAt.only {S : Nat → Prop} {w w' : World} {B : Nat} {a : Option Addr} {L : List α} (h : RecsAt w B a enc s L) (ho : Only S w w') (hs : ∀ g, a = some ⟨g, 0, none⟩ → ¬ S g) : RecsAt w' B a enc s L := fun hp => by
  obtain ⟨g, e, hg, hlt, A, t, hA, hi⟩ := h hp
  exact ⟨g, e, hg, Nat.lt_of_lt_of_le hlt ho.size, A, t, by rw [ho.block g hlt (hs g e)]; exact hA, hi⟩
/-- What lies below its base turns. -/
theorem RecsAt.above {S : Nat → Prop} {w w' : World} {B : Nat} {a : Option Addr} {L : List α} (h : RecsAt w B a enc s L) (ho : Only S w w') (hs : ∀ g, B ≤ g → ¬ S g) : RecsAt w' B a enc s L := fun hp => by
  obtain ⟨g, e, hg, hlt, A, t, hA, hi⟩ := h hp
  exact ⟨g, e, hg, Nat.lt_of_lt_of_le hlt ho.size, A, t, by rw [ho.block g hlt (hs g hg)]; exact hA, hi⟩
theorem RecsAt.base {w : World} {B C : Nat} {a : Option Addr} {L : List α} (h : RecsAt w B a enc s L) (hc : C ≤ B) : RecsAt w C a enc s L := fun hp => by
  obtain ⟨g, e, hg, r⟩ := h hp
  exact ⟨g, e, Nat.le_trans hc hg, r⟩
/-- One record of it. -/
theorem RecsAt.get (hs : ∀ x, (enc x).length = s) {w : World} {B : Nat} {a : Option Addr} {L : List α} (h : RecsAt w B a enc s L) (i : Nat) (hi : i < L.length) :
    ∃ g, a = some ⟨g, 0, none⟩ ∧ B ≤ g ∧ g < w.heap.size ∧ w.rangeAt g (i * s) (enc L[i]) := by
  obtain ⟨g, e, hg, hlt, A, t, hA, hx⟩ := h (by omega)
  refine ⟨g, e, hg, hlt, fun j v hj => ?_⟩
  have h1 := recV_at hs L i L[i] (List.getElem?_eq_getElem hi) j v hj
  have h2 := (List.getElem?_eq_some_iff.1 h1).1
  rw [recV_len hs] at h2
  rw [cell_of_row _ _ _ _ _ _ hA, hx _ h2]
  exact h1
theorem RecsAt.of_owns {w : World} {B : Nat} {T : TypeId} {v : Value} {L : List α} (h : w.ownsRow B T s v L.length (recV enc L)) : ∃ a cap, v = .slice a L.length cap ∧ RecsAt w B a enc s L := by
  obtain ⟨a, cap, rfl, hr⟩ := owns_slice h
  refine ⟨a, cap, rfl, fun hp => ?_⟩
  obtain ⟨g, e, hg, _, A, t, hA, hi⟩ := hr hp
  exact ⟨g, e, hg, (Array.getElem?_eq_some_iff.1 hA).1, A, t, hA, hi⟩
/-- As a source of append. -/
theorem RecsAt.src (hs : ∀ x, (enc x).length = s) {w : World} {B : Nat} {a : Option Addr} {L : List α} (h : RecsAt w B a enc s L) : 0 < L.length → ∃ ad, a = some ad ∧ ∀ j u, (recV enc L)[j]? = some u → w.cell? (ad.add j) = some u := fun hp => by
  obtain ⟨g, rfl, _, _, A, t, hA, hx⟩ := h hp
  refine ⟨_, rfl, fun j u hj => ?_⟩
  have h2 := (List.getElem?_eq_some_iff.1 hj).1
  rw [recV_len hs] at h2
  rw [Addr.add_lit, Nat.zero_add, cell_of_row _ _ _ _ _ _ hA, hx _ h2]
  exact hj
end
end Go.Proofs.Ytcbdmdalijhkoaa
