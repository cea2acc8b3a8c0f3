/-
  A thing of the program's (whatever way it lies) beside a LIST of rows of the law's own, each apart from the others and from it. A struct in a block of its own is a row of one element. Of no program that has api.Object.
-/
import Derived.Test.YtagnipkannogoaaObjV
namespace Go.Proofs.Ytagnipkannogoaa
open Go.RowKit Go

/-- A thing: where it lies, its blocks; it stays where others turn. -/
structure Thg where
  At : World → Prop
  has : Nat → Prop
  only : ∀ (S : Nat → Prop) (w w' : World), At w → Only S w w' → (∀ k, has k → ¬ S k) → At w'
  lt : ∀ w, At w → ∀ k, has k → k < w.heap.size
/-- It turned (into Y), and nothing else did. -/
structure TTurn (w : World) (X : Thg) (w' : World) (Y : Thg) : Prop where
  at' : Y.At w'
  only : Only X.has w w'
  new : ∀ k, Y.has k → X.has k ∨ w.heap.size ≤ k
/-- Nothing. -/
def Thg.no : Thg := ⟨fun _ => True, fun _ => False, fun _ _ _ h _ _ => h, fun _ _ _ h => h.elim⟩
/-- A row. -/
structure Rw where
  v : Value
  T : TypeId
  s : Nat
  n : Nat
  xs : List Value
def RwAt (w : World) (r : Rw) : Prop := w.ownsRow 0 r.T r.s r.v r.n r.xs
def Rw.off (a b : Rw) : Prop := ∀ k, a.v.ownBlock = some k → b.v.ownBlock ≠ some k
theorem Rw.off_symm {a b : Rw} (h : a.off b) : b.off a := fun k h1 h2 => h k h2 h1
structure FK (w0 : World) (X : Thg) (l : List Rw) (w : World) : Prop where
  at' : X.At w
  bel : Below w0.heap.size w0 w
  lo : ∀ k, X.has k → w0.heap.size ≤ k
  row : ∀ r ∈ l, RwAt w r
  off : l.Pairwise Rw.off
  own : ∀ r ∈ l, ∀ k, r.v.ownBlock = some k → w0.heap.size ≤ k ∧ ¬ X.has k
section
variable {w0 w w' : World} {X Y : Thg} {l l2 : List Rw} {r r' : Rw}
theorem FK.le (h : FK w0 X l w) : w0.heap.size ≤ w.heap.size := h.bel.size
theorem FK.perm (h : FK w0 X l w) (hp : l.Perm l2) : FK w0 X l2 w :=
  ⟨h.at', h.bel, h.lo, fun r hr => h.row r (hp.mem_iff.2 hr), (hp.pairwise_iff (fun {_ _} h => Rw.off_symm h)).1 h.off, fun r hr => h.own r (hp.mem_iff.2 hr)⟩
theorem FK.swap {a b : Rw} (h : FK w0 X (a :: b :: l) w) : FK w0 X (b :: a :: l) w := h.perm (List.Perm.swap b a l)
/-- The third row to the front. -/
theorem FK.third {a b c : Rw} (h : FK w0 X (a :: b :: c :: l) w) : FK w0 X (c :: a :: b :: l) w := h.perm ((List.Perm.cons a (List.Perm.swap c b l)).trans (List.Perm.swap c a (b :: l)))
theorem FK.unthird {a b c : Rw} (h : FK w0 X (c :: a :: b :: l) w) : FK w0 X (a :: b :: c :: l) w := h.perm ((List.Perm.swap a c (b :: l)).trans (List.Perm.cons a (List.Perm.swap b c l)))
theorem FK.drop (h : FK w0 X (r :: l) w) : FK w0 X l w :=
  ⟨h.at', h.bel, h.lo, fun r hr => h.row r (List.mem_cons_of_mem _ hr), (List.pairwise_cons.1 h.off).2, fun r hr => h.own r (List.mem_cons_of_mem _ hr)⟩
theorem FK.later (h : FK w0 X l w) (hb : Below w.heap.size w w') : FK w0 X l w' :=
  ⟨X.only (fun _ => False) w w' h.at' (Only.of_below hb) (fun _ _ h => h), h.bel.trans (hb.mono h.bel.size), h.lo, fun r hr => owns_later (h.row r hr) hb, h.off, h.own⟩
/-- The thing turned. -/
theorem FK.turn (h : FK w0 X l w) (ht : TTurn w X w' Y) : FK w0 Y l w' := by
  refine ⟨ht.at', ht.only.below h.bel h.bel.size h.lo, fun k hk => (ht.new k hk).elim (h.lo k) (fun h2 => Nat.le_trans h.bel.size h2), fun r hr => owns_only (h.row r hr) ht.only (fun k hk => (h.own r hr k hk).2), h.off, fun r hr k hk => ⟨(h.own r hr k hk).1, fun h2 => ?_⟩⟩
  rcases ht.new k h2 with h3 | h3
  · exact (h.own r hr k hk).2 h3
  · have := ((h.row r hr).lt k hk).2; omega
/-- The thing turned, and told a row (its own till then, or new). -/
theorem FK.told (h : FK w0 X l w) (ht : TTurn w X w' Y) (hr : RwAt w' r) (hn : ∀ k, r.v.ownBlock = some k → (X.has k ∨ w.heap.size ≤ k) ∧ ¬ Y.has k) : FK w0 Y (r :: l) w' := by
  have h2 := h.turn ht
  refine ⟨h2.at', h2.bel, h2.lo, fun r2 hr2 => ?_, List.pairwise_cons.2 ⟨fun r2 hr2 k hk h3 => ?_, h2.off⟩, fun r2 hr2 k hk => ?_⟩
  · rcases List.mem_cons.1 hr2 with rfl | hr2
    · exact hr
    · exact h2.row r2 hr2
  · rcases (hn k hk).1 with h4 | h4
    · exact (h.own r2 hr2 k h3).2 h4
    · have := ((h.row r2 hr2).lt k h3).2; omega
  · rcases List.mem_cons.1 hr2 with rfl | hr2
    · refine ⟨?_, (hn k hk).2⟩
      rcases (hn k hk).1 with h4 | h4
      · exact h.lo k h4
      · exact Nat.le_trans h.bel.size h4
    · exact h2.own r2 hr2 k hk
/-- The first row turns, and may lie elsewhere. -/
theorem FK.grow (h : FK w0 X (r :: l) w) (ho : Only (fun k => r.v.ownBlock = some k) w w') (hr : RwAt w' r') (hwh : r'.v.ownBlock = r.v.ownBlock ∨ ∀ k, r'.v.ownBlock = some k → w.heap.size ≤ k) : FK w0 X (r' :: l) w' := by
  obtain ⟨hp1, hp2⟩ := List.pairwise_cons.1 h.off
  refine ⟨X.only _ w w' h.at' ho (fun k hk h2 => (h.own r List.mem_cons_self k h2).2 hk), ho.below h.bel h.bel.size (fun k hk => (h.own r List.mem_cons_self k hk).1), h.lo, fun r2 hr2 => ?_, List.pairwise_cons.2 ⟨fun r2 hr2 k hk h2 => ?_, hp2⟩, fun r2 hr2 k hk => ?_⟩
  · rcases List.mem_cons.1 hr2 with rfl | hr2
    · exact hr
    · exact owns_only (h.row r2 (List.mem_cons_of_mem _ hr2)) ho (fun k hk h3 => hp1 r2 hr2 k h3 hk)
  · rcases hwh with h3 | h3
    · rw [h3] at hk
      exact hp1 r2 hr2 k hk h2
    · have := ((h.row r2 (List.mem_cons_of_mem _ hr2)).lt k h2).2
      have := h3 k hk
      omega
  · rcases List.mem_cons.1 hr2 with rfl | hr2
    · rcases hwh with h3 | h3
      · rw [h3] at hk
        exact h.own r List.mem_cons_self k hk
      · have h4 := h3 k hk
        exact ⟨Nat.le_trans h.bel.size h4, fun h5 => by have := X.lt w h.at' k h5; omega⟩
    · exact h.own r2 (List.mem_cons_of_mem _ hr2) k hk
/-- A row more, made just now. -/
theorem FK.fresh (h : FK w0 X l w) (hb : Below w.heap.size w w') (hr : RwAt w' r) (hf : ∀ k, r.v.ownBlock = some k → w.heap.size ≤ k) : FK w0 X (r :: l) w' := by
  refine h.told (Y := X) ⟨X.only (fun _ => False) w w' h.at' (Only.of_below hb) (fun _ _ h => h), Only.of_below hb, fun k hk => .inl hk⟩ hr (fun k hk => ⟨.inr (hf k hk), fun h2 => ?_⟩)
  have := X.lt w h.at' k h2
  have := hf k hk
  omega
theorem FK.nilR (h : FK w0 X l w) (T : TypeId) (s : Nat) : FK w0 X (⟨.slice none 0 0, T, s, 0, []⟩ :: l) w := h.fresh (Below.refl _ _) (World.ownsRow_nil _ _ _ _) (fun k hk => by cases hk)
theorem owns_lenS {base n size : Nat} {T : TypeId} {v : Value} {xs : List Value} (h : w.ownsRow base T size v n xs) : ∃ a c, v = .slice a n c := by
  obtain ⟨a, c, e, _⟩ := owns_slice h
  exact ⟨a, c, e⟩
end
/-- A struct of s cells in a block of its own. -/
def rC (b : Nat) (T : TypeId) (cs : List Value) : Rw := ⟨.slice (some ⟨b, 0, none⟩) 1 1, T, cs.length, 1, cs⟩
section
variable {w0 w w' : World} {X Y : Thg} {l l2 : List Rw} {r r' : Rw} {b : Nat} {T : TypeId} {cs : List Value}
theorem rC_cell (h : RwAt w (rC b T cs)) {j : Nat} {u : Value} (hj : cs[j]? = some u) : w.cell? ⟨b, j, none⟩ = some u ∧ w.frozen? ⟨b, j, none⟩ = false := by
  obtain ⟨hl, ⟨e, _⟩ | ⟨g, cap, cur, e, _, hg, h1, h2, h3, h4⟩⟩ := h
  · cases e
  · injection e with e _ e3
    injection e with e
    injection e with e
    subst e
    subst e3
    refine ⟨?_, by simp [World.frozen?, hg]⟩
    rw [cell_of_row _ _ _ _ _ _ hg]
    have hlt := (List.getElem?_eq_some_iff.1 hj).1
    have e1 : cur.toList.take (1 * cs.length) = cs := h4
    have h5 : (cur.toList.take (1 * cs.length))[j]? = some u := by rw [e1]; exact hj
    rw [List.getElem?_take_of_lt (by omega)] at h5
    simpa using h5
theorem rC_new (w : World) : RwAt (w.alloc (.cells cs.toArray T)) (rC w.heap.size T cs) := by
  refine ⟨by simp [rC], .inr ⟨w.heap.size, 1, cs.toArray, rfl, Nat.zero_le _, heap_alloc_new w _, Nat.le_refl _, by unfold maxLen; omega, by simp [rC], by simp [rC]⟩⟩
theorem rC_set (h : RwAt w (rC b T cs)) {j : Nat} (u : Value) : RwAt (w.setCell ⟨b, j, none⟩ u) (rC b T (cs.set j u)) := by
  obtain ⟨hl, ⟨e, _⟩ | ⟨g, cap, cur, e, _, hg, h1, h2, h3, h4⟩⟩ := h
  · cases e
  · injection e with e _ e3
    injection e with e
    injection e with e
    subst e
    subst e3
    have hcur : cur.toList = cs := by
      have e1 : cur.toList.take (1 * cs.length) = cs := h4
      have e2 : cur.size = 1 * cs.length := h3
      rw [List.take_of_length_le (by rw [Array.length_toList, e2]; exact Nat.le_refl _)] at e1
      exact e1
    refine ⟨by simp [rC], .inr ⟨b, 1, cur.setIfInBounds j u, rfl, Nat.zero_le _, ?_, Nat.le_refl _, h2, by simp [rC] at h3 ⊢; exact h3, ?_⟩⟩
    · have hg2 : w.heap[b]? = some (Obj.cells cur T (0, 0)) := hg
      simp [World.setCell, Array.getElem?_modify, hg2, rC]
    · show (cur.setIfInBounds j u).toList.take (1 * (cs.set j u).length) = cs.set j u
      rw [Array.toList_setIfInBounds, hcur, List.take_of_length_le (by simp)]
/-- A struct more. -/
theorem FK.box (h : FK w0 X l w) (T : TypeId) (cs : List Value) : FK w0 X (rC w.heap.size T cs :: l) (w.alloc (.cells cs.toArray T)) :=
  h.fresh ((Below.refl _ _).alloc (Nat.le_refl _) _) (rC_new w) (fun k hk => by
    simp [rC, Value.ownBlock] at hk
    omega)
theorem FK.cell (h : FK w0 X (rC b T cs :: l) w) {j : Nat} {u : Value} (hj : cs[j]? = some u) : w.cell? ⟨b, j, none⟩ = some u := (rC_cell (h.row _ List.mem_cons_self) hj).1
theorem FK.frz (h : FK w0 X (rC b T cs :: l) w) {j : Nat} {u : Value} (hj : cs[j]? = some u) : w.frozen? ⟨b, j, none⟩ = false := (rC_cell (h.row _ List.mem_cons_self) hj).2
theorem FK.put (h : FK w0 X (rC b T cs :: l) w) (j : Nat) (u : Value) : FK w0 X (rC b T (cs.set j u) :: l) (w.setCell ⟨b, j, none⟩ u) :=
  h.grow ((Only.setCell (S := fun k => k = b) w ⟨b, j, none⟩ rfl u).mono (fun k hk => by rw [hk]; rfl)) (rC_set (h.row _ List.mem_cons_self) u) (.inl rfl)
end
end Go.Proofs.Ytagnipkannogoaa
