/-
  Rows of slices beside a thing: read, cut, grown by append. Of no program that has [][]api.Object.
-/
import Derived.Test.YtagnipkannogoaaFkRow
namespace Go.Proofs.Ytagnipkannogoaa
open Go.RowKit Go
theorem infoSl : (Try.prog.info? 30).map (fun i => (i.zero, i.size, i.bytes)) = some (some (.slice none 0 0), 1, 24) := by kernel_rfl
/-- A row of slices. -/
def rS (v : Value) (vs : List Value) : Rw := ⟨v, 30, 1, vs.length, vs⟩
/-- Slices, all of them. -/
def Sls (vs : List Value) : Prop := ∀ u ∈ vs, ∃ a n c, u = .slice a n c
theorem Sls.one {vs : List Value} (h : Sls vs) : ∀ u ∈ vs, u.oneCell' = true := fun u hu => by
  obtain ⟨a, n, c, rfl⟩ := h u hu
  rfl
section
variable {w0 w w' : World} {X : Thg} {l : List Rw} {v v2 : Value} {vs us : List Value}
theorem FK.lenS (h : FK w0 X (rS v vs :: l) w) : ∃ a c, v = .slice a vs.length c := owns_lenS (h.row _ List.mem_cons_self)
theorem FK.nilS (h : FK w0 X l w) : FK w0 X (rS (.slice none 0 0) [] :: l) w := h.fresh (Below.refl _ _) (World.ownsRow_nil _ _ _ _) (fun k hk => by cases hk)
/-- A slice of the row. -/
theorem FK.atS (h : FK w0 X (rS v vs :: l) w) {k : Nat} (hk : k < vs.length) : ∃ g c, v = .slice (some ⟨g, 0, none⟩) vs.length c ∧ w.cell? ⟨g, k, none⟩ = some vs[k] := by
  obtain ⟨a, c, e, hh⟩ := owns_slice (h.row _ List.mem_cons_self)
  obtain ⟨g, rfl, _, _, A, t, hA, hx⟩ := hh (show 0 < vs.length by omega)
  refine ⟨g, c, e, ?_⟩
  rw [cell_of_row _ _ _ _ _ _ hA]
  have h2 := hx k (by show k < vs.length * 1; omega)
  rw [h2]
  exact List.getElem?_eq_getElem hk
/-- Cut down to its first k. -/
theorem FK.cutS {a : Option Addr} {c k : Nat} (h : FK w0 X (rS (.slice a vs.length c) vs :: l) w) (hk : k ≤ vs.length) : FK w0 X (rS (.slice a k c) (vs.take k) :: l) w := by
  refine h.grow (Only.refl _ _) ?_ (.inl (by cases a <;> rfl))
  have h1 : w.ownsRow 0 30 1 (.slice a vs.length c) vs.length vs := h.row _ List.mem_cons_self
  have h2 := owns_take h1 hk
  show w.ownsRow 0 30 1 (.slice a k c) (vs.take k).length (vs.take k)
  rw [Nat.mul_one] at h2
  rw [List.length_take, Nat.min_eq_left hk]
  exact h2
section
variable {ops : Array Oper} {rest : List Oper} {o : Oper} {a : Act} {Q : Exit → Act → World → Prop}
/-- append(row, slice). -/
theorem wpList_fkS (hgd : o.guard = none) (s x : Operand) (ho : o.op = .call { callee := .builtin .append, args := #[s, x], argTypes := #[29, 29] })
    (h : FK w0 X (rS v vs :: l) w) (hn : vs.length ≤ 100000) (u : Value) (hu : ∃ a n c, u = .slice a n c) (hs : a.eval s = v) (hx : a.eval x = .slice (some ⟨w.heap.size, 0, none⟩) 1 1)
    (hK : ∀ v' w', FK w0 X (rS v' (vs ++ [u]) :: l) w' → wpList Try.prog ops Q rest (a.put o.dst v') w') : wpList Try.prog ops Q (o :: rest) a (w.alloc (.cells #[u] 30)) := by
  obtain ⟨i0, hi, hz0, hz1, hz2⟩ := info_parts infoSl
  have hba : Below w.heap.size w (w.alloc (.cells #[u] 30)) := (Below.refl _ _).alloc (Nat.le_refl _) _
  have h2 := h.later hba
  obtain ⟨a9, n9, c9, rfl⟩ := hu
  refine wpList_append_wat _ hgd s x 29 ho 0 30 i0 _ 1 24 Try.underlying29 hi hz0 hz1 hz2 rfl (by decide) v vs.length vs (h2.row _ List.mem_cons_self) (Nat.zero_le _) hs ⟨w.heap.size, 0, none⟩ 1 1 (by decide) [.slice a9 n9 c9] hx rfl (fun j u hj => ?_) (fun u hu => by rw [List.mem_singleton] at hu; subst hu; rfl) (by unfold maxLen; omega) (by omega) ?_
  · rw [Addr.add_lit, Nat.zero_add, cell_of_row _ _ _ _ _ _ (heap_alloc_new w _)]
    simpa using hj
  · intro v' w' hown ho hwh
    refine hK v' w' (h2.grow ho ?_ hwh)
    show w'.ownsRow 0 30 1 v' (vs ++ [_]).length (vs ++ [_])
    rw [List.length_append]
    exact hown
/-- append(row, another row...). -/
theorem wpList_fkSS (hgd : o.guard = none) (s x : Operand) (ho : o.op = .call { callee := .builtin .append, args := #[s, x], argTypes := #[29, 29] })
    (h : FK w0 X (rS v vs :: rS v2 us :: l) w) (hn : vs.length + us.length ≤ 100000) (hus : Sls us) (hs : a.eval s = v) (hx : a.eval x = v2)
    (hK : ∀ v' w', FK w0 X (rS v' (vs ++ us) :: rS v2 us :: l) w' → wpList Try.prog ops Q rest (a.put o.dst v') w') : wpList Try.prog ops Q (o :: rest) a w := by
  obtain ⟨i0, hi, hz0, hz1, hz2⟩ := info_parts infoSl
  have h2 : w.ownsRow 0 30 1 v2 us.length us := h.row (rS v2 us) (by simp)
  obtain ⟨a2, c, e, hh⟩ := owns_slice h2
  by_cases hp : 0 < us.length
  · obtain ⟨g, rfl, _, _, A, t, hA, hxx⟩ := hh hp
    refine wpList_append_wat _ hgd s x 29 ho 0 30 i0 _ 1 24 Try.underlying29 hi hz0 hz1 hz2 rfl (by decide) v vs.length vs (h.row _ List.mem_cons_self) (Nat.zero_le _) hs ⟨g, 0, none⟩ us.length c hp us (hx.trans e) (by rw [Nat.mul_one]) (fun j u hj => ?_) hus.one (by unfold maxLen; omega) (by omega) ?_
    · rw [Addr.add_lit, Nat.zero_add, cell_of_row _ _ _ _ _ _ hA, hxx j (by rw [Nat.mul_one]; exact (List.getElem?_eq_some_iff.1 hj).1)]
      exact hj
    · intro v' w' hown ho hwh
      refine hK v' w' (h.grow ho ?_ hwh)
      show w'.ownsRow 0 30 1 v' (vs ++ us).length (vs ++ us)
      rw [List.length_append]
      exact hown
  · obtain rfl : us = [] := List.eq_nil_of_length_eq_zero (by omega)
    have hr := run_append_none w 29 o.type 30 i0 Try.underlying29 hi (h.row (rS v vs) List.mem_cons_self) a2 c
    refine wpList_plain hgd fun _ hK2 => ?_
    unfold Oper.wp execOp
    simp only [ho, resolve, invoke, builtin, Sem.run_bind, Sem.run_pure, Result.andThen_ok, List.map_toArray, List.map_cons, List.map_nil, hs, hx, e, List.length_nil]
    rw [show (Builtin.append_ #[29, 29] o.type #[v, .slice a2 0 c]).run Try.prog w = .ok v w from hr]
    exact hK2 _ _ (hK v w (by rw [List.append_nil]; exact h))
end
end
end Go.Proofs.Ytagnipkannogoaa
