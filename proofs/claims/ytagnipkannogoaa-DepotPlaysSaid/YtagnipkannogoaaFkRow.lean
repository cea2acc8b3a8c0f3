/-
  Rows of ints, of objects beside a thing: read, and grown by append. Of no program that has api.Object.
-/
import Derived.Test.YtagnipkannogoaaFk
namespace Go.Proofs.Ytagnipkannogoaa
open Go.RowKit Go
theorem run_append_none {P : Program} (w : World) (t ty e : TypeId) (i : TypeInfo) (ht : P.underlying t = some (.slice e)) (hi : P.info? e = some i) {base size n : Nat} {v : Value} {xs : List Value} (hown : w.ownsRow base e size v n xs) (a2 : Option Addr) (c : Nat) :
    (Builtin.append_ #[t, t] ty #[v, .slice a2 0 c]).run P w = .ok v w := by
  cases a2 with
  | none =>
    rcases hown.2 with ⟨rfl, rfl⟩ | ⟨g, cap, cur, rfl, _, _, hnc, _⟩
    · simp [Builtin.append_, run_underlying ht, sizeOf, typeInfo, hi, Builtin.lenOf, Builtin.firstCells]
    · simp [Builtin.append_, run_underlying ht, sizeOf, typeInfo, hi, Builtin.lenOf, Builtin.firstCells, hnc, storeCells]
  | some a =>
    have hf := run_firstCells_some (P := P) w i.size 0 a 0 c [] (by simp) (by simp)
    rcases hown.2 with ⟨rfl, rfl⟩ | ⟨g, cap, cur, rfl, _, _, hnc, _⟩
    · simp [Builtin.append_, run_underlying ht, sizeOf, typeInfo, hi, Builtin.lenOf, hf]
    · simp [Builtin.append_, run_underlying ht, sizeOf, typeInfo, hi, Builtin.lenOf, hf, hnc, storeCells]
def encI (x : Int) : List Value := [.int .i64 x]
theorem encI_len : ∀ x, (encI x).length = 1 := fun _ => rfl
theorem encI_one : ∀ x, ∀ u ∈ encI x, u.oneCell' = true := fun x u h => by
  rw [encI, List.mem_singleton] at h
  subst h
  rfl
/-- A row of ints, of objects. -/
def rI (v : Value) (I : List Int) : Rw := ⟨v, 3, 1, I.length, recV encI I⟩
def rO (v : Value) (A : Obs) : Rw := ⟨v, TO, 2, A.length, recV encO A⟩
theorem intInfoM : (Try.prog.info? 3).map (fun i => (i.zero, i.size, i.bytes)) = some (some (.int .i64 0), 1, 8) := by kernel_rfl
section
variable {w0 w w' : World} {X : Thg} {l l2 : List Rw} {r r' : Rw} {v : Value}
theorem FK.nilI (h : FK w0 X l w) : FK w0 X (rI (.slice none 0 0) [] :: l) w := h.fresh (Below.refl _ _) (World.ownsRow_nil _ _ _ _) (fun k hk => by cases hk)
theorem FK.nilO (h : FK w0 X l w) : FK w0 X (rO (.slice none 0 0) [] :: l) w := h.fresh (Below.refl _ _) (World.ownsRow_nil _ _ _ _) (fun k hk => by cases hk)
theorem FK.lenI {I : List Int} (h : FK w0 X (rI v I :: l) w) : ∃ a c, v = .slice a I.length c := owns_lenS (h.row _ List.mem_cons_self)
theorem FK.lenO {A : Obs} (h : FK w0 X (rO v A :: l) w) : ∃ a c, v = .slice a A.length c := owns_lenS (h.row _ List.mem_cons_self)
/-- An int of a row. -/
theorem FK.atI {I : List Int} (h : FK w0 X (rI v I :: l) w) {k : Nat} (hk : k < I.length) : ∃ g c, v = .slice (some ⟨g, 0, none⟩) I.length c ∧ w.cell? ⟨g, k, none⟩ = some (.int .i64 I[k]) := by
  obtain ⟨a, c, e, hr⟩ := RecsAt.of_owns (enc := encI) (s := 1) (L := I) (h.row _ List.mem_cons_self)
  obtain ⟨g, rfl, _, _, hx⟩ := hr.get encI_len k hk
  have h0 := hx 0 _ rfl
  rw [Nat.mul_one, Nat.add_zero] at h0
  exact ⟨g, c, e, h0⟩
theorem FK.atO {A : Obs} (h : FK w0 X (rO v A :: l) w) {k : Nat} (hk : k < A.length) : ∃ g c, v = .slice (some ⟨g, 0, none⟩) A.length c ∧ w.cell? ⟨g, k * 2, none⟩ = some (.int .i64 A[k].1) ∧ w.cell? ⟨g, k * 2 + 1, none⟩ = some (.int .i64 A[k].2) := by
  obtain ⟨a, c, e, hr⟩ := RecsAt.of_owns (enc := encO) (s := 2) (L := A) (h.row _ List.mem_cons_self)
  obtain ⟨g, rfl, _, _, hx⟩ := hr.get encO_len k hk
  exact ⟨g, c, e, hx 0 _ rfl, hx 1 _ rfl⟩
/-- The same in every later world. -/
theorem FK.atI' {I : List Int} (h : FK w0 X (rI v I :: l) w) {k : Nat} (hk : k < I.length) : ∃ g c, v = .slice (some ⟨g, 0, none⟩) I.length c ∧ ∀ W, Below w.heap.size w W → W.cell? ⟨g, k, none⟩ = some (.int .i64 I[k]) := by
  obtain ⟨g, c, e, hc⟩ := h.atI hk
  exact ⟨g, c, e, fun W hW => by rw [hW.cell (World.block_lt_of_cell? _ _ hc)]; exact hc⟩
theorem FK.srcO {A : Obs} (h : FK w0 X (rO v A :: l) w) : SrcO w v A := SrcO.of_owns (h.row _ List.mem_cons_self)
section
variable {ops : Array Oper} {rest : List Oper} {o : Oper} {a : Act} {Q : Exit → Act → World → Prop}
/-- append(row, x). -/
theorem wpList_fkI (hgd : o.guard = none) (s x : Operand) (ho : o.op = .call { callee := .builtin .append, args := #[s, x], argTypes := #[46, 46] })
    {I : List Int} (h : FK w0 X (rI v I :: l) w) (hn : I.length ≤ 100000) (y : Int) (hs : a.eval s = v) (hx : a.eval x = .slice (some ⟨w.heap.size, 0, none⟩) 1 1)
    (hK : ∀ v' w', FK w0 X (rI v' (I ++ [y]) :: l) w' → wpList Try.prog ops Q rest (a.put o.dst v') w') : wpList Try.prog ops Q (o :: rest) a (w.alloc (.cells #[.int .i64 y] 3)) := by
  obtain ⟨i0, hi, hz0, hz1, hz2⟩ := info_parts intInfoM
  have hba : Below w.heap.size w (w.alloc (.cells #[.int .i64 y] 3)) := (Below.refl _ _).alloc (Nat.le_refl _) _
  have h2 := h.later hba
  refine wpList_append_wat _ hgd s x 46 ho 0 3 i0 _ 1 8 Try.underlying46 hi hz0 hz1 hz2 rfl (by decide) v I.length (recV encI I) (h2.row _ List.mem_cons_self) (Nat.zero_le _) hs ⟨w.heap.size, 0, none⟩ 1 1 (by decide) (encI y) hx rfl (fun j u hj => ?_) (encI_one _) (by unfold maxLen; omega) (by omega) ?_
  · rw [Addr.add_lit, Nat.zero_add, cell_of_row _ _ _ _ _ _ (heap_alloc_new w _)]
    simpa [encI] using hj
  · intro v' w' hown ho hwh
    refine hK v' w' (h2.grow ho ?_ hwh)
    show w'.ownsRow 0 3 1 v' (I ++ [y]).length (recV encI (I ++ [y]))
    rw [List.length_append, recV_append, recV_single]
    exact hown
theorem wpList_fkO (hgd : o.guard = none) (s x : Operand) (ho : o.op = .call { callee := .builtin .append, args := #[s, x], argTypes := #[30, 30] })
    {A : Obs} (h : FK w0 X (rO v A :: l) w) (hn : A.length ≤ 100000) (y1 y2 : Int) (hs : a.eval s = v) (hx : a.eval x = .slice (some ⟨w.heap.size, 0, none⟩) 1 1)
    (hK : ∀ v' w', FK w0 X (rO v' (A ++ [(y1, y2)]) :: l) w' → wpList Try.prog ops Q rest (a.put o.dst v') w') : wpList Try.prog ops Q (o :: rest) a (w.alloc (.cells #[.int .i64 y1, .int .i64 y2] TO)) := by
  obtain ⟨i0, hi, hz0, hz1, hz2⟩ := info_parts infoObj
  have hba : Below w.heap.size w (w.alloc (.cells #[.int .i64 y1, .int .i64 y2] TO)) := (Below.refl _ _).alloc (Nat.le_refl _) _
  have h2 := h.later hba
  refine wpList_append_wat _ hgd s x 30 ho 0 38 i0 _ 2 16 Try.underlying30 hi hz0 hz1 hz2 rfl (by decide) v A.length (recV encO A) (h2.row _ List.mem_cons_self) (Nat.zero_le _) hs ⟨w.heap.size, 0, none⟩ 1 1 (by decide) (encO (y1, y2)) hx rfl (fun j u hj => ?_) (encO_one _) (by unfold maxLen; omega) (by omega) ?_
  · rw [Addr.add_lit, Nat.zero_add, cell_of_row _ _ _ _ _ _ (heap_alloc_new w _)]
    simpa [encO] using hj
  · intro v' w' hown ho hwh
    refine hK v' w' (h2.grow ho ?_ hwh)
    show w'.ownsRow 0 TO 2 v' (A ++ [(y1, y2)]).length (recV encO (A ++ [(y1, y2)]))
    rw [List.length_append, recV_append, recV_single]
    exact hown
/-- append(row, another row...). -/
theorem wpList_fkII (hgd : o.guard = none) (s x : Operand) (ho : o.op = .call { callee := .builtin .append, args := #[s, x], argTypes := #[46, 46] })
    {I J : List Int} {v2 : Value} (h : FK w0 X (rI v I :: rI v2 J :: l) w) (hn : I.length + J.length ≤ 100000) (hJ : 0 < J.length) (hs : a.eval s = v) (hx : a.eval x = v2)
    (hK : ∀ v' w', FK w0 X (rI v' (I ++ J) :: rI v2 J :: l) w' → wpList Try.prog ops Q rest (a.put o.dst v') w') : wpList Try.prog ops Q (o :: rest) a w := by
  obtain ⟨i0, hi, hz0, hz1, hz2⟩ := info_parts intInfoM
  obtain ⟨a2, c, e, hr⟩ := RecsAt.of_owns (enc := encI) (s := 1) (L := J) (h.row (rI v2 J) (by simp))
  obtain ⟨ad, rfl, hsrc⟩ := hr.src encI_len hJ
  refine wpList_append_wat _ hgd s x 46 ho 0 3 i0 _ 1 8 Try.underlying46 hi hz0 hz1 hz2 rfl (by decide) v I.length (recV encI I) (h.row _ List.mem_cons_self) (Nat.zero_le _) hs ad J.length c hJ (recV encI J) (hx.trans e) (recV_len encI_len J) hsrc (recV_one encI_one J) (by unfold maxLen; omega) (by omega) ?_
  intro v' w' hown ho hwh
  refine hK v' w' (h.grow ho ?_ hwh)
  show w'.ownsRow 0 3 1 v' (I ++ J).length (recV encI (I ++ J))
  rw [List.length_append, recV_append]
  exact hown
/-- append(row, objects that lie somewhere...). -/
theorem wpList_fkOS (hgd : o.guard = none) (s x : Operand) (ho : o.op = .call { callee := .builtin .append, args := #[s, x], argTypes := #[30, 30] })
    {A B : Obs} {v2 : Value} (h : FK w0 X (rO v A :: l) w) (hn : A.length + B.length ≤ 100000) (hB : SrcO w v2 B) (hs : a.eval s = v) (hx : a.eval x = v2)
    (hK : ∀ v' w', FK w0 X (rO v' (A ++ B) :: l) w' → Only (fun k => v.ownBlock = some k) w w' → wpList Try.prog ops Q rest (a.put o.dst v') w') : wpList Try.prog ops Q (o :: rest) a w := by
  obtain ⟨i0, hi, hz0, hz1, hz2⟩ := info_parts infoObj
  obtain ⟨a2, c, e, hsrc⟩ := hB
  by_cases hp : 0 < B.length
  · obtain ⟨ad, rfl, hsr⟩ := hsrc hp
    refine wpList_append_wat _ hgd s x 30 ho 0 38 i0 _ 2 16 Try.underlying30 hi hz0 hz1 hz2 rfl (by decide) v A.length (recV encO A) (h.row _ List.mem_cons_self) (Nat.zero_le _) hs ad B.length c hp (recV encO B) (hx.trans e) (recV_len encO_len B) hsr (recV_one encO_one B) (by unfold maxLen; omega) (by omega) ?_
    intro v' w' hown ho hwh
    refine hK v' w' (h.grow ho ?_ hwh) ho
    show w'.ownsRow 0 TO 2 v' (A ++ B).length (recV encO (A ++ B))
    rw [List.length_append, recV_append]
    exact hown
  · obtain rfl : B = [] := List.eq_nil_of_length_eq_zero (by omega)
    have hown : w.ownsRow 0 TO 2 v A.length (recV encO A) := h.row _ List.mem_cons_self
    have hr : (Builtin.append_ #[30, 30] o.type #[v, .slice a2 0 c]).run Try.prog w = .ok v w := run_append_none w 30 o.type 38 i0 Try.underlying30 hi hown a2 c
    refine wpList_plain hgd fun _ hK2 => ?_
    unfold Oper.wp execOp
    simp only [ho, resolve, invoke, builtin, Sem.run_bind, Sem.run_pure, Result.andThen_ok, List.map_toArray, List.map_cons, List.map_nil, hs, hx, e, List.length_nil, hr]
    exact hK2 _ _ (hK v w (by rw [List.append_nil]; exact h) (Only.refl _ _))
end
end
end Go.Proofs.Ytagnipkannogoaa
