/-
  A map from ints as a finite function; its laws at the operations. Of no program.
-/
import Derived.Test.YtndddfkebbeemaaOwn
import Derived.Maps.OwnSet
namespace Go.Proofs.Ytndddfkebbeemaa
open Go.RowKit Go Go.Maps

abbrev MDat := DataW Unit
/-- Block b is a map from ints: at x it has what s says. -/
def IMap (P : Program) (k : TypeId) (R : Value → Option (MDat × List MemPlace)) (w : World) (b : Nat) (s : Int → Option MDat) : Prop :=
  ∃ (D : MDat) (l : List Int), w.ownsMap P k R b l.length D ∧ (∀ x, Maps.has D (.int .i64 x) = (s x).isSome) ∧ (∀ x d, s x = some d → ∀ z, D.atKey (.int .i64 x) z = d)
    ∧ l.Nodup ∧ (∀ x, x ∈ l ↔ (s x).isSome = true) ∧ Maps.size D = l.length
def upd (s : Int → Option MDat) (x : Int) (d : MDat) : Int → Option MDat := fun y => if y = x then some d else s y
def cut (s : Int → Option MDat) (x : Int) : Int → Option MDat := fun y => if y = x then none else s y
theorem isKey_int (x : Int) : WideAt.IsKeyLit (.int .i64 x) := by first | trivial | exact ⟨_, rfl⟩ | simp [WideAt.IsKeyLit]
theorem key_ne {x y : Int} (h : y ≠ x) : Lit.int .i64 y ≠ Lit.int .i64 x := fun e => h (by injection e)

/-- No more different numbers below m than m. -/
theorem nodup_short : ∀ (m : Nat) (l : List Int), l.Nodup → (∀ x ∈ l, 0 ≤ x ∧ x < m) → l.length ≤ m
  | 0, [], _, _ => Nat.le_refl _
  | 0, x :: _, _, h => by have := h x List.mem_cons_self; omega
  | m + 1, l, hn, h => by
    have h1 := nodup_short m (l.erase (m : Int)) (hn.erase _) (fun x hx => by
      have h2 := h x (List.mem_of_mem_erase hx)
      have h3 : x ≠ (m : Int) := fun e => by subst e; exact hn.not_mem_erase hx
      omega)
    have h4 := List.length_erase (a := (m : Int)) (l := l)
    split at h4 <;> omega

section
variable {P : Program} {k : TypeId} {R : Value → Option (MDat × List MemPlace)} {w w' : World} {b : Nat} {s : Int → Option MDat}

theorem own_exact {n : Nat} {D : MDat} (h : w.ownsMap P k R b n D) {m : Nat} (hm : Maps.size D ≤ m) : w.ownsMap P k R b m D := by
  obtain ⟨es, clock, hb, F, hs, rfl⟩ := h
  refine ⟨es, clock, hb, F, ?_, rfl⟩
  simpa [Maps.size, length_sorted] using hm

theorem IMap.lt (h : IMap P k R w b s) : b < w.heap.size := by
  obtain ⟨D, l, ho, _⟩ := h
  exact ho.lt
theorem IMap.only {S : Nat → Prop} (h : IMap P k R w b s) (ho : Only S w w') (hs : ¬ S b) : IMap P k R w' b s := by
  have hlt := h.lt
  obtain ⟨D, l, ⟨es, clock, hb, r⟩, q⟩ := h
  exact ⟨D, l, ⟨es, clock, (ho.block b hlt hs).trans hb, r⟩, q⟩
theorem IMap.later (h : IMap P k R w b s) (hb : Below w.heap.size w w') : IMap P k R w' b s :=
  h.only (Only.of_below (S := fun _ => False) hb) (fun h => h)
theorem imap_made (P : Program) (k : TypeId) (R : Value → Option (MDat × List MemPlace)) (w : World) : IMap P k R (w.alloc (.map #[] 0)) w.heap.size (fun _ => none) :=
  ⟨.map [], [], World.ownsMap_made w P k R, fun _ => rfl, fun _ _ h => by simp at h, List.nodup_nil, fun x => by simp, rfl⟩
/-- How many there are at most. -/
theorem IMap.count (h : IMap P k R w b s) {m : Nat} (hm : ∀ x, (s x).isSome = true → 0 ≤ x ∧ x < m) : ∃ l : List Int, l.Nodup ∧ (∀ x, x ∈ l ↔ (s x).isSome = true) ∧ l.length ≤ m := by
  obtain ⟨D, l, _, _, _, hn, hl, _⟩ := h
  exact ⟨l, hn, hl, nodup_short m l hn fun x hx => hm x ((hl x).1 hx)⟩

variable {t e : TypeId} (hk : P.underlying k = some (.int .i64)) (ht : P.underlying t = some (.map k e)) {x : Int} (hx : (Lit.int .i64 x).wf = true)
include hk ht hx
theorem IMap.storeN (h : IMap P k R w b s) {m : Nat} (hm : ∀ l : List Int, l.Nodup → (∀ x, x ∈ l ↔ (s x).isSome = true) → l.length ≤ m) (hmax : m < maxLen) {val : Value} {d : MDat} {ps : List MemPlace} (hv : R val = some (d, ps)) :
    ∃ w', (Instr.mapUpdate t (.map (some b)) (.int .i64 x) val).run P w = .ok () w' ∧ IMap P k R w' b (upd s x d) ∧ Only (fun j => j = b) w w' := by
  obtain ⟨D, l, ho, h1, h2, hn, hl, hsz⟩ := h
  have hlen := hm l hn hl
  have K := Maps.int_keyed hk
  obtain ⟨w', hrun, ho', ht'⟩ := ho.store K ht (by omega) (Maps.keyOf_int_mk hk hx) hv
  have hD := ho.isMap
  have hT := ho.tidy K
  have hput := Maps.size_put (k := .int .i64 x) hT d
  refine ⟨w', hrun, ⟨D.put (.int .i64 x) d, if (s x).isSome then l else x :: l, ?_, fun y => ?_, fun y dy hy z => ?_, ?_, fun y => ?_, ?_⟩, (Only.of_grown ht'.grown).mono fun j hj => by injection hj with hj; exact hj.symm⟩
  · refine own_exact ho' ?_
    rw [hput, h1 x]
    split <;> simp_all
  · unfold upd
    by_cases e : y = x
    · subst e; rw [Maps.has_put_same hD (isKey_int _)]; simp
    · rw [Maps.has_put_other (key_ne e), h1 y]; simp [e]
  · unfold upd at hy
    by_cases e : y = x
    · subst e
      simp only [if_true, Option.some.injEq] at hy
      subst hy
      exact Maps.atKey_put_same hD (isKey_int _) _ _
    · rw [Maps.atKey_put_other (key_ne e)]
      exact h2 y dy (by simpa [e] using hy) z
  · split
    · exact hn
    · rename_i hc
      exact List.nodup_cons.2 ⟨fun hh => hc ((hl x).1 hh), hn⟩
  · unfold upd
    by_cases e : y = x
    · subst e
      simp only [if_true, Option.isSome_some, iff_true]
      split
      · rename_i hc; exact (hl y).2 hc
      · exact List.mem_cons_self
    · simp only [if_neg e]
      split
      · exact hl y
      · rw [List.mem_cons]; exact ⟨fun hh => hh.elim (fun q => absurd q e) (hl y).1, fun hh => .inr ((hl y).2 hh)⟩
  · rw [hput, h1 x]
    split <;> simp_all
theorem IMap.store (h : IMap P k R w b s) {m : Nat} (hm : ∀ x, (s x).isSome = true → 0 ≤ x ∧ x < m) (hmax : m < maxLen) {val : Value} {d : MDat} {ps : List MemPlace} (hv : R val = some (d, ps)) :
    ∃ w', (Instr.mapUpdate t (.map (some b)) (.int .i64 x) val).run P w = .ok () w' ∧ IMap P k R w' b (upd s x d) ∧ Only (fun j => j = b) w w' :=
  IMap.storeN hk ht hx h (fun l hn hl => nodup_short m l hn fun y hy => hm y ((hl y).1 hy)) hmax hv
theorem IMap.drop (h : IMap P k R w b s) (ty : TypeId) :
    ∃ w', (Builtin.delete_ #[t, k] ty #[.map (some b), .int .i64 x]).run P w = .ok (.tuple #[]) w' ∧ IMap P k R w' b (cut s x) ∧ Only (fun j => j = b) w w' := by
  obtain ⟨D, l, ho, h1, h2, hn, hl, hsz⟩ := h
  have K := Maps.int_keyed hk
  obtain ⟨w', hrun, ho', ht'⟩ := ho.drop K ht (Maps.keyOf_int_mk hk hx) ty
  have hT := ho.tidy K
  have hdel := Maps.size_del (k := .int .i64 x) hT
  have hlen := List.length_erase (a := x) (l := l)
  have hc : l.contains x = (s x).isSome := by
    rw [Bool.eq_iff_iff, List.contains_iff_mem]; exact hl x
  have hnew : Maps.size (D.del (.int .i64 x)) = (l.erase x).length := by
    rw [h1 x] at hdel
    have hpos : x ∈ l → 0 < l.length := List.length_pos_of_mem
    by_cases e : (s x).isSome = true
    · rw [if_pos e] at hdel
      have hm := (hl x).2 e
      have := hpos hm
      rw [if_pos hm] at hlen
      omega
    · rw [if_neg e] at hdel
      have hm : ¬ x ∈ l := fun q => e ((hl x).1 q)
      rw [if_neg hm] at hlen
      omega
  refine ⟨w', hrun, ⟨D.del (.int .i64 x), l.erase x, own_exact ho' (by omega), fun y => ?_, fun y dy hy z => ?_, hn.erase _, fun y => ?_, hnew⟩, (Only.of_grown ht'.grown).mono fun j hj => by injection hj with hj; exact hj.symm⟩
  · unfold cut
    by_cases e : y = x
    · subst e; rw [Maps.has_del_same]; simp
    · rw [Maps.has_del_other (key_ne e), h1 y]; simp [e]
  · unfold cut at hy
    by_cases e : y = x
    · simp [e] at hy
    · rw [Maps.atKey_del_other (key_ne e)]
      exact h2 y dy (by simpa [e] using hy) z
  · unfold cut
    rw [hn.mem_erase_iff]
    by_cases e : y = x
    · simp [e]
    · simp only [ne_eq, e, not_false_eq_true, true_and]; exact hl y
theorem IMap.look (h : IMap P k R w b s) {z : Value} (hz : (zeroValue e).run P w = .ok z w) {zd : MDat} {zp : List MemPlace} (hzd : R z = some (zd, zp)) :
    ∃ v ps, (Instr.lookup t (.map (some b)) (.int .i64 x) true).run P w = .ok (.tuple #[v, .bool (s x).isSome]) w ∧ R v = some ((s x).getD zd, ps) := by
  obtain ⟨D, l, ho, h1, h2, _⟩ := h
  obtain ⟨v, ps, hrun, hv⟩ := ho.look_ok (Maps.int_keyed hk) ht hz hzd (Maps.keyOf_int_mk hk hx)
  refine ⟨v, ps, by rw [hrun, h1 x], ?_⟩
  rw [hv]
  cases hs : s x with
  | none =>
    have := h1 x
    rw [hs] at this
    rw [Maps.atKey_of_not_has this]; rfl
  | some d => rw [h2 x d hs]; rfl
end

section
variable {P : Program} {w : World} {ops : Array Oper} {rest : List Oper} {o : Oper} {a : Act} {Q : Exit → Act → World → Prop}
/-- 'v, ok := m[x]'. -/
theorem wpList_look_imap (hg : o.guard = none) (m y : Operand) (t : TypeId) (hop : o.op = Op.lookup t m y true)
    (k e : TypeId) (hk : P.underlying k = some (.int .i64)) (ht : P.underlying t = some (.map k e)) (R : Value → Option (MDat × List MemPlace)) {z : Value} (hz : (zeroValue e).run P w = .ok z w) (zd : MDat) (zp : List MemPlace) (hzd : R z = some (zd, zp)) (b : Nat) (s : Int → Option MDat)
    (hm : a.eval m = .map (some b)) (hown : IMap P k R w b s) (x : Int) (hy : a.eval y = .int .i64 x) (hx : (Lit.int .i64 x).wf = true)
    (hK : ∀ v ps, R v = some ((s x).getD zd, ps) → wpList P ops Q rest (a.put o.dst (.tuple #[v, .bool (s x).isSome])) w) :
    wpList P ops Q (o :: rest) a w := by
  refine wpList_plain hg fun K' hK' => ?_
  obtain ⟨v, ps, hrun, hv⟩ := hown.look hk ht hx hz hzd
  unfold Oper.wp
  simp [execOp, hop, hm, hy, hrun, Result.andThen]
  exact hK' _ _ (hK v ps hv)
/-- 'm[x] = v'. -/
theorem wpList_store_imap (hg : o.guard = none) (m y v : Operand) (t : TypeId) (hop : o.op = Op.mapUpdate t m y v)
    (k e : TypeId) (hk : P.underlying k = some (.int .i64)) (ht : P.underlying t = some (.map k e)) (R : Value → Option (MDat × List MemPlace)) (b : Nat) (s : Int → Option MDat)
    (hm : a.eval m = .map (some b)) (hown : IMap P k R w b s) (x : Int) (hy : a.eval y = .int .i64 x) (hx : (Lit.int .i64 x).wf = true) (c : Nat) (hc : ∀ x, (s x).isSome = true → 0 ≤ x ∧ x < c) (hmax : c < maxLen)
    (val : Value) (hv : a.eval v = val) (d : MDat) (ps : List MemPlace) (hval : R val = some (d, ps))
    (hK : ∀ w', IMap P k R w' b (upd s x d) → Only (fun j => j = b) w w' → wpList P ops Q rest (a.put o.dst undef) w') :
    wpList P ops Q (o :: rest) a w := by
  refine wpList_plain hg fun K' hK' => ?_
  obtain ⟨w', hrun, r1, r2⟩ := hown.store hk ht hx hc hmax hval
  unfold Oper.wp
  simp [execOp, hop, hm, hy, hv, hrun, Result.andThen]
  exact hK' _ _ (hK w' r1 r2)
/-- 'delete(m, x)'. -/
theorem wpList_drop_imap (hg : o.guard = none) (m y : Operand) (t k : TypeId) (hop : o.op = Op.call { callee := Callee.builtin Builtin.delete, args := #[m, y], argTypes := #[t, k] })
    (e : TypeId) (hk : P.underlying k = some (.int .i64)) (ht : P.underlying t = some (.map k e)) (R : Value → Option (MDat × List MemPlace)) (b : Nat) (s : Int → Option MDat)
    (hm : a.eval m = .map (some b)) (hown : IMap P k R w b s) (x : Int) (hy : a.eval y = .int .i64 x) (hx : (Lit.int .i64 x).wf = true)
    (hK : ∀ w', IMap P k R w' b (cut s x) → Only (fun j => j = b) w w' → wpList P ops Q rest (a.put o.dst (.tuple #[])) w') :
    wpList P ops Q (o :: rest) a w := by
  refine wpList_plain hg fun K' hK' => ?_
  obtain ⟨w', hrun, r1, r2⟩ := hown.drop hk ht hx o.type
  unfold Oper.wp
  simp [execOp, hop, resolve, invoke, builtin, hm, hy, hrun, Result.andThen]
  exact hK' _ _ (hK w' r1 r2)
end

/-- How elements of one type read. -/
structure Elem (R : Value → Option (MDat × List MemPlace)) (α : Type) where
  g : α → MDat
  v : α → Value
  ok : α → Prop
  says : ∀ c, ok c → ∃ ps, R (v c) = some (g c, ps)
  inv : ∀ u c ps, R u = some (g c, ps) → u = v c
def elemInt {P : Program} {e : TypeId} (he : P.underlying e = some (.int .i64)) : Elem (plainElem P e) Int :=
  ⟨fun c => .lit (.int .i64 c), fun c => .int .i64 c, fun c => (Lit.int .i64 c).wf = true, fun c hc => ⟨[], plainElem_int he hc⟩, fun u c ps h => by
    obtain ⟨d, rfl, hd, _⟩ := plainElem_int_inv he h
    injection hd with h1 _
    injection h1 with h1
    injection h1 with _ h1
    rw [h1]⟩
def elemBool {P : Program} {e : TypeId} (he : P.underlying e = some .bool) : Elem (plainElem P e) Bool :=
  ⟨fun c => .lit (.bool c), fun c => .bool c, fun _ => True, fun c _ => ⟨[], plainElem_bool he c⟩, fun u c ps h => by
    unfold plainElem at h
    rw [he] at h
    cases u <;> simp at h
    rename_i d
    rw [h.1]⟩
def elemUnit : Elem unitElem Unit :=
  ⟨fun _ => .agg [], fun _ => .agg #[], fun _ => True, fun _ _ => ⟨[], unitElem_mk⟩, fun _ _ _ h => (unitElem_inv h).1⟩

/-- Block b is a map from ints that holds what f says. -/
def FMap (P : Program) (k : TypeId) {R : Value → Option (MDat × List MemPlace)} {α : Type} (E : Elem R α) (w : World) (b : Nat) (f : Int → Option α) : Prop := IMap P k R w b (fun x => (f x).map E.g)
def fput {α : Type} (f : Int → Option α) (x : Int) (c : α) : Int → Option α := fun y => if y = x then some c else f y
def fcut {α : Type} (f : Int → Option α) (x : Int) : Int → Option α := fun y => if y = x then none else f y
theorem upd_map {α : Type} (f : Int → Option α) (g : α → MDat) (x : Int) (c : α) : upd (fun x => (f x).map g) x (g c) = fun y => (fput f x c y).map g := by
  funext y; unfold upd fput; split <;> rfl
theorem cut_map {α : Type} (f : Int → Option α) (g : α → MDat) (x : Int) : cut (fun x => (f x).map g) x = fun y => (fcut f x y).map g := by
  funext y; unfold cut fcut; split <;> rfl

section
variable {P : Program} {k : TypeId} {R : Value → Option (MDat × List MemPlace)} {α : Type} {E : Elem R α} {w w' : World} {b : Nat} {f : Int → Option α}
theorem FMap.lt (h : FMap P k E w b f) : b < w.heap.size := IMap.lt h
theorem FMap.only {S : Nat → Prop} (h : FMap P k E w b f) (ho : Only S w w') (hs : ¬ S b) : FMap P k E w' b f := IMap.only h ho hs
theorem FMap.later (h : FMap P k E w b f) (hb : Below w.heap.size w w') : FMap P k E w' b f := IMap.later h hb
theorem fmap_made (P : Program) (k : TypeId) (E : Elem R α) (w : World) : FMap P k E (w.alloc (.map #[] 0)) w.heap.size (fun _ => none) := imap_made P k R w
theorem FMap.count (h : FMap P k E w b f) {m : Nat} (hm : ∀ x, (f x).isSome = true → 0 ≤ x ∧ x < m) : ∃ l : List Int, l.Nodup ∧ (∀ x, x ∈ l ↔ (f x).isSome = true) ∧ l.length ≤ m := by
  obtain ⟨l, h1, h2, h3⟩ := IMap.count h (m := m) fun x hx => hm x (by simpa using hx)
  exact ⟨l, h1, fun x => by rw [h2 x]; simp, h3⟩
theorem FMap.len {t e : TypeId} (h : FMap P k E w b f) (ht : P.underlying t = some (.map k e)) (ty : TypeId) : ∃ l : List Int, l.Nodup ∧ (∀ x, x ∈ l ↔ (f x).isSome = true) ∧
    (Builtin.len_ #[t] ty #[.map (some b)]).run P w = .ok (.int .i64 l.length) w := by
  obtain ⟨D, l, ho, _, _, hn, hl, hsz⟩ := h
  exact ⟨l, hn, fun x => by rw [hl x]; simp, by rw [ho.len ht ty, hsz]⟩
end
section
variable {P : Program} {w : World} {ops : Array Oper} {rest : List Oper} {o : Oper} {a : Act} {Q : Exit → Act → World → Prop}
/-- 'v, ok := m[x]'. -/
theorem wpList_look_fmap (hg : o.guard = none) (m y : Operand) (t : TypeId) (hop : o.op = Op.lookup t m y true)
    (k e : TypeId) (hk : P.underlying k = some (.int .i64)) (ht : P.underlying t = some (.map k e)) {R : Value → Option (MDat × List MemPlace)} {α : Type} (E : Elem R α) (z : α) (hzo : E.ok z) (hz : (zeroValue e).run P w = .ok (E.v z) w) (b : Nat) (f : Int → Option α)
    (hm : a.eval m = .map (some b)) (hown : FMap P k E w b f) (x : Int) (hy : a.eval y = .int .i64 x) (hx : (Lit.int .i64 x).wf = true)
    (hK : wpList P ops Q rest (a.put o.dst (.tuple #[E.v ((f x).getD z), .bool (f x).isSome])) w) :
    wpList P ops Q (o :: rest) a w := by
  obtain ⟨zp, hzd⟩ := E.says z hzo
  refine wpList_look_imap hg m y t hop k e hk ht R hz _ _ hzd b _ hm hown x hy hx fun v ps hv => ?_
  have e1 : ((f x).map E.g).getD (E.g z) = E.g ((f x).getD z) := by cases f x <;> rfl
  rw [e1] at hv
  rw [E.inv v _ ps hv, Option.isSome_map]
  exact hK
/-- 'v := m[x]'. -/
theorem wpList_look1_fmap (hg : o.guard = none) (m y : Operand) (t : TypeId) (hop : o.op = Op.lookup t m y false)
    (k e : TypeId) (hk : P.underlying k = some (.int .i64)) (ht : P.underlying t = some (.map k e)) {R : Value → Option (MDat × List MemPlace)} {α : Type} (E : Elem R α) (z : α) (hzo : E.ok z) (hz : (zeroValue e).run P w = .ok (E.v z) w) (b : Nat) (f : Int → Option α)
    (hm : a.eval m = .map (some b)) (hown : FMap P k E w b f) (x : Int) (hy : a.eval y = .int .i64 x) (hx : (Lit.int .i64 x).wf = true)
    (hK : wpList P ops Q rest (a.put o.dst (E.v ((f x).getD z))) w) :
    wpList P ops Q (o :: rest) a w := by
  refine wpList_plain hg fun K' hK' => ?_
  obtain ⟨zp, hzd⟩ := E.says z hzo
  obtain ⟨D, l, ho, h1, h2, _⟩ := hown
  obtain ⟨v, ps, hrun, hv⟩ := ho.lookup (Maps.int_keyed hk) ht hz hzd (Maps.keyOf_int_mk hk hx)
  have e1 : D.atKey (.int .i64 x) (E.g z) = E.g ((f x).getD z) := by
    have h3 : Maps.has D (.int .i64 x) = ((f x).map E.g).isSome := h1 x
    have h4 : ∀ d, (f x).map E.g = some d → ∀ z, D.atKey (.int .i64 x) z = d := h2 x
    cases hf : f x with
    | none =>
      rw [hf] at h3
      rw [Maps.atKey_of_not_has h3]; rfl
    | some c => rw [h4 (E.g c) (by rw [hf]; rfl)]; rfl
  rw [e1] at hv
  rw [E.inv v _ ps hv] at hrun
  unfold Oper.wp
  simp [execOp, hop, hm, hy, hrun, Result.andThen]
  exact hK' _ _ hK
/-- 'm[x] = c'. -/
theorem wpList_store_fmap (hg : o.guard = none) (m y v : Operand) (t : TypeId) (hop : o.op = Op.mapUpdate t m y v)
    (k e : TypeId) (hk : P.underlying k = some (.int .i64)) (ht : P.underlying t = some (.map k e)) {R : Value → Option (MDat × List MemPlace)} {α : Type} (E : Elem R α) (b : Nat) (f : Int → Option α)
    (hm : a.eval m = .map (some b)) (hown : FMap P k E w b f) (x : Int) (hy : a.eval y = .int .i64 x) (hx : (Lit.int .i64 x).wf = true) (n : Nat) (hn : ∀ x, (f x).isSome = true → 0 ≤ x ∧ x < n) (hmax : n < maxLen)
    (c : α) (hv : a.eval v = E.v c) (hc : E.ok c)
    (hK : ∀ w', FMap P k E w' b (fput f x c) → Only (fun j => j = b) w w' → wpList P ops Q rest (a.put o.dst undef) w') :
    wpList P ops Q (o :: rest) a w := by
  obtain ⟨ps, hval⟩ := E.says c hc
  refine wpList_store_imap hg m y v t hop k e hk ht R b _ hm hown x hy hx n (fun y hy => hn y (by simpa using hy)) hmax _ hv _ ps hval fun w' h1 h2 => hK w' ?_ h2
  rw [upd_map] at h1
  exact h1
/-- 'delete(m, x)'. -/
theorem wpList_drop_fmap (hg : o.guard = none) (m y : Operand) (t k : TypeId) (hop : o.op = Op.call { callee := Callee.builtin Builtin.delete, args := #[m, y], argTypes := #[t, k] })
    (e : TypeId) (hk : P.underlying k = some (.int .i64)) (ht : P.underlying t = some (.map k e)) {R : Value → Option (MDat × List MemPlace)} {α : Type} (E : Elem R α) (b : Nat) (f : Int → Option α)
    (hm : a.eval m = .map (some b)) (hown : FMap P k E w b f) (x : Int) (hy : a.eval y = .int .i64 x) (hx : (Lit.int .i64 x).wf = true)
    (hK : ∀ w', FMap P k E w' b (fcut f x) → Only (fun j => j = b) w w' → wpList P ops Q rest (a.put o.dst (.tuple #[])) w') :
    wpList P ops Q (o :: rest) a w := by
  refine wpList_drop_imap hg m y t k hop e hk ht R b _ hm hown x hy hx fun w' h1 h2 => hK w' ?_ h2
  rw [cut_map] at h1
  exact h1
/-- 'len(m)'. -/
theorem wpList_len_fmap (hg : o.guard = none) (m : Operand) (t : TypeId) (hop : o.op = Op.call { callee := Callee.builtin Builtin.len, args := #[m], argTypes := #[t] })
    (k e : TypeId) (ht : P.underlying t = some (.map k e)) {R : Value → Option (MDat × List MemPlace)} {α : Type} (E : Elem R α) (b : Nat) (f : Int → Option α) (hm : a.eval m = .map (some b)) (hown : FMap P k E w b f)
    (hK : ∀ l : List Int, l.Nodup → (∀ x, x ∈ l ↔ (f x).isSome = true) → wpList P ops Q rest (a.put o.dst (.int .i64 l.length)) w) :
    wpList P ops Q (o :: rest) a w := by
  obtain ⟨D, l, ho, _, _, hn, hl, hsz⟩ := hown
  refine wpList_len_own w hg m t hop k e ht R b _ D hm ho ?_
  rw [hsz]
  exact hK l hn fun x => by rw [hl x]; simp
end
end Go.Proofs.Ytndddfkebbeemaa
