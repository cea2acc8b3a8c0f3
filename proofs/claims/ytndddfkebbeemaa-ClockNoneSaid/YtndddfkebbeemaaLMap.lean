/-
  A map as a finite function of keys of whatever kind, its keys told by a list: look-up, store, delete. Of no program.
-/
import Derived.Test.YtndddfkebbeemaaKMap
namespace Go.Proofs.Ytndddfkebbeemaa
open Go.RowKit Go Go.Maps

/-- Block b is a map: at x it has what f says. -/
def LMap (P : Program) (k : TypeId) {κ : Type} (KE : KeyE P k κ) {R : Value → Option (MDat × List MemPlace)} {α : Type} (E : Elem R α) (w : World) (b : Nat) (f : κ → Option α) : Prop :=
  ∃ (D : MDat) (l : List κ), w.ownsMap P k R b l.length D ∧ (∀ x, KE.ok x → Maps.has D (KE.lit x) = (f x).isSome) ∧ (∀ x c, KE.ok x → f x = some c → ∀ z, D.atKey (KE.lit x) z = E.g c)
    ∧ l.Nodup ∧ (∀ x, x ∈ l → KE.ok x) ∧ (∀ x, KE.ok x → (x ∈ l ↔ (f x).isSome = true)) ∧ Maps.size D = l.length
def lput {κ α : Type} [DecidableEq κ] (f : κ → Option α) (x : κ) (c : α) : κ → Option α := fun y => if y = x then some c else f y
def lcut {κ α : Type} [DecidableEq κ] (f : κ → Option α) (x : κ) : κ → Option α := fun y => if y = x then none else f y
/-- As many different ones as numbers. -/
theorem nodup_inj {κ : Type} {l : List κ} (hn : l.Nodup) (g : κ → Int) (m : Nat) (h1 : ∀ x ∈ l, 0 ≤ g x ∧ g x < m) (h2 : ∀ x ∈ l, ∀ y ∈ l, g x = g y → x = y) : l.length ≤ m := by
  have h3 : (l.map g).Nodup := by
    show List.Pairwise (· ≠ ·) (l.map g)
    rw [List.pairwise_map]
    exact List.Pairwise.imp_of_mem (R := (· ≠ ·)) (fun {a b} ha hb hne e => hne (h2 a ha b hb e)) hn
  have := nodup_short m (l.map g) h3 (fun y hy => by
    obtain ⟨x, hx, rfl⟩ := List.mem_map.1 hy
    exact h1 x hx)
  simpa using this
section
variable {P : Program} {k : TypeId} {κ : Type} {KE : KeyE P k κ} {R : Value → Option (MDat × List MemPlace)} {α : Type} {E : Elem R α} {w w' : World} {b : Nat} {f : κ → Option α}
theorem LMap.lt (h : LMap P k KE E w b f) : b < w.heap.size := by
  obtain ⟨D, l, ho, _⟩ := h
  exact ho.lt
theorem LMap.block (h : LMap P k KE E w b f) {W : World} (hb : W.heap[b]? = w.heap[b]?) : LMap P k KE E W b f := by
  obtain ⟨D, l, ⟨es, clock, hm, r⟩, q⟩ := h
  exact ⟨D, l, ⟨es, clock, hb.trans hm, r⟩, q⟩
theorem LMap.only {S : Nat → Prop} (h : LMap P k KE E w b f) (ho : Only S w w') (hs : ¬ S b) : LMap P k KE E w' b f := h.block (ho.block b h.lt hs)
theorem LMap.later (h : LMap P k KE E w b f) (hb : Below w.heap.size w w') : LMap P k KE E w' b f :=
  h.only (Only.of_below (S := fun _ => False) hb) (fun h => h)
theorem LMap.ext {g : κ → Option α} (h : LMap P k KE E w b f) (he : ∀ x, KE.ok x → g x = f x) : LMap P k KE E w b g := by
  obtain ⟨D, l, ho, h1, h2, hn, hk, hl, hsz⟩ := h
  exact ⟨D, l, ho, fun x hx => by rw [h1 x hx, he x hx], fun x c hx hc z => h2 x c hx (by rw [← he x hx]; exact hc) z, hn, hk, fun x hx => by rw [hl x hx, he x hx], hsz⟩
theorem lmap_made (P : Program) (k : TypeId) (KE : KeyE P k κ) (E : Elem R α) (w : World) : LMap P k KE E (w.alloc (.map #[] 0)) w.heap.size (fun _ => none) :=
  ⟨.map [], [], World.ownsMap_made w P k R, fun _ _ => rfl, fun _ _ _ h => by simp at h, List.nodup_nil, fun x h => absurd h List.not_mem_nil, fun x _ => by simp, rfl⟩
/-- It isn't a row of cells. -/
theorem LMap.map (h : LMap P k KE E w b f) : ∃ es clock, w.heap[b]? = some (.map es clock) := by
  obtain ⟨D, l, ⟨es, clock, hm, _⟩, _⟩ := h
  exact ⟨es, clock, hm⟩
theorem LMap.look {t e : TypeId} (h : LMap P k KE E w b f) (ht : P.underlying t = some (.map k e)) (z : α) (hzo : E.ok z) (hz : (zeroValue e).run P w = .ok (E.v z) w) {x : κ} (hx : KE.ok x) :
    (Instr.lookup t (.map (some b)) (KE.v x) true).run P w = .ok (.tuple #[E.v ((f x).getD z), .bool (f x).isSome]) w := by
  obtain ⟨zp, hzd⟩ := E.says z hzo
  obtain ⟨D, l, ho, h1, h2, _⟩ := h
  obtain ⟨v, ps, hrun, hv⟩ := ho.look_ok KE.law ht hz hzd (KE.says x hx)
  have e1 : D.atKey (KE.lit x) (E.g z) = E.g ((f x).getD z) := by
    have h3 := h1 x hx
    cases hf : f x with
    | none =>
      rw [hf] at h3
      rw [Maps.atKey_of_not_has h3]; rfl
    | some c => rw [h2 x c hx hf]; rfl
  rw [e1] at hv
  rw [E.inv v _ ps hv, h1 x hx] at hrun
  exact hrun
section
variable [DecidableEq κ]
theorem LMap.store {t e : TypeId} (h : LMap P k KE E w b f) (ht : P.underlying t = some (.map k e)) {m : Nat} (hm : ∀ l : List κ, l.Nodup → (∀ x, x ∈ l → KE.ok x ∧ (f x).isSome = true) → l.length ≤ m) (hmax : m < maxLen) {x : κ} (hx : KE.ok x) {c : α} (hc : E.ok c) :
    ∃ w', (Instr.mapUpdate t (.map (some b)) (KE.v x) (E.v c)).run P w = .ok () w' ∧ LMap P k KE E w' b (lput f x c) ∧ Only (fun j => j = b) w w' := by
  obtain ⟨ps, hval⟩ := E.says c hc
  obtain ⟨D, l, ho, h1, h2, hn, hko, hl, hsz⟩ := h
  have hlen := hm l hn (fun y hy => ⟨hko y hy, (hl y (hko y hy)).1 hy⟩)
  obtain ⟨w', hrun, ho', ht'⟩ := ho.store KE.law ht (by omega) (KE.says x hx) hval
  have hD := ho.isMap
  have hT := ho.tidy KE.law
  have hkl : WideAt.IsKeyLit (KE.lit x) := KE.law.key (KE.says x hx)
  have hne : ∀ y, KE.ok y → y ≠ x → KE.lit y ≠ KE.lit x := fun y hy e e2 => e (KE.inj _ _ (KE.law.inj (KE.says y hy) (by rw [e2]; exact KE.says x hx)))
  have hput := Maps.size_put (k := KE.lit x) hT (E.g c)
  refine ⟨w', hrun, ⟨D.put (KE.lit x) (E.g c), if (f x).isSome then l else x :: l, ?_, fun y hy => ?_, fun y d hy hd z => ?_, ?_, ?_, fun y hy => ?_, ?_⟩, (Only.of_grown ht'.grown).mono fun j hj => by injection hj with hj; exact hj.symm⟩
  · refine own_exact ho' ?_
    rw [hput, h1 x hx]
    split <;> simp_all
  · unfold lput
    by_cases e : y = x
    · subst e; rw [Maps.has_put_same hD hkl]; simp
    · rw [Maps.has_put_other (hne y hy e), h1 y hy]; simp [e]
  · unfold lput at hd
    by_cases e : y = x
    · subst e
      simp only [if_true, Option.some.injEq] at hd
      subst hd
      exact Maps.atKey_put_same hD hkl _ _
    · rw [Maps.atKey_put_other (hne y hy e)]
      exact h2 y d hy (by simpa [e] using hd) z
  · split
    · exact hn
    · rename_i hcc
      exact List.nodup_cons.2 ⟨fun hh => hcc ((hl x hx).1 hh), hn⟩
  · intro y hy
    split at hy
    · exact hko y hy
    · rcases List.mem_cons.1 hy with rfl | hy
      · exact hx
      · exact hko y hy
  · unfold lput
    by_cases e : y = x
    · subst e
      simp only [if_true, Option.isSome_some, iff_true]
      split
      · rename_i hcc; exact (hl y hy).2 hcc
      · exact List.mem_cons_self
    · simp only [if_neg e]
      split
      · exact hl y hy
      · rw [List.mem_cons]; exact ⟨fun hh => hh.elim (fun q => absurd q e) (hl y hy).1, fun hh => .inr ((hl y hy).2 hh)⟩
  · rw [hput, h1 x hx]
    split <;> simp_all
theorem LMap.drop {t e : TypeId} (h : LMap P k KE E w b f) (ht : P.underlying t = some (.map k e)) {x : κ} (hx : KE.ok x) (ty : TypeId) :
    ∃ w', (Builtin.delete_ #[t, k] ty #[.map (some b), KE.v x]).run P w = .ok (.tuple #[]) w' ∧ LMap P k KE E w' b (lcut f x) ∧ Only (fun j => j = b) w w' := by
  obtain ⟨D, l, ho, h1, h2, hn, hko, hl, hsz⟩ := h
  obtain ⟨w', hrun, ho', ht'⟩ := ho.drop KE.law ht (KE.says x hx) ty
  have hT := ho.tidy KE.law
  have hdel := Maps.size_del (k := KE.lit x) hT
  have hlen := List.length_erase (a := x) (l := l)
  have hne : ∀ y, KE.ok y → y ≠ x → KE.lit y ≠ KE.lit x := fun y hy e e2 => e (KE.inj _ _ (KE.law.inj (KE.says y hy) (by rw [e2]; exact KE.says x hx)))
  have hnew : Maps.size (D.del (KE.lit x)) = (l.erase x).length := by
    rw [h1 x hx] at hdel
    have hpos : x ∈ l → 0 < l.length := List.length_pos_of_mem
    by_cases e : (f x).isSome = true
    · rw [if_pos e] at hdel
      have hmm := (hl x hx).2 e
      have := hpos hmm
      rw [if_pos hmm] at hlen
      omega
    · rw [if_neg e] at hdel
      have hmm : ¬ x ∈ l := fun q => e ((hl x hx).1 q)
      rw [if_neg hmm] at hlen
      omega
  refine ⟨w', hrun, ⟨D.del (KE.lit x), l.erase x, own_exact ho' (by omega), fun y hy => ?_, fun y d hy hd z => ?_, hn.erase _, fun y hy => hko y (List.mem_of_mem_erase hy), fun y hy => ?_, hnew⟩, (Only.of_grown ht'.grown).mono fun j hj => by injection hj with hj; exact hj.symm⟩
  · unfold lcut
    by_cases e : y = x
    · subst e; rw [Maps.has_del_same]; simp
    · rw [Maps.has_del_other (hne y hy e), h1 y hy]; simp [e]
  · unfold lcut at hd
    by_cases e : y = x
    · simp [e] at hd
    · rw [Maps.atKey_del_other (hne y hy e)]
      exact h2 y d hy (by simpa [e] using hd) z
  · unfold lcut
    rw [hn.mem_erase_iff]
    by_cases e : y = x
    · simp [e]
    · simp only [ne_eq, e, not_false_eq_true, true_and]; exact hl y hy
end
end
section
variable {P : Program} {w : World} {ops : Array Oper} {rest : List Oper} {o : Oper} {a : Act} {Q : Exit → Act → World → Prop}
/-- 'v, ok := m[x]'. -/
theorem wpList_look_lmap (hg : o.guard = none) (m y : Operand) (t : TypeId) (hop : o.op = Op.lookup t m y true)
    (k e : TypeId) (ht : P.underlying t = some (.map k e)) {κ : Type} (KE : KeyE P k κ) {R : Value → Option (MDat × List MemPlace)} {α : Type} (E : Elem R α) (z : α) (hzo : E.ok z) (hz : (zeroValue e).run P w = .ok (E.v z) w) (b : Nat) (f : κ → Option α)
    (hm : a.eval m = .map (some b)) (hown : LMap P k KE E w b f) (x : κ) (hy : a.eval y = KE.v x) (hx : KE.ok x)
    (hK : wpList P ops Q rest (a.put o.dst (.tuple #[E.v ((f x).getD z), .bool (f x).isSome])) w) :
    wpList P ops Q (o :: rest) a w := by
  refine wpList_plain hg fun K' hK' => ?_
  have hrun := hown.look ht z hzo hz hx
  unfold Oper.wp
  simp [execOp, hop, hm, hy, hrun, Result.andThen]
  exact hK' _ _ hK
/-- 'm[x] = c'. -/
theorem wpList_store_lmap (hg : o.guard = none) (m y v : Operand) (t : TypeId) (hop : o.op = Op.mapUpdate t m y v)
    (k e : TypeId) (ht : P.underlying t = some (.map k e)) {κ : Type} [DecidableEq κ] (KE : KeyE P k κ) {R : Value → Option (MDat × List MemPlace)} {α : Type} (E : Elem R α) (b : Nat) (f : κ → Option α)
    (hm : a.eval m = .map (some b)) (hown : LMap P k KE E w b f) (x : κ) (hy : a.eval y = KE.v x) (hx : KE.ok x) (n : Nat) (hn : ∀ l : List κ, l.Nodup → (∀ x, x ∈ l → KE.ok x ∧ (f x).isSome = true) → l.length ≤ n) (hmax : n < maxLen)
    (c : α) (hv : a.eval v = E.v c) (hc : E.ok c)
    (hK : ∀ w', LMap P k KE E w' b (lput f x c) → Only (fun j => j = b) w w' → wpList P ops Q rest (a.put o.dst undef) w') :
    wpList P ops Q (o :: rest) a w := by
  refine wpList_plain hg fun K' hK' => ?_
  obtain ⟨w', hrun, r1, r2⟩ := hown.store ht hn hmax hx hc
  unfold Oper.wp
  simp [execOp, hop, hm, hy, hv, hrun, Result.andThen]
  exact hK' _ _ (hK w' r1 r2)
/-- 'delete(m, x)'. -/
theorem wpList_drop_lmap (hg : o.guard = none) (m y : Operand) (t k : TypeId) (hop : o.op = Op.call { callee := Callee.builtin Builtin.delete, args := #[m, y], argTypes := #[t, k] })
    (e : TypeId) (ht : P.underlying t = some (.map k e)) {κ : Type} [DecidableEq κ] (KE : KeyE P k κ) {R : Value → Option (MDat × List MemPlace)} {α : Type} (E : Elem R α) (b : Nat) (f : κ → Option α)
    (hm : a.eval m = .map (some b)) (hown : LMap P k KE E w b f) (x : κ) (hy : a.eval y = KE.v x) (hx : KE.ok x)
    (hK : ∀ w', LMap P k KE E w' b (lcut f x) → Only (fun j => j = b) w w' → wpList P ops Q rest (a.put o.dst (.tuple #[])) w') :
    wpList P ops Q (o :: rest) a w := by
  refine wpList_plain hg fun K' hK' => ?_
  obtain ⟨w', hrun, r1, r2⟩ := hown.drop ht hx o.type
  unfold Oper.wp
  simp [execOp, hop, resolve, invoke, builtin, hm, hy, hrun, Result.andThen]
  exact hK' _ _ (hK w' r1 r2)
end
section
variable {F : Fence} {nF : Nat} {P : Program} {w : World} {ops : Array Oper} {rest : List Oper} {o : Oper} {a : Act} {Q : Exit → Act → World → Prop}
/-- 'v, ok := m[x]' inside a fence. -/
theorem wpListIn_look_lmap (hg : o.guard = none) (m y : Operand) (t : TypeId) (hop : o.op = Op.lookup t m y true)
    (k e : TypeId) (ht : P.underlying t = some (.map k e)) {κ : Type} (KE : KeyE P k κ) {R : Value → Option (MDat × List MemPlace)} {α : Type} (E : Elem R α) (z : α) (hzo : E.ok z) (hz : (zeroValue e).run P w = .ok (E.v z) w) (b : Nat) (f : κ → Option α)
    (hm : a.eval m = .map (some b)) (hown : LMap P k KE E w b f) (x : κ) (hy : a.eval y = KE.v x) (hx : KE.ok x)
    (hK : wpListIn F nF P ops Q rest (a.put o.dst (.tuple #[E.v ((f x).getD z), .bool (f x).isSome])) w) :
    wpListIn F nF P ops Q (o :: rest) a w := by
  refine wpListIn_plain hg fun K' hK' => ?_
  have hrun := hown.look ht z hzo hz hx
  unfold Oper.wpIn
  refine ⟨by simp [Oper.about, hop], ?_⟩
  rw [Oper.semAt_plain F _ _ (by rw [hop]; intro c hc'; cases hc')]
  simp [execOp, hop, hm, hy, hrun, Result.andThen]
  exact hK' _ _ hK
end
end Go.Proofs.Ytndddfkebbeemaa
