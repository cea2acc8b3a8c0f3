/-
  A map as a finite function of keys of whatever kind (pairs of ints, ..): look-up, store. Of no program.
-/
import Derived.Test.YtndddfkebbeemaaFMapIn
import Derived.DeepKeys4
namespace Go.Proofs.Ytndddfkebbeemaa
open Go.RowKit Go Go.Maps

/-- How keys of one type are written. -/
structure KeyE (P : Program) (k : TypeId) (κ : Type) where
  v : κ → Value
  ok : κ → Prop
  lit : κ → Lit
  law : Keyed P k
  says : ∀ x, ok x → keyOf P k (v x) = some (lit x)
  inj : ∀ x y, v x = v y → x = y
/-- Block b is a map of at most n keys: at x it has what f says. -/
def KMap (P : Program) (k : TypeId) {κ : Type} (KE : KeyE P k κ) {R : Value → Option (MDat × List MemPlace)} {α : Type} (E : Elem R α) (w : World) (b n : Nat) (f : κ → Option α) : Prop :=
  ∃ D : MDat, w.ownsMap P k R b n D ∧ (∀ x, KE.ok x → Maps.has D (KE.lit x) = (f x).isSome) ∧ (∀ x c, KE.ok x → f x = some c → ∀ z, D.atKey (KE.lit x) z = E.g c)
open Classical in
noncomputable def kput {κ α : Type} (f : κ → Option α) (x : κ) (c : α) : κ → Option α := fun y => if y = x then some c else f y
theorem kput_same {κ α : Type} (f : κ → Option α) (x : κ) (c : α) : kput f x c x = some c := by unfold kput; rw [if_pos rfl]
theorem kput_other {κ α : Type} (f : κ → Option α) {x y : κ} (h : y ≠ x) (c : α) : kput f x c y = f y := by unfold kput; rw [if_neg h]
section
variable {P : Program} {k : TypeId} {κ : Type} {KE : KeyE P k κ} {R : Value → Option (MDat × List MemPlace)} {α : Type} {E : Elem R α} {w w' : World} {b n : Nat} {f : κ → Option α}
theorem KMap.lt (h : KMap P k KE E w b n f) : b < w.heap.size := by
  obtain ⟨D, ho, _⟩ := h
  exact ho.lt
theorem KMap.block (h : KMap P k KE E w b n f) {W : World} (hb : ∀ o, w.heap[b]? = some o → W.heap[b]? = some o) : KMap P k KE E W b n f := by
  obtain ⟨D, ⟨es, clock, hm, r⟩, q⟩ := h
  exact ⟨D, ⟨es, clock, hb _ hm, r⟩, q⟩
theorem KMap.only {S : Nat → Prop} (h : KMap P k KE E w b n f) (ho : Only S w w') (hs : ¬ S b) : KMap P k KE E w' b n f :=
  h.block fun _ hm => (ho.block b h.lt hs).trans hm
theorem KMap.later (h : KMap P k KE E w b n f) (hb : Below w.heap.size w w') : KMap P k KE E w' b n f :=
  h.only (Only.of_below (S := fun _ => False) hb) (fun h => h)
theorem kmap_made (P : Program) (k : TypeId) (KE : KeyE P k κ) (E : Elem R α) (w : World) : KMap P k KE E (w.alloc (.map #[] 0)) w.heap.size 0 (fun _ => none) :=
  ⟨.map [], World.ownsMap_made w P k R, fun _ _ => rfl, fun _ _ _ h => by simp at h⟩
theorem KMap.look {t e : TypeId} (h : KMap P k KE E w b n f) (ht : P.underlying t = some (.map k e)) (z : α) (hzo : E.ok z) (hz : (zeroValue e).run P w = .ok (E.v z) w) {x : κ} (hx : KE.ok x) :
    (Instr.lookup t (.map (some b)) (KE.v x) false).run P w = .ok (E.v ((f x).getD z)) w := by
  obtain ⟨zp, hzd⟩ := E.says z hzo
  obtain ⟨D, ho, h1, h2⟩ := h
  obtain ⟨v, ps, hrun, hv⟩ := ho.lookup KE.law ht hz hzd (KE.says x hx)
  have e1 : D.atKey (KE.lit x) (E.g z) = E.g ((f x).getD z) := by
    have h3 := h1 x hx
    cases hf : f x with
    | none =>
      rw [hf] at h3
      rw [Maps.atKey_of_not_has h3]; rfl
    | some c => rw [h2 x c hx hf]; rfl
  rw [e1] at hv
  rw [E.inv v _ ps hv] at hrun
  exact hrun
theorem KMap.store {t e : TypeId} (h : KMap P k KE E w b n f) (ht : P.underlying t = some (.map k e)) (hn : n < maxLen) {x : κ} (hx : KE.ok x) {c : α} (hc : E.ok c) :
    ∃ w', (Instr.mapUpdate t (.map (some b)) (KE.v x) (E.v c)).run P w = .ok () w' ∧ KMap P k KE E w' b (n + 1) (kput f x c) ∧ Only (fun j => j = b) w w' ∧ w.grownBy w' (some b) := by
  obtain ⟨ps, hval⟩ := E.says c hc
  obtain ⟨D, ho, h1, h2⟩ := h
  obtain ⟨w', hrun, ho', hg⟩ := ho.update KE.law ht hn (KE.says x hx) hval
  have hD := ho.isMap
  have hkl : WideAt.IsKeyLit (KE.lit x) := KE.law.key (KE.says x hx)
  refine ⟨w', hrun, ⟨_, ho', fun y hy => ?_, fun y d hy hd z => ?_⟩, (Only.of_grown hg).mono fun j hj => by injection hj with hj; exact hj.symm, hg⟩
  · by_cases e : y = x
    · subst e; rw [Maps.has_put_same hD hkl, kput_same]; rfl
    · rw [Maps.has_put_other (fun e2 => e (KE.inj _ _ (KE.law.inj (KE.says y hy) (by rw [e2]; exact KE.says x hx)))), h1 y hy, kput_other f e]
  · by_cases e : y = x
    · subst e
      rw [kput_same] at hd
      injection hd with hd
      subst hd
      exact Maps.atKey_put_same hD hkl _ _
    · rw [kput_other f e] at hd
      rw [Maps.atKey_put_other (fun e2 => e (KE.inj _ _ (KE.law.inj (KE.says y hy) (by rw [e2]; exact KE.says x hx))))]
      exact h2 y d hy hd z
end
section
variable {F : Fence} {nF : Nat} {P : Program} {w : World} {ops : Array Oper} {rest : List Oper} {o : Oper} {a : Act} {Q : Exit → Act → World → Prop}
/-- 'v := m[x]'. -/
theorem wpListIn_look1_kmap (hg : o.guard = none) (m y : Operand) (t : TypeId) (hop : o.op = Op.lookup t m y false)
    (k e : TypeId) (ht : P.underlying t = some (.map k e)) {κ : Type} (KE : KeyE P k κ) {R : Value → Option (MDat × List MemPlace)} {α : Type} (E : Elem R α) (z : α) (hzo : E.ok z) (hz : (zeroValue e).run P w = .ok (E.v z) w) (b n : Nat) (f : κ → Option α)
    (hm : a.eval m = .map (some b)) (hown : KMap P k KE E w b n f) (x : κ) (hy : a.eval y = KE.v x) (hx : KE.ok x)
    (hK : wpListIn F nF P ops Q rest (a.put o.dst (E.v ((f x).getD z))) w) :
    wpListIn F nF P ops Q (o :: rest) a w := by
  refine wpListIn_plain hg fun K' hK' => ?_
  have hrun := hown.look ht z hzo hz hx
  unfold Oper.wpIn
  refine ⟨by simp [Oper.about, hop], ?_⟩
  rw [Oper.semAt_plain F _ _ (by rw [hop]; intro c hc'; cases hc')]
  simp [execOp, hop, hm, hy, hrun, Result.andThen]
  exact hK' _ _ hK
/-- 'm[x] = c'. -/
theorem wpListIn_store_kmap (hg : o.guard = none) (m y v : Operand) (t : TypeId) (hop : o.op = Op.mapUpdate t m y v)
    (k e : TypeId) (ht : P.underlying t = some (.map k e)) {κ : Type} (KE : KeyE P k κ) {R : Value → Option (MDat × List MemPlace)} {α : Type} (E : Elem R α) (b n : Nat) (f : κ → Option α)
    (hm : a.eval m = .map (some b)) (hown : KMap P k KE E w b n f) (x : κ) (hy : a.eval y = KE.v x) (hx : KE.ok x) (hn : n < maxLen)
    (c : α) (hv : a.eval v = E.v c) (hc : E.ok c)
    (hK : ∀ w', KMap P k KE E w' b (n + 1) (kput f x c) → Only (fun j => j = b) w w' → w.grownBy w' (some b) → wpListIn F nF P ops Q rest (a.put o.dst undef) w') :
    wpListIn F nF P ops Q (o :: rest) a w := by
  refine wpListIn_plain hg fun K' hK' => ?_
  obtain ⟨w', hrun, r1, r2, r3⟩ := hown.store ht hn hx hc
  unfold Oper.wpIn
  refine ⟨by simp [Oper.about, hop], ?_⟩
  rw [Oper.semAt_plain F _ _ (by rw [hop]; intro c hc'; cases hc')]
  simp [execOp, hop, hm, hy, hv, hrun, Result.andThen]
  exact hK' _ _ (hK w' r1 r2 r3)
end
end Go.Proofs.Ytndddfkebbeemaa
