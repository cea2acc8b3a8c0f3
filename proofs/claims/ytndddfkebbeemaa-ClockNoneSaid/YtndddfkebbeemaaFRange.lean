/-
  'for x, c := range m' over a map from ints as a finite function: whichever key comes next. Of no program.
-/
import Derived.Test.YtndddfkebbeemaaIMap
import Derived.Maps.RangeWalk
namespace Go.Proofs.Ytndddfkebbeemaa
open Go.RowKit Go Go.Maps

/-- Block r goes over the map in block b, which holds what f says; 'left' are the keys that are still to come. -/
def FRange (P : Program) (k : TypeId) {R : Value → Option (MDat × List MemPlace)} {α : Type} (E : Elem R α) (w : World) (b r : Nat) (f : Int → Option α) (left : Int → Bool) : Prop :=
  ∃ (D : MDat) (l : List Int) (leftL : Lit → Bool) (cnt : Nat), w.ranges P k R b r l.length D leftL cnt ∧ (∀ x, leftL (.int .i64 x) = left x) ∧ (∀ x, left x = true → (f x).isSome = true)
    ∧ (∀ x, Maps.has D (.int .i64 x) = ((f x).map E.g).isSome) ∧ (∀ x d, (f x).map E.g = some d → ∀ z, D.atKey (.int .i64 x) z = d) ∧ l.Nodup ∧ (∀ x, x ∈ l ↔ ((f x).map E.g).isSome = true) ∧ Maps.size D = l.length
def strike (left : Int → Bool) (x : Int) : Int → Bool := fun y => left y && !(y == x)

section
variable {P : Program} {k : TypeId} {R : Value → Option (MDat × List MemPlace)} {α : Type} {E : Elem R α} {w w' : World} {b r : Nat} {f : Int → Option α} {left : Int → Bool}
theorem FRange.fmap (h : FRange P k E w b r f left) : FMap P k E w b f := by
  obtain ⟨D, l, _, _, h1, _, _, h4, h5, h6, h7, h8⟩ := h
  exact ⟨D, l, h1.owns, h4, h5, h6, h7, h8⟩
theorem FRange.lt (h : FRange P k E w b r f left) : b < w.heap.size ∧ r < w.heap.size ∧ r ≠ b := by
  have h0 := h.fmap.lt
  obtain ⟨D, l, _, _, h1, _⟩ := h
  exact ⟨h0, h1.lt, h1.ne⟩
theorem FRange.only {S : Nat → Prop} (h : FRange P k E w b r f left) (ho : Only S w w') (hb : ¬ S b) (hr : ¬ S r) : FRange P k E w' b r f left ∧ w'.rangeLeft b r = w.rangeLeft b r := by
  obtain ⟨h1, h2, _⟩ := h.lt
  have e1 := ho.block b h1 hb
  have e2 := ho.block r h2 hr
  obtain ⟨D, l, leftL, cnt, ⟨es, clock, since, seen, c0, q1, F, hs, hD, q2, rest⟩, q⟩ := h
  refine ⟨⟨D, l, leftL, cnt, ⟨es, clock, since, seen, c0, e1.trans q1, F, hs, hD, e2.trans q2, rest⟩, q⟩, ?_⟩
  unfold World.rangeLeft
  rw [e1, e2]
theorem FRange.later (h : FRange P k E w b r f left) (hb : Below w.heap.size w w') : FRange P k E w' b r f left ∧ w'.rangeLeft b r = w.rangeLeft b r :=
  h.only (Only.of_below (S := fun _ => False) hb) (fun h => h) (fun h => h)
end
section
variable {P : Program} {w : World} {ops : Array Oper} {rest : List Oper} {o : Oper} {a : Act} {Q : Exit → Act → World → Prop}
/-- 'range m'. -/
theorem wpList_range_fmap (hg : o.guard = none) (m : Operand) (t : TypeId) (hop : o.op = Op.range t m) (k e : TypeId) (hk : P.underlying k = some (.int .i64)) (ht : P.underlying t = some (.map k e))
    {R : Value → Option (MDat × List MemPlace)} {α : Type} (E : Elem R α) (b : Nat) (f : Int → Option α) (hm : a.eval m = .map (some b)) (hown : FMap P k E w b f)
    (hK : ∀ w', FRange P k E w' b w.heap.size f (fun x => (f x).isSome) → Below w.heap.size w w' → w'.heap.size = w.heap.size + 1 → wpList P ops Q rest (a.put o.dst (.pointer (some ⟨w.heap.size, 0, none⟩))) w') :
    wpList P ops Q (o :: rest) a w := by
  obtain ⟨D, l, ho, h1, h2, hn, hl, hsz⟩ := hown
  refine wpList_range_own w hg m t hop k e (Maps.int_keyed hk) ht R b _ D hm ho fun w' hr hgr hs => hK w' ?_ ?_ hs
  · exact ⟨D, l, _, _, hr, fun x => by rw [h1 x, Option.isSome_map], fun x hx => hx, h1, h2, hn, hl, hsz⟩
  · exact (Below.refl w.heap.size w).grown hgr (Nat.le_refl _) (fun k hk => by simp at hk)
/-- The step: nothing is left, or some key that is left comes. -/
theorem wpList_next_frange (hg : o.guard = none) (it : Operand) (hop : o.op = Op.next it false) (k : TypeId) (hk : P.underlying k = some (.int .i64)) {R : Value → Option (MDat × List MemPlace)} {α : Type} (E : Elem R α) (b r : Nat) (f : Int → Option α) (left : Int → Bool)
    (hit : a.eval it = .pointer (some ⟨r, 0, none⟩)) (h : FRange P k E w b r f left)
    (hDone : (∀ x, left x = false) → wpList P ops Q rest (a.put o.dst (.tuple #[.bool false])) w)
    (hMore : ∀ (x : Int) (c : α) (w' : World), (Lit.int .i64 x).wf = true → left x = true → f x = some c → FRange P k E w' b r f (strike left x) → w'.rangeLeft b r < w.rangeLeft b r → Only (fun j => j = r) w w' → w'.heap.size = w.heap.size →
      (Instr.entry (.pointer (some ⟨r, 0, none⟩))).run P w' = .ok (.tuple #[.int .i64 x, E.v c]) w' → wpList P ops Q rest (a.put o.dst (.tuple #[.bool true, .int .i64 x, E.v c])) w') :
    wpList P ops Q (o :: rest) a w := by
  obtain ⟨D, l, leftL, cnt, hr, h1, h2, h3, h4, h5⟩ := h
  refine wpList_plain hg fun K' hK' => ?_
  unfold Oper.wp
  rcases hr.next (Maps.int_keyed hk) o.type with ⟨_, hl, hrun⟩ | ⟨key, v, kl, y, w', cnt', hkey, hlk, hv, hat, hrun, hrg, hlt, hgr, hsz, hen⟩
  · simp [execOp, hop, hit, hrun, Result.andThen]
    exact hK' _ _ (hDone fun x => by rw [← h1 x]; exact hl _)
  · obtain ⟨x, rfl, rfl, hwx⟩ := Maps.keyOf_int_inv hk hkey
    have hx : left x = true := by rw [← h1 x]; exact hlk
    obtain ⟨c, hc⟩ := Option.isSome_iff_exists.1 (h2 x hx)
    have hy : y.1 = E.g c := by
      rw [← hat (E.g c)]
      exact h4 x (E.g c) (by rw [hc]; rfl) _
    have hvc : v = E.v c := E.inv v c y.2 (by rw [hv, ← hy])
    subst hvc
    simp [execOp, hop, hit, hrun, Result.andThen]
    refine hK' _ _ (hMore x c w' hwx hx hc ⟨D, l, _, cnt', hrg, fun z => ?_, fun z hz => ?_, h3, h4, h5⟩ ?_ ((Only.of_grown hgr).mono fun j hj => by injection hj with hj; exact hj.symm) hsz hen)
    · unfold strike
      rw [← h1 z]
      congr 2
      by_cases e : z = x
      · subst e; simp [WideAt.sameKey_self (isKey_int z)]
      · rw [Maps.sameKey_ne (key_ne e)]; simp [e]
    · unfold strike at hz
      exact h2 z (by simp at hz; exact hz.1)
    · rw [hrg.left_eq, hr.left_eq]; exact hlt
end
end Go.Proofs.Ytndddfkebbeemaa
