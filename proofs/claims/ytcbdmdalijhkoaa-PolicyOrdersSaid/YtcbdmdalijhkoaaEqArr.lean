/-
  Arrays compared. Of no program.
-/
import Derived.Test.YtcbdmdalijhkoaaArr
import Derived.Laws.StructEq
namespace Go.Proofs.Ytcbdmdalijhkoaa
open Go.RowKit Go

def allR (n : Nat) (p : Nat → Bool) : Bool := (List.range n).all p
theorem forIn_all {P : Program} {w : World} {β : Type} (F : Nat → β → Sem (ForInStep β)) (b : Nat → Bool) (r0 r1 : β) : ∀ (l : List Nat), (∀ i ∈ l, (F i r0).run P w = .ok (if b i then .yield r0 else .done r1) w) →
    (forIn l r0 F).run P w = .ok (if l.all b then r0 else r1) w
  | [], _ => by simp
  | i :: l, h => by
    rw [List.forIn_cons, Sem.run_bind, h i (by simp)]
    by_cases hb : b i = true
    · simp only [hb, if_true, Result.andThen_ok, List.all_cons, Bool.true_and]
      exact forIn_all F b r0 r1 l (fun j hj => h j (by simp [hj]))
    · simp [hb]

theorem run_equalIn_array {P : Program} (w : World) {d : Nat} {t e : TypeId} {len n : Nat} (xs ys : Array Value) (b : Nat → Bool) (ht : P.underlying t = some (.array len e)) (hs : ∀ w, (sizeOf e).run P w = .ok n w)
    (hq : ∀ i, i < len → ∃ u v, (part e xs (i * n)).run P w = .ok u w ∧ (part e ys (i * n)).run P w = .ok v w ∧ (Op.equalIn d e u v).run P w = .ok (b i) w) :
    (Op.equalIn (d + 1) t (.agg xs) (.agg ys)).run P w = .ok (allR len b) w := by
  simp only [Op.equalIn, Sem.run_bind, run_underlying ht, Result.andThen_ok, hs]
  rw [Std.Legacy.Range.forIn_eq_forIn_range']
  have hb : ∀ i, i < len → ∃ u v, (part e xs (i * n)).run P w = .ok u w ∧ (part e ys (i * n)).run P w = .ok v w ∧ (Op.equalIn d e u v).run P w = .ok (b i) w := hq
  rw [forIn_all (P := P) (w := w) _ b (none, ()) (some false, ()) _ (fun i hi => by
    obtain ⟨u, v, h1, h2, h3⟩ := hb i (by simpa using hi)
    simp only [Sem.run_bind, h1, h2, h3, Result.andThen_ok]
    cases b i <;> simp)]
  have el : (List.range' (0 : Nat) len 1) = List.range len := by rw [List.range_eq_range']
  simp only [Result.andThen_ok, Std.Legacy.Range.size, Nat.sub_zero, Nat.add_sub_cancel, Nat.div_one, el]
  unfold allR
  cases (List.range len).all b <;> simp

theorem part_int {P : Program} {w : World} {t : TypeId} {xs : Array Value} {o : Nat} {x : Value} (ha : ∀ w, (isAgg t).run P w = .ok false w) (h : xs[o]? = some x) : (part t xs o).run P w = .ok x w := by
  simp [part, Sem.run_bind, ha, h]
/-- An array of ints of the one compared with that of the other. -/
theorem equal_ints {P : Program} (w : World) {d : Nat} {t e : TypeId} {len : Nat} {xs ys : Array Value} (f h : Nat → Int) (ht : P.underlying t = some (.array len e)) (hu : P.underlying e = some (.int .i64)) (hs : ∀ w, (sizeOf e).run P w = .ok 1 w) (ha : ∀ w, (isAgg e).run P w = .ok false w)
    (hx : ∀ i, i < len → xs[i]? = some (.int .i64 (f i))) (hy : ∀ i, i < len → ys[i]? = some (.int .i64 (h i))) :
    (Op.equalIn (d + 2) t (.agg xs) (.agg ys)).run P w = .ok (allR len fun i => f i == h i) w :=
  run_equalIn_array w xs ys _ ht hs (fun i hi => ⟨_, _, part_int ha (by rw [Nat.mul_one]; exact hx i hi), part_int ha (by rw [Nat.mul_one]; exact hy i hi), run_equalIn_int w d e .i64 .i64 _ _ hu⟩)
end Go.Proofs.Ytcbdmdalijhkoaa
