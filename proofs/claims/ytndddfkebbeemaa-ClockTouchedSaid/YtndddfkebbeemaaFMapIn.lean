/-
  Maps from ints as finite functions: look-up, store, delete, len inside a fence; an operation by its run. Of no program.
-/
import Derived.Test.YtndddfkebbeemaaFRange
import Derived.OwnWalkIn
import Derived.Maps.OwnIn
namespace Go.Proofs.Ytndddfkebbeemaa
open Go.RowKit Go Go.Maps

section
variable {F : Fence} {nF : Nat} {P : Program} {w : World} {ops : Array Oper} {rest : List Oper} {o : Oper} {a : Act} {Q : Exit → Act → World → Prop}
/-- 'len(m)'. -/
theorem wpListIn_len_fmap (hg : o.guard = none) (m : Operand) (t : TypeId) (hop : o.op = Op.call { callee := Callee.builtin Builtin.len, args := #[m], argTypes := #[t] })
    (k e : TypeId) (ht : P.underlying t = some (.map k e)) {R : Value → Option (MDat × List MemPlace)} {α : Type} (E : Elem R α) (b : Nat) (f : Int → Option α) (hm : a.eval m = .map (some b)) (hown : FMap P k E w b f)
    (hK : ∀ l : List Int, l.Nodup → (∀ x, x ∈ l ↔ (f x).isSome = true) → wpListIn F nF P ops Q rest (a.put o.dst (.int .i64 l.length)) w) :
    wpListIn F nF P ops Q (o :: rest) a w := by
  refine wpListIn_plain hg fun K' hK' => ?_
  obtain ⟨l, hn, hl, hrun⟩ := hown.len ht o.type
  unfold Oper.wpIn
  refine ⟨by simp [Oper.about, hop, resolve, Target.leads, Sem.run_pure], ?_⟩
  rw [Oper.semAt_plain F _ _ (by rw [hop]; intro c hc'; cases hc')]
  simp [execOp, hop, resolve, invoke, builtin, hm, hrun, Result.andThen]
  exact hK' _ _ (hK l hn hl)
/-- 'v, ok := m[x]'. -/
theorem wpListIn_look_fmap (hg : o.guard = none) (m y : Operand) (t : TypeId) (hop : o.op = Op.lookup t m y true)
    (k e : TypeId) (hk : P.underlying k = some (.int .i64)) (ht : P.underlying t = some (.map k e)) {R : Value → Option (MDat × List MemPlace)} {α : Type} (E : Elem R α) (z : α) (hzo : E.ok z) (hz : (zeroValue e).run P w = .ok (E.v z) w) (b : Nat) (f : Int → Option α)
    (hm : a.eval m = .map (some b)) (hown : FMap P k E w b f) (x : Int) (hy : a.eval y = .int .i64 x) (hx : (Lit.int .i64 x).wf = true)
    (hK : wpListIn F nF P ops Q rest (a.put o.dst (.tuple #[E.v ((f x).getD z), .bool (f x).isSome])) w) :
    wpListIn F nF P ops Q (o :: rest) a w := by
  obtain ⟨zp, hzd⟩ := E.says z hzo
  refine wpListIn_plain hg fun K' hK' => ?_
  obtain ⟨v, ps, hrun, hv⟩ := IMap.look hk ht hx hown hz hzd
  have e1 : ((f x).map E.g).getD (E.g z) = E.g ((f x).getD z) := by cases f x <;> rfl
  rw [e1] at hv
  rw [E.inv v _ ps hv, Option.isSome_map] at hrun
  unfold Oper.wpIn
  refine ⟨by simp [Oper.about, hop], ?_⟩
  rw [Oper.semAt_plain F _ _ (by rw [hop]; intro c hc'; cases hc')]
  simp [execOp, hop, hm, hy, hrun, Result.andThen]
  exact hK' _ _ hK
/-- 'm[x] = c'. -/
theorem wpListIn_store_fmap (hg : o.guard = none) (m y v : Operand) (t : TypeId) (hop : o.op = Op.mapUpdate t m y v)
    (k e : TypeId) (hk : P.underlying k = some (.int .i64)) (ht : P.underlying t = some (.map k e)) {R : Value → Option (MDat × List MemPlace)} {α : Type} (E : Elem R α) (b : Nat) (f : Int → Option α)
    (hm : a.eval m = .map (some b)) (hown : FMap P k E w b f) (x : Int) (hy : a.eval y = .int .i64 x) (hx : (Lit.int .i64 x).wf = true) (n : Nat) (hn : ∀ x, (f x).isSome = true → 0 ≤ x ∧ x < n) (hmax : n < maxLen)
    (c : α) (hv : a.eval v = E.v c) (hc : E.ok c)
    (hK : ∀ w', FMap P k E w' b (fput f x c) → Only (fun j => j = b) w w' → wpListIn F nF P ops Q rest (a.put o.dst undef) w') :
    wpListIn F nF P ops Q (o :: rest) a w := by
  obtain ⟨ps, hval⟩ := E.says c hc
  refine wpListIn_plain hg fun K' hK' => ?_
  obtain ⟨w', hrun, r1, r2⟩ := IMap.store hk ht hx hown (fun y hy => hn y (by simpa using hy)) hmax hval
  rw [upd_map] at r1
  unfold Oper.wpIn
  refine ⟨by simp [Oper.about, hop], ?_⟩
  rw [Oper.semAt_plain F _ _ (by rw [hop]; intro c hc'; cases hc')]
  simp [execOp, hop, hm, hy, hv, hrun, Result.andThen]
  exact hK' _ _ (hK w' r1 r2)
/-- A store of a whole by its run. -/
theorem wpListIn_store_run (hgd : o.guard = none) (ty : TypeId) (x y : Operand) (ho : o.op = .store ty x y)
    (b : Nat) (cells : Array Value) (w2 : World) (hx : a.eval x = .pointer (some ⟨b, 0, none⟩)) (hy : a.eval y = .agg cells)
    (hr : (storeVar ty ⟨b, 0, none⟩ (.agg cells)).run P w = .ok () w2)
    (h : wpListIn F nF P ops Q rest (a.put o.dst undef) w2) : wpListIn F nF P ops Q (o :: rest) a w := by
  refine wpListIn_plain hgd fun K' hK' => ?_
  unfold Oper.wpIn
  refine ⟨by simp [Oper.about, ho], ?_⟩
  rw [Oper.semAt_plain F _ _ (by rw [ho]; intro c hc'; cases hc')]
  unfold execOp
  simp only [ho, hx, hy, Instr.storeAt, Instr.sureAddr, Sem.run_bind, Sem.run_pure, Result.andThen_ok, hr]
  exact hK' _ _ h
end
end Go.Proofs.Ytndddfkebbeemaa
