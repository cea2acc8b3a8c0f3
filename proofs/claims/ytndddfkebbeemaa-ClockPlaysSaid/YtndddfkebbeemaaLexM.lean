/-
  Maps in drawn regions: look-up, store, delete by their runs; a look-up of the value alone. Of no program.
-/
import Derived.Test.YtndddfkebbeemaaLexH
import Derived.Test.YtndddfkebbeemaaLMap
namespace Go.Proofs.Ytndddfkebbeemaa
open Go.RowKit Go Go.Maps

section
variable {P : Program} {ops : Array Oper} {Q : Exit → Act → World → Prop} {S : World → Prop} {K : Act → World → Prop} {i : Nat} {r : List (Nat × Bool)} {a : Act} {w : World}
/-- A look-up in a drawn region. -/
theorem lexH_lookM {o : Oper} {v : Value} (hi : ops[i]? = some o) (hw : Region.wanted o (yielded ops a.tmps) = true) (t : TypeId) (m y : Operand) (c : Bool) (ho : o.op = .lookup t m y c) {u k : Value} (hm : a.eval m = u) (hy : a.eval y = k)
    (hv : ∀ W, S W → (Instr.lookup t u k c).run P W = .ok v W) (h : LexH P ops Q S K r (a.put o.dst v) w) : LexH P ops Q S K ((i, false) :: r) a w :=
  lexH_yield hi hw (fun W hW => by unfold execOp; simp only [ho, hm, hy, Sem.run_bind, Sem.run_pure, Result.andThen_ok, hv W hW]) h
/-- 'm[x] = c' by its run. -/
theorem wp_updM {Q : Exit → Act → World → Prop} {K : Act → World → Prop} {o : Oper} {t : TypeId} {m y v : Operand} (ho : o.op = .mapUpdate t m y v) {u k c : Value} (hm : a.eval m = u) (hy : a.eval y = k) (hv : a.eval v = c) {w' : World}
    (hr : (Instr.mapUpdate t u k c).run P w = .ok () w') (h : K (a.put o.dst undef) w') : o.wp P a w K Q := by
  unfold Oper.wp
  simp [execOp, ho, hm, hy, hv, hr, Result.andThen]
  exact h
end
section
variable {P : Program} {w : World} {ops : Array Oper} {rest : List Oper} {o : Oper} {a : Act} {Q : Exit → Act → World → Prop}
theorem wpList_lookM (hg : o.guard = none) (m y : Operand) (t : TypeId) (c : Bool) (hop : o.op = Op.lookup t m y c) {u k v : Value} (hm : a.eval m = u) (hy : a.eval y = k) (hr : (Instr.lookup t u k c).run P w = .ok v w)
    (hK : wpList P ops Q rest (a.put o.dst v) w) : wpList P ops Q (o :: rest) a w := by
  refine wpList_plain hg fun K' hK' => ?_
  unfold Oper.wp
  simp [execOp, hop, hm, hy, hr, Result.andThen]
  exact hK' _ _ hK
theorem wpList_updM (hg : o.guard = none) (m y v : Operand) (t : TypeId) (hop : o.op = Op.mapUpdate t m y v) {u k c : Value} (hm : a.eval m = u) (hy : a.eval y = k) (hv : a.eval v = c) {w' : World} (hr : (Instr.mapUpdate t u k c).run P w = .ok () w')
    (hK : wpList P ops Q rest (a.put o.dst undef) w') : wpList P ops Q (o :: rest) a w := by
  refine wpList_plain hg fun K' hK' => ?_
  unfold Oper.wp
  simp [execOp, hop, hm, hy, hv, hr, Result.andThen]
  exact hK' _ _ hK
theorem wpList_delM (hg : o.guard = none) (m y : Operand) (t k : TypeId) (hop : o.op = Op.call { callee := Callee.builtin Builtin.delete, args := #[m, y], argTypes := #[t, k] }) {u x : Value} (hm : a.eval m = u) (hy : a.eval y = x) {w' : World}
    (hr : (Builtin.delete_ #[t, k] o.type #[u, x]).run P w = .ok (.tuple #[]) w') (hK : wpList P ops Q rest (a.put o.dst (.tuple #[])) w') : wpList P ops Q (o :: rest) a w := by
  refine wpList_plain hg fun K' hK' => ?_
  unfold Oper.wp
  simp [execOp, hop, resolve, invoke, builtin, hm, hy, hr, Result.andThen]
  exact hK' _ _ hK
end
section
variable {F : Fence} {nF : Nat} {P : Program} {w : World} {ops : Array Oper} {rest : List Oper} {o : Oper} {a : Act} {Q : Exit → Act → World → Prop}
theorem wpListIn_lookM (hg : o.guard = none) (m y : Operand) (t : TypeId) (c : Bool) (hop : o.op = Op.lookup t m y c) {u k v : Value} (hm : a.eval m = u) (hy : a.eval y = k) (hr : (Instr.lookup t u k c).run P w = .ok v w)
    (hK : wpListIn F nF P ops Q rest (a.put o.dst v) w) : wpListIn F nF P ops Q (o :: rest) a w := by
  refine wpListIn_plain hg fun K' hK' => ?_
  unfold Oper.wpIn
  refine ⟨by simp [Oper.about, hop], ?_⟩
  rw [Oper.semAt_plain F _ _ (by rw [hop]; intro c hc'; cases hc')]
  simp [execOp, hop, hm, hy, hr, Result.andThen]
  exact hK' _ _ hK
end
section
variable {P : Program} {k : TypeId} {κ : Type} {KE : KeyE P k κ} {R : Value → Option (MDat × List MemPlace)} {α : Type} {E : Elem R α} {w w' : World} {b : Nat} {f : κ → Option α}
/-- 'm[x]', the value alone. -/
theorem LMap.look1 {t e : TypeId} (h : LMap P k KE E w b f) (ht : P.underlying t = some (.map k e)) (z : α) (hzo : E.ok z) (hz : (zeroValue e).run P w = .ok (E.v z) w) {x : κ} (hx : KE.ok x) :
    (Instr.lookup t (.map (some b)) (KE.v x) false).run P w = .ok (E.v ((f x).getD z)) w := by
  obtain ⟨zp, hzd⟩ := E.says z hzo
  obtain ⟨D, l, ho, h1, h2, _⟩ := h
  obtain ⟨v, ps, hrun, hv⟩ := ho.lookup KE.law ht hz hzd (KE.says x hx)
  have e1 : D.atKey (KE.lit x) (E.g z) = E.g ((f x).getD z) := by
    have h3 := h1 x hx
    cases hf : f x with
    | none =>
      rw [hf] at h3
      rw [Maps.atKey_of_not_has h3]; rfl
    | some c => rw [h2 x c hx hf]; rfl
  rw [e1] at hv
  rw [E.inv v _ ps hv] at hrun
  exact hrun
end
end Go.Proofs.Ytndddfkebbeemaa
