/-
  1 << k. Of no program.
-/
import Derived.Test.YtcbdmdalijhkoaaLexH
import Derived.Laws.Shifts
namespace Go.Proofs.Ytcbdmdalijhkoaa
open Go.RowKit Go

theorem two_pow_small {k : Nat} (hk : k ≤ 10) : 1 ≤ 2 ^ k ∧ 2 ^ k ≤ 1024 := by
  have h1 := Nat.pow_le_pow_right (n := 2) (by decide) hk
  have h2 := Nat.one_le_two_pow (n := k)
  exact ⟨h2, h1⟩
theorem run_shl1 {P : Program} {t : TypeId} (j : IntKind) (k : Nat) (hk : k ≤ 10) (W : World) : (binOp .shl t (.int .i64 1) (.int j k)).run P W = .ok (.int .i64 ((2 ^ k : Nat) : Int)) W := by
  have h := two_pow_small hk
  simp [binOp]
  rw [show ((2 : Int) ^ k) = ((2 ^ k : Nat) : Int) by simp, IntKind.wrap_i64]
  omega
/-- The operation, in a plain region. -/
theorem wpList_shl1 {P : Program} {ops : Array Oper} {rest : List Oper} {o : Oper} {a : Act} {w : World} {Q : Exit → Act → World → Prop} (hgd : o.guard = none) (t : TypeId) (x y : Operand) (ty : TypeId) (ho : o.op = .binOp .shl t x y ty)
    (j : IntKind) (k p : Nat) (hk : k ≤ 10) (hp : 2 ^ k = p) (hx : a.eval x = .int .i64 1) (hy : a.eval y = .int j k) (h : wpList P ops Q rest (a.put o.dst (.int .i64 p)) w) : wpList P ops Q (o :: rest) a w :=
  wpList_plain hgd fun _ hK => by
    subst hp
    unfold Oper.wp execOp
    simp only [ho, hx, hy, Sem.run_bind, eqGuard_shl, Sem.run_pure, Result.andThen_ok, run_shl1 j k hk w]
    exact hK _ _ h
end Go.Proofs.Ytcbdmdalijhkoaa
