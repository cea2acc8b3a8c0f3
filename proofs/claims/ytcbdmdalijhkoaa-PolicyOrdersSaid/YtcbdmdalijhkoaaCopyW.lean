/-
  copy onto a row, as a run, as a step, and in a region that draws its order; a slice of a slice in a plain region. Of no program.
-/
import Derived.Test.YtcbdmdalijhkoaaLexApp
import Derived.Laws.CopyRow
import Derived.Laws.IdiomCopy
namespace Go.Proofs.Ytcbdmdalijhkoaa
open Go.RowKit Go

theorem run_copy_at {P : Program} {w : World} (dT sT ty elem : TypeId) (hu : P.underlying dT = some (.slice elem)) (hsz : (P.info? elem).map (·.size) = some 1)
    (dp sp : Option Addr) (dLen dCap sLen sCap : Nat) (g off n k : Nat) (f x : Nat → Value) (R : RowAt w g n f) (hk : k = Nat.min sLen dLen)
    (hpos : 0 < k → dp = some ⟨g, off, none⟩ ∧ ∃ ad, sp = some ad ∧ ∀ j, j < k → w.cell? (ad.add j) = some (x j))
    (hfit : off + k ≤ n) (h1 : ∀ j, j < k → (x j).oneCell' = true) :
    ∃ w', (Builtin.copy_ #[dT, sT] ty #[.slice dp dLen dCap, .slice sp sLen sCap]).run P w = .ok (goInt k) w' ∧ RowAt w' g n (putF f off k x) ∧ Only (Eq g) w w' ∧ w'.heap.size = w.heap.size := by
  by_cases h0 : k = 0
  · subst h0
    have hrun := run_copy_none (P := P) w dT sT ty elem dp sp dLen dCap sLen sCap hu hsz hk.symm
    exact ⟨w, hrun, by rw [putF_none]; exact R, Only.refl _ _, rfl⟩
  · obtain ⟨rfl, ad, rfl, hsrc⟩ := hpos (by omega)
    obtain ⟨A, t, hA, hf⟩ := R
    have hAs : n ≤ A.size := by
      by_cases hz : n = 0
      · omega
      · have := (Array.getElem?_eq_some_iff.1 (hf (n - 1) (by omega))).1
        omega
    have hl : ((List.range k).map x).length = k := by simp
    have hrun := run_copy_row (P := P) w dT sT ty elem g off dLen dCap ad sLen sCap A t ((List.range k).map x) hu hsz hA (by rw [hl]; exact hk)
      (fun j v hv => by
        have hj : j < k := by have := (List.getElem?_eq_some_iff.1 hv).1; simpa using this
        rw [List.getElem?_map, List.getElem?_range hj] at hv
        rw [hsrc j hj]; exact hv)
      (by rw [hl]; omega) (fun v hv => by
        obtain ⟨j, hj, rfl⟩ := List.mem_map.1 hv
        exact h1 j (List.mem_range.1 hj))
    rw [hl, List.append_assoc] at hrun
    exact ⟨_, hrun, RowAt.setRow_splice hA hf off k x hfit, Only.setRow w g rfl _, by simp [World.setRow]⟩
/-- copy, as a step. -/
theorem wp_copy_at {P : Program} {w : World} {o : Oper} {a : Act} {K : Act → World → Prop} {Q : Exit → Act → World → Prop} (d s : Operand) (dT sT : TypeId)
    (ho : o.op = .call { callee := .builtin .copy, args := #[d, s], argTypes := #[dT, sT] }) (elem : TypeId) (hu : P.underlying dT = some (.slice elem)) (hsz : (P.info? elem).map (·.size) = some 1)
    (dp sp : Option Addr) (dLen dCap sLen sCap : Nat) (hd : a.eval d = .slice dp dLen dCap) (hs : a.eval s = .slice sp sLen sCap)
    (g off n k : Nat) (f x : Nat → Value) (R : RowAt w g n f) (hk : k = Nat.min sLen dLen)
    (hpos : 0 < k → dp = some ⟨g, off, none⟩ ∧ ∃ ad, sp = some ad ∧ ∀ j, j < k → w.cell? (ad.add j) = some (x j))
    (hfit : off + k ≤ n) (h1 : ∀ j, j < k → (x j).oneCell' = true)
    (h : ∀ w', RowAt w' g n (putF f off k x) → Only (Eq g) w w' → w'.heap.size = w.heap.size → K (a.put o.dst (goInt k)) w') : o.wp P a w K Q := by
  obtain ⟨w', hr, h2, h3, h4⟩ := run_copy_at (P := P) (w := w) dT sT o.type elem hu hsz dp sp dLen dCap sLen sCap g off n k f x R hk hpos hfit h1
  unfold Oper.wp execOp
  simp only [ho, resolve, invoke, builtin, Sem.run_bind, Sem.run_pure, Result.andThen_ok, List.map_toArray, List.map_cons, List.map_nil, hd, hs, hr]
  exact h w' h2 h3 h4
/-- In a region that draws its order. -/
theorem lexH_copy {P : Program} {ops : Array Oper} {Q : Exit → Act → World → Prop} {S : World → Prop} {K : Act → World → Prop} {i : Nat} {r : List (Nat × Bool)} {a : Act}
    {w : World} {o : Oper} (hi : ops[i]? = some o) (hw : Region.wanted o (yielded ops a.tmps) = true) (d s : Operand) (dT sT : TypeId)
    (ho : o.op = .call { callee := .builtin .copy, args := #[d, s], argTypes := #[dT, sT] }) (elem : TypeId) (hu : P.underlying dT = some (.slice elem)) (hsz : (P.info? elem).map (·.size) = some 1)
    (dp sp : Option Addr) (dLen dCap sLen sCap : Nat) (hd : a.eval d = .slice dp dLen dCap) (hs : a.eval s = .slice sp sLen sCap)
    (g off n k : Nat) (f x : Nat → Value) (R : RowAt w g n f) (hk : k = Nat.min sLen dLen)
    (hpos : 0 < k → dp = some ⟨g, off, none⟩ ∧ ∃ ad, sp = some ad ∧ ∀ j, j < k → w.cell? (ad.add j) = some (x j))
    (hfit : off + k ≤ n) (h1 : ∀ j, j < k → (x j).oneCell' = true)
    (h : ∀ w', RowAt w' g n (putF f off k x) → Only (Eq g) w w' → w'.heap.size = w.heap.size → S w' ∧ LexH P ops Q S K r (a.put o.dst (goInt k)) w') : LexH P ops Q S K ((i, true) :: r) a w :=
  lexH_eff hi hw (wp_copy_at d s dT sT ho elem hu hsz dp sp dLen dCap sLen sCap hd hs g off n k f x R hk hpos hfit h1 h)
/-- A slice of a slice, in a plain region. -/
theorem wpList_sliceV {P : Program} {ops : Array Oper} {rest : List Oper} {o : Oper} {a : Act} {w : World} {Q : Exit → Act → World → Prop} (hgd : o.guard = none) (t : TypeId) (x : Operand) (lo hh mx : Option Operand) (ho : o.op = .slice t x lo hh mx) {v : Value}
    (hv : (Instr.sliceAt t (a.eval x) (lo.map a.eval) (hh.map a.eval) (mx.map a.eval)).run P w = .ok v w) (h : wpList P ops Q rest (a.put o.dst v) w) : wpList P ops Q (o :: rest) a w :=
  wpList_plain hgd fun K hK => by
    unfold Oper.wp execOp
    simp only [ho, Sem.run_bind, Sem.run_pure, Result.andThen_ok, hv]
    exact hK _ _ h
end Go.Proofs.Ytcbdmdalijhkoaa
