/-
  areas: runs copied onto the areas' own; the rest cleared.
-/
import Derived.Test.YthnkbipdlepbaaaArJoin
import Derived.Laws.CopyRow
namespace Go.Proofs.Ythnkbipdlepbaaa
open Go.RowKit Go.Shelf Go

section
variable {P : Program}
/-- Cells laid over f from o on. -/
def laidF (f : Nat → Value) (o : Nat) (cs : List Value) (i : Nat) : Value := if o ≤ i ∧ i < o + cs.length then cs.getD (i - o) undef else f i
theorem laidF_none (f : Nat → Value) (o : Nat) : laidF f o [] = f := by
  funext i
  unfold laidF
  rw [if_neg (by intro h; have := h.2; simp at this; omega)]
theorem row_laid {w : World} {b n : Nat} {f : Nat → Value} {A : Array Value} {t : TypeId} (hA : w.heap[b]? = some (.cells A t (0, 0))) (hf : ∀ i, i < n → A[i]? = some (f i)) (o : Nat) (cs : List Value) (hfit : o + cs.length ≤ n) :
    RowAt (w.setRow b (A.toList.take o ++ cs ++ A.toList.drop (o + cs.length)).toArray) b n (laidF f o cs) := by
  have h := RowAt.setRow_splice hA hf o cs.length (fun j => cs.getD j undef) hfit
  have e : (List.range cs.length).map (fun j => cs.getD j undef) = cs := by
    apply List.ext_getElem
    · simp
    · intro i h1 h2
      simp [List.getD, h2]
  rw [e, ← List.append_assoc] at h
  exact h
theorem row_size {w : World} {b n : Nat} {f : Nat → Value} {A : Array Value} {t : TypeId} (_ : w.heap[b]? = some (.cells A t (0, 0))) (hf : ∀ i, i < n → A[i]? = some (f i)) : n ≤ A.size := by
  by_cases hz : n = 0
  · omega
  · have := (Array.getElem?_eq_some_iff.1 (hf (n - 1) (by omega))).1
    omega
theorem run_copy_recs (w : World) (dT sT ty elem : TypeId) (s k g o dLen dCap : Nat) (a : Addr) (sLen sCap : Nat) (cur : Array Value) (t : TypeId) (cs : List Value)
    (hu : P.underlying dT = some (.slice elem)) (hs : (P.info? elem).map (·.size) = some s)
    (hg : w.heap[g]? = some (.cells cur t (0, 0))) (hk : Nat.min sLen dLen = k) (hn : cs.length = k * s)
    (hsrc : ∀ j v, cs[j]? = some v → w.cell? (a.add j) = some v) (hfit : o + cs.length ≤ cur.size) (h1 : ∀ v ∈ cs, v.oneCell' = true) :
    (Builtin.copy_ #[dT, sT] ty #[.slice (some ⟨g, o, none⟩) dLen dCap, .slice (some a) sLen sCap]).run P w =
      .ok (goInt k) (w.setRow g (cur.toList.take o ++ cs ++ cur.toList.drop (o + cs.length)).toArray) := by
  have hl := run_loadCells_list (P := P) w a cs hsrc
  have hst := run_storeCells_at P g o t cs 0 cur w hg (by simpa using hfit) h1
  cases hq : P.info? elem with
  | none => simp [hq] at hs
  | some i =>
    have hi : i.size = s := by simpa [hq] using hs
    rw [hn] at hl
    simp [Builtin.copy_, run_underlying hu, Builtin.lenOf, Builtin.firstCells, sizeOf, typeInfo, hq, hi, hk, hl, hst]
theorem run_copy_norecs (w : World) (dT sT ty elem : TypeId) (s : Nat) (d a : Option Addr) (dLen dCap sLen sCap : Nat) (hu : P.underlying dT = some (.slice elem)) (hs : (P.info? elem).map (·.size) = some s) (hn : Nat.min sLen dLen = 0) :
    (Builtin.copy_ #[dT, sT] ty #[.slice d dLen dCap, .slice a sLen sCap]).run P w = .ok (goInt 0) w := by
  cases hq : P.info? elem with
  | none => simp [hq] at hs
  | some i =>
    have hl : ∀ (x : Addr), (loadCells x 0).run P w = .ok #[] w := fun x => by simpa using run_loadCells_list (P := P) w x [] (by simp)
    cases d <;> cases a <;> simp [Builtin.copy_, run_underlying hu, Builtin.lenOf, Builtin.firstCells, sizeOf, typeInfo, hq, hn, storeCells, hl]
end
/-- copy(a.runs[:], runs), as many as there are. -/
theorem run_copy_runs {w : World} {b B : Nat} {f : Nat → Value} {M : Rns} {v : Value} (T : TypeId) (R : RowAt w b 97 f) (hO : w.ownsRow B TRun 3 v M.length (recV encR M)) (hl : M.length ≤ 32) :
    ∃ w', (Builtin.copy_ #[49, 49] T #[.slice (some ⟨b, 1, none⟩) 32 32, v]).run Try.prog w = .ok (goInt M.length) w' ∧ RowAt w' b 97 (laidF f 1 (recV encR M)) ∧ Only (fun k => k = b) w w' := by
  by_cases h0 : M.length = 0
  · obtain rfl : M = [] := List.eq_nil_of_length_eq_zero h0
    obtain ⟨a, c, rfl, _⟩ := owns_slice hO
    refine ⟨w, run_copy_norecs w _ _ _ 39 3 _ a 32 32 0 c Try.underlying49 sizeRun (by simp), ?_, Only.refl _ _⟩
    rw [show recV encR [] = [] from rfl, laidF_none]
    exact R
  · obtain ⟨g, c, rfl, _, _, _, hcell, _⟩ := owns_where hO (by omega)
    obtain ⟨A, t, hA, hf⟩ := R
    have hsz := row_size hA hf
    have hlen := recV_len encR_len M
    refine ⟨_, run_copy_recs w _ _ _ 39 3 M.length b 1 32 32 ⟨g, 0, none⟩ M.length c A t (recV encR M) Try.underlying49 sizeRun hA (Nat.min_eq_left hl) hlen (fun j u hj => ?_) (by omega) (recV_one encR_one M), row_laid hA hf 1 _ (by omega), Only.setRow (S := fun k => k = b) w b rfl _⟩
    rw [Addr.add_lit, Nat.zero_add]
    exact hcell j u (by have := (List.getElem?_eq_some_iff.1 hj).1; omega) hj
/-- Nothing, n times. -/
def noneL (n : Nat) : List Value := recV encR (List.replicate n (0, 0, 0))
theorem noneL_len (n : Nat) : (noneL n).length = n * 3 := by rw [noneL, recV_len encR_len, List.length_replicate]
theorem noneL_zero (n : Nat) : (Builtin.zeroCells #[.int .i64 0, .int .i64 0, .int .u8 0] n).toList = noneL n := by
  apply List.ext_getElem?
  intro i
  by_cases hi : i < n * 3
  · have h1 := recV_at encR_len (List.replicate n (0, 0, 0)) (i / 3) (0, 0, 0) (by rw [List.getElem?_replicate, if_pos (by omega)]) (i % 3)
    have e : i / 3 * 3 + i % 3 = i := by omega
    have h2 : (Builtin.zeroCells #[.int .i64 0, .int .i64 0, .int .u8 0] n).toList[i]? = some ((#[.int .i64 0, .int .i64 0, .int .u8 0] : Array Value)[i % 3]!) := by
      simp [Builtin.zeroCells, hi]
    rw [h2]
    have hm : i % 3 = 0 ∨ i % 3 = 1 ∨ i % 3 = 2 := by omega
    rcases hm with h | h | h
    · rw [h] at h1 e ⊢
      have := h1 (.int .i64 0) rfl
      rw [e] at this
      exact this.symm
    · rw [h] at h1 e ⊢
      have := h1 (.int .i64 0) rfl
      rw [e] at this
      exact this.symm
    · rw [h] at h1 e ⊢
      have := h1 (.int .u8 0) rfl
      rw [e] at this
      exact this.symm
  · rw [List.getElem?_eq_none (by simp [Builtin.zeroCells]; omega), List.getElem?_eq_none (by rw [noneL_len]; omega)]
theorem zeroRun (w : World) : (zeroValue 39).run Try.prog w = .ok (.agg #[.int .i64 0, .int .i64 0, .int .u8 0]) w := by kernel_rfl
/-- clear(a.runs[n:]). -/
theorem run_clear_runs {w : World} {b : Nat} {f : Nat → Value} (T : TypeId) (R : RowAt w b 97 f) (n : Nat) (hn : n ≤ 32) :
    ∃ w', (Builtin.clear_ #[49] T #[fromV b 1 32 3 n]).run Try.prog w = .ok (.tuple #[]) w' ∧ RowAt w' b 97 (laidF f (1 + n * 3) (noneL (32 - n))) ∧ Only (fun k => k = b) w w' := by
  by_cases h : 32 = n
  · subst h
    refine ⟨w, ?_, ?_, Only.refl _ _⟩
    · unfold Builtin.clear_ fromV
      simp [run_underlying Try.underlying49, Result.andThen]
    · rw [show noneL (32 - 32) = [] from rfl, laidF_none]
      exact R
  · obtain ⟨A, t, hA, hf⟩ := R
    have hsz := row_size hA hf
    have hlen := noneL_len (32 - n)
    have hst := run_storeCells_at (P := Try.prog) b (1 + n * 3) t (noneL (32 - n)) 0 A w hA (by omega) (recV_one encR_one _)
    refine ⟨_, ?_, row_laid hA hf (1 + n * 3) (noneL (32 - n)) (by omega), Only.setRow (S := fun k => k = b) w b rfl _⟩
    obtain ⟨m, hm⟩ : ∃ m, 32 - n = m + 1 := ⟨32 - n - 1, by omega⟩
    rw [hm] at hst ⊢
    have hz := noneL_zero (m + 1)
    unfold Builtin.clear_ fromV
    rw [if_neg h, hm]
    simp [run_underlying Try.underlying49, Result.andThen]
    simp only [Value.cells]
    rw [hz, hst]
    simp
/-- Both together. -/
theorem laid_all (f : Nat → Value) (M : Rns) (hl : M.length ≤ 32) (i : Nat) (hi : i < 97) : laidF (updV (laidF f 1 (recV encR M)) 0 (.int .i64 M.length)) (1 + M.length * 3) (noneL (32 - M.length)) i = arV M i := by
  have h1 := recV_len encR_len M
  have h2 := noneL_len (32 - M.length)
  have e : arL M = .int .i64 M.length :: (recV encR M ++ noneL (32 - M.length)) := by rw [arL, padR, recV_append]; rfl
  unfold arV laidF updV
  rw [e]
  by_cases c1 : 1 + M.length * 3 ≤ i
  · rw [if_pos (by omega)]
    obtain ⟨j, rfl⟩ : ∃ j, i = j + 1 := ⟨i - 1, by omega⟩
    simp only [List.getD, List.getElem?_cons_succ]
    rw [List.getElem?_append_right (by omega), h1, show j + 1 - (1 + M.length * 3) = j - M.length * 3 by omega]
  · rw [if_neg (by omega)]
    by_cases c0 : i = 0
    · subst c0
      rfl
    · rw [if_neg c0]
      dsimp only
      rw [if_pos (by omega)]
      obtain ⟨j, rfl⟩ : ∃ j, i = j + 1 := ⟨i - 1, by omega⟩
      simp only [List.getD, List.getElem?_cons_succ, Nat.add_sub_cancel]
      rw [List.getElem?_append_left (by omega)]
end Go.Proofs.Ythnkbipdlepbaaa
