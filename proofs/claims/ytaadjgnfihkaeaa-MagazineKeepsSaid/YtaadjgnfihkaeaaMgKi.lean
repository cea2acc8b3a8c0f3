/-
  magazine's law: what was put and loaded is what was got, unloaded, and is there: the numbers.
-/
import Derived.Test.YtaadjgnfihkaeaaMgKp
namespace Go.Proofs.Ytaadjgnfihkaeaa
open Go.RowKit Go
/-- All numbers up to n; those that came in; those that went out; the pile. -/
def KI (n : Nat) (I T : List Int) (S : Obs) : Prop := I.Perm (T ++ S.map Prod.fst) ∧ (∀ x ∈ I, 1 ≤ x ∧ x ≤ (n : Int)) ∧ I.length ≤ n
section
variable {n c N : Nat} {I T : List Int} {S : Obs}
theorem KI.zero : KI 0 [] [] [] := ⟨List.Perm.refl _, fun _ h => absurd h List.not_mem_nil, Nat.le_refl _⟩
theorem KI.len (h : KI n I T S) : I.length = T.length + S.length := by
  have := h.1.length_eq
  rwa [List.length_append, List.length_map] at this
theorem KI.more (h : KI n I T S) (c : Nat) : KI (n + c) I T S := ⟨h.1, fun x hx => ⟨(h.2.1 x hx).1, by have := (h.2.1 x hx).2; omega⟩, Nat.le_trans h.2.2 (Nat.le_add_right _ _)⟩
theorem KI.put (h : KI n I T S) : KI (n + 1) (I ++ [((n + 1 : Nat) : Int)]) T (S ++ [(((n + 1 : Nat) : Int), 0)]) := by
  refine ⟨?_, fun x hx => ?_, by rw [List.length_append, List.length_singleton]; have := h.2.2; omega⟩
  · rw [List.map_append, ← List.append_assoc]
    exact h.1.append (List.Perm.refl _)
  · rcases List.mem_append.1 hx with hx | hx
    · have := h.2.1 x hx; omega
    · rw [List.mem_singleton] at hx; omega
theorem KI.get {q : Ob} (h : KI n I T (S ++ [q])) : KI n I (T ++ [q.1]) S := by
  refine ⟨h.1.trans ?_, h.2⟩
  rw [List.map_append, List.append_assoc]
  exact List.Perm.append_left T List.perm_append_comm
/-- The numbers behind n. -/
def owM (n c : Nat) : List Int := (List.range c).map fun i => ((n + 1 + i : Nat) : Int)
def obM (n c : Nat) : Obs := (List.range c).map fun i => (((n + 1 + i : Nat) : Int), 0)
theorem owM_succ : owM n (c + 1) = owM n c ++ [((n + c + 1 : Nat) : Int)] := by
  unfold owM
  rw [List.range_succ, List.map_append]
  simp only [List.map_cons, List.map_nil]
  rw [show n + 1 + c = n + c + 1 by omega]
theorem obM_succ : obM n (c + 1) = obM n c ++ [(((n + c + 1 : Nat) : Int), 0)] := by
  unfold obM
  rw [List.range_succ, List.map_append]
  simp only [List.map_cons, List.map_nil]
  rw [show n + 1 + c = n + c + 1 by omega]
theorem owM_len : (owM n c).length = c := by simp [owM]
theorem obM_len : (obM n c).length = c := by simp [obM]
theorem obM_fst : (obM n c).map Prod.fst = owM n c := by
  unfold obM owM
  rw [List.map_map]
  rfl
theorem KI.load (h : KI n I T []) : KI (n + c) (I ++ owM n c) T (obM n c) := by
  refine ⟨?_, fun x hx => ?_, by rw [List.length_append, owM_len]; have := h.2.2; omega⟩
  · rw [obM_fst]
    have h1 := h.1
    rw [List.map_nil, List.append_nil] at h1
    exact h1.append (List.Perm.refl _)
  · rcases List.mem_append.1 hx with hx | hx
    · have := h.2.1 x hx; omega
    · obtain ⟨i, hi, rfl⟩ := List.mem_map.1 hx
      have := List.mem_range.1 hi
      omega
theorem KI.unl (h : KI n I T S) : KI n I (T ++ (S.take N).map Prod.fst) (S.drop N) := by
  refine ⟨?_, h.2⟩
  rw [List.append_assoc, ← List.map_append, List.take_append_drop]
  exact h.1
theorem KI.cnt (h : KI n I T []) (x : Int) : I.count x = T.count x := by
  have h1 := h.1
  rw [List.map_nil, List.append_nil] at h1
  exact h1.count_eq x
theorem KI.mem (h : KI n I T []) {x : Int} (hx : x ∈ T) : ∃ m : Nat, x = m ∧ 1 ≤ m ∧ m ≤ n := by
  have h1 := h.1
  rw [List.map_nil, List.append_nil] at h1
  have h2 := h.2.1 x (h1.mem_iff.2 hx)
  exact ⟨x.toNat, by omega, by omega, by omega⟩
theorem KI.memI (h : KI n I T S) {x : Int} (hx : x ∈ I) : ∃ m : Nat, x = m ∧ 1 ≤ m ∧ m ≤ n := by
  have h2 := h.2.1 x hx
  exact ⟨x.toNat, by omega, by omega, by omega⟩
theorem KI.end (h : KI n I T S) : KI n I (T ++ S.map Prod.fst) [] := ⟨by rw [List.map_nil, List.append_nil]; exact h.1, h.2⟩
end
theorem ldM_cases (N : Nat) (m S : Obs) : ldM N m S = (2, S) ∨ ldM N m S = (80, S) ∨ (S = [] ∧ 0 < m.length ∧ m.length ≤ N ∧ ldM N m S = (0, m)) := by
  unfold ldM
  by_cases h : m.length = 0 ∨ N < m.length
  · rw [if_pos h]; exact .inl rfl
  · rw [if_neg h]
    by_cases h2 : 0 < S.length
    · rw [if_pos h2]; exact .inr (.inl rfl)
    · rw [if_neg h2]
      exact .inr (.inr ⟨List.eq_nil_of_length_eq_zero (by omega), by omega, by omega, rfl⟩)
theorem KI.un {n N : Nat} {I T : List Int} {S : Obs} (h : KI n I T S) : KI n I (T ++ (unS N S).2.1.map Prod.fst) (unS N S).2.2 := by
  unfold unS
  split
  · dsimp only
    rw [List.map_nil, List.append_nil]
    exact h
  · exact h.unl
/-- How often: in, less out. -/
def cntD (A B : List Int) (i : Nat) : Int := (A.count (i : Int) : Int) - (B.count (i : Int) : Int)
def cntV (A B : List Int) (i : Nat) : Value := .int .i64 (cntD A B i)
theorem cntD_le {A B : List Int} {i m : Nat} (h1 : A.length ≤ m) (h2 : B.length ≤ m) : -(m : Int) ≤ cntD A B i ∧ cntD A B i ≤ m := by
  unfold cntD
  have := List.count_le_length (a := (i : Int)) (l := A)
  have := List.count_le_length (a := (i : Int)) (l := B)
  omega
theorem cnt_in {w : World} {sb n : Nat} {A B : List Int} {m : Nat} (h : RowAt w sb (n + 1) (cntV A B)) : RowAt (w.setCell ⟨sb, m, none⟩ (.int .i64 (cntD A B m + 1))) sb (n + 1) (cntV (A ++ [(m : Int)]) B) :=
  (h.setCell m _).ext fun i hi => by
    unfold updV
    by_cases e : i = m
    · subst e
      rw [if_pos rfl]
      unfold cntV cntD
      rw [List.count_append, List.count_singleton_self]
      congr 1
      omega
    · rw [if_neg e]
      unfold cntV cntD
      rw [List.count_append, List.count_singleton, if_neg (by simp; omega)]
      rfl
theorem cnt_out {w : World} {sb n : Nat} {A B : List Int} {m : Nat} (h : RowAt w sb (n + 1) (cntV A B)) : RowAt (w.setCell ⟨sb, m, none⟩ (.int .i64 (cntD A B m - 1))) sb (n + 1) (cntV A (B ++ [(m : Int)])) :=
  (h.setCell m _).ext fun i hi => by
    unfold updV
    by_cases e : i = m
    · subst e
      rw [if_pos rfl]
      unfold cntV cntD
      rw [List.count_append, List.count_singleton_self]
      congr 1
      omega
    · rw [if_neg e]
      unfold cntV cntD
      rw [List.count_append, List.count_singleton, if_neg (by simp; omega)]
      rfl
theorem make_ints (n : Nat) (h1 : n ≤ 100000) : ∃ Z : Array Value, (∀ i, i < n + 1 → Z[i]? = some (cntV [] [] i)) ∧
    ∀ W, (Instr.makeSlice 46 (.int .i64 ((n : Int) + 1)) (.int .i64 ((n : Int) + 1))).run Try.prog W = .ok (.slice (some ⟨W.heap.size, 0, none⟩) (n + 1) (n + 1)) (W.alloc (.cells Z 3)) := by
  obtain ⟨i0, hi, hz0, hz1, hz2⟩ := info_parts intInfoM
  refine ⟨madeCells #[Value.int .i64 0] (n + 1), fun i h => ?_, fun W => ?_⟩
  · have h1 := made_at #[Value.int .i64 0] (n + 1) i (by simpa using h)
    rw [Array.getElem?_toList] at h1
    have : i % (#[Value.int .i64 0] : Array Value).size = 0 := Nat.mod_one i
    rw [h1, this]; rfl
  · have h := run_make (P := Try.prog) W 46 3 i0 _ Try.underlying46 hi hz0 .i64 .i64 ((n + 1 : Nat) : Int) ((n + 1 : Nat) : Int) (by omega) (by omega) (by rw [hz2]; omega) (by omega)
    rw [hz1, Int.toNat_natCast, Nat.mul_one] at h
    exact h
end Go.Proofs.Ytaadjgnfihkaeaa
