/-
  areas, by numbers: the rights of each page, and its runs. Of no program.
-/
import Derived.Test.YthnkbipdlepbaaaRows
namespace Go.Proofs.Ythnkbipdlepbaaa
open Go

/-- A run: its first page, how many, their rights. -/
abbrev Rns := List (Nat × Nat × Nat)
/-- The last one has a page more. -/
def bump (L : Rns) : Rns := L.set (L.length - 1) ((L.getD (L.length - 1) (0, 0, 0)).1, (L.getD (L.length - 1) (0, 0, 0)).2.1 + 1, (L.getD (L.length - 1) (0, 0, 0)).2.2)
/-- The runs below n. -/
def runsTo (f : Nat → Nat) : Nat → Rns
  | 0 => []
  | n + 1 => if f n = 0 then runsTo f n else if 0 < n ∧ f (n - 1) = f n then bump (runsTo f n) else runsTo f n ++ [(n, 1, f n)]
/-- These are f's runs below n. -/
structure Desc (f : Nat → Nat) (n : Nat) (L : Rns) : Prop where
  pos : ∀ x ∈ L, 1 ≤ x.2.1 ∧ 1 ≤ x.2.2 ∧ x.1 + x.2.1 ≤ n
  ris : L.Pairwise fun x y => x.1 + x.2.1 ≤ y.1 ∧ (x.1 + x.2.1 = y.1 → x.2.2 ≠ y.2.2)
  val : ∀ x ∈ L, ∀ k, x.1 ≤ k → k < x.1 + x.2.1 → f k = x.2.2
  cov : ∀ k, k < n → f k ≠ 0 → ∃ x ∈ L, x.1 ≤ k ∧ k < x.1 + x.2.1
theorem bump_last (M : Rns) (x : Nat × Nat × Nat) : bump (M ++ [x]) = M ++ [(x.1, x.2.1 + 1, x.2.2)] := by
  unfold bump
  have h1 : (M ++ [x]).length - 1 = M.length := by simp
  have h2 : (M ++ [x]).getD M.length (0, 0, 0) = x := by simp [List.getD]
  rw [h1, h2]
  simp
theorem bump_len (L : Rns) : (bump L).length = L.length := by simp [bump]
section
variable {f : Nat → Nat} {n : Nat} {L M : Rns} {x : Nat × Nat × Nat}
theorem Desc.nil (f : Nat → Nat) : Desc f 0 [] := ⟨fun _ h => absurd h List.not_mem_nil, List.Pairwise.nil, fun _ h => absurd h List.not_mem_nil, fun _ h => absurd h (Nat.not_lt_zero _)⟩
/-- The run that has the last page is the last one. -/
theorem Desc.last (D : Desc f n L) (hn : 0 < n) (h0 : f (n - 1) ≠ 0) : ∃ M x, L = M ++ [x] ∧ x.1 < n ∧ x.1 + x.2.1 = n ∧ x.2.2 = f (n - 1) := by
  obtain ⟨x, hx, h1, h2⟩ := D.cov (n - 1) (by omega) h0
  have h3 := (D.pos x hx).2.2
  have h4 := D.val x hx (n - 1) h1 h2
  obtain ⟨M, y, rfl⟩ : ∃ M y, L = M ++ [y] := by
    rcases List.eq_nil_or_concat L with h | ⟨M, y, h⟩
    · subst h; exact absurd hx List.not_mem_nil
    · exact ⟨M, y, by simpa using h⟩
  rcases List.mem_append.1 hx with h | h
  · have h5 := (List.pairwise_append.1 D.ris).2.2 x h y (by simp)
    have h6 := D.pos y (by simp)
    omega
  · obtain rfl : x = y := by simpa using h
    exact ⟨M, x, rfl, by omega, by omega, h4.symm⟩
theorem Desc.zero (D : Desc f n L) (h0 : f n = 0) : Desc f (n + 1) L :=
  ⟨fun x hx => by have := D.pos x hx; omega, D.ris, D.val, fun k hk hne => D.cov k (by
    have : k ≠ n := fun e => hne (e ▸ h0)
    omega) hne⟩
theorem Desc.more (D : Desc f n (M ++ [x])) (he : x.1 + x.2.1 = n) (hv : x.2.2 = f n) : Desc f (n + 1) (M ++ [(x.1, x.2.1 + 1, x.2.2)]) := by
  obtain ⟨r1, r2, r3⟩ := List.pairwise_append.1 D.ris
  refine ⟨fun y hy => ?_, List.pairwise_append.2 ⟨r1, by simp, fun y hy z hz => ?_⟩, fun y hy k h1 h2 => ?_, fun k hk hne => ?_⟩
  · rcases List.mem_append.1 hy with h | h
    · have := D.pos y (List.mem_append_left _ h); omega
    · obtain rfl : y = _ := by simpa using h
      have := D.pos x (by simp)
      dsimp only
      omega
  · obtain rfl : z = _ := by simpa using hz
    exact r3 y hy x (by simp)
  · rcases List.mem_append.1 hy with h | h
    · exact D.val y (List.mem_append_left _ h) k h1 h2
    · obtain rfl : y = _ := by simpa using h
      dsimp only at h1 h2 ⊢
      by_cases e : k = n
      · rw [e, hv]
      · exact D.val x (by simp) k h1 (by omega)
  · by_cases e : k = n
    · refine ⟨(x.1, x.2.1 + 1, x.2.2), by simp, ?_, ?_⟩ <;> dsimp only <;> omega
    · obtain ⟨y, hy, h1, h2⟩ := D.cov k (by omega) hne
      rcases List.mem_append.1 hy with h | h
      · exact ⟨y, List.mem_append_left _ h, h1, h2⟩
      · obtain rfl : y = x := by simpa using h
        exact ⟨(y.1, y.2.1 + 1, y.2.2), by simp, h1, by dsimp only; omega⟩
theorem Desc.one (D : Desc f n L) (h0 : f n ≠ 0) (hne : ¬ (0 < n ∧ f (n - 1) = f n)) : Desc f (n + 1) (L ++ [(n, 1, f n)]) := by
  refine ⟨fun y hy => ?_, List.pairwise_append.2 ⟨D.ris, by simp, fun y hy z hz => ?_⟩, fun y hy k h1 h2 => ?_, fun k hk hk0 => ?_⟩
  · rcases List.mem_append.1 hy with h | h
    · have := D.pos y h; omega
    · obtain rfl : y = _ := by simpa using h
      dsimp only
      omega
  · obtain rfl : z = _ := by simpa using hz
    have h1 := D.pos y hy
    refine ⟨h1.2.2, fun e h2 => hne ⟨by omega, ?_⟩⟩
    dsimp only at e h2
    have h3 := D.val y hy (n - 1) (by omega) (by omega)
    rw [h3, h2]
  · rcases List.mem_append.1 hy with h | h
    · exact D.val y h k h1 h2
    · obtain rfl : y = _ := by simpa using h
      dsimp only at h1 h2 ⊢
      obtain rfl : k = n := by omega
      rfl
  · by_cases e : k = n
    · exact ⟨(n, 1, f n), by simp, by dsimp only; omega, by dsimp only; omega⟩
    · obtain ⟨y, hy, h1, h2⟩ := D.cov k (by omega) hk0
      exact ⟨y, List.mem_append_left _ hy, h1, h2⟩
end
theorem runs_desc (f : Nat → Nat) : ∀ n, Desc f n (runsTo f n)
  | 0 => Desc.nil f
  | n + 1 => by
    have D := runs_desc f n
    unfold runsTo
    by_cases h0 : f n = 0
    · rw [if_pos h0]; exact D.zero h0
    · rw [if_neg h0]
      by_cases h1 : 0 < n ∧ f (n - 1) = f n
      · rw [if_pos h1]
        obtain ⟨M, x, e, h2, h3, h4⟩ := D.last h1.1 (by rw [h1.2]; exact h0)
        rw [e, bump_last]
        rw [e] at D
        exact D.more h3 (by rw [h4, h1.2])
      · rw [if_neg h1]; exact D.one h0 h1
/-- There is but one way to tell them. -/
theorem desc_runs {f : Nat → Nat} : ∀ {n : Nat} {L : Rns}, Desc f n L → L = runsTo f n
  | 0, L, D => by
    cases L with
    | nil => rfl
    | cons x r => have := D.pos x (by simp); omega
  | n + 1, L, D => by
    unfold runsTo
    by_cases h0 : f n = 0
    · rw [if_pos h0]
      refine desc_runs ⟨fun x hx => ?_, D.ris, D.val, fun k hk hne => D.cov k (by omega) hne⟩
      have h1 := D.pos x hx
      have h2 : x.1 + x.2.1 ≠ n + 1 := fun e => by
        have h3 := D.val x hx n (by omega) (by omega)
        omega
      omega
    · rw [if_neg h0]
      obtain ⟨M, x, rfl, h2, h3, h4⟩ := D.last (by omega) (by simpa using h0)
      rw [show n + 1 - 1 = n by omega] at h4
      obtain ⟨r1, r2, r3⟩ := List.pairwise_append.1 D.ris
      have hM : ∀ y ∈ M, y ∈ M ++ [x] := fun y hy => List.mem_append_left _ hy
      have hx := D.pos x (by simp)
      by_cases h1 : 0 < n ∧ f (n - 1) = f n
      · rw [if_pos h1]
        have hc : 2 ≤ x.2.1 := by
          refine Nat.le_of_not_lt fun hlt => ?_
          obtain ⟨y, hy, h5, h6⟩ := D.cov (n - 1) (by omega) (by rw [h1.2]; exact h0)
          rcases List.mem_append.1 hy with h | h
          · have h7 := r3 y h x (by simp)
            refine h7.2 (by omega) ?_
            rw [h4, ← h1.2, D.val y hy (n - 1) h5 h6]
          · obtain rfl : y = x := by simpa using h
            omega
        have D2 : Desc f n (M ++ [(x.1, x.2.1 - 1, x.2.2)]) := by
          refine ⟨fun y hy => ?_, List.pairwise_append.2 ⟨r1, by simp, fun y hy z hz => ?_⟩, fun y hy k h5 h6 => ?_, fun k hk hne => ?_⟩
          · rcases List.mem_append.1 hy with h | h
            · have h8 := D.pos y (hM y h)
              have h9 := r3 y h x (by simp)
              omega
            · obtain rfl : y = _ := by simpa using h
              dsimp only
              omega
          · obtain rfl : z = _ := by simpa using hz
            exact r3 y hy x (by simp)
          · rcases List.mem_append.1 hy with h | h
            · exact D.val y (hM y h) k h5 h6
            · obtain rfl : y = _ := by simpa using h
              exact D.val x (by simp) k h5 (by dsimp only at h6; omega)
          · obtain ⟨y, hy, h5, h6⟩ := D.cov k (by omega) hne
            rcases List.mem_append.1 hy with h | h
            · exact ⟨y, List.mem_append_left _ h, h5, h6⟩
            · obtain rfl : y = x := by simpa using h
              exact ⟨(y.1, y.2.1 - 1, y.2.2), by simp, h5, by dsimp only; omega⟩
        rw [← desc_runs D2, bump_last]
        congr 1
        refine congrArg (fun z => [z]) ?_
        ext <;> dsimp only
        omega
      · rw [if_neg h1]
        have hc : x.2.1 = 1 := by
          refine Nat.le_antisymm (Nat.le_of_not_lt fun hlt => h1 ⟨by omega, ?_⟩) hx.1
          rw [D.val x (by simp) (n - 1) (by omega) (by omega), h4]
        have D2 : Desc f n M := by
          refine ⟨fun y hy => ?_, r1, fun y hy => D.val y (hM y hy), fun k hk hne => ?_⟩
          · have h8 := D.pos y (hM y hy)
            have h9 := r3 y hy x (by simp)
            omega
          · obtain ⟨y, hy, h5, h6⟩ := D.cov k (by omega) hne
            rcases List.mem_append.1 hy with h | h
            · exact ⟨y, h, h5, h6⟩
            · obtain rfl : y = x := by simpa using h
              omega
        rw [← desc_runs D2]
        congr 1
        refine congrArg (fun z => [z]) ?_
        have e1 : x.1 = n := by omega
        ext <;> dsimp only <;> assumption
theorem runs_len (f : Nat → Nat) : ∀ n, (runsTo f n).length ≤ n
  | 0 => Nat.le_refl _
  | n + 1 => by
    have h := runs_len f n
    unfold runsTo
    split
    · omega
    · split
      · rw [bump_len]; omega
      · simp; omega
end Go.Proofs.Ythnkbipdlepbaaa
