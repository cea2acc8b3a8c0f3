/-
  areas: a hole in the middle of one run, by numbers.
-/
import Derived.Test.YthnkbipdlepbaaaArTwo
namespace Go.Proofs.Ythnkbipdlepbaaa
open Go.RowKit Go
section
variable {P x M y r o : Nat}
/-- One run alone. -/
theorem one_desc (hx : 1 ≤ x) (hf : P + x ≤ 1024) (hr : 1 ≤ r) : Desc (setF (fun _ => 0) P x r) 1024 [(P, x, r)] := by
  refine ⟨fun z hz => ?_, List.pairwise_singleton _ _, fun z hz k h1 h2 => ?_, fun k hk h => ?_⟩
  · obtain rfl : z = _ := by simpa using hz
    exact ⟨hx, hr, hf⟩
  · obtain rfl : z = _ := by simpa using hz
    dsimp only at h1 h2 ⊢
    unfold setF
    rw [if_pos ⟨h1, h2⟩]
  · unfold setF at h
    by_cases hi : P ≤ k ∧ k < P + x
    · exact ⟨_, List.mem_singleton.2 rfl, hi⟩
    · rw [if_neg hi] at h; exact absurd rfl h
/-- The middle of it other rights. -/
theorem mid_at (i : Nat) : setF (setF (fun _ => 0) P (x + M + y) r) (P + x) M o i = if P ≤ i ∧ i < P + x then r else if P + x ≤ i ∧ i < P + x + M then o else if P + x + M ≤ i ∧ i < P + x + M + y then r else 0 := by
  unfold setF
  by_cases h1 : P + x ≤ i ∧ i < P + x + M
  · rw [if_pos h1, if_neg (by omega), if_pos h1]
  · rw [if_neg h1]
    by_cases h2 : P ≤ i ∧ i < P + x
    · rw [if_pos (by omega), if_pos h2]
    · rw [if_neg h2, if_neg h1]
      by_cases h3 : P + x + M ≤ i ∧ i < P + x + M + y
      · rw [if_pos (by omega), if_pos h3]
      · rw [if_neg (by omega), if_neg h3]
theorem hole_desc (hx : 1 ≤ x) (hM : 1 ≤ M) (hy : 1 ≤ y) (hf : P + (x + M + y) ≤ 1024) (hr : 1 ≤ r) :
    Desc (setF (setF (fun _ => 0) P (x + M + y) r) (P + x) M 0) 1024 [(P, x, r), (P + x + M, y, r)] := by
  refine ⟨fun z hz => ?_, ?_, fun z hz k h1 h2 => ?_, fun k hk h => ?_⟩
  · simp only [List.mem_cons, List.not_mem_nil, or_false] at hz
    rcases hz with rfl | rfl <;> dsimp only <;> omega
  · simp only [List.pairwise_cons, List.mem_singleton, forall_eq, List.not_mem_nil, false_implies, implies_true, List.Pairwise.nil, and_true]
    omega
  · rw [mid_at]
    simp only [List.mem_cons, List.not_mem_nil, or_false] at hz
    rcases hz with rfl | rfl <;> dsimp only at h1 h2 ⊢
    · rw [if_pos ⟨h1, h2⟩]
    · rw [if_neg (by omega), if_neg (by omega), if_pos ⟨h1, h2⟩]
  · rw [mid_at] at h
    by_cases a : P ≤ k ∧ k < P + x
    · exact ⟨(P, x, r), by simp, a⟩
    · rw [if_neg a] at h
      by_cases b : P + x ≤ k ∧ k < P + x + M
      · rw [if_pos b] at h; exact absurd rfl h
      · rw [if_neg b] at h
        by_cases c : P + x + M ≤ k ∧ k < P + x + M + y
        · exact ⟨(P + x + M, y, r), by simp, c⟩
        · rw [if_neg c] at h; exact absurd rfl h
theorem three_desc (hx : 1 ≤ x) (hM : 1 ≤ M) (hy : 1 ≤ y) (hf : P + (x + M + y) ≤ 1024) (hr : 1 ≤ r) (ho : 1 ≤ o) (hne : o ≠ r) :
    Desc (setF (setF (fun _ => 0) P (x + M + y) r) (P + x) M o) 1024 [(P, x, r), (P + x, M, o), (P + x + M, y, r)] := by
  refine ⟨fun z hz => ?_, ?_, fun z hz k h1 h2 => ?_, fun k hk h => ?_⟩
  · simp only [List.mem_cons, List.not_mem_nil, or_false] at hz
    rcases hz with rfl | rfl | rfl <;> dsimp only <;> omega
  · simp only [List.pairwise_cons, List.mem_cons, List.not_mem_nil, or_false, forall_eq_or_imp, forall_eq, false_implies, implies_true, List.Pairwise.nil, and_true]
    omega
  · rw [mid_at]
    simp only [List.mem_cons, List.not_mem_nil, or_false] at hz
    rcases hz with rfl | rfl | rfl <;> dsimp only at h1 h2 ⊢
    · rw [if_pos ⟨h1, h2⟩]
    · rw [if_neg (by omega), if_pos ⟨h1, h2⟩]
    · rw [if_neg (by omega), if_neg (by omega), if_pos ⟨h1, h2⟩]
  · rw [mid_at] at h
    by_cases a : P ≤ k ∧ k < P + x
    · exact ⟨(P, x, r), by simp, a⟩
    · rw [if_neg a] at h
      by_cases b : P + x ≤ k ∧ k < P + x + M
      · exact ⟨(P + x, M, o), by simp, b⟩
      · rw [if_neg b] at h
        by_cases c : P + x + M ≤ k ∧ k < P + x + M + y
        · exact ⟨(P + x + M, y, r), by simp, c⟩
        · rw [if_neg c] at h; exact absurd rfl h
end
/-- What the hole comes to. -/
theorem hole {p c at' many : Int} {r o : Nat} (h : mapE (fun _ => 0) p c r = 0) (h1 : p < at') (h2 : 1 ≤ many) (h3 : at' + many < p + c) (h4 : o ≠ r) :
    ∃ P x M y : Nat, p = P ∧ at' = (P + x : Nat) ∧ many = M ∧ c = (x + M + y : Nat) ∧ P + (x + M + y) ≤ 1024 ∧ unmE (mapA (fun _ => 0) p c r) at' many = 0 ∧ rns (unmA (mapA (fun _ => 0) p c r) at' many) = [(P, x, r), (P + x + M, y, r)] ∧
      (proE (mapA (fun _ => 0) p c r) at' many o = 0 → (rns (proA (mapA (fun _ => 0) p c r) at' many o)).length = 3 ∧ rgV (proA (mapA (fun _ => 0) p c r) at' many o) at' = o ∧ o ≠ 0) := by
  obtain ⟨⟨m1, m2, m3, m4, m5⟩, r1, _, eA⟩ := map_yes h
  obtain ⟨P, rfl⟩ := Int.eq_ofNat_of_zero_le m1
  obtain ⟨x, hx⟩ := Int.eq_ofNat_of_zero_le (show 0 ≤ at' - P by omega)
  obtain ⟨M, hM⟩ := Int.eq_ofNat_of_zero_le (show 0 ≤ many by omega)
  obtain ⟨y, hy⟩ := Int.eq_ofNat_of_zero_le (show 0 ≤ P + c - at' - many by omega)
  obtain rfl : at' = (P + x : Nat) := by omega
  obtain rfl : c = (x + M + y : Nat) := by omega
  subst hM
  have hm : MayR ((P + x : Nat) : Int) (M : Int) := ⟨by omega, by omega, by omega, by omega, by omega⟩
  have D2 := hole_desc (P := P) (x := x) (M := M) (y := y) (r := r) (by omega) (by omega) (by omega) (by omega) r1
  have e2 := (desc_runs D2).symm
  rw [eA]
  have t1 : ((P : Int)).toNat = P := by omega
  have t2 : (((x + M + y : Nat) : Int)).toNat = x + M + y := by omega
  have t3 : (((P + x : Nat) : Int)).toNat = P + x := by omega
  have t4 : ((M : Int)).toNat = M := by omega
  have n2 : ¬ 32 < (runsTo (setF (setF (fun _ => 0) P (x + M + y) r) (P + x) M 0) 1024).length := by rw [e2]; simp
  refine ⟨P, x, M, y, rfl, rfl, rfl, rfl, by omega, ?_, ?_, fun hp => ?_⟩
  · unfold unmE setE
    rw [if_pos hm, t1, t2, t3, t4, if_neg n2]
  · unfold unmA setA
    rw [if_pos hm, t1, t2, t3, t4, if_neg n2]
    exact e2
  · unfold proE at hp
    split at hp
    case isFalse => cases hp
    rename_i ho
    split at hp
    case isFalse h5 => exact absurd hp h5
    rename_i h5
    have D3 := three_desc (P := P) (x := x) (M := M) (y := y) (r := r) (o := o) (by omega) (by omega) (by omega) (by omega) r1 ho.1 h4
    have e3 := (desc_runs D3).symm
    have n3 : ¬ 32 < (runsTo (setF (setF (fun _ => 0) P (x + M + y) r) (P + x) M o) 1024).length := by rw [e3]; simp
    have eP : proA (setF (fun _ => 0) ((P : Int)).toNat (((x + M + y : Nat) : Int)).toNat r) ((P + x : Nat) : Int) (M : Int) o = setF (setF (fun _ => 0) P (x + M + y) r) (P + x) M o := by
      unfold proA setA
      rw [if_pos ho, if_pos h5, t1, t2, t3, t4, if_neg n3]
    rw [eP]
    refine ⟨by show (runsTo _ 1024).length = 3; rw [e3]; rfl, ?_, by omega⟩
    unfold rgV
    rw [if_pos ⟨by omega, by omega⟩, t3, mid_at, if_neg (by omega), if_pos (by omega)]
end Go.Proofs.Ythnkbipdlepbaaa
