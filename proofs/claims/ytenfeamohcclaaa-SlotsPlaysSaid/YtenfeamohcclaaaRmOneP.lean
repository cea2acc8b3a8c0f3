/-
  rmap: how many frames are somebody's; the pages that are told: by numbers.
-/
import Derived.Test.YtenfeamohcclaaaRmPure
namespace Go.Proofs.Ytenfeamohcclaaa
open Go

/-- How many of the first n. -/
def cntB (P : Nat → Bool) : Nat → Nat
  | 0 => 0
  | n + 1 => cntB P n + (P n).toNat
theorem cntB_congr {P Q : Nat → Bool} : ∀ {N}, (∀ i, i < N → P i = Q i) → cntB P N = cntB Q N
  | 0, _ => rfl
  | n + 1, h => by rw [cntB, cntB, cntB_congr (fun i hi => h i (by omega)), h n (by omega)]
theorem cntB_add {P Q R : Nat → Bool} : ∀ {N}, (∀ i, i < N → (R i).toNat = (P i).toNat + (Q i).toNat) → cntB R N = cntB P N + cntB Q N
  | 0, _ => rfl
  | n + 1, h => by rw [cntB, cntB, cntB, cntB_add (fun i hi => h i (by omega)), h n (by omega)]; omega
theorem cntB_le (P : Nat → Bool) : ∀ N, cntB P N ≤ N
  | 0 => Nat.le_refl _
  | n + 1 => by rw [cntB]; have := cntB_le P n; have := Bool.toNat_le (P n); omega
theorem cntB_no {P : Nat → Bool} : ∀ {N}, (∀ i, i < N → P i = false) → cntB P N = 0
  | 0, _ => rfl
  | n + 1, h => by rw [cntB, cntB_no (fun i hi => h i (by omega)), h n (by omega)]; rfl
/-- How many frames are somebody's. -/
def ownB (f : Nat → Ownr) (i : Nat) : Bool := decide ((f i).1 ≠ 0)
section
variable {f : Nat → Ownr} {N : Nat} (I : RmI f N)
include I
theorem cntB_find (x : Ownr) (hx : x.1 ≠ 0) : ∀ M, M ≤ N → cntB (fun i => decide (f i = x)) M = ((findF f x M).isSome).toNat
  | 0, _ => rfl
  | M + 1, h => by
    rw [cntB, cntB_find x hx M (by omega), findF]
    cases e : findF f x M with
    | some i =>
      obtain ⟨h1, h2⟩ := findF_some e
      have hne : ¬ f M = x := fun h3 => by
        have := I.one i M (by omega) (by omega) (by rw [h2]; exact hx) (h2.trans h3.symm)
        omega
      simp [hne]
    | none =>
      by_cases h3 : f M = x
      · simp [h3]
      · simp [h3]
theorem ofL_cnt (p : Nat) (hp : 1 ≤ p) : ∀ n, (ofL f N p n).length = cntB (fun i => decide ((f i).1 = p ∧ (f i).2 < n)) N
  | 0 => by rw [cntB_no (fun i _ => by simp)]; rfl
  | n + 1 => by
    unfold ofL
    rw [if_pos (by omega), Int.toNat_natCast]
    rw [cntB_add (P := fun i => decide ((f i).1 = p ∧ (f i).2 < n)) (Q := fun i => decide (f i = (p, n))) (fun i _ => ?_), ← ofL_cnt p hp n, cntB_find I (p, n) (by dsimp only; omega) N (Nat.le_refl _)]
    · cases findF f (p, n) N with
      | some i => simp
      | none => simp
    · by_cases h1 : (f i).1 = p
      · by_cases h2 : (f i).2 = n
        · have h3 : f i = (p, n) := Prod.ext h1 h2
          simp [h3]
        · have h3 : ¬ f i = (p, n) := fun e => h2 (by rw [e])
          by_cases h4 : (f i).2 < n
          · simp [h1, h3, h4, Nat.lt_succ_of_lt h4]
          · have h5 : ¬ (f i).2 < n + 1 := by omega
            simp [h3, h4, h5]
      · have h3 : ¬ f i = (p, n) := fun e => h1 (by rw [e])
        simp [h1, h3]
end
/-- How many are told of the first processes. -/
def totF (f : Nat → Ownr) (N : Nat) : Nat → Nat
  | 0 => 0
  | p + 1 => totF f N p + (ofL f N p 1024).length
theorem totF_cnt {f : Nat → Ownr} {N : Nat} (I : RmI f N) : ∀ m, totF f N m = cntB (fun i => decide (1 ≤ (f i).1 ∧ (f i).1 < m)) N
  | 0 => by rw [cntB_no (fun i _ => by simp)]; rfl
  | p + 1 => by
    rw [totF, totF_cnt I p]
    by_cases hp : 1 ≤ p
    · rw [ofL_cnt I p hp 1024]
      refine (cntB_add (fun i hi => ?_)).symm
      have h1 := (I.ok i hi).2
      by_cases h2 : (f i).1 = p
      · have h3 : (f i).2 < 1024 := by omega
        simp [h2, h3, hp]
      · by_cases h4 : 1 ≤ (f i).1 ∧ (f i).1 < p
        · have h5 : 1 ≤ (f i).1 ∧ (f i).1 < p + 1 := ⟨h4.1, by omega⟩
          simp only [h2, h4, h5, false_and, decide_true, decide_false, and_self, Bool.toNat_true, Bool.toNat_false, Nat.add_zero]
        · have h5 : ¬ (1 ≤ (f i).1 ∧ (f i).1 < p + 1) := fun h => h4 ⟨h.1, by omega⟩
          simp only [h2, h4, h5, false_and, decide_false, Bool.toNat_false, Nat.add_zero]
    · obtain rfl : p = 0 := by omega
      rw [show (ofL f N ((0 : Nat) : Int) 1024) = [] by unfold ofL; rw [if_neg (by decide)]]
      rw [cntB_no (fun i _ => by simp), cntB_no (fun i _ => decide_eq_false (fun h => by omega))]
      rfl
theorem totF_all {f : Nat → Ownr} {N : Nat} (I : RmI f N) : totF f N 9 = cntB (ownB f) N := by
  rw [totF_cnt I 9]
  refine cntB_congr fun i hi => ?_
  have := (I.ok i hi).1
  unfold ownB
  by_cases h : (f i).1 = 0
  · simp [h]
  · have h2 : 1 ≤ (f i).1 ∧ (f i).1 < 9 := ⟨by omega, by omega⟩
    simp only [h2, h, decide_true, and_self, ne_eq, not_false_eq_true]
/-- What is told. -/
theorem ofL_mem {f : Nat → Ownr} {N p : Nat} : ∀ {n} {x : Nat × Nat}, x ∈ ofL f N p n → x.1 < n ∧ x.2 < N ∧ f x.2 = (p, x.1)
  | 0, x, h => absurd h List.not_mem_nil
  | n + 1, x, h => by
    unfold ofL at h
    by_cases hp : 1 ≤ (p : Int)
    · rw [if_pos hp, Int.toNat_natCast] at h
      cases e : findF f (p, n) N with
      | none =>
        rw [e] at h
        have := ofL_mem h
        exact ⟨by omega, this.2⟩
      | some i =>
        rw [e] at h
        rcases List.mem_append.1 h with h | h
        · have := ofL_mem h
          exact ⟨by omega, this.2⟩
        · rw [List.mem_singleton] at h
          subst h
          obtain ⟨h1, h2⟩ := findF_some e
          exact ⟨Nat.lt_succ_self _, h1, h2⟩
    · rw [if_neg hp] at h
      exact absurd h List.not_mem_nil
theorem ofL_rise {f : Nat → Ownr} {N p : Nat} : ∀ n, (ofL f N p n).Pairwise (fun x y => x.1 < y.1)
  | 0 => List.Pairwise.nil
  | n + 1 => by
    unfold ofL
    by_cases hp : 1 ≤ (p : Int)
    · rw [if_pos hp, Int.toNat_natCast]
      cases e : findF f (p, n) N with
      | none => exact ofL_rise n
      | some i =>
        refine List.pairwise_append.2 ⟨ofL_rise n, List.pairwise_singleton _ _, fun x hx y hy => ?_⟩
        rw [List.mem_singleton] at hy
        subst hy
        exact (ofL_mem hx).1
    · rw [if_neg hp]
      exact List.Pairwise.nil
/-- The page that was told last. -/
def lastP (L : List (Nat × Nat)) : Nat → Int
  | 0 => -1
  | j + 1 => ((L.getD j (0, 0)).1 : Nat)
theorem lastP_succ {L : List (Nat × Nat)} {j : Nat} (hj : j < L.length) : lastP L (j + 1) = ((L[j]'hj).1 : Nat) := by simp [lastP, List.getD, hj]
theorem lastP_lt {L : List (Nat × Nat)} (h : L.Pairwise (fun x y => x.1 < y.1)) {j : Nat} (hj : j < L.length) : lastP L j < ((L[j]'hj).1 : Nat) := by
  cases j with
  | zero => show (-1 : Int) < _; omega
  | succ i =>
    rw [lastP_succ (by omega)]
    have := (List.pairwise_iff_getElem.1 h) i (i + 1) (by omega) hj (by omega)
    omega
end Go.Proofs.Ytenfeamohcclaaa
