/-
  slots: all are taken, one by one, and freed in whatever order: by numbers.
-/
import Derived.Test.YtenfeamohcclaaaSlPure
namespace Go.Proofs.Ytenfeamohcclaaa
open Go

/-- The first i are taken. -/
def tkF (i : Nat) : Nat → Ownr := fun j => if j < i then (1 + j % 8, j) else (0, 0)
/-- The turn of a slot, when they are freed from t on. -/
def idxF (n t j : Nat) : Nat := if t % n ≤ j then j - t % n else j + n - t % n
/-- The first i of them are freed. -/
def frF (n t i : Nat) : Nat → Ownr := fun j => if j < n ∧ i ≤ idxF n t j then (1 + j % 8, j) else (0, 0)
theorem tk_zero : tkF 0 = fun _ => (0, 0) := by
  funext j
  exact if_neg (Nat.not_lt_zero _)
theorem tk_take {n i : Nat} (hn : n ≤ 200) (hi : i < n) : stK (tkF i) n (1 + (i : Int) % 8) i = i ∧ stE (tkF i) n (1 + (i : Int) % 8) i = 0 ∧ stF (tkF i) n (1 + (i : Int) % 8) i = tkF (i + 1) := by
  have hp : PgOk (1 + (i : Int) % 8) i := ⟨by omega, by omega, by omega, by omega⟩
  have hl : leastF (tkF i) n = some i := leastF_of hi (by unfold tkF; rw [if_neg (by omega)]) (fun j hj => by unfold tkF; rw [if_pos hj]; dsimp only; omega)
  refine ⟨?_, ?_, ?_⟩
  · unfold stK; rw [if_pos hp, hl]; rfl
  · unfold stE; rw [if_pos hp, hl]; rfl
  · unfold stF
    rw [if_pos hp, hl]
    funext j
    unfold updO tkF
    dsimp only
    by_cases e : j = i
    · rw [if_pos e, if_pos (by omega), e]
      ext
      · dsimp only; omega
      · dsimp only; omega
    · rw [if_neg e]
      by_cases h : j < i
      · rw [if_pos h, if_pos (by omega)]
      · rw [if_neg h, if_neg (by omega)]
theorem tk_full {n : Nat} : stK (tkF n) n 1 1 = 0 ∧ stE (tkF n) n 1 1 = 9 ∧ stF (tkF n) n 1 1 = tkF n := by
  have hp : PgOk 1 1 := by decide
  have hl : leastF (tkF n) n = none := leastF_full fun j hj => by unfold tkF; rw [if_pos hj]; dsimp only; omega
  refine ⟨?_, ?_, ?_⟩
  · unfold stK; rw [if_pos hp, hl]; rfl
  · unfold stE; rw [if_pos hp, hl]; rfl
  · unfold stF; rw [if_pos hp, hl]
theorem cnt_all {P : Nat → Bool} : ∀ {n}, (∀ i, i < n → P i = true) → cntB P n = n
  | 0, _ => rfl
  | n + 1, h => by rw [cntB, cnt_all (fun i hi => h i (by omega)), h n (by omega)]; rfl
theorem tk_used (n : Nat) : cntB (ownB (tkF n)) n = n := cnt_all fun i hi => by
  unfold ownB tkF
  rw [if_pos hi]
  exact decide_eq_true (by dsimp only; omega)
theorem fr_zero (n t : Nat) : frF n t 0 = tkF n := by
  funext j
  unfold frF tkF
  by_cases h : j < n
  · rw [if_pos ⟨h, Nat.zero_le _⟩, if_pos h]
  · rw [if_neg (fun h2 => h h2.1), if_neg h]
theorem mod_add (i t n : Nat) (hi : i < n) : (i + t) % n = if i + t % n < n then i + t % n else i + t % n - n := by
  have h1 : t % n < n := Nat.mod_lt _ (by omega)
  rw [Nat.add_mod, Nat.mod_eq_of_lt hi]
  by_cases h : i + t % n < n
  · rw [if_pos h, Nat.mod_eq_of_lt h]
  · rw [if_neg h, Nat.mod_eq_sub_mod (by omega), Nat.mod_eq_of_lt (by omega)]
theorem fr_free {n t i : Nat} (hi : i < n) : rcE (frF n t i) n (((i + t) % n : Nat) : Int) = 0 ∧ rcF (frF n t i) n (((i + t) % n : Nat) : Int) = frF n t (i + 1) := by
  have h1 : t % n < n := Nat.mod_lt _ (by omega)
  obtain ⟨x, hx⟩ : ∃ x, (i + t) % n = x := ⟨_, rfl⟩
  have hm := mod_add i t n hi
  rw [hx] at hm ⊢
  obtain ⟨s, hs⟩ : ∃ s, t % n = s := ⟨_, rfl⟩
  have hxn : x < n := by rw [← hx]; exact Nat.mod_lt _ (by omega)
  rw [hs] at hm h1
  have hid : ∀ j, j < n → (idxF n t j = i ↔ j = x) := fun j hj => by
    unfold idxF
    rw [hs]
    split at hm <;> split <;> omega
  have h2 : rcE (frF n t i) n (x : Int) = 0 := by
    unfold rcE
    rw [if_pos ⟨by omega, by omega⟩, Int.toNat_natCast, if_neg]
    unfold frF
    rw [if_pos ⟨hxn, by rw [(hid x hxn).2 rfl]; exact Nat.le_refl _⟩]
    dsimp only
    omega
  refine ⟨h2, ?_⟩
  unfold rcF
  rw [if_pos h2, Int.toNat_natCast]
  funext j
  unfold updO frF
  by_cases e : j = x
  · rw [if_pos e, if_neg]
    rintro ⟨h3, h4⟩
    rw [(hid j h3).2 e] at h4
    omega
  · rw [if_neg e]
    by_cases hj : j < n
    · have h5 : ¬ idxF n t j = i := fun h => e ((hid j hj).1 h)
      by_cases h6 : i ≤ idxF n t j
      · rw [if_pos ⟨hj, h6⟩, if_pos ⟨hj, by omega⟩]
      · rw [if_neg (fun h => h6 h.2), if_neg (fun h => h6 (by omega))]
    · rw [if_neg (fun h => hj h.1), if_neg (fun h => hj h.1)]
theorem fr_all (n t : Nat) : frF n t n = fun _ => (0, 0) := by
  funext j
  unfold frF
  refine if_neg ?_
  rintro ⟨h1, h2⟩
  have h3 : t % n < n := Nat.mod_lt _ (by omega)
  unfold idxF at h2
  split at h2 <;> omega
theorem zero_used (n : Nat) : cntB (ownB (fun _ => ((0, 0) : Ownr))) n = 0 := cntB_no fun _ _ => rfl
end Go.Proofs.Ytenfeamohcclaaa
