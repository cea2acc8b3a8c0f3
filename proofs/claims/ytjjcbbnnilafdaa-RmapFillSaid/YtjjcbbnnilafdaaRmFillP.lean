/-
  rmap: all frames given to pages, one by one, and cleared: by numbers.
-/
import Derived.Test.YtjjcbbnnilafdaaRmPure
namespace Go.Proofs.Ytjjcbbnnilafdaa
open Go

/-- The frames from F - i on are given. -/
def fillF (F p fr i : Nat) : Nat → Ownr := fun j => if F - i ≤ j ∧ j < F then (p, fr + (F - 1 - j)) else (0, 0)
/-- Those from i on. -/
def clrF (F p fr i : Nat) : Nat → Ownr := fun j => if i ≤ j ∧ j < F then (p, fr + (F - 1 - j)) else (0, 0)
theorem fill_zero (F p fr : Nat) : fillF F p fr 0 = fun _ => (0, 0) := by
  funext j
  unfold fillF
  rw [if_neg (by omega)]
theorem fill_clr (F p fr : Nat) : fillF F p fr F = clrF F p fr 0 := by
  funext j
  unfold fillF clrF
  rw [Nat.sub_self]
theorem clr_all (F p fr : Nat) : clrF F p fr F = fun _ => (0, 0) := by
  funext j
  unfold clrF
  rw [if_neg (by omega)]
theorem findF_of {f : Nat → Ownr} {x : Ownr} {N : Nat} (h : ∀ i, i < N → f i ≠ x) : findF f x N = none := by
  cases e : findF f x N with
  | none => rfl
  | some i =>
    obtain ⟨h1, h2⟩ := findF_some e
    exact absurd h2 (h i h1)
section
variable {F p fr i : Nat} (hF : F ≤ 200) (hp1 : 1 ≤ p) (hp8 : p ≤ 8) (hfr : fr ≤ 800) (hi : i < F)
include hF hp1 hp8 hfr hi
theorem fill_set : rsE (fillF F p fr i) F ((F : Int) - 1 - i) p ((fr : Int) + i) = 0 ∧ rsF (fillF F p fr i) F ((F : Int) - 1 - i) p ((fr : Int) + i) = fillF F p fr (i + 1) := by
  have e1 : ((F : Int) - 1 - i).toNat = F - 1 - i := by omega
  have e2 : ((fr : Int) + i).toNat = fr + i := by omega
  have h1 : rsE (fillF F p fr i) F ((F : Int) - 1 - i) p ((fr : Int) + i) = 0 := by
    unfold rsE
    rw [if_pos ⟨⟨by omega, by omega⟩, by omega, by omega, by omega, by omega⟩, e1, e2]
    rw [if_neg (by unfold fillF; rw [if_neg (by omega)]; simp), findF_of (fun j hj e => ?_)]
    · rfl
    · unfold fillF at e
      split at e
      · have := congrArg Prod.snd e
        dsimp only at this
        omega
      · have := congrArg Prod.fst e
        simp at this
        omega
  refine ⟨h1, ?_⟩
  unfold rsF
  rw [if_pos h1, e1, e2]
  funext j
  unfold updO fillF
  by_cases h : j = F - 1 - i
  · rw [if_pos h, if_pos (by omega), h]
    simp
    omega
  · rw [if_neg h]
    by_cases h2 : F - i ≤ j ∧ j < F
    · rw [if_pos h2, if_pos (by omega)]
    · rw [if_neg h2, if_neg (by omega)]
end
theorem clr_clear {F p fr i : Nat} (hp1 : 1 ≤ p) (hi : i < F) : rcE (clrF F p fr i) F i = 0 ∧ rcF (clrF F p fr i) F i = clrF F p fr (i + 1) := by
  have h1 : rcE (clrF F p fr i) F i = 0 := by
    unfold rcE
    rw [if_pos ⟨by omega, by omega⟩, Int.toNat_natCast, if_neg (by unfold clrF; rw [if_pos ⟨Nat.le_refl _, hi⟩]; dsimp only; omega)]
  refine ⟨h1, ?_⟩
  unfold rcF
  rw [if_pos h1, Int.toNat_natCast]
  funext j
  unfold updO clrF
  by_cases h : j = i
  · rw [if_pos h, if_neg (by omega)]
  · rw [if_neg h]
    by_cases h2 : i ≤ j ∧ j < F
    · rw [if_pos h2, if_pos (by omega)]
    · rw [if_neg h2, if_neg (by omega)]
/-- Which frames are told. -/
def fillL (fr F n : Nat) : List (Nat × Nat) := (List.range n).map fun k => (fr + k, F - 1 - k)
theorem fill_find {F p fr q : Nat} : findF (fillF F p fr F) (p, q) F = if fr ≤ q ∧ q < fr + F then some (F - 1 - (q - fr)) else none := by
  have hone : ∀ i, i < F → (fillF F p fr F i = (p, q) ↔ fr + (F - 1 - i) = q) := fun i hi => by
    unfold fillF
    rw [if_pos (by omega)]
    simp
  cases e : findF (fillF F p fr F) (p, q) F with
  | none =>
    have h := findF_none e
    rw [if_neg (fun hq => h (F - 1 - (q - fr)) (by omega) ((hone _ (by omega)).2 (by omega)))]
  | some i =>
    obtain ⟨h1, h2⟩ := findF_some e
    have h3 := (hone i h1).1 h2
    rw [if_pos (by omega)]
    congr 1
    omega
theorem fill_ofL {F p fr : Nat} (hp1 : 1 ≤ p) : ∀ n, ofL (fillF F p fr F) F p n = fillL fr F (min (n - fr) F)
  | 0 => by simp [ofL, fillL]
  | n + 1 => by
    unfold ofL
    rw [if_pos (by omega), Int.toNat_natCast, fill_find]
    by_cases h : fr ≤ n ∧ n < fr + F
    · rw [if_pos h, fill_ofL hp1 n, show min (n + 1 - fr) F = n - fr + 1 by omega, show min (n - fr) F = n - fr by omega]
      unfold fillL
      rw [List.range_succ, List.map_append, List.map_singleton, show fr + (n - fr) = n by omega]
    · rw [if_neg h, fill_ofL hp1 n, show min (n + 1 - fr) F = min (n - fr) F by omega]
theorem fill_all {F p fr : Nat} (hF : F ≤ 200) (hp1 : 1 ≤ p) (hfr : fr ≤ 800) : ofL (fillF F p fr F) F p 1024 = fillL fr F F := by
  rw [fill_ofL hp1, show min (1024 - fr) F = F by omega]
theorem fillL_len (fr F n : Nat) : (fillL fr F n).length = n := by simp [fillL]
theorem fillL_get (fr F n j : Nat) (hj : j < (fillL fr F n).length) : (fillL fr F n)[j] = (fr + j, F - 1 - j) := by simp [fillL]
theorem none_ofL (N : Nat) (p : Int) : ∀ n, ofL (fun _ => (0, 0)) N p n = []
  | 0 => rfl
  | n + 1 => by
    unfold ofL
    by_cases h : 1 ≤ p
    · rw [if_pos h, findF_of (fun i _ e => by have := congrArg Prod.fst e; simp at this; omega)]
      exact none_ofL N p n
    · rw [if_neg h]
theorem fill_again {F p fr : Nat} (hp1 : 1 ≤ p) (hp8 : p ≤ 8) : rsE (fillF F p fr F) F 0 p 1023 = (if 0 < F then 80 else 2) ∧ rsF (fillF F p fr F) F 0 p 1023 = fillF F p fr F := by
  have h : rsE (fillF F p fr F) F 0 p 1023 = (if 0 < F then 80 else 2) := by
    unfold rsE
    by_cases hF : 0 < F
    · rw [if_pos ⟨⟨by omega, by omega⟩, by omega, by omega, by omega, by omega⟩, if_pos (by unfold fillF; rw [if_pos (by simp; omega)]; dsimp only; omega), if_pos hF]
    · rw [if_neg (fun h => by have := h.1.2; omega), if_neg hF]
  refine ⟨h, ?_⟩
  unfold rsF
  rw [if_neg (by rw [h]; split <;> decide)]
end Go.Proofs.Ytjjcbbnnilafdaa
