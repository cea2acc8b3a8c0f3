/-
  policies, by numbers: what PolicyEach asks. Of no program.
-/
import Derived.Test.YtcbdmdalijhkoaaPoNearP
namespace Go.Proofs.Ytcbdmdalijhkoaa
open Go

theorem inN_bits (m n : Nat) : (inN m (n + 1)).length = (inN m n).length + m / 2 ^ n % 2 := by
  rw [inN_succ]
  unfold hasM
  by_cases h : m / 2 ^ n % 2 = 1
  · rw [if_pos (decide_eq_true h), List.length_append, h]; rfl
  · rw [if_neg (by simp [h])]; omega
theorem one_bit : ∀ m : Fin 256, (inN m.val 8).length = 1 → m.val = 2 ^ ((inN m.val 8)[0]!) := by decide +kernel
section
variable {g : Nat → Int} {k m n loc page : Nat}
theorem polL_pos (hM : mayP g k m = true) (hn : g 0 = n) (hn8 : n ≤ 8) (hl : loc < n) : 0 < (polL g n k m loc page).length := by
  have hM' := hM
  unfold mayP at hM
  simp only [Bool.and_eq_true] at hM
  have hi := inN_all (mask := m) hn hn8 hM.2.1
  have hk := kindB_pos hM.2.2
  unfold polL
  by_cases h0 : k = 0
  · rw [if_pos h0, nearN_len]; omega
  · rw [if_neg h0]
    by_cases h1 : k = 1
    · rw [if_pos h1, nearN_len]; omega
    · have hp := hk.2.2.1 (by omega)
      rw [if_neg h1]
      by_cases h3 : k = 3
      · rw [if_pos h3, List.length_append, rotN_len, hi]; omega
      · rw [if_neg h3]
        rw [← hi] at hp
        obtain ⟨x, hx⟩ := List.exists_mem_of_length_pos hp
        obtain ⟨h5, h6⟩ := mem_inN.1 hx
        exact List.length_pos_of_mem (List.mem_filter.2 ⟨(mem_nearN hn8).2 h5, h6⟩)
theorem in_pos (hM : mayP g k m = true) (hn : g 0 = n) (hn8 : n ≤ 8) (hk : k = 3) : 0 < (inN m n).length := by
  unfold mayP at hM
  simp only [Bool.and_eq_true] at hM
  rw [inN_all (mask := m) hn hn8 hM.2.1]
  exact (kindB_pos hM.2.2).2.2.1 (.inr hk)
theorem polL_turn (hk : k = 3) : polL g n k m loc (page + (inN m n).length) = polL g n k m loc page := by
  unfold polL
  rw [if_neg (by omega), if_neg (by omega), if_pos hk, if_neg (by omega), if_neg (by omega), if_pos hk]
  unfold rotN
  rw [Nat.add_mod_right]
theorem polL_first (hk : k = 3) (hp : 0 < (inN m n).length) : (polL g n k m loc page)[0]? = some ((inN m n)[page % (inN m n).length]!) := by
  unfold polL
  rw [if_neg (by omega), if_neg (by omega), if_pos hk, List.getElem?_append_left (by rw [rotN_len]; exact hp)]
  unfold rotN
  rw [List.getElem?_map, List.getElem?_range hp]
  simp
/-- The first ones of the pages that follow one another, i of them. -/
def hdsN (m n page i : Nat) : List Nat := (List.range i).map fun j => (inN m n)[(page + j) % (inN m n).length]!
theorem hdsN_succ (m n page i : Nat) : hdsN m n page (i + 1) = hdsN m n page i ++ [(inN m n)[(page + i) % (inN m n).length]!] := by
  unfold hdsN
  rw [List.range_succ, List.map_append]
  rfl
theorem hdsN_len (m n page i : Nat) : (hdsN m n page i).length = i := by
  unfold hdsN
  rw [List.length_map, List.length_range]
theorem hdsN_all (m n page : Nat) : hdsN m n page (inN m n).length = rotN (inN m n) page := by
  unfold hdsN rotN
  refine List.map_congr_left (fun j _ => ?_)
  rw [Nat.mod_add_mod]
theorem hdsN_count {x : Nat} (hx : x < n) : (hdsN m n page (inN m n).length).count x = m / 2 ^ x % 2 := by
  rw [hdsN_all, (rotN_perm _ _).count_eq]
  by_cases hp : hasM m x = true
  · rw [count_one (inN_nodup m n) (mem_inN.2 ⟨hx, hp⟩)]
    exact (of_decide_eq_true hp).symm
  · rw [List.count_eq_zero.2 (fun h => hp (mem_inN.1 h).2)]
    have : ¬ m / 2 ^ x % 2 = 1 := fun h => hp (decide_eq_true h)
    omega
end
theorem count_take {l : List Nat} {i x : Nat} (h : l[i]? = some x) (y : Nat) : (l.take (i + 1)).count y = (l.take i).count y + if y = x then 1 else 0 := by
  rw [List.take_add_one, h]
  rw [List.count_append]
  congr 1
  by_cases e : y = x
  · subst e; simp
  · rw [if_neg e]
    simp [Ne.symm e]
theorem count_snoc (l : List Nat) (x y : Nat) : (l ++ [x]).count y = l.count y + if y = x then 1 else 0 := by
  rw [List.count_append]
  congr 1
  by_cases e : y = x
  · subst e; simp
  · rw [if_neg e]
    simp [Ne.symm e]
end Go.Proofs.Ytcbdmdalijhkoaa
