/-
  buddy's document: the node at first. Pure.
-/
import Derived.Test.YtilcdnkjfbkpnaaBdStk
namespace Go.Proofs.Ytilcdnkjfbkpnaa

theorem best_al (a n : Nat) : ∀ k, a % 2 ^ bestK a n k = 0
  | 0 => Nat.mod_one a
  | k + 1 => by
    unfold bestK
    split
    · rename_i h; exact h.1
    · exact best_al a n k
theorem best_max {a n j : Nat} (h1 : a % 2 ^ j = 0) (h2 : a + 2 ^ j ≤ n) : ∀ k, j < k → j ≤ bestK a n k
  | 0, h => absurd h (Nat.not_lt_zero _)
  | k + 1, h => by
    unfold bestK
    split
    · omega
    · rename_i hc
      by_cases e : j = k
      · subst e; exact absurd ⟨h1, h2⟩ hc
      · exact best_max h1 h2 k (by omega)
theorem newF_in (n : Nat) : ∀ (f a : Nat) (p : Int × Int), p ∈ newF n f a → ∃ b : Nat, p = ((b : Int), ((bestK b n 11 : Nat) : Int)) ∧ a ≤ b ∧ b < n
  | 0, _, _, h => absurd h List.not_mem_nil
  | f + 1, a, p, h => by
    unfold newF at h
    split at h
    · rename_i hlt
      rcases List.mem_cons.1 h with rfl | h
      · exact ⟨a, rfl, Nat.le_refl _, hlt⟩
      · obtain ⟨b, e, h1, h2⟩ := newF_in n f _ p h
        have hp := Nat.one_le_two_pow (n := bestK a n 11)
        exact ⟨b, e, by omega, h2⟩
    · exact absurd h List.not_mem_nil
theorem newF_cov (n : Nat) : ∀ (f a x : Nat), n ≤ a + f → a ≤ x → x < n → ∃ b : Nat, ((b : Int), ((bestK b n 11 : Nat) : Int)) ∈ newF n f a ∧ inB (bestK b n 11) b x
  | 0, a, x, h, h1, h2 => by omega
  | f + 1, a, x, h, h1, h2 => by
    unfold newF
    rw [if_pos (by omega)]
    have hp := Nat.one_le_two_pow (n := bestK a n 11)
    by_cases hx : x < a + 2 ^ bestK a n 11
    · exact ⟨a, List.mem_cons_self, h1, hx⟩
    · obtain ⟨b, h3, h4⟩ := newF_cov n f (a + 2 ^ bestK a n 11) x (by omega) (by omega) h2
      exact ⟨b, List.mem_cons_of_mem _ h3, h4⟩
theorem newF_gap (n : Nat) : ∀ (f a : Nat), (newF n f a).Pairwise fun p q => p.1 + ((2 ^ p.2.toNat : Nat) : Int) ≤ q.1
  | 0, _ => List.Pairwise.nil
  | f + 1, a => by
    unfold newF
    split
    · refine List.pairwise_cons.2 ⟨fun q hq => ?_, newF_gap n f _⟩
      obtain ⟨b, rfl, h1, _⟩ := newF_in n f _ q hq
      rw [Int.toNat_natCast]
      show (a : Int) + _ ≤ (b : Int)
      omega
    · exact List.Pairwise.nil
theorem new_in {n o a : Nat} (h : memL (newL n) o a) : o = bestK a n 11 ∧ a < n := by
  obtain ⟨b, e, _, h2⟩ := newF_in n n 0 _ h
  rw [Prod.mk.injEq] at e
  obtain ⟨e1, e2⟩ := e
  obtain rfl : a = b := by omega
  exact ⟨by omega, h2⟩
theorem new_gap {n o a p b : Nat} (h1 : memL (newL n) o a) (h2 : memL (newL n) p b) (hab : a < b) : a + 2 ^ o ≤ b := by
  have hw := List.pairwise_iff_getElem.1 (newF_gap n n 0)
  obtain ⟨i, hi, ei⟩ := List.mem_iff_getElem.1 h1
  obtain ⟨j, hj, ej⟩ := List.mem_iff_getElem.1 h2
  by_cases hij : i < j
  · have h3 := hw i j hi hj hij
    unfold newL at ei ej
    rw [ei, ej, Int.toNat_natCast] at h3
    have h3 : (a : Int) + ((2 ^ o : Nat) : Int) ≤ (b : Int) := h3
    omega
  · by_cases hji : j < i
    · have h3 := hw j i hj hi hji
      unfold newL at ei ej
      rw [ei, ej, Int.toNat_natCast] at h3
      have h3 : (b : Int) + ((2 ^ p : Nat) : Int) ≤ (a : Int) := h3
      have hp := Nat.one_le_two_pow (n := p)
      omega
    · obtain rfl : i = j := by omega
      rw [ei, Prod.mk.injEq] at ej
      omega
theorem new_stk (n : Nat) : Stk n (memL (newL n)) (fun _ _ => False) ∧ Rising (newL n) ∧ NatL (newL n) := by
  have one : ∀ o a, memL (newL n) o a ∨ False → memL (newL n) o a := fun o a h => h.elim id False.elim
  refine ⟨⟨fun o a h => ?_, fun o a p b f h1 h2 h3 h4 => ?_, fun _ _ _ h => h, fun f hf => ?_, fun o a h ho h2 => ?_⟩, ?_, fun p hp => ?_⟩
  · obtain ⟨rfl, hlt⟩ := new_in (one _ _ h)
    exact ⟨best_lt a n 11 (Nat.le_refl _), best_al a n 11, best_fits a n hlt 11⟩
  · have h1 := one _ _ h1
    have h2 := one _ _ h2
    unfold inB at h3 h4
    by_cases e : a = b
    · subst e
      exact ⟨(new_in h1).1.trans (new_in h2).1.symm, rfl⟩
    · by_cases hab : a < b
      · have := new_gap h1 h2 hab; omega
      · have := new_gap h2 h1 (by omega); omega
  · obtain ⟨b, h1, h2⟩ := newF_cov n n 0 f (by omega) (by omega) hf
    exact ⟨_, b, .inl h1, h2⟩
  · obtain ⟨e1, l1⟩ := new_in h
    obtain ⟨e2, l2⟩ := new_in h2
    have hal : a % 2 ^ o = 0 := by rw [e1]; exact best_al a n 11
    have hfit := best_fits a n l1 11
    have hfit2 := best_fits (bud o a) n l2 11
    rw [← e1] at hfit
    rw [← e2] at hfit2
    have hpow : 2 ^ (o + 1) = 2 ^ o + 2 ^ o := by rw [Nat.pow_succ]; omega
    rcases bud_cases hal with ⟨h3, e⟩ | ⟨lo, e3, h3, e⟩
    · rw [e] at hfit2
      have := best_max (n := n) h3 (by omega) 11 (by omega)
      omega
    · rw [e] at e2 hfit2
      have := best_max (n := n) h3 (by omega) 11 (by omega)
      omega
  · exact (newF_gap n n 0).imp (fun {p q} h => by
      have : (0 : Int) < ((2 ^ p.2.toNat : Nat) : Int) := by
        have := Nat.one_le_two_pow (n := p.2.toNat)
        omega
      omega)
  · obtain ⟨b, e, _⟩ := newF_in n n 0 p hp
    exact ⟨b, _, e⟩
/-- As many blocks as the number has ones. -/
def onesN : Nat → Nat → Nat
  | 0, _ => 0
  | f + 1, k => if k = 0 then 0 else k % 2 + onesN f (k / 2)
theorem new_ones : ∀ n, n ≤ 128 → (newL n).length = onesN 8 n := by
  intro n hn
  have h : (List.range 129).all (fun n => (newL n).length == onesN 8 n) = true := by decide +kernel
  exact eq_of_beq (List.all_eq_true.1 h n (List.mem_range.2 (by omega)))
end Go.Proofs.Ytilcdnkjfbkpnaa
