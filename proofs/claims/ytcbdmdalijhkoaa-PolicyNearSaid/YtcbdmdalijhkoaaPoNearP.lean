/-
  policies, by numbers: nearer ones first; each allowed one once. Of no program.
-/
import Derived.Test.YtcbdmdalijhkoaaPoPure
namespace Go.Proofs.Ytcbdmdalijhkoaa
open Go

theorem count_one {x : Nat} : ∀ {l : List Nat}, l.Nodup → x ∈ l → l.count x = 1
  | [], _, h => absurd h List.not_mem_nil
  | y :: l, hn, h => by
    obtain ⟨h1, h2⟩ := List.nodup_cons.1 hn
    by_cases e : y = x
    · subst e
      rw [List.count_cons_self, List.count_eq_zero.2 h1]
    · rw [List.count_cons_of_ne e]
      exact count_one h2 ((List.mem_cons.1 h).resolve_left (fun q => e q.symm))
/-- How far x is from F. -/
def dsN (g : Nat → Int) (F x : Nat) : Int := g (26 + F * 8 + x)
theorem nearN_sorted (g : Nat → Int) (k n : Nat) : (nearN g k n).Pairwise fun x y => dsN g k x ≤ dsN g k y := by
  unfold nearN
  rw [List.pairwise_map]
  refine List.Pairwise.imp (fun {x y} h => ?_) (ordL_sorted g k n)
  unfold nrB at h
  simp only [Bool.not_eq_true', decide_eq_false_iff_not] at h
  unfold dsN
  omega
theorem nearN_first {g : Nat → Int} {k n : Nat} (G : Good g) (hn : g 0 = n) (hk : k < n) : ∃ r, nearN g k n = k :: r := by
  have hl := ordL_length g k n
  have h0 := ord_first G hn hk
  unfold nearN
  cases ho : ordL g k n with
  | nil => rw [ho] at hl; simp at hl; omega
  | cons x r =>
    rw [ho] at h0
    exact ⟨r.map Fin.val, by rw [List.map_cons]; congr 1⟩
/-- Is it asked by distance? -/
def Uk (k m x : Nat) : Prop := ¬ (k = 3 ∧ hasM m x = true)
/-- The node whose distances count. -/
def fromN (k m n loc : Nat) : Nat := if k = 1 then (inN m n)[0]! else loc
section
variable {g : Nat → Int} {k m n loc page : Nat}
theorem in0 (hM : mayP g k m = true) (hn : g 0 = n) (hn8 : n ≤ 8) (hk : k = 1) : ∃ x, inN m n = [x] ∧ inN m 8 = [x] ∧ x < n := by
  unfold mayP at hM
  simp only [Bool.and_eq_true] at hM
  have hi := inN_all (mask := m) hn hn8 hM.2.1
  have h1 := (kindB_pos hM.2.2).2.1 hk
  obtain ⟨x, hx⟩ := List.length_eq_one_iff.1 h1
  refine ⟨x, by rw [hi, hx], hx, ?_⟩
  exact (mem_inN.1 (show x ∈ inN m n by rw [hi, hx]; exact List.mem_singleton.2 rfl)).1
theorem polL_lt (hn8 : n ≤ 8) : ∀ x ∈ polL g n k m loc page, x < n := by
  intro x hx
  unfold polL at hx
  split at hx
  · exact (mem_nearN hn8).1 hx
  · split at hx
    · exact (mem_nearN hn8).1 hx
    · split at hx
      · rcases List.mem_append.1 hx with h | h
        · exact (mem_inN.1 ((rotN_perm _ _).mem_iff.1 h)).1
        · exact (mem_nearN hn8).1 (List.mem_filter.1 h).1
      · exact (mem_nearN hn8).1 (List.mem_filter.1 hx).1
theorem fromN_lt (hM : mayP g k m = true) (hn : g 0 = n) (hn8 : n ≤ 8) (hl : loc < n) : fromN k m n loc < n := by
  unfold fromN
  split
  · next h =>
    obtain ⟨x, hx, _, h2⟩ := in0 hM hn hn8 h
    rw [hx]
    exact h2
  · exact hl
theorem polL_sorted : (polL g n k m loc page).Pairwise fun x y => Uk k m x → Uk k m y → dsN g (fromN k m n loc) x ≤ dsN g (fromN k m n loc) y := by
  unfold polL fromN
  by_cases h0 : k = 0
  · rw [if_pos h0, if_neg (by omega)]
    exact (nearN_sorted _ _ _).imp (fun h _ _ => h)
  · rw [if_neg h0]
    by_cases h1 : k = 1
    · rw [if_pos h1, if_pos h1]
      exact (nearN_sorted _ _ _).imp (fun h _ _ => h)
    · rw [if_neg h1, if_neg h1]
      by_cases h3 : k = 3
      · rw [if_pos h3]
        have hr : ∀ x ∈ rotN (inN m n) page, ¬ Uk k m x := fun x hx hu => hu ⟨h3, (mem_inN.1 ((rotN_perm _ _).mem_iff.1 hx)).2⟩
        refine List.pairwise_append.2 ⟨?_, ?_, fun x hx y _ hu => absurd hu (hr x hx)⟩
        · refine List.Pairwise.imp_of_mem (R := fun _ _ => True) (fun {x y} hx _ _ hu => absurd hu (hr x hx)) ?_
          exact List.pairwise_of_forall (fun _ _ => trivial)
        · exact ((nearN_sorted g loc n).sublist List.filter_sublist).imp (fun h _ _ => h)
      · rw [if_neg h3]
        exact ((nearN_sorted g loc n).sublist List.filter_sublist).imp (fun h _ _ => h)
theorem polL_head (hM : mayP g k m = true) (G : Good g) (hn : g 0 = n) (hk : k = 1) : ∃ r, polL g n k m loc page = fromN k m n loc :: r := by
  have hn8 : n ≤ 8 := by have := G.n2; omega
  obtain ⟨x, hx, _, hlt⟩ := in0 hM hn hn8 hk
  unfold polL fromN
  rw [if_neg (by omega), if_pos hk, if_pos hk, hx]
  exact nearN_first G hn hlt
theorem dsN_nonneg (G : Good g) (hn : g 0 = n) {F x : Nat} (hF : F < n) (hx : x < n) : 0 ≤ dsN g F x := by
  unfold dsN
  by_cases h : F = x
  · subst h
    rw [G.self F (by omega)]
    exact Int.le_refl _
  · have := G.far (a := F) (b := x) (by omega) (by omega) h
    omega
/-- Each allowed node once, no other one. -/
theorem polL_count (hk : k ≤ 3) (hn8 : n ≤ 8) {x : Nat} (hx : x < n) : (polL g n k m loc page).count x = if allowP k m x then 1 else 0 := by
  have c1 : ∀ z, (nearN g z n).count x = 1 := fun z => count_one (nearN_nodup hn8) ((mem_nearN hn8).2 hx)
  have hal : allowP k m (x : Int) = (decide (k ≠ 2) || hasM m x) := by
    unfold allowP
    rw [decide_eq_true (show (0 : Int) ≤ (x : Int) by omega), decide_eq_true (show (x : Int) ≤ 7 by omega), Bool.true_and, Bool.true_and, Int.toNat_natCast]
  have cf : ∀ (p : Nat → Bool), ((nearN g loc n).filter p).count x = if p x then 1 else 0 := fun p => by
    by_cases hp : p x = true
    · rw [List.count_filter hp, c1, if_pos hp]
    · rw [if_neg hp]
      exact List.count_eq_zero.2 (fun h => hp (List.mem_filter.1 h).2)
  have ci : (rotN (inN m n) page).count x = if hasM m x then 1 else 0 := by
    rw [(rotN_perm _ _).count_eq]
    by_cases hp : hasM m x = true
    · rw [if_pos hp]
      exact count_one (inN_nodup m n) (mem_inN.2 ⟨hx, hp⟩)
    · rw [if_neg hp]
      exact List.count_eq_zero.2 (fun h => hp (mem_inN.1 h).2)
  rw [hal]
  unfold polL
  rcases (show k = 0 ∨ k = 1 ∨ k = 2 ∨ k = 3 by omega) with rfl | rfl | rfl | rfl
  · rw [if_pos rfl, c1]; rfl
  · rw [if_neg (by decide), if_pos rfl, c1]; rfl
  · rw [if_neg (by decide), if_neg (by decide), if_neg (by decide), cf]
    simp
  · rw [if_neg (by decide), if_neg (by decide), if_pos rfl, List.count_append, ci, cf]
    cases hasM m x <;> rfl
end
end Go.Proofs.Ytcbdmdalijhkoaa
