/-
  slots: a list of those that are taken: by numbers.
-/
import Derived.Test.YtenfeamohcclaaaSlOps
namespace Go.Proofs.Ytenfeamohcclaaa
open Go

/-- The list has what is taken, each once. -/
structure ApI (f : Nat → Ownr) (N : Nat) (M : List OpA) : Prop where
  own : ∀ o ∈ M, ∃ s : Nat, o.slot = s ∧ s < N ∧ PgOk o.pid o.page ∧ f s = (o.pid.toNat, o.page.toNat)
  dist : M.Pairwise (fun a b => a.slot ≠ b.slot)
  len : M.length = cntB (ownB f) N
theorem ApI.new (N : Nat) : ApI (fun _ => (0, 0)) N [] := ⟨fun _ h => absurd h List.not_mem_nil, List.Pairwise.nil, (cntB_no fun _ _ => rfl).symm⟩
section
variable {f : Nat → Ownr} {N : Nat} {M : List OpA}
theorem ApI.take (A : ApI f N M) {i : Nat} (hl : leastF f N = some i) {p q : Int} (hp : PgOk p q) (kd : Int) : ApI (updO f i (p.toNat, q.toNat)) N (M ++ [⟨kd, i, p, q⟩]) := by
  obtain ⟨h1, h2, _⟩ := leastF_some hl
  have hne : ∀ o ∈ M, ∀ s : Nat, o.slot = s → f s = (o.pid.toNat, o.page.toNat) → PgOk o.pid o.page → s ≠ i := fun o _ s _ h3 h4 e => by
    rw [e] at h3
    rw [h3] at h2
    dsimp only at h2
    have := h4.1
    omega
  refine ⟨fun o ho => ?_, ?_, ?_⟩
  · rcases List.mem_append.1 ho with h | h
    · obtain ⟨s, a, b, c, e⟩ := A.own o h
      refine ⟨s, a, b, c, ?_⟩
      unfold updO
      rw [if_neg (hne o h s a e c)]
      exact e
    · rw [List.mem_singleton] at h
      subst h
      exact ⟨i, rfl, h1, hp, if_pos rfl⟩
  · refine List.pairwise_append.2 ⟨A.dist, List.pairwise_singleton _ _, fun o ho x hx => ?_⟩
    rw [List.mem_singleton] at hx
    subst hx
    obtain ⟨s, a, b, c, e⟩ := A.own o ho
    have := hne o ho s a e c
    dsimp only
    omega
  · have h := cnt_upd (f := f) (p.toNat, q.toNat) h1
    have h3 : ownB f i = false := decide_eq_false (fun h => h h2)
    have h4 : decide ((p.toNat, q.toNat).1 ≠ 0) = true := decide_eq_true (by dsimp only; have := hp.1; omega)
    rw [h3, h4] at h
    rw [List.length_append, A.len]
    exact h.symm
theorem ApI.full (A : ApI f N M) (hl : leastF f N = none) : M.length = N := by
  rw [A.len]
  have h := leastF_none hl
  have : ∀ n, n ≤ N → cntB (ownB f) n = n := fun n => by
    induction n with
    | zero => intro _; rfl
    | succ m ih =>
      intro hm
      rw [cntB, ih (by omega)]
      have : ownB f m = true := decide_eq_true (h m (by omega))
      rw [this]
      rfl
  exact this N (Nat.le_refl _)
theorem ApI.cut (A : ApI f N M) {k : Nat} (hk : k < M.length) {s : Nat} (hs : (M[k]).slot = s) :
    s < N ∧ rcE f N s = 0 ∧ rcF f N s = updO f s (0, 0) ∧ rcE (updO f s (0, 0)) N s = 7 ∧ rcF (updO f s (0, 0)) N s = updO f s (0, 0) ∧ ApI (updO f s (0, 0)) N (M.eraseIdx k) := by
  obtain ⟨s', a, b, c, e⟩ := A.own _ (List.getElem_mem hk)
  obtain rfl : s' = s := by omega
  have h0 : (f s').1 ≠ 0 := by rw [e]; dsimp only; have := c.1; omega
  have h1 : rcE f N (s' : Int) = 0 := by
    unfold rcE
    rw [if_pos ⟨by omega, by omega⟩, Int.toNat_natCast, if_neg h0]
  have h2 : rcE (updO f s' (0, 0)) N (s' : Int) = 7 := by
    unfold rcE
    rw [if_pos ⟨by omega, by omega⟩, Int.toNat_natCast, if_pos (by unfold updO; rw [if_pos rfl])]
  refine ⟨b, h1, ?_, h2, ?_, fun o ho => ?_, A.dist.sublist (List.eraseIdx_sublist _ _), ?_⟩
  · unfold rcF
    rw [if_pos h1, Int.toNat_natCast]
  · unfold rcF
    rw [if_neg (by rw [h2]; decide)]
  · obtain ⟨j, hj, hjk, rfl⟩ := List.mem_eraseIdx_iff_getElem.1 ho
    obtain ⟨s2, a2, b2, c2, e2⟩ := A.own _ (List.getElem_mem hj)
    refine ⟨s2, a2, b2, c2, ?_⟩
    have hne : s2 ≠ s' := fun he => by
      rcases Nat.lt_or_gt_of_ne hjk with h | h
      · exact (List.pairwise_iff_getElem.1 A.dist) j k hj hk h (by rw [a2, a, he])
      · exact (List.pairwise_iff_getElem.1 A.dist) k j hk hj h (by rw [a2, a, he])
    unfold updO
    rw [if_neg hne]
    exact e2
  · have h := cnt_upd (f := f) (0, 0) b
    have h3 : ownB f s' = true := decide_eq_true h0
    rw [h3] at h
    rw [List.length_eraseIdx_of_lt hk, A.len]
    have h4 : decide (((0, 0) : Ownr).1 ≠ 0) = false := rfl
    rw [h4] at h
    simp at h
    omega
theorem ApI.ne (A : ApI f N M) {a b : Nat} (ha : a < M.length) (hb : b < a) : (M[a]).slot ≠ (M[b]'(Nat.lt_trans hb ha)).slot := fun e =>
  (List.pairwise_iff_getElem.1 A.dist) b a (Nat.lt_trans hb ha) ha hb e.symm
theorem stk_no {f : Nat → Ownr} {N : Nat} {p q : Int} (h : ¬ PgOk p q) : stK f N p q = 0 ∧ stE f N p q = 2 ∧ stF f N p q = f := ⟨if_neg h, if_neg h, if_neg h⟩
theorem stk_full {f : Nat → Ownr} {N : Nat} {p q : Int} (h : PgOk p q) (hl : leastF f N = none) : stK f N p q = 0 ∧ stE f N p q = 9 ∧ stF f N p q = f := by
  refine ⟨?_, ?_, ?_⟩
  · unfold stK; rw [if_pos h, hl]; rfl
  · unfold stE; rw [if_pos h, hl]; rfl
  · unfold stF; rw [if_pos h, hl]
theorem stk_one {f : Nat → Ownr} {N i : Nat} {p q : Int} (h : PgOk p q) (hl : leastF f N = some i) : stK f N p q = i ∧ stE f N p q = 0 ∧ stF f N p q = updO f i (p.toNat, q.toNat) := by
  refine ⟨?_, ?_, ?_⟩
  · unfold stK; rw [if_pos h, hl]; rfl
  · unfold stE; rw [if_pos h, hl]; rfl
  · unfold stF; rw [if_pos h, hl]
end
end Go.Proofs.Ytenfeamohcclaaa
