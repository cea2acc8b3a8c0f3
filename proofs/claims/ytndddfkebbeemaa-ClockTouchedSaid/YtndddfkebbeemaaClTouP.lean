/-
  A quiet ring in which some are touched: who is told is touched only if all are. Of no program.
-/
import Derived.Test.YtndddfkebbeemaaClTold
namespace Go.Proofs.Ytndddfkebbeemaa
open Go

/-- None is active; those of M, and no others, are touched. -/
structure TouI (L : List Fr) (M : List Nat) : Prop where
  off : ∀ x ∈ L, x.2.1 = false
  on : ∀ x ∈ L, (x.2.2 = true ↔ x.1 ∈ M)
  sub : ∀ x ∈ M, x ∈ namesL L
theorem TouI.nil {L : List Fr} (h : allQ L) : TouI L [] :=
  ⟨fun x hx => (h x hx).1, fun x hx => ⟨fun e => absurd e (by rw [(h x hx).2]; decide), fun e => absurd e List.not_mem_nil⟩, fun _ hx => absurd hx List.not_mem_nil⟩
theorem tou_mem {L : List Fr} {x : Int} (hh : hasL L x = true) {y : Fr} (hy : y ∈ touL L x) : ∃ z ∈ L, y.1 = z.1 ∧ y.2.1 = z.2.1 ∧ y.2.2 = (z.2.2 || decide (z.1 = x.toNat)) := by
  unfold touL at hy
  rw [if_pos hh] at hy
  obtain ⟨z, hz, rfl⟩ := List.mem_map.1 hy
  refine ⟨z, hz, ?_⟩
  by_cases h : z.1 = x.toNat
  · rw [if_pos h]; simp [h]
  · rw [if_neg h]; simp [h]
theorem TouI.touch {L : List Fr} {M : List Nat} (h : TouI L M) {x : Int} (hh : hasL L x = true) : TouI (touL L x) (M ++ [x.toNat]) := by
  refine ⟨fun y hy => ?_, fun y hy => ?_, fun y hy => ?_⟩
  · obtain ⟨z, hz, _, h2, _⟩ := tou_mem hh hy
    rw [h2]; exact h.off z hz
  · obtain ⟨z, hz, h1, _, h3⟩ := tou_mem hh hy
    rw [h3, h1, List.mem_append, List.mem_singleton, Bool.or_eq_true, decide_eq_true_eq, h.on z hz]
  · rw [touL_names]
    rcases List.mem_append.1 hy with hy | hy
    · exact h.sub y hy
    · rw [List.mem_singleton] at hy
      subst hy
      exact (of_decide_eq_true hh).2
theorem tou_no {L : List Fr} {x : Int} (hh : hasL L x = false) : noE L x = 7 ∧ touL L x = L := by
  refine ⟨?_, ?_⟩
  · unfold noE; rw [hh]; rfl
  · unfold touL; rw [hh]; rfl
theorem next_first : ∀ (A B : List Fr), (∀ x ∈ A, x.2.1 = false) → (∃ x ∈ A, x.2.2 = false) → ∃ x ∈ A, x.2.2 = false ∧ (nextL (A ++ B)).1 = (x.1, true)
  | [], _, _, h => by obtain ⟨x, hx, _⟩ := h; exact absurd hx List.not_mem_nil
  | x :: A, B, h1, h2 => by
    cases ht : x.2.2 with
    | false =>
      refine ⟨x, List.mem_cons_self, ht, ?_⟩
      rw [List.cons_append, nextL_quiet ⟨h1 x List.mem_cons_self, ht⟩]
    | true =>
      obtain ⟨y, hy, e⟩ := h2
      have hyA : y ∈ A := by
        rcases List.mem_cons.1 hy with rfl | hy
        · rw [ht] at e; cases e
        · exact hy
      obtain ⟨z, hz, e1, e2⟩ := next_first A (B ++ [stepF x]) (fun z hz => h1 z (List.mem_cons_of_mem _ hz)) ⟨y, hyA, e⟩
      refine ⟨z, List.mem_cons_of_mem _ hz, e1, ?_⟩
      rw [List.cons_append, nextL_pass (by rw [ht, Bool.or_true]), List.append_assoc]
      exact e2
/-- Behind the touches: a Next. -/
theorem TouI.next {L : List Fr} {M : List Nat} (h : TouI L M) (hne : L ≠ []) : ∃ x, nextL L = ((x, true), (nextL L).2) ∧ x ∈ namesL L ∧ (x ∈ M → ∀ y ∈ namesL L, y ∈ M) := by
  by_cases hq : ∃ x ∈ L, x.2.2 = false
  · obtain ⟨x, hx, e1, e2⟩ := next_first L [] h.off hq
    rw [List.append_nil] at e2
    refine ⟨x.1, by rw [← e2], List.mem_map_of_mem hx, fun hm => ?_⟩
    have := (h.on x hx).2 hm
    rw [e1] at this
    cases this
  · obtain ⟨j, M2, x, _, h2, h3, _, h5⟩ := nextL_at L hne
    refine ⟨x.1, by rw [← h5], ?_, fun _ y hy => ?_⟩
    · refine (nextL_perm L).mem_iff.1 ?_
      rw [h2, h3]
      simp [namesL]
    · obtain ⟨z, hz, rfl⟩ := List.mem_map.1 hy
      refine (h.on z hz).1 ?_
      cases e : z.2.2 with
      | true => rfl
      | false => exact absurd ⟨z, hz, e⟩ hq
/-- The range's two answers: are all told so far in M; has x been told, and is it in M? -/
def allM (M : List Nat) (l : List Nat) : Bool := l.all (fun y => decide (y ∈ M))
def ownM (M : List Nat) (x : Nat) (l : List Nat) : Bool := l.any (fun y => decide (y ∈ M) && decide (y = x))
theorem allM_snoc (M l : List Nat) (y : Nat) : allM M (l ++ [y]) = (allM M l && decide (y ∈ M)) := by simp [allM]
theorem ownM_snoc (M l : List Nat) (x y : Nat) : ownM M x (l ++ [y]) = (ownM M x l || (decide (y ∈ M) && decide (y = x))) := by simp [ownM]
theorem tou_end {M N : List Nat} {x : Nat} (hx : x ∈ M → ∀ y ∈ N, y ∈ M) : (!ownM M x N || allM M N) = true := by
  cases h : ownM M x N with
  | false => rfl
  | true =>
    obtain ⟨y, hy, e⟩ := List.any_eq_true.1 h
    rw [Bool.and_eq_true, decide_eq_true_eq, decide_eq_true_eq] at e
    obtain ⟨e1, e2⟩ := e
    subst e2
    rw [Bool.not_true, Bool.false_or]
    exact List.all_eq_true.2 fun z hz => decide_eq_true (hx e1 z hz)
end Go.Proofs.Ytndddfkebbeemaa
