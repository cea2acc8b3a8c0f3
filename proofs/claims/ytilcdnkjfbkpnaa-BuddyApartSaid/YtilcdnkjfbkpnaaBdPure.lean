/-
  buddy's document: what its lists come to. Pure.
-/
import Derived.Test.YtilcdnkjfbkpnaaBdGive
namespace Go.Proofs.Ytilcdnkjfbkpnaa
open Go.RowKit Go

theorem mem_dropL {L : List (Int × Int)} {x y : Int × Int} : y ∈ dropL L x ↔ y ∈ L ∧ y ≠ x := by
  unfold dropL
  rw [List.mem_filter]
  simp
/-- By rising numbers. -/
def Rising (L : List (Int × Int)) : Prop := L.Pairwise fun p q => p.1 < q.1
theorem Rising.dropL {L : List (Int × Int)} (h : Rising L) (x : Int × Int) : Rising (dropL L x) := List.Pairwise.filter _ h
theorem Rising.inj {L : List (Int × Int)} (h : Rising L) {p q : Int × Int} (hp : p ∈ L) (hq : q ∈ L) (e : p.1 = q.1) : p = q := by
  obtain ⟨i, hi, rfl⟩ := List.mem_iff_getElem.1 hp
  obtain ⟨j, hj, rfl⟩ := List.mem_iff_getElem.1 hq
  have hw := List.pairwise_iff_getElem.1 h
  by_cases h1 : i < j
  · have := hw i j hi hj h1; omega
  · by_cases h2 : j < i
    · have := hw j i hj hi h2; omega
    · obtain rfl : i = j := by omega
      rfl
theorem Rising.index {L : List (Int × Int)} (h : Rising L) {i j : Nat} (hi : i < L.length) (hj : j < L.length) : i ≤ j ↔ L[i].1 ≤ L[j].1 := by
  have hw := List.pairwise_iff_getElem.1 h
  constructor
  · intro hij
    by_cases e : i = j
    · subst e; exact Int.le_refl _
    · have := hw i j hi hj (by omega); omega
  · intro hle
    by_cases hji : j < i
    · have := hw j i hj hi hji; omega
    · omega

/-- x in its place. -/
def insL (x : Int × Int) : List (Int × Int) → List (Int × Int)
  | [] => [x]
  | y :: r => if x.1 < y.1 then x :: y :: r else y :: insL x r
theorem stepP_done (x : Int × Int) : ∀ (L A : List (Int × Int)), L.foldl (stepP x) (A, true) = (A ++ L, true)
  | [], A => by simp
  | y :: r, A => by
    rw [List.foldl_cons]
    have e : stepP x (A, true) y = (A ++ [y], true) := by unfold stepP; rw [if_neg (by simp)]
    rw [e, stepP_done x r, List.append_assoc]; rfl
theorem stepP_all (x : Int × Int) : ∀ (L A : List (Int × Int)), (if (L.foldl (stepP x) (A, false)).2 = true then (L.foldl (stepP x) (A, false)).1 else (L.foldl (stepP x) (A, false)).1 ++ [x]) = A ++ insL x L
  | [], A => by simp [insL]
  | y :: r, A => by
    rw [List.foldl_cons]
    by_cases h : x.1 < y.1
    · have e : stepP x (A, false) y = (A ++ [x] ++ [y], true) := by unfold stepP; rw [if_pos ⟨rfl, h⟩]
      rw [e, stepP_done, if_pos rfl]
      simp [insL, h]
    · have e : stepP x (A, false) y = (A ++ [y], false) := by unfold stepP; rw [if_neg (fun hh => h hh.2)]
      rw [e, stepP_all x r]
      simp [insL, h]
theorem putL_ins (L : List (Int × Int)) (x : Int × Int) : putL L x = insL x L := by
  unfold putL putS
  rw [List.take_length]
  simpa using stepP_all x L []
theorem mem_insL {x y : Int × Int} : ∀ L : List (Int × Int), y ∈ insL x L ↔ y ∈ L ∨ y = x
  | [] => by simp [insL]
  | z :: r => by
    unfold insL
    split
    · simp only [List.mem_cons]
      constructor
      · rintro (h | h | h)
        · exact .inr h
        · exact .inl (.inl h)
        · exact .inl (.inr h)
      · rintro ((h | h) | h)
        · exact .inr (.inl h)
        · exact .inr (.inr h)
        · exact .inl h
    · simp only [List.mem_cons, mem_insL r, or_assoc]
theorem mem_putL {L : List (Int × Int)} {x y : Int × Int} : y ∈ putL L x ↔ y ∈ L ∨ y = x := by rw [putL_ins, mem_insL]
theorem Rising.ins {x : Int × Int} : ∀ {L : List (Int × Int)}, Rising L → (∀ p ∈ L, p.1 ≠ x.1) → Rising (insL x L)
  | [], _, _ => List.pairwise_singleton _ _
  | y :: r, h, hx => by
    have h1 := List.pairwise_cons.1 h
    unfold insL
    split
    · rename_i hlt
      refine List.pairwise_cons.2 ⟨fun p hp => ?_, h⟩
      rcases List.mem_cons.1 hp with rfl | hp
      · exact hlt
      · have := h1.1 p hp; omega
    · rename_i hlt
      refine List.pairwise_cons.2 ⟨fun p hp => ?_, Rising.ins h1.2 (fun p hp => hx p (List.mem_cons_of_mem _ hp))⟩
      rcases (mem_insL r).1 hp with hp | rfl
      · exact h1.1 p hp
      · have := hx y List.mem_cons_self
        omega
theorem Rising.putL {L : List (Int × Int)} {x : Int × Int} (h : Rising L) (hx : ∀ p ∈ L, p.1 ≠ x.1) : Rising (putL L x) := by
  rw [putL_ins]; exact h.ins hx

/-- Which block is cut: of the least order that is great enough, and the first or the last of these. -/
theorem pick_spec (L : List (Int × Int)) (order : Int) (high : Bool) : ∀ k, (pickK L order high k = -1 ∧ ∀ i, i < k → (L.getD i (0, 0)).2 < order) ∨
    ∃ j : Nat, pickK L order high k = j ∧ j < k ∧ order ≤ (L.getD j (0, 0)).2 ∧ ∀ i, i < k → order ≤ (L.getD i (0, 0)).2 → (L.getD j (0, 0)).2 ≤ (L.getD i (0, 0)).2 ∧ ((L.getD i (0, 0)).2 = (L.getD j (0, 0)).2 → if high = true then i ≤ j else j ≤ i)
  | 0 => .inl ⟨rfl, fun i h => absurd h (Nat.not_lt_zero _)⟩
  | k + 1 => by
    have ih := pick_spec L order high k
    have hun : pickK L order high (k + 1) = if (L.getD k (0, 0)).2 < order then pickK L order high k
      else if pickK L order high k < 0 ∨ (L.getD k (0, 0)).2 < (L.getD (pickK L order high k).toNat (0, 0)).2 ∨ (high = true ∧ (L.getD k (0, 0)).2 = (L.getD (pickK L order high k).toNat (0, 0)).2) then k else pickK L order high k := rfl
    rw [hun]
    clear hun
    generalize pickK L order high k = q at *
    by_cases h1 : (L.getD k (0, 0)).2 < order
    · rw [if_pos h1]
      rcases ih with ⟨h, h2⟩ | ⟨j, h, h2, h3, h4⟩
      · refine .inl ⟨h, fun i hi => ?_⟩
        by_cases e : i = k
        · subst e; exact h1
        · exact h2 i (by omega)
      · refine .inr ⟨j, h, by omega, h3, fun i hi hio => ?_⟩
        by_cases e : i = k
        · subst e; omega
        · exact h4 i (by omega) hio
    · rw [if_neg h1]
      rcases ih with ⟨h, h2⟩ | ⟨j, h, h2, h3, h4⟩
      · subst h
        rw [if_pos (.inl (by decide))]
        refine .inr ⟨k, rfl, by omega, by omega, fun i hi hio => ?_⟩
        by_cases e : i = k
        · subst e
          exact ⟨Int.le_refl _, fun _ => by split <;> omega⟩
        · have := h2 i (by omega); omega
      · subst h
        rw [Int.toNat_natCast]
        by_cases hc : (L.getD k (0, 0)).2 < (L.getD j (0, 0)).2 ∨ (high = true ∧ (L.getD k (0, 0)).2 = (L.getD j (0, 0)).2)
        · rw [if_pos (.inr hc)]
          refine .inr ⟨k, rfl, by omega, by omega, fun i hi hio => ?_⟩
          by_cases e : i = k
          · subst e
            exact ⟨Int.le_refl _, fun _ => by split <;> omega⟩
          · obtain ⟨m1, m2⟩ := h4 i (by omega) hio
            rcases hc with hc | ⟨hh, hc⟩
            · exact ⟨by omega, fun e2 => by omega⟩
            · subst hh
              exact ⟨by omega, fun _ => by rw [if_pos rfl]; omega⟩
        · rw [if_neg (fun h => h.elim (fun h0 => by omega) hc)]
          refine .inr ⟨j, rfl, by omega, h3, fun i hi hio => ?_⟩
          by_cases e : i = k
          · subst e
            refine ⟨by omega, fun e2 => ?_⟩
            cases high with
            | true => exact absurd (.inr ⟨rfl, e2⟩) hc
            | false => rw [if_neg (by decide)]; omega
          · exact h4 i (by omega) hio
end Go.Proofs.Ytilcdnkjfbkpnaa
