/-
  The nodes of all frames: which one stands where.
-/
import Derived.Test.YtkckmdmpbhkgpaaRefOrder
import Derived.Test.YtkckmdmpbhkgpaaLawAll
namespace Go.Proofs.Ytkckmdmpbhkgpaa
open Go.RowKit Go

theorem frL_at (g : Nat → Int) : ∀ m, (∀ i, i < m → 0 ≤ g (18 + i)) → ∀ k, k < m → ∀ i : Nat, sumF g k ≤ i → (i : Int) < sumF g (k + 1) → (frL g m)[i]? = some (k : Int)
  | 0, _, k, hk, _, _, _ => absurd hk (Nat.not_lt_zero _)
  | m + 1, h, k, hk, i, h1, h2 => by
    have hl := frL_length g m (fun i hi => h i (by omega))
    by_cases e : k = m
    · subst e
      show (frL g k ++ List.replicate (g (18 + k)).toNat (k : Int))[i]? = _
      have h3 : sumF g (k + 1) = sumF g k + g (18 + k) := rfl
      rw [List.getElem?_append_right (by omega), List.getElem?_replicate, if_pos (by omega)]
    · show (frL g m ++ List.replicate (g (18 + m)).toNat (m : Int))[i]? = _
      have h3 := sumF_mono g m (fun i hi => h i (by omega)) (m - (k + 1)) (k + 1) (by omega)
      rw [show k + 1 + (m - (k + 1)) = m by omega] at h3
      rw [List.getElem?_append_left (by omega)]
      exact frL_at g m (fun i hi => h i (by omega)) k (by omega) i h1 h2

theorem sumF_split (g : Nat → Int) : ∀ m (i : Nat), (i : Int) < sumF g m → ∃ k, k < m ∧ sumF g k ≤ i ∧ (i : Int) < sumF g (k + 1)
  | 0, i, h => by simp [sumF] at h; omega
  | m + 1, i, h => by
    by_cases e : (i : Int) < sumF g m
    · obtain ⟨k, h1, h2, h3⟩ := sumF_split g m i e
      exact ⟨k, by omega, h2, h3⟩
    · exact ⟨m, by omega, by omega, h⟩

/-- What the plain one's list says: below the first frame of a node smaller nodes, from there on none. -/
theorem frL_below {g : Nat → Int} (G : Good g) {n : Nat} (hn : g 0 = n) {k : Nat} (hk : k < n) (i : Nat) (hi : (i : Int) < sumF g n) :
    ∃ z : Nat, (frL g n)[i]? = some (z : Int) ∧ ((i : Int) < sumF g k ↔ z < k) := by
  obtain ⟨z, h1, h2, h3⟩ := sumF_split g n i hi
  refine ⟨z, frL_at g n (fun i hi => by have := G.frames i (by omega); omega) z h1 i h2 h3, ?_⟩
  constructor
  · intro h
    by_cases e : z < k
    · exact e
    · have := sumF_le G hn (show k ≤ z by omega) (by omega); omega
  · intro h
    have := sumF_le G hn (show z + 1 ≤ k by omega) (by omega); omega

/-- The plain list in memory. -/
structure FrAt (W : World) (q L : Nat) (g : Nat → Int) (n : Nat) : Prop where
  len : (L : Int) = sumF g n
  cell : ∀ i, i < L → W.cell? ⟨q, i, none⟩ = some (.int .i64 ((frL g n)[i]?.getD 0))
  lt : q < W.heap.size
theorem FrAt.later {W W' : World} {q L : Nat} {g : Nat → Int} {n : Nat} (F : FrAt W q L g n) (hb : Below W.heap.size W W') : FrAt W' q L g n :=
  ⟨F.len, fun i hi => by rw [hb.cell (p := ⟨q, i, none⟩) F.lt]; exact F.cell i hi, Nat.lt_of_lt_of_le F.lt hb.size⟩

theorem refframes_at (A : Array Value) (g : Nat → Int) (n : Nat) (w : World) (hA : Cfg A g) (G : Good g) (hn : g 0 = n) :
    Calls Try.prog 11 #[.agg A] w fun e w' => ∃ q L c, e = .returned (.slice (some ⟨q, 0, none⟩) L c) ∧ FrAt w' q L g n ∧ Below w.heap.size w w' := by
  refine (refframes_yes A g n w hA ((good_iff g).2 G) hn).mono ?_
  rintro e w' ⟨v, rfl, ho, hb⟩
  have hl := frL_length g n (fun i hi => by have := G.frames i (by omega); omega)
  have hpos : 0 < (frL g n).length := by
    have h1 := G.n1
    have h2 := sumF_le G hn (show 1 ≤ n by omega) (Nat.le_refl _)
    have h3 := G.frames 0 (by omega)
    have h4 : sumF g 1 = 0 + g 18 := rfl
    rw [Nat.add_zero] at h3
    omega
  have ho2 := ho
  rcases ho.2 with ⟨_, h0⟩ | ⟨q, cap, cur, rfl, _, hq, _⟩
  · omega
  · refine ⟨q, _, cap, rfl, ⟨hl, fun i hi => ?_, ?_⟩, hb⟩
    · rw [ho2.cellAt i (by omega)]
      simp [hi]
    · exact (ho2.lt q rfl).2

/-- The plain order in memory. -/
theorem reforder_at (A : Array Value) (g : Nat → Int) (k n : Nat) (w : World) (hA : Cfg A g) (G : Good g) (hn : g 0 = n) (hk : k < n) :
    Calls Try.prog 17 #[.agg A, .int .i64 k] w fun e w' => ∃ q c, e = .returned (.slice (some ⟨q, 0, none⟩) n c) ∧ OrderAt w' q n (ordL g k n) ∧ Below w.heap.size w w' := by
  have hn8 : n ≤ 8 := by have := G.n2; omega
  refine (reforder_any A g k n w hA G hn hk).mono ?_
  rintro e w' ⟨v, rfl, R⟩
  have hl := ordL_length g k n
  have ho := R.own
  rcases R.own.2 with ⟨_, h0⟩ | ⟨q, cap, cur, rfl, _, hq, _⟩
  · omega
  · refine ⟨q, cap, rfl, ⟨hl, fun j hj => ?_⟩, R.below⟩
    rw [ho.cellAt j (by omega), getElem!_pos (ordL g k n) j (by omega)]
    rw [List.take_of_length_le (by omega)]
    simp [show j < (ordL g k n).length by omega]
end Go.Proofs.Ytkckmdmpbhkgpaa
