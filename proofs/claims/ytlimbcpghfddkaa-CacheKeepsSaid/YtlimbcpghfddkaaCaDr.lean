/-
  CacheDrops: a cache of the frames 0 to n - 1, and how many objects are out of each.
-/
import Derived.Test.YtlimbcpghfddkaaCaLawColours
namespace Go.Proofs.Ytlimbcpghfddkaa
open Go.RowKit Go Go.Maps

theorem u64_modC (x n : Int) (h1 : 1 ≤ n) (h2 : n ≤ 1024) : ∃ k : Nat, (k : Int) < n ∧ wrap64 ((IntKind.u64.wrap x).tmod n) = k := by
  have h0 : 0 ≤ IntKind.u64.wrap x := by rw [IntKind.wrap_u64]; omega
  have e1 : (IntKind.u64.wrap x).tmod n = (IntKind.u64.wrap x) % n := Int.tmod_eq_emod_of_nonneg h0
  have l1 := Int.emod_lt_of_pos (IntKind.u64.wrap x) (show 0 < n by omega)
  have l2 := Int.emod_nonneg (IntKind.u64.wrap x) (show n ≠ 0 by omega)
  refine ⟨((IntKind.u64.wrap x) % n).toNat, by omega, ?_⟩
  rw [e1, IntWalk.wrap64_in _ ⟨by omega, by omega⟩]
  omega
theorem u64_modD (x n : Int) (h1 : 1 ≤ n) : ∃ k : Nat, (k : Int) < n ∧ (IntKind.u64.wrap x).tmod n = k := by
  have h0 : 0 ≤ IntKind.u64.wrap x := by rw [IntKind.wrap_u64]; omega
  have e1 : (IntKind.u64.wrap x).tmod n = (IntKind.u64.wrap x) % n := Int.tmod_eq_emod_of_nonneg h0
  have l1 := Int.emod_lt_of_pos (IntKind.u64.wrap x) (show 0 < n by omega)
  have l2 := Int.emod_nonneg (IntKind.u64.wrap x) (show n ≠ 0 by omega)
  exact ⟨((IntKind.u64.wrap x) % n).toNat, by omega, by rw [e1]; omega⟩
structure DrI (A : Ca) (n : Nat) (o : Nat → Nat) : Prop where
  fr : ∀ p ∈ A.L, ∃ i : Nat, p.fr = i ∧ i < n
  sl : ∀ i : Nat, i < n → ∃ S, findL A.L i = some S ∧ S.ch.length + o i = S.n ∧ ∀ j, S.tu j = 0
  len : A.L.length ≤ n
theorem DrI.first {sz : Nat} (h : mayC sz (0 : Nat) = true) : ∀ n : Nat, DrI (colA sz n) n (fun _ => 0)
  | 0 => ⟨fun _ h => absurd h List.not_mem_nil, fun i h => absurd h (Nat.not_lt_zero i), Nat.le_refl _⟩
  | n + 1 => by
    have ih := DrI.first h n
    refine ⟨fun p hp => ?_, fun i hi => ?_, by rw [colA_len]; exact Nat.le_refl _⟩
    · have := colA_fr sz (n + 1) p hp
      exact ⟨p.fr.toNat, by omega, by omega⟩
    · by_cases e : i = n
      · subst e
        refine ⟨_, colA_last h i, ?_, fun _ => rfl⟩
        show (List.range ((256 - (colA sz i).co) / sz)).length + 0 = (256 - (colA sz i).co) / sz
        rw [List.length_range, Nat.add_zero]
      · obtain ⟨S, h1, h2⟩ := ih.sl i (by omega)
        refine ⟨S, ?_, h2⟩
        show findL (insL (colA sz n).L _) _ = _
        rw [findL_ins (colA_I h n).rise (findL_none (colA_new sz n)), if_neg (by show ¬ (i : Int) = (n : Int); omega)]
        exact h1
section
variable {A : Ca} {n : Nat} {o : Nat → Nat}
theorem take_parts {S : Sl} (hf : 0 < S.ch.length) (hI : SlI S) : ∃ k : Nat, S.take.1 = (k : Int) ∧ S.take.2.2.ch.length + 1 = S.ch.length ∧ S.take.2.2.n = S.n ∧ k < S.n ∧ S.take.2.2.out k = true ∧ S.take.2.2.tu = S.tu := by
  unfold Sl.take
  cases e : S.ch with
  | nil => rw [e] at hf; exact absurd hf (Nat.lt_irrefl _)
  | cons i r =>
    refine ⟨i, rfl, ?_, rfl, hI.lt i (by rw [e]; simp), ?_, rfl⟩
    · simp
    · show updC S.out i true i = true
      exact updC_same _ _ _
/-- An object of frame f is taken. -/
theorem DrI.take (D : DrI A n o) (I : CaI A) {p : Pl} (hp : pickL A.L = some p) : ∃ f : Nat, p.fr = f ∧ f < n ∧ DrI (A.turned p.fr p.S.take.2.2) n (updC o f (o f + 1)) ∧ ∃ k : Nat, p.S.take.1 = (k : Int) ∧ k < p.S.n ∧ p.S.take.2.2.n = p.S.n ∧ p.S.take.2.2.out k = true ∧ p.S.take.2.2.tu k = 0 := by
  have hm := pick_mem hp
  obtain ⟨f, hf, hfn⟩ := D.fr p hm
  have hI := I.inv p hm
  obtain ⟨k, h1, h2, h3, h4, h5, h6⟩ := take_parts (pick_free hp hI) hI
  have hfind := findL_of I.rise hm
  rw [hf] at hfind
  obtain ⟨S, g1, g2, g3⟩ := D.sl f hfn
  rw [hfind] at g1
  injection g1 with g1
  subst g1
  refine ⟨f, hf, hfn, ⟨fun q hq => ?_, fun i hi => ?_, by show (setL _ _ _).length ≤ n; rw [setL_len]; exact D.len⟩, k, h1, h4, h3, h5, by rw [h6]; exact g3 k⟩
  · rcases mem_setL hq with ⟨h, _⟩ | ⟨h, _⟩
    · exact D.fr q h
    · rw [h]
      exact ⟨f, hf, hfn⟩
  · show ∃ S, findL (setL A.L p.fr p.S.take.2.2) i = some S ∧ _
    rw [findL_set I.rise, hf]
    by_cases e : i = f
    · subst e
      rw [if_pos rfl, hfind, updC_same]
      refine ⟨p.S.take.2.2, rfl, by omega, fun j => ?_⟩
      rw [h6]
      exact g3 j
    · rw [if_neg (by omega), updC_other _ e]
      exact D.sl i hi
/-- It is given back. -/
theorem DrI.back (D : DrI A n o) (I : CaI A) {f k : Nat} (hfn : f < n) {S : Sl} (hS : findL A.L (f : Int) = some S) (hk : k < S.n) (ho : S.out k = true) (ht : S.tu k = 0) : ∃ m, o f = m + 1 ∧ (A.give f k).1 = 0 ∧ DrI (A.give f k).2 n (updC o f m) := by
  obtain ⟨hI, _⟩ := I.find hS
  obtain ⟨S2, g1, g2, g3⟩ := D.sl f hfn
  rw [hS] at g1
  injection g1 with g1
  subst g1
  have hg : S.give k = (0, S.given k) := by
    unfold Sl.give
    rw [if_neg (by rw [has_nat.2 hk]; decide), if_neg (by rw [Int.toNat_natCast, ho]; decide), if_neg (by rw [Int.toNat_natCast]; exact fun h => h ht), Int.toNat_natCast]
  have hz : A.give f k = (0, A.turned f (S.given k)) := by
    unfold Ca.give
    rw [hS]
    dsimp only
    rw [hg]
  have hni : k ∉ S.ch := (hI.out k hk).1 ho
  have hlen : S.ch.length < S.n := by
    have h1 := (hI.given hk ho ht).len
    have h2 : (S.given k).ch.length = S.ch.length + 1 := rfl
    have h3 : (S.given k).n = S.n := rfl
    omega
  rw [hz]
  refine ⟨o f - 1, by omega, rfl, ⟨fun q hq => ?_, fun i hi => ?_, by show (setL _ _ _).length ≤ n; rw [setL_len]; exact D.len⟩⟩
  · rcases mem_setL hq with ⟨h, _⟩ | ⟨h, _⟩
    · exact D.fr q h
    · rw [h]
      exact ⟨f, rfl, hfn⟩
  · show ∃ S', findL (setL A.L f (S.given k)) i = some S' ∧ _
    rw [findL_set I.rise]
    by_cases e : i = f
    · subst e
      rw [if_pos rfl, hS, updC_same]
      refine ⟨S.given k, rfl, ?_, fun j => g3 j⟩
      show S.ch.length + 1 + (o i - 1) = S.n
      omega
    · rw [if_neg (by omega), updC_other _ e]
      exact D.sl i hi
/-- Dropped just if none is out. -/
theorem DrI.drop (D : DrI A n o) {f : Nat} (hfn : f < n) : A.drop f = if o f = 0 then (0, A.cutted f) else (80, A) := by
  obtain ⟨S, g1, g2, g3⟩ := D.sl f hfn
  unfold Ca.drop
  rw [g1]
  dsimp only
  by_cases h : o f = 0
  · rw [if_pos h, if_pos (by omega)]
  · rw [if_neg h, if_neg (by omega)]
end
end Go.Proofs.Ytlimbcpghfddkaa
