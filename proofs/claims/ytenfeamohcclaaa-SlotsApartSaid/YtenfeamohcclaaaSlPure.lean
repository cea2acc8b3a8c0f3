/-
  slots, by numbers: whose each one is; the least free one; those that are taken. Of no program.
-/
import Derived.Test.YtenfeamohcclaaaRmOneP
namespace Go.Proofs.Ytenfeamohcclaaa
open Go

/-- The least of the first n that is free. -/
def leastF (f : Nat → Ownr) : Nat → Option Nat
  | 0 => none
  | n + 1 => match leastF f n with
    | some i => some i
    | none => if (f n).1 = 0 then some n else none
theorem leastF_none {f : Nat → Ownr} : ∀ {n}, leastF f n = none → ∀ i, i < n → (f i).1 ≠ 0
  | 0, _, i, hi => absurd hi (Nat.not_lt_zero _)
  | n + 1, h, i, hi => by
    rw [leastF] at h
    cases e : leastF f n with
    | some j => rw [e] at h; cases h
    | none =>
      rw [e] at h
      dsimp only at h
      by_cases h0 : (f n).1 = 0
      · rw [if_pos h0] at h; cases h
      · by_cases hin : i = n
        · rw [hin]; exact h0
        · exact leastF_none e i (by omega)
theorem leastF_some {f : Nat → Ownr} {i : Nat} : ∀ {n}, leastF f n = some i → i < n ∧ (f i).1 = 0 ∧ ∀ j, j < i → (f j).1 ≠ 0
  | 0, h => by cases h
  | n + 1, h => by
    rw [leastF] at h
    cases e : leastF f n with
    | some j =>
      rw [e] at h
      cases h
      obtain ⟨h1, h2, h3⟩ := leastF_some e
      exact ⟨by omega, h2, h3⟩
    | none =>
      rw [e] at h
      dsimp only at h
      by_cases h0 : (f n).1 = 0
      · rw [if_pos h0] at h
        cases h
        exact ⟨Nat.lt_succ_self _, h0, fun j hj => leastF_none e j hj⟩
      · rw [if_neg h0] at h; cases h
theorem leastF_of {f : Nat → Ownr} {i n : Nat} (hi : i < n) (h0 : (f i).1 = 0) (h : ∀ j, j < i → (f j).1 ≠ 0) : leastF f n = some i := by
  cases e : leastF f n with
  | none => exact absurd h0 (leastF_none e i hi)
  | some k =>
    obtain ⟨h1, h2, h3⟩ := leastF_some e
    rcases Nat.lt_trichotomy k i with hk | rfl | hk
    · exact absurd h2 (h k hk)
    · rfl
    · exact absurd h0 (h3 i hk)
theorem leastF_full {f : Nat → Ownr} {n : Nat} (h : ∀ j, j < n → (f j).1 ≠ 0) : leastF f n = none := by
  cases e : leastF f n with
  | none => rfl
  | some k =>
    obtain ⟨h1, h2, _⟩ := leastF_some e
    exact absurd h2 (h k h1)
/-- Take: the number, the answer, what becomes of them. -/
def stK (f : Nat → Ownr) (N : Nat) (p q : Int) : Nat := if PgOk p q then (leastF f N).getD 0 else 0
def stE (f : Nat → Ownr) (N : Nat) (p q : Int) : Int := if PgOk p q then (if (leastF f N).isSome then 0 else 9) else 2
def stF (f : Nat → Ownr) (N : Nat) (p q : Int) : Nat → Ownr := if PgOk p q then (match leastF f N with
  | some i => updO f i (p.toNat, q.toNat)
  | none => f) else f
/-- Those that are taken. -/
def allL (f : Nat → Ownr) (n : Nat) : List Nat := (List.range n).filter (ownB f)
theorem allL_succ (f : Nat → Ownr) (n : Nat) : allL f (n + 1) = if ownB f n then allL f n ++ [n] else allL f n := by
  unfold allL
  rw [List.range_succ, List.filter_append]
  cases h : ownB f n <;> simp [h]
theorem allL_len (f : Nat → Ownr) : ∀ n, (allL f n).length = cntB (ownB f) n
  | 0 => rfl
  | n + 1 => by
    rw [allL_succ, cntB, ← allL_len f n]
    cases h : ownB f n <;> simp
/-- What may be of slots. -/
structure SlI (f : Nat → Ownr) (N : Nat) : Prop where
  le : N ≤ 1024
  no : ∀ i, i < N → (f i).1 = 0 → f i = (0, 0)
  ok : ∀ i, i < N → (f i).1 ≤ 8 ∧ (f i).2 ≤ 1023
section
variable {f : Nat → Ownr} {N : Nat}
theorem SlI.new (n : Int) : SlI (fun _ => (0, 0)) (capN n) := ⟨capN_le n, fun _ _ _ => rfl, fun _ _ => ⟨by simp, by simp⟩⟩
theorem SlI.upd (I : SlI f N) (i : Nat) {v : Ownr} (h1 : v.1 ≤ 8 ∧ v.2 ≤ 1023) (h0 : v.1 = 0 → v = (0, 0)) : SlI (updO f i v) N :=
  ⟨I.le, fun j hj hz => by
    unfold updO at hz ⊢
    by_cases e : j = i
    · rw [if_pos e] at hz ⊢; exact h0 hz
    · rw [if_neg e] at hz ⊢; exact I.no j hj hz, fun j hj => by
    unfold updO
    by_cases e : j = i
    · rw [if_pos e]; exact h1
    · rw [if_neg e]; exact I.ok j hj⟩
theorem SlI.take (I : SlI f N) (p q : Int) : SlI (stF f N p q) N := by
  unfold stF
  by_cases h : PgOk p q
  · rw [if_pos h]
    cases leastF f N with
    | none => exact I
    | some i =>
      obtain ⟨a, b, c, d⟩ := h
      exact I.upd i ⟨by dsimp only; omega, by dsimp only; omega⟩ (fun h => by dsimp only at h; omega)
  · rw [if_neg h]; exact I
theorem SlI.free (I : SlI f N) (x : Int) : SlI (rcF f N x) N := by
  unfold rcF
  by_cases h : rcE f N x = 0
  · rw [if_pos h]; exact I.upd _ ⟨by simp, by simp⟩ (fun _ => rfl)
  · rw [if_neg h]; exact I
/-- One more is taken, or one less. -/
theorem cnt_upd {i : Nat} (v : Ownr) : ∀ {n}, i < n → cntB (ownB (updO f i v)) n + (ownB f i).toNat = cntB (ownB f) n + (decide (v.1 ≠ 0)).toNat
  | 0, h => absurd h (Nat.not_lt_zero _)
  | n + 1, h => by
    rw [cntB, cntB]
    by_cases e : i = n
    · have h1 : cntB (ownB (updO f i v)) n = cntB (ownB f) n := cntB_congr fun j hj => by
        unfold ownB updO
        rw [if_neg (show ¬ j = i from by omega)]
      have h2 : ownB (updO f i v) n = decide (v.1 ≠ 0) := by
        unfold ownB updO
        rw [if_pos e.symm]
      rw [h1, h2, e]
      omega
    · have h2 : ownB (updO f i v) n = ownB f n := by
        unfold ownB updO
        rw [if_neg (fun h => e h.symm)]
      rw [h2]
      have := cnt_upd v (show i < n by omega)
      omega
end
end Go.Proofs.Ytenfeamohcclaaa
