/-
  rmap, by numbers: whose each frame is; the pages of a process. Of no program.
-/
import Derived.Test.YtenfeamohcclaaaRows
namespace Go.Proofs.Ytenfeamohcclaaa
open Go

/-- Whose a frame is: a process (0: nobody's), a page. -/
abbrev Ownr := Nat × Nat
def PgOk (p q : Int) : Prop := 1 ≤ p ∧ p ≤ 8 ∧ 0 ≤ q ∧ q ≤ 1023
instance (p q : Int) : Decidable (PgOk p q) := inferInstanceAs (Decidable (_ ∧ _ ∧ _ ∧ _))
def FrOk (N : Nat) (x : Int) : Prop := 0 ≤ x ∧ x < (N : Int)
instance (N : Nat) (x : Int) : Decidable (FrOk N x) := inferInstanceAs (Decidable (_ ∧ _))
/-- How many frames New makes. -/
def capN (n : Int) : Nat := if n < 0 then 0 else if 1024 < n then 1024 else n.toNat
theorem capN_le (n : Int) : capN n ≤ 1024 := by
  unfold capN
  split
  · omega
  · split <;> omega
/-- The first of the n frames that is that page's. -/
def findF (f : Nat → Ownr) (x : Ownr) : Nat → Option Nat
  | 0 => none
  | n + 1 => match findF f x n with
    | some i => some i
    | none => if f n = x then some n else none
theorem findF_some {f : Nat → Ownr} {x : Ownr} {i : Nat} : ∀ {n}, findF f x n = some i → i < n ∧ f i = x
  | 0, h => by cases h
  | n + 1, h => by
    unfold findF at h
    cases h1 : findF f x n with
    | some j =>
      rw [h1] at h
      cases h
      have := findF_some h1
      exact ⟨by omega, this.2⟩
    | none =>
      rw [h1] at h
      dsimp only at h
      by_cases h2 : f n = x
      · rw [if_pos h2] at h
        cases h
        exact ⟨by omega, h2⟩
      · rw [if_neg h2] at h
        cases h
theorem findF_none {f : Nat → Ownr} {x : Ownr} : ∀ {n}, findF f x n = none → ∀ i, i < n → f i ≠ x
  | 0, _, i, hi => absurd hi (Nat.not_lt_zero _)
  | n + 1, h, i, hi => by
    unfold findF at h
    cases h1 : findF f x n with
    | some j => rw [h1] at h; cases h
    | none =>
      rw [h1] at h
      dsimp only at h
      by_cases h2 : f n = x
      · rw [if_pos h2] at h; cases h
      · by_cases e : i = n
        · rw [e]; exact h2
        · exact findF_none h1 i (by omega)
/-- Set: the answer, and what becomes of it. -/
def rsE (f : Nat → Ownr) (N : Nat) (x p q : Int) : Int :=
  if FrOk N x ∧ PgOk p q then (if (f x.toNat).1 ≠ 0 then 80 else if (findF f (p.toNat, q.toNat) N).isSome then 8 else 0) else 2
def updO (f : Nat → Ownr) (i : Nat) (v : Ownr) : Nat → Ownr := fun j => if j = i then v else f j
def rsF (f : Nat → Ownr) (N : Nat) (x p q : Int) : Nat → Ownr := if rsE f N x p q = 0 then updO f x.toNat (p.toNat, q.toNat) else f
/-- Clear. -/
def rcE (f : Nat → Ownr) (N : Nat) (x : Int) : Int := if FrOk N x then (if (f x.toNat).1 = 0 then 7 else 0) else 2
def rcF (f : Nat → Ownr) (N : Nat) (x : Int) : Nat → Ownr := if rcE f N x = 0 then updO f x.toNat (0, 0) else f
/-- Get. -/
def rgO (f : Nat → Ownr) (N : Nat) (x : Int) : Ownr := if FrOk N x then f x.toNat else (0, 0)
/-- Of: the first n pages' frames. -/
def ofL (f : Nat → Ownr) (N : Nat) (p : Int) : Nat → List (Nat × Nat)
  | 0 => []
  | n + 1 => if 1 ≤ p then (match findF f (p.toNat, n) N with
    | some i => ofL f N p n ++ [(n, i)]
    | none => ofL f N p n) else []
/-- A frame is one page's, a page has one frame. -/
structure RmI (f : Nat → Ownr) (N : Nat) : Prop where
  le : N ≤ 1024
  no : ∀ i, i < N → (f i).1 = 0 → f i = (0, 0)
  ok : ∀ i, i < N → (f i).1 ≤ 8 ∧ (f i).2 ≤ 1023
  one : ∀ i j, i < N → j < N → (f i).1 ≠ 0 → f i = f j → i = j
section
variable {f : Nat → Ownr} {N : Nat}
theorem RmI.new (n : Int) : RmI (fun _ => (0, 0)) (capN n) := ⟨capN_le n, fun _ _ _ => rfl, fun _ _ => ⟨by simp, by simp⟩, fun _ _ _ _ h => absurd rfl h⟩
theorem RmI.find (I : RmI f N) {i : Nat} (hi : i < N) (h0 : (f i).1 ≠ 0) : findF f (f i) N = some i := by
  cases h : findF f (f i) N with
  | none => exact absurd rfl (findF_none h i hi)
  | some j =>
    obtain ⟨h1, h2⟩ := findF_some h
    rw [I.one i j hi h1 h0 h2.symm]
theorem RmI.set (I : RmI f N) (x p q : Int) : RmI (rsF f N x p q) N := by
  unfold rsF
  by_cases h : rsE f N x p q = 0
  · rw [if_pos h]
    unfold rsE at h
    by_cases h1 : FrOk N x ∧ PgOk p q
    · rw [if_pos h1] at h
      by_cases h2 : (f x.toNat).1 ≠ 0
      · rw [if_pos h2] at h; exact absurd h (by decide)
      · rw [if_neg h2] at h
        cases h3 : findF f (p.toNat, q.toNat) N with
        | some i => rw [h3] at h; exact absurd h (by simp)
        | none =>
          have hno := findF_none h3
          obtain ⟨p1, p2, q1, q2⟩ := h1.2
          refine ⟨I.le, fun i hi hz => ?_, fun i hi => ?_, fun i j hi hj hz e => ?_⟩
          · unfold updO at hz ⊢
            split at hz
            · dsimp only at hz; omega
            · next hn => rw [if_neg hn]; exact I.no i hi hz
          · unfold updO
            split
            · dsimp only; omega
            · exact I.ok i hi
          · unfold updO at hz e
            by_cases ei : i = x.toNat <;> by_cases ej : j = x.toNat
            · rw [ei, ej]
            · rw [if_pos ei, if_neg ej] at e
              exact absurd e.symm (hno j hj)
            · rw [if_neg ei, if_pos ej] at e
              exact absurd e (hno i hi)
            · rw [if_neg ei] at hz
              rw [if_neg ei, if_neg ej] at e
              exact I.one i j hi hj hz e
    · rw [if_neg h1] at h; exact absurd h (by decide)
  · rw [if_neg h]; exact I
theorem RmI.clear (I : RmI f N) (x : Int) : RmI (rcF f N x) N := by
  unfold rcF
  by_cases h : rcE f N x = 0
  · rw [if_pos h]
    refine ⟨I.le, fun i hi hz => ?_, fun i hi => ?_, fun i j hi hj hz e => ?_⟩
    · unfold updO at hz ⊢
      split
      · rfl
      · next hn => rw [if_neg hn] at hz; exact I.no i hi hz
    · unfold updO
      split
      · simp
      · exact I.ok i hi
    · unfold updO at hz e
      by_cases ei : i = x.toNat
      · rw [if_pos ei] at hz; exact absurd rfl hz
      · rw [if_neg ei] at hz e
        by_cases ej : j = x.toNat
        · rw [if_pos ej] at e; rw [e] at hz; exact absurd rfl hz
        · rw [if_neg ej] at e
          exact I.one i j hi hj hz e
  · rw [if_neg h]; exact I
end
end Go.Proofs.Ytenfeamohcclaaa
