/-
  rmap: pages given to frames in whatever order, all unlike: by numbers.
-/
import Derived.Test.YtjjcbbnnilafdaaRmOps
namespace Go.Proofs.Ytjjcbbnnilafdaa
open Go

def ValO (N : Nat) (o : OpA) : Prop := FrOk N o.frame ∧ PgOk o.pid o.page
instance (N : Nat) (o : OpA) : Decidable (ValO N o) := inferInstanceAs (Decidable (_ ∧ _))
def NeO (a b : OpA) : Prop := a.frame ≠ b.frame ∧ ¬ (a.pid = b.pid ∧ a.page = b.page)
/-- All unlike. -/
def DstO (O : Nat → OpA) (n : Nat) : Prop := ∀ i j, i < n → j < i → NeO (O i) (O j)
theorem DstO.ne {O : Nat → OpA} {n : Nat} (D : DstO O n) {i j : Nat} (hi : i < n) (hj : j < n) (h : i ≠ j) : NeO (O i) (O j) := by
  rcases Nat.lt_or_gt_of_ne h with h | h
  · have := D j i hj h
    exact ⟨fun e => this.1 e.symm, fun e => this.2 ⟨e.1.symm, e.2.symm⟩⟩
  · exact D i j hi h
open Classical in
/-- What becomes of the frames, when those of S are set. -/
noncomputable def ordF (O : Nat → OpA) (N : Nat) (S : Nat → Prop) : Nat → Ownr := fun j =>
  if h : ∃ i, S i ∧ ValO N (O i) ∧ (O i).frame = (j : Int) then ((O h.choose).pid.toNat, (O h.choose).page.toNat) else (0, 0)
section
variable {O : Nat → OpA} {N n : Nat} {S : Nat → Prop}
theorem ordF_in (D : DstO O n) (hS : ∀ i, S i → i < n) {i j : Nat} (h1 : S i) (h2 : ValO N (O i)) (h3 : (O i).frame = (j : Int)) : ordF O N S j = ((O i).pid.toNat, (O i).page.toNat) := by
  have h : ∃ i, S i ∧ ValO N (O i) ∧ (O i).frame = (j : Int) := ⟨i, h1, h2, h3⟩
  unfold ordF
  rw [dif_pos h]
  obtain ⟨c1, c2, c3⟩ := h.choose_spec
  by_cases e : h.choose = i
  · rw [e]
  · exact absurd (c3.trans h3.symm) (D.ne (hS _ c1) (hS _ h1) e).1
theorem ordF_out {j : Nat} (h : ∀ i, S i → ValO N (O i) → (O i).frame ≠ (j : Int)) : ordF O N S j = (0, 0) := by
  unfold ordF
  rw [dif_neg]
  rintro ⟨i, h1, h2, h3⟩
  exact h i h1 h2 h3
theorem ordF_cases (j : Nat) : ordF O N S j = (0, 0) ∨ ∃ i, S i ∧ ValO N (O i) ∧ (O i).frame = (j : Int) ∧ ordF O N S j = ((O i).pid.toNat, (O i).page.toNat) := by
  unfold ordF
  by_cases h : ∃ i, S i ∧ ValO N (O i) ∧ (O i).frame = (j : Int)
  · right
    obtain ⟨c1, c2, c3⟩ := h.choose_spec
    exact ⟨_, c1, c2, c3, dif_pos h⟩
  · left
    exact dif_neg h
theorem ordF_none : ordF O N (fun _ => False) = fun _ => (0, 0) := by
  funext j
  exact ordF_out fun i h => h.elim
theorem ordF_ext {S' : Nat → Prop} (h : ∀ i, S i ↔ S' i) : ordF O N S = ordF O N S' := by
  rw [show S = S' from funext fun i => propext (h i)]
theorem updO_back (f : Nat → Ownr) (i : Nat) (v : Ownr) (h : f i = (0, 0)) : updO (updO f i v) i (0, 0) = f := by
  funext j
  unfold updO
  by_cases e : j = i
  · rw [if_pos e, e, h]
  · rw [if_neg e, if_neg e]
/-- One is set that is not of S. -/
theorem ord_set (D : DstO O n) (hS : ∀ i, S i → i < n) (k : Nat) (hk : k < n) (hkS : ¬ S k) :
    rsE (ordF O N S) N (O k).frame (O k).pid (O k).page = (if ValO N (O k) then 0 else 2) ∧ rsF (ordF O N S) N (O k).frame (O k).pid (O k).page = ordF O N (fun i => S i ∨ i = k) := by
  by_cases hv : ValO N (O k)
  · rw [if_pos hv]
    obtain ⟨⟨v1, v2⟩, v3, v4, v5, v6⟩ := hv
    have hj : (O k).frame = ((O k).frame.toNat : Int) := by omega
    have h0 : ordF O N S (O k).frame.toNat = (0, 0) := ordF_out fun i hi _ e => (D.ne (hS i hi) hk (fun e => hkS (e ▸ hi))).1 (e.trans hj.symm)
    have hno : findF (ordF O N S) ((O k).pid.toNat, (O k).page.toNat) N = none := by
      cases e : findF (ordF O N S) ((O k).pid.toNat, (O k).page.toNat) N with
      | none => rfl
      | some i =>
        obtain ⟨_, h2⟩ := findF_some e
        rcases ordF_cases (O := O) (N := N) (S := S) i with h3 | ⟨i2, c1, ⟨_, p1, p2, p3, p4⟩, _, h3⟩
        · rw [h3] at h2
          have := congrArg Prod.fst h2
          dsimp only at this
          omega
        · rw [h3] at h2
          have a1 := congrArg Prod.fst h2
          have a2 := congrArg Prod.snd h2
          dsimp only at a1 a2
          exact absurd ⟨by omega, by omega⟩ (D.ne (hS i2 c1) hk (fun e => hkS (e ▸ c1))).2
    have h1 : rsE (ordF O N S) N (O k).frame (O k).pid (O k).page = 0 := by
      unfold rsE
      rw [if_pos ⟨⟨v1, v2⟩, v3, v4, v5, v6⟩, h0, hno]
      rfl
    refine ⟨h1, ?_⟩
    unfold rsF
    rw [if_pos h1]
    have hS' : ∀ i, (S i ∨ i = k) → i < n := fun i hi => hi.elim (hS i) (fun e => e ▸ hk)
    funext j
    unfold updO
    by_cases e : j = (O k).frame.toNat
    · rw [if_pos e]
      exact (ordF_in D hS' (.inr rfl) ⟨⟨v1, v2⟩, v3, v4, v5, v6⟩ (by rw [e]; exact hj)).symm
    · rw [if_neg e]
      rcases ordF_cases (O := O) (N := N) (S := fun i => S i ∨ i = k) j with h3 | ⟨i2, c1, c2, c3, h3⟩
      · rw [h3]
        refine ordF_out fun i hi hv2 he => ?_
        have := ordF_in (N := N) D hS' (.inl hi) hv2 he
        rw [h3] at this
        have a1 := congrArg Prod.fst this
        dsimp only at a1
        have := hv2.2.1
        omega
      · rcases c1 with c1 | rfl
        · rw [h3]
          exact ordF_in D hS c1 c2 c3
        · omega
  · rw [if_neg hv]
    have h1 : rsE (ordF O N S) N (O k).frame (O k).pid (O k).page = 2 := if_neg hv
    refine ⟨h1, ?_⟩
    unfold rsF
    rw [if_neg (by rw [h1]; decide)]
    funext j
    rcases ordF_cases (O := O) (N := N) (S := S) j with h3 | ⟨i2, c1, c2, c3, h3⟩
    · rw [h3]
      refine (ordF_out fun i hi hv2 he => ?_).symm
      rcases hi with hi | rfl
      · have := ordF_in (N := N) D hS hi hv2 he
        rw [h3] at this
        have a1 := congrArg Prod.fst this
        dsimp only at a1
        have := hv2.2.1
        omega
      · exact hv hv2
    · rw [h3]
      exact (ordF_in (S := fun i => S i ∨ i = k) D (fun i hi => hi.elim (hS i) (fun e => e ▸ hk)) (.inl c1) c2 c3).symm
/-- And taken back. -/
theorem ord_back (D : DstO O n) (hS : ∀ i, S i → i < n) (k : Nat) (hk : k < n) (hkS : ¬ S k) (hv : ValO N (O k)) :
    rcE (ordF O N (fun i => S i ∨ i = k)) N (O k).frame = 0 ∧ rcF (ordF O N (fun i => S i ∨ i = k)) N (O k).frame = ordF O N S := by
  obtain ⟨h1, h2⟩ := ord_set (N := N) D hS k hk hkS
  rw [if_pos hv] at h1
  have hj : (O k).frame = ((O k).frame.toNat : Int) := by have := hv.1.1; omega
  have h0 : ordF O N S (O k).frame.toNat = (0, 0) := ordF_out fun i hi _ e => (D.ne (hS i hi) hk (fun e => hkS (e ▸ hi))).1 (e.trans hj.symm)
  have h3 : rcE (ordF O N (fun i => S i ∨ i = k)) N (O k).frame = 0 := by
    unfold rcE
    rw [if_pos hv.1, ordF_in D (fun i hi => hi.elim (hS i) (fun e => e ▸ hk)) (.inr rfl) hv hj, if_neg (by dsimp only; have := hv.2.1; omega)]
  refine ⟨h3, ?_⟩
  unfold rcF
  rw [if_pos h3, ← h2]
  unfold rsF
  rw [if_pos h1]
  exact updO_back _ _ _ h0
end
end Go.Proofs.Ytjjcbbnnilafdaa
