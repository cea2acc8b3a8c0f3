/-
  Aligned blocks: those apart that cover the same and of which no two are buddies are the same. Pure; of no program.
-/
import Derived.Test.YtilcdnkjfbkpnaaRows
namespace Go.Proofs.Ytilcdnkjfbkpnaa

/-- The frame f is in the block of order o at a. -/
def inB (o a f : Nat) : Prop := a ≤ f ∧ f < a + 2 ^ o
/-- The buddy's beginning. -/
def bud (o a : Nat) : Nat := if a / 2 ^ o % 2 = 1 then a - 2 ^ o else a + 2 ^ o
/-- Blocks apart, each where its order divides, no two of them buddies. -/
structure Apart (F : Nat → Nat → Prop) : Prop where
  al : ∀ o a, F o a → a % 2 ^ o = 0
  ten : ∀ o a, F o a → o ≤ 10
  ap : ∀ o a p b f, F o a → F p b → inB o a f → inB p b f → o = p ∧ a = b
  nb : ∀ o a, F o a → o < 10 → ¬ F o (bud o a)
theorem self_in (o a : Nat) : inB o a a := ⟨Nat.le_refl _, Nat.lt_add_of_pos_right Nat.one_le_two_pow⟩
/-- A block that lies where its order divides is its frames' quotient. -/
theorem al_div {o a f : Nat} (h : a % 2 ^ o = 0) (hf : inB o a f) : f / 2 ^ o = a / 2 ^ o := by
  have hp := Nat.one_le_two_pow (n := o)
  have h1 := Nat.div_add_mod a (2 ^ o)
  rw [h] at h1
  have h2 : f = 2 ^ o * (a / 2 ^ o) + (f - a) := by have := hf.1; omega
  obtain ⟨g, hg⟩ : ∃ g, g = f - a := ⟨_, rfl⟩
  have hg2 : g < 2 ^ o := by have := hf.2; have := hf.1; omega
  rw [← hg] at h2
  rw [h2, Nat.mul_add_div (by omega), Nat.div_eq_of_lt hg2, Nat.add_zero]
theorem al_eq {o a b f : Nat} (ha : a % 2 ^ o = 0) (hb : b % 2 ^ o = 0) (h1 : inB o a f) (h2 : inB o b f) : a = b := by
  have e1 := al_div ha h1
  have e2 := al_div hb h2
  have g1 := Nat.div_add_mod a (2 ^ o)
  have g2 := Nat.div_add_mod b (2 ^ o)
  rw [ha] at g1
  rw [hb] at g2
  rw [e1] at e2
  rw [e2] at g1
  omega
/-- Where a greater order divides, a lesser one does. -/
theorem al_down {o p a : Nat} (hop : o ≤ p) (h : a % 2 ^ p = 0) : a % 2 ^ o = 0 :=
  Nat.mod_eq_zero_of_dvd (Nat.dvd_trans (Nat.pow_dvd_pow 2 hop) (Nat.dvd_of_mod_eq_zero h))
/-- Of two blocks that share a frame the lesser one lies in the greater one. -/
theorem al_nest {o p a b f : Nat} (hop : o ≤ p) (ha : a % 2 ^ o = 0) (hb : b % 2 ^ p = 0) (h1 : inB o a f) (h2 : inB p b f) : b ≤ a ∧ a + 2 ^ o ≤ b + 2 ^ p := by
  obtain ⟨c, hc⟩ := Nat.pow_dvd_pow 2 hop
  obtain ⟨x, hx⟩ := Nat.dvd_of_mod_eq_zero ha
  obtain ⟨y, hy⟩ := Nat.dvd_trans (Nat.pow_dvd_pow 2 hop) (Nat.dvd_of_mod_eq_zero hb)
  unfold inB at h1 h2
  have hp := Nat.one_le_two_pow (n := o)
  rw [hc] at h2 ⊢
  generalize 2 ^ o = P at *
  subst hx
  subst hy
  constructor
  · by_cases h : y ≤ x
    · exact Nat.mul_le_mul_left _ h
    · have := Nat.mul_le_mul_left P (show x + 1 ≤ y by omega)
      rw [Nat.mul_add] at this
      omega
  · by_cases h : x + 1 ≤ y + c
    · have := Nat.mul_le_mul_left P h
      rw [Nat.mul_add, Nat.mul_add] at this
      omega
    · have := Nat.mul_le_mul_left P (show y + c ≤ x by omega)
      rw [Nat.mul_add] at this
      omega
theorem half_up {r b : Nat} (h : b % 2 ^ (r + 1) = 0) : b % 2 ^ r = 0 ∧ (b + 2 ^ r) % 2 ^ r = 0 ∧ b / 2 ^ r % 2 = 0 := by
  obtain ⟨c, rfl⟩ := Nat.dvd_of_mod_eq_zero h
  have hp := Nat.one_le_two_pow (n := r)
  rw [Nat.pow_succ]
  generalize 2 ^ r = P at *
  refine ⟨by rw [Nat.mul_assoc]; exact Nat.mul_mod_right _ _, by rw [Nat.mul_assoc, Nat.add_mod_right]; exact Nat.mul_mod_right _ _, ?_⟩
  rw [Nat.mul_assoc, Nat.mul_div_cancel_left _ (by omega)]
  exact Nat.mul_mod_right _ _
/-- A range whose frames are all in lesser blocks has two buddies. -/
theorem Apart.whole {F : Nat → Nat → Prop} (H : Apart F) : ∀ r b : Nat, r ≤ 10 → b % 2 ^ r = 0 → (∀ f, inB r b f → ∃ o a, F o a ∧ inB o a f ∧ o < r) → False
  | 0, b, _, _, h => by
    obtain ⟨o, a, _, _, ho⟩ := h b (self_in 0 b)
    omega
  | r + 1, b, hr, hb, h => by
    obtain ⟨b1, b2, b3⟩ := half_up hb
    have hpow : 2 ^ (r + 1) = 2 ^ r + 2 ^ r := by rw [Nat.pow_succ]; omega
    have one : ∀ x, x % 2 ^ r = 0 → (∀ f, inB r x f → inB (r + 1) b f) → F r x := fun x hx hsub => by
      by_cases hF : F r x
      · exact hF
      · exfalso
        refine Apart.whole H r x (by omega) hx (fun f hf => ?_)
        obtain ⟨o, a, hFo, hin, ho⟩ := h f (hsub f hf)
        refine ⟨o, a, hFo, hin, ?_⟩
        by_cases e : o = r
        · subst e
          have := al_eq (H.al _ _ hFo) hx hin hf
          subst this
          exact absurd hFo hF
        · omega
    have h1 := one b b1 (fun f hf => ⟨hf.1, by have := hf.2; rw [hpow]; omega⟩)
    have h2 := one (b + 2 ^ r) b2 (fun f hf => ⟨by have := hf.1; omega, by have := hf.2; rw [hpow]; omega⟩)
    refine H.nb r b h1 (by omega) ?_
    unfold bud
    rw [if_neg (by omega)]
    exact h2
/-- What covers the same is the same. -/
theorem Apart.same {F G : Nat → Nat → Prop} (HF : Apart F) (HG : Apart G) (h : ∀ f, (∃ o a, F o a ∧ inB o a f) ↔ ∃ o a, G o a ∧ inB o a f) (o a : Nat) (ho : F o a) : G o a := by
  obtain ⟨p, b, hp, hb⟩ := (h a).1 ⟨o, a, ho, self_in o a⟩
  by_cases e : p = o
  · subst e
    have := al_eq (HF.al _ _ ho) (HG.al _ _ hp) (self_in p a) hb
    subst this
    exact hp
  · exfalso
    by_cases hlt : p < o
    · refine HG.whole o a (HF.ten _ _ ho) (HF.al _ _ ho) (fun f hf => ?_)
      obtain ⟨q, c, hq, hc⟩ := (h f).1 ⟨o, a, ho, hf⟩
      refine ⟨q, c, hq, hc, ?_⟩
      by_cases hqo : q < o
      · exact hqo
      · exfalso
        obtain ⟨n1, n2⟩ := al_nest (show o ≤ q by omega) (HF.al _ _ ho) (HG.al _ _ hq) hf hc
        obtain ⟨e1, _⟩ := HG.ap q c p b a hq hp ⟨n1, by have := (self_in o a).2; omega⟩ hb
        omega
    · refine HF.whole p b (HG.ten _ _ hp) (HG.al _ _ hp) (fun f hf => ?_)
      obtain ⟨q, c, hq, hc⟩ := (h f).2 ⟨p, b, hp, hf⟩
      refine ⟨q, c, hq, hc, ?_⟩
      by_cases hqo : q < p
      · exact hqo
      · exfalso
        obtain ⟨n1, n2⟩ := al_nest (show p ≤ q by omega) (HG.al _ _ hp) (HF.al _ _ hq) hf hc
        obtain ⟨e1, _⟩ := HF.ap q c o a a hq ho ⟨by have := hb.1; omega, by have := hb.2; omega⟩ (self_in o a)
        omega
theorem Apart.unique {F G : Nat → Nat → Prop} (HF : Apart F) (HG : Apart G) (h : ∀ f, (∃ o a, F o a ∧ inB o a f) ↔ ∃ o a, G o a ∧ inB o a f) (o a : Nat) : F o a ↔ G o a :=
  ⟨HF.same HG h o a, HG.same HF (fun f => (h f).symm) o a⟩
end Go.Proofs.Ytilcdnkjfbkpnaa
