/-
  Texts that this claim builds on, merged.
-/
import Derived.Test.YtdpnmjlapgldgaaRows
import Derived.Test.YtdpnmjlapgldgaaM03
import Derived.Test.YtdpnmjlapgldgaaM02
import Derived.Test.YtdpnmjlapgldgaaShlf
import Derived.Laws.ResultCell
import Derived.Laws.NewBlocks
import Derived.RangeFuncNested
import Derived.RangeFuncBound
import Derived.RangeFuncCalls
import Derived.RangeFuncLeaves
import Derived.RangeFuncFrom
import Derived.Shelf.Abstract
import Derived.Shelf.RegionOpen
import Derived.OwnWalkIn
import Derived.TacticsInMore
import Derived.LoopNIn
import Derived.LoopIn
import Derived.Maps.OwnIn
namespace Go.Proofs.Ytdpnmjlapgldgaa
/-! Aligned blocks: those apart that cover the same and of which no two are buddies are the same. Pure; of no program. -/
section
/-- The frame f is in the block of order o at a. -/
def inB (o a f : Nat) : Prop := a ≤ f ∧ f < a + 2 ^ o
/-- The buddy's beginning. -/
def bud (o a : Nat) : Nat := if a / 2 ^ o % 2 = 1 then a - 2 ^ o else a + 2 ^ o
/-- Blocks apart, each where its order divides, no two of them buddies. -/
structure Apart (F : Nat → Nat → Prop) : Prop where
  al : ∀ o a, F o a → a % 2 ^ o = 0
  ten : ∀ o a, F o a → o ≤ 10
  ap : ∀ o a p b f, F o a → F p b → inB o a f → inB p b f → o = p ∧ a = b
  nb : ∀ o a, F o a → o < 10 → ¬ F o (bud o a)
theorem self_in (o a : Nat) : inB o a a := ⟨Nat.le_refl _, Nat.lt_add_of_pos_right Nat.one_le_two_pow⟩
/-- A block that lies where its order divides is its frames' quotient. -/
theorem al_div {o a f : Nat} (h : a % 2 ^ o = 0) (hf : inB o a f) : f / 2 ^ o = a / 2 ^ o := by
  have hp := Nat.one_le_two_pow (n := o)
  have h1 := Nat.div_add_mod a (2 ^ o)
  rw [h] at h1
  have h2 : f = 2 ^ o * (a / 2 ^ o) + (f - a) := by have := hf.1; omega
  obtain ⟨g, hg⟩ : ∃ g, g = f - a := ⟨_, rfl⟩
  have hg2 : g < 2 ^ o := by have := hf.2; have := hf.1; omega
  rw [← hg] at h2
  rw [h2, Nat.mul_add_div (by omega), Nat.div_eq_of_lt hg2, Nat.add_zero]
theorem al_eq {o a b f : Nat} (ha : a % 2 ^ o = 0) (hb : b % 2 ^ o = 0) (h1 : inB o a f) (h2 : inB o b f) : a = b := by
  have e1 := al_div ha h1
  have e2 := al_div hb h2
  have g1 := Nat.div_add_mod a (2 ^ o)
  have g2 := Nat.div_add_mod b (2 ^ o)
  rw [ha] at g1
  rw [hb] at g2
  rw [e1] at e2
  rw [e2] at g1
  omega
/-- Where a greater order divides, a lesser one does. -/
theorem al_down {o p a : Nat} (hop : o ≤ p) (h : a % 2 ^ p = 0) : a % 2 ^ o = 0 :=
  Nat.mod_eq_zero_of_dvd (Nat.dvd_trans (Nat.pow_dvd_pow 2 hop) (Nat.dvd_of_mod_eq_zero h))
/-- Of two blocks that share a frame the lesser one lies in the greater one. -/
theorem al_nest {o p a b f : Nat} (hop : o ≤ p) (ha : a % 2 ^ o = 0) (hb : b % 2 ^ p = 0) (h1 : inB o a f) (h2 : inB p b f) : b ≤ a ∧ a + 2 ^ o ≤ b + 2 ^ p := by
  obtain ⟨c, hc⟩ := Nat.pow_dvd_pow 2 hop
  obtain ⟨x, hx⟩ := Nat.dvd_of_mod_eq_zero ha
  obtain ⟨y, hy⟩ := Nat.dvd_trans (Nat.pow_dvd_pow 2 hop) (Nat.dvd_of_mod_eq_zero hb)
  unfold inB at h1 h2
  have hp := Nat.one_le_two_pow (n := o)
  rw [hc] at h2 ⊢
  generalize 2 ^ o = P at *
  subst hx
  subst hy
  constructor
  · by_cases h : y ≤ x
    · exact Nat.mul_le_mul_left _ h
    · have := Nat.mul_le_mul_left P (show x + 1 ≤ y by omega)
      rw [Nat.mul_add] at this
      omega
  · by_cases h : x + 1 ≤ y + c
    · have := Nat.mul_le_mul_left P h
      rw [Nat.mul_add, Nat.mul_add] at this
      omega
    · have := Nat.mul_le_mul_left P (show y + c ≤ x by omega)
      rw [Nat.mul_add] at this
      omega
theorem half_up {r b : Nat} (h : b % 2 ^ (r + 1) = 0) : b % 2 ^ r = 0 ∧ (b + 2 ^ r) % 2 ^ r = 0 ∧ b / 2 ^ r % 2 = 0 := by
  obtain ⟨c, rfl⟩ := Nat.dvd_of_mod_eq_zero h
  have hp := Nat.one_le_two_pow (n := r)
  rw [Nat.pow_succ]
  generalize 2 ^ r = P at *
  refine ⟨by rw [Nat.mul_assoc]; exact Nat.mul_mod_right _ _, by rw [Nat.mul_assoc, Nat.add_mod_right]; exact Nat.mul_mod_right _ _, ?_⟩
  rw [Nat.mul_assoc, Nat.mul_div_cancel_left _ (by omega)]
  exact Nat.mul_mod_right _ _
/-- A range whose frames are all in lesser blocks has two buddies. -/
theorem Apart.whole {F : Nat → Nat → Prop} (H : Apart F) : ∀ r b : Nat, r ≤ 10 → b % 2 ^ r = 0 → (∀ f, inB r b f → ∃ o a, F o a ∧ inB o a f ∧ o < r) → False
  | 0, b, _, _, h => by
    obtain ⟨o, a, _, _, ho⟩ := h b (self_in 0 b)
    omega
  | r + 1, b, hr, hb, h => by
    obtain ⟨b1, b2, b3⟩ := half_up hb
    have hpow : 2 ^ (r + 1) = 2 ^ r + 2 ^ r := by rw [Nat.pow_succ]; omega
    have one : ∀ x, x % 2 ^ r = 0 → (∀ f, inB r x f → inB (r + 1) b f) → F r x := fun x hx hsub => by
      by_cases hF : F r x
      · exact hF
      · exfalso
        refine Apart.whole H r x (by omega) hx (fun f hf => ?_)
        obtain ⟨o, a, hFo, hin, ho⟩ := h f (hsub f hf)
        refine ⟨o, a, hFo, hin, ?_⟩
        by_cases e : o = r
        · subst e
          have := al_eq (H.al _ _ hFo) hx hin hf
          subst this
          exact absurd hFo hF
        · omega
    have h1 := one b b1 (fun f hf => ⟨hf.1, by have := hf.2; rw [hpow]; omega⟩)
    have h2 := one (b + 2 ^ r) b2 (fun f hf => ⟨by have := hf.1; omega, by have := hf.2; rw [hpow]; omega⟩)
    refine H.nb r b h1 (by omega) ?_
    unfold bud
    rw [if_neg (by omega)]
    exact h2
/-- What covers the same is the same. -/
theorem Apart.same {F G : Nat → Nat → Prop} (HF : Apart F) (HG : Apart G) (h : ∀ f, (∃ o a, F o a ∧ inB o a f) ↔ ∃ o a, G o a ∧ inB o a f) (o a : Nat) (ho : F o a) : G o a := by
  obtain ⟨p, b, hp, hb⟩ := (h a).1 ⟨o, a, ho, self_in o a⟩
  by_cases e : p = o
  · subst e
    have := al_eq (HF.al _ _ ho) (HG.al _ _ hp) (self_in p a) hb
    subst this
    exact hp
  · exfalso
    by_cases hlt : p < o
    · refine HG.whole o a (HF.ten _ _ ho) (HF.al _ _ ho) (fun f hf => ?_)
      obtain ⟨q, c, hq, hc⟩ := (h f).1 ⟨o, a, ho, hf⟩
      refine ⟨q, c, hq, hc, ?_⟩
      by_cases hqo : q < o
      · exact hqo
      · exfalso
        obtain ⟨n1, n2⟩ := al_nest (show o ≤ q by omega) (HF.al _ _ ho) (HG.al _ _ hq) hf hc
        obtain ⟨e1, _⟩ := HG.ap q c p b a hq hp ⟨n1, by have := (self_in o a).2; omega⟩ hb
        omega
    · refine HF.whole p b (HG.ten _ _ hp) (HG.al _ _ hp) (fun f hf => ?_)
      obtain ⟨q, c, hq, hc⟩ := (h f).2 ⟨p, b, hp, hf⟩
      refine ⟨q, c, hq, hc, ?_⟩
      by_cases hqo : q < p
      · exact hqo
      · exfalso
        obtain ⟨n1, n2⟩ := al_nest (show p ≤ q by omega) (HG.al _ _ hp) (HF.al _ _ hq) hf hc
        obtain ⟨e1, _⟩ := HF.ap q c o a a hq ho ⟨by have := hb.1; omega, by have := hb.2; omega⟩ (self_in o a)
        omega
theorem Apart.unique {F G : Nat → Nat → Prop} (HF : Apart F) (HG : Apart G) (h : ∀ f, (∃ o a, F o a ∧ inB o a f) ↔ ∃ o a, G o a ∧ inB o a f) (o a : Nat) : F o a ↔ G o a :=
  ⟨HF.same HG h o a, HG.same HF (fun f => (h f).symm) o a⟩
end
/-! A node of free blocks and taken ones, each frame one block's, no two free ones buddies: cut, merged, taken, given back. Pure; of no program. -/
section
structure Stk (n : Nat) (F T : Nat → Nat → Prop) : Prop where
  al : ∀ o a, F o a ∨ T o a → o ≤ 10 ∧ a % 2 ^ o = 0 ∧ a + 2 ^ o ≤ n
  ap : ∀ o a p b f, F o a ∨ T o a → F p b ∨ T p b → inB o a f → inB p b f → o = p ∧ a = b
  dis : ∀ o a, F o a → ¬ T o a
  cov : ∀ f, f < n → ∃ o a, (F o a ∨ T o a) ∧ inB o a f
  nb : ∀ o a, F o a → o < 10 → ¬ F o (bud o a)

theorem up_al {o x : Nat} (h : x % 2 ^ (o + 1) = 0) : bud o x = x + 2 ^ o ∧ bud o (x + 2 ^ o) = x := by
  obtain ⟨_, _, h3⟩ := half_up h
  have hp := Nat.one_le_two_pow (n := o)
  unfold bud
  rw [if_neg (by omega), Nat.add_div_right _ (by omega), if_pos (by omega), Nat.add_sub_cancel]
  exact ⟨rfl, rfl⟩
/-- A block is the lower half of two or the upper one. -/
theorem bud_cases {o x : Nat} (h : x % 2 ^ o = 0) : (x % 2 ^ (o + 1) = 0 ∧ bud o x = x + 2 ^ o) ∨ ∃ lo, x = lo + 2 ^ o ∧ lo % 2 ^ (o + 1) = 0 ∧ bud o x = lo := by
  obtain ⟨c, hc⟩ := Nat.dvd_of_mod_eq_zero h
  have hp := Nat.one_le_two_pow (n := o)
  by_cases hcc : c % 2 = 0
  · have h1 : x % 2 ^ (o + 1) = 0 := by
      refine Nat.mod_eq_zero_of_dvd ⟨c / 2, ?_⟩
      rw [hc, Nat.pow_succ, Nat.mul_assoc]
      congr 1
      omega
    exact .inl ⟨h1, (up_al h1).1⟩
  · have h1 : (2 ^ o * (c - 1)) % 2 ^ (o + 1) = 0 := by
      refine Nat.mod_eq_zero_of_dvd ⟨(c - 1) / 2, ?_⟩
      rw [Nat.pow_succ, Nat.mul_assoc]
      congr 1
      omega
    have h2 : x = 2 ^ o * (c - 1) + 2 ^ o := by
      rw [hc]
      obtain ⟨d, rfl⟩ : ∃ d, c = d + 1 := ⟨c - 1, by omega⟩
      rw [Nat.add_sub_cancel, Nat.mul_add, Nat.mul_one]
    exact .inr ⟨_, h2, h1, by rw [h2]; exact (up_al h1).2⟩
theorem bud_back {o x : Nat} (h : x % 2 ^ o = 0) : bud o (bud o x) = x ∧ bud o x ≠ x ∧ bud o x % 2 ^ o = 0 := by
  have hp := Nat.one_le_two_pow (n := o)
  rcases bud_cases h with ⟨h1, e⟩ | ⟨lo, rfl, h1, e⟩
  · rw [e]
    exact ⟨(up_al h1).2, by omega, (half_up h1).2.1⟩
  · rw [e]
    exact ⟨(up_al h1).1, by omega, (half_up h1).1⟩
theorem inB_halves {o x f : Nat} : inB (o + 1) x f ↔ inB o x f ∨ inB o (x + 2 ^ o) f := by
  unfold inB
  rw [Nat.pow_succ]
  omega
theorem halves_apart {o x f : Nat} (h : inB o x f) : ¬ inB o (x + 2 ^ o) f := fun h2 => by
  unfold inB at h h2
  omega

section
variable {n : Nat} {F T F' T' : Nat → Nat → Prop}
/-- A free block is taken in hand. -/
theorem Stk.out (S : Stk n F T) {p x : Nat} (hF : F p x) (hF' : ∀ o a, F' o a ↔ F o a ∧ ¬ (o = p ∧ a = x)) (hT' : ∀ o a, T' o a ↔ T o a ∨ (o = p ∧ a = x)) : Stk n F' T' := by
  have hu : ∀ o a, F' o a ∨ T' o a ↔ F o a ∨ T o a := fun o a => by
    rw [hF', hT']
    by_cases e : o = p ∧ a = x
    · obtain ⟨rfl, rfl⟩ := e
      exact ⟨fun _ => .inl hF, fun _ => .inr (.inr ⟨rfl, rfl⟩)⟩
    · exact ⟨fun h => h.elim (fun h => .inl h.1) (fun h => h.elim .inr (fun h => absurd h e)), fun h => h.elim (fun h => .inl ⟨h, e⟩) (fun h => .inr (.inl h))⟩
  refine ⟨fun o a h => S.al o a ((hu o a).1 h), fun o a q b f h1 h2 => S.ap o a q b f ((hu o a).1 h1) ((hu q b).1 h2), fun o a h => ?_, fun f hf => ?_, fun o a h ho h2 => S.nb o a ((hF' o a).1 h).1 ho ((hF' o _).1 h2).1⟩
  · rw [hF'] at h
    rw [hT']
    exact fun h2 => h2.elim (S.dis o a h.1) h.2
  · obtain ⟨o, a, h1, h2⟩ := S.cov f hf
    exact ⟨o, a, (hu o a).2 h1, h2⟩
/-- A block in hand comes back, where its buddy is not free. -/
theorem Stk.back (S : Stk n F T) {p x : Nat} (hT : T p x) (hb : p < 10 → ¬ F p (bud p x)) (hF' : ∀ o a, F' o a ↔ F o a ∨ (o = p ∧ a = x)) (hT' : ∀ o a, T' o a ↔ T o a ∧ ¬ (o = p ∧ a = x)) : Stk n F' T' := by
  have hu : ∀ o a, F' o a ∨ T' o a ↔ F o a ∨ T o a := fun o a => by
    rw [hF', hT']
    by_cases e : o = p ∧ a = x
    · obtain ⟨rfl, rfl⟩ := e
      exact ⟨fun _ => .inr hT, fun _ => .inl (.inr ⟨rfl, rfl⟩)⟩
    · exact ⟨fun h => h.elim (fun h => h.elim .inl (fun h => absurd h e)) (fun h => .inr h.1), fun h => h.elim (fun h => .inl (.inl h)) (fun h => .inr ⟨h, e⟩)⟩
  refine ⟨fun o a h => S.al o a ((hu o a).1 h), fun o a q b f h1 h2 => S.ap o a q b f ((hu o a).1 h1) ((hu q b).1 h2), fun o a h => ?_, fun f hf => ?_, fun o a h ho h2 => ?_⟩
  · rw [hF'] at h
    rw [hT']
    exact fun h2 => h.elim (fun h => S.dis o a h h2.1) h2.2
  · obtain ⟨o, a, h1, h2⟩ := S.cov f hf
    exact ⟨o, a, (hu o a).2 h1, h2⟩
  · rw [hF'] at h h2
    rcases h with h | ⟨rfl, rfl⟩
    · rcases h2 with h2 | ⟨rfl, e⟩
      · exact S.nb o a h ho h2
      · have hal := (S.al o a (.inl h)).2.1
        refine hb ho ?_
        rw [← e, (bud_back hal).1]
        exact h
    · rcases h2 with h2 | ⟨_, e⟩
      · exact hb ho h2
      · exact (bud_back (S.al o a (.inr hT)).2.1).2.1 e
/-- A block in hand is cut: one half is free, the other one in hand. -/
theorem Stk.cut (S : Stk n F T) {q x y z : Nat} (hT : T (q + 1) x) (hyz : (y = x ∧ z = x + 2 ^ q) ∨ (y = x + 2 ^ q ∧ z = x)) (hF' : ∀ o a, F' o a ↔ F o a ∨ (o = q ∧ a = y)) (hT' : ∀ o a, T' o a ↔ (T o a ∧ ¬ (o = q + 1 ∧ a = x)) ∨ (o = q ∧ a = z)) : Stk n F' T' := by
  obtain ⟨ten, alx, fit⟩ := S.al _ _ (.inr hT)
  obtain ⟨b1, b2, b3⟩ := half_up alx
  obtain ⟨u1, u2⟩ := up_al alx
  have hpow : 2 ^ (q + 1) = 2 ^ q + 2 ^ q := by rw [Nat.pow_succ]; omega
  have hp := Nat.one_le_two_pow (n := q)
  have hu : ∀ o a, F' o a ∨ T' o a ↔ ((F o a ∨ T o a) ∧ ¬ (o = q + 1 ∧ a = x)) ∨ (o = q ∧ (a = x ∨ a = x + 2 ^ q)) := fun o a => by
    rw [hF', hT']
    have hne : F o a → ¬ (o = q + 1 ∧ a = x) := fun h e => by
      obtain ⟨rfl, rfl⟩ := e
      exact S.dis _ _ h hT
    constructor
    · rintro ((h | ⟨h1, h2⟩) | (h | ⟨h1, h2⟩))
      · exact .inl ⟨.inl h, hne h⟩
      · exact .inr ⟨h1, by omega⟩
      · exact .inl ⟨.inr h.1, h.2⟩
      · exact .inr ⟨h1, by omega⟩
    · rintro (⟨h | h, h2⟩ | ⟨h1, h2⟩)
      · exact .inl (.inl h)
      · exact .inr (.inl ⟨h, h2⟩)
      · by_cases e : a = y
        · exact .inl (.inr ⟨h1, e⟩)
        · exact .inr (.inr ⟨h1, by omega⟩)
  have hin : ∀ a f, a = x ∨ a = x + 2 ^ q → inB q a f → inB (q + 1) x f := fun a f h1 h2 => inB_halves.2 (h1.elim (fun e => .inl (e ▸ h2)) (fun e => .inr (e ▸ h2)))
  refine ⟨fun o a h => ?_, fun o a p b f h1 h2 h3 h4 => ?_, fun o a h h2 => ?_, fun f hf => ?_, fun o a h ho h2 => ?_⟩
  · rcases (hu o a).1 h with h | ⟨rfl, h⟩
    · exact S.al o a h.1
    · rcases h with rfl | rfl
      · exact ⟨by omega, b1, by omega⟩
      · exact ⟨by omega, b2, by omega⟩
  · rcases (hu o a).1 h1 with h1 | ⟨rfl, h1⟩
    · rcases (hu p b).1 h2 with h2 | ⟨rfl, h2⟩
      · exact S.ap o a p b f h1.1 h2.1 h3 h4
      · exact absurd (S.ap o a (p + 1) x f h1.1 (.inr hT) h3 (hin b f h2 h4)) h1.2
    · rcases (hu p b).1 h2 with h2 | ⟨rfl, h2⟩
      · obtain ⟨e1, e2⟩ := S.ap p b (o + 1) x f h2.1 (.inr hT) h4 (hin a f h1 h3)
        exact absurd ⟨e1, e2⟩ h2.2
      · refine ⟨rfl, ?_⟩
        rcases h1 with rfl | rfl
        · rcases h2 with rfl | rfl
          · rfl
          · exact absurd h4 (halves_apart h3)
        · rcases h2 with rfl | rfl
          · exact absurd h3 (halves_apart h4)
          · rfl
  · rw [hF'] at h
    rw [hT'] at h2
    have hz : ∀ c, (c = x ∨ c = x + 2 ^ q) → ¬ (F q c ∨ T q c) := fun c hc hh => by
      obtain ⟨e, _⟩ := S.ap q c (q + 1) x c hh (.inr hT) (self_in q c) (hin c c hc (self_in q c))
      omega
    rcases h with h | ⟨rfl, rfl⟩
    · rcases h2 with h2 | ⟨rfl, rfl⟩
      · exact S.dis o a h h2.1
      · exact hz a (by omega) (.inl h)
    · rcases h2 with h2 | ⟨_, h2⟩
      · exact hz a (by omega) (.inr h2.1)
      · omega
  · obtain ⟨o, a, h1, h2⟩ := S.cov f hf
    by_cases e : o = q + 1 ∧ a = x
    · obtain ⟨rfl, rfl⟩ := e
      rcases inB_halves.1 h2 with h2 | h2
      · exact ⟨q, a, (hu q a).2 (.inr ⟨rfl, .inl rfl⟩), h2⟩
      · exact ⟨q, a + 2 ^ q, (hu q _).2 (.inr ⟨rfl, .inr rfl⟩), h2⟩
    · exact ⟨o, a, (hu o a).2 (.inl ⟨h1, e⟩), h2⟩
  · have hz : ∀ c, (c = x ∨ c = x + 2 ^ q) → ¬ F q c := fun c hc hh => by
      obtain ⟨e, _⟩ := S.ap q c (q + 1) x c (.inl hh) (.inr hT) (self_in q c) (hin c c hc (self_in q c))
      omega
    rw [hF'] at h h2
    rcases h with h | ⟨rfl, rfl⟩
    · rcases h2 with h2 | ⟨rfl, e⟩
      · exact S.nb o a h ho h2
      · have hal := (S.al o a (.inl h)).2.1
        have e2 := (bud_back hal).1
        rw [e] at e2
        refine hz a ?_ h
        rcases hyz with ⟨rfl, _⟩ | ⟨rfl, _⟩
        · rw [u1] at e2; exact .inr e2.symm
        · rw [u2] at e2; exact .inl e2.symm
    · rcases h2 with h2 | ⟨_, e⟩
      · refine hz _ ?_ h2
        rcases hyz with ⟨rfl, _⟩ | ⟨rfl, _⟩
        · rw [u1]; exact .inr rfl
        · rw [u2]; exact .inl rfl
      · rcases hyz with ⟨rfl, _⟩ | ⟨rfl, _⟩
        · rw [u1] at e; omega
        · rw [u2] at e; omega
/-- A block in hand and its free buddy are one block in hand. -/
theorem Stk.join (S : Stk n F T) {q x lo : Nat} (hq : q < 10) (hT : T q x) (hF : F q (bud q x)) (hlo : lo = if bud q x < x then bud q x else x) (hF' : ∀ o a, F' o a ↔ F o a ∧ ¬ (o = q ∧ a = bud q x)) (hT' : ∀ o a, T' o a ↔ (T o a ∧ ¬ (o = q ∧ a = x)) ∨ (o = q + 1 ∧ a = lo)) : Stk n F' T' := by
  obtain ⟨_, alx, fit⟩ := S.al _ _ (.inr hT)
  obtain ⟨_, alb, fib⟩ := S.al _ _ (.inl hF)
  have hp := Nat.one_le_two_pow (n := q)
  have hpow : 2 ^ (q + 1) = 2 ^ q + 2 ^ q := by rw [Nat.pow_succ]; omega
  have hpair : lo % 2 ^ (q + 1) = 0 ∧ ((x = lo ∧ bud q x = lo + 2 ^ q) ∨ (x = lo + 2 ^ q ∧ bud q x = lo)) := by
    rcases bud_cases alx with ⟨h1, e⟩ | ⟨l, e1, h1, e⟩
    · have : lo = x := by rw [hlo, if_neg (by omega)]
      rw [this]
      exact ⟨h1, .inl ⟨rfl, e⟩⟩
    · have : lo = l := by rw [hlo, if_pos (by omega), e]
      rw [this]
      exact ⟨h1, .inr ⟨e1, e⟩⟩
  obtain ⟨all, hpr⟩ := hpair
  generalize bud q x = y at *
  have hin : ∀ f, inB (q + 1) lo f ↔ inB q x f ∨ inB q y f := fun f => by
    rw [inB_halves]
    rcases hpr with ⟨rfl, rfl⟩ | ⟨rfl, rfl⟩
    · exact Iff.rfl
    · exact Or.comm
  have hu : ∀ o a, F' o a ∨ T' o a ↔ ((F o a ∨ T o a) ∧ ¬ (o = q ∧ (a = x ∨ a = y))) ∨ (o = q + 1 ∧ a = lo) := fun o a => by
    rw [hF', hT']
    have d1 : F o a → ¬ (o = q ∧ a = x) := fun h e => by
      obtain ⟨rfl, rfl⟩ := e
      exact S.dis _ _ h hT
    have d2 : T o a → ¬ (o = q ∧ a = y) := fun h e => by
      obtain ⟨rfl, rfl⟩ := e
      exact S.dis _ _ hF h
    constructor
    · rintro (⟨h1, h2⟩ | (⟨h1, h2⟩ | h))
      · exact .inl ⟨.inl h1, fun e => e.2.elim (fun e2 => d1 h1 ⟨e.1, e2⟩) (fun e2 => h2 ⟨e.1, e2⟩)⟩
      · exact .inl ⟨.inr h1, fun e => e.2.elim (fun e2 => h2 ⟨e.1, e2⟩) (fun e2 => d2 h1 ⟨e.1, e2⟩)⟩
      · exact .inr h
    · rintro (⟨h | h, h2⟩ | h)
      · exact .inl ⟨h, fun e => h2 ⟨e.1, .inr e.2⟩⟩
      · exact .inr (.inl ⟨h, fun e => h2 ⟨e.1, .inl e.2⟩⟩)
      · exact .inr (.inr h)
  have hold : ∀ o a f, F o a ∨ T o a → ¬ (o = q ∧ (a = x ∨ a = y)) → inB o a f → ¬ inB (q + 1) lo f := fun o a f h1 h2 h3 h4 => by
    rcases (hin f).1 h4 with h4 | h4
    · obtain ⟨e1, e2⟩ := S.ap o a q x f h1 (.inr hT) h3 h4
      exact h2 ⟨e1, .inl e2⟩
    · obtain ⟨e1, e2⟩ := S.ap o a q y f h1 (.inl hF) h3 h4
      exact h2 ⟨e1, .inr e2⟩
  refine ⟨fun o a h => ?_, fun o a p b f h1 h2 h3 h4 => ?_, fun o a h h2 => ?_, fun f hf => ?_, fun o a h ho h2 => S.nb o a ((hF' o a).1 h).1 ho ((hF' o _).1 h2).1⟩
  · rcases (hu o a).1 h with h | ⟨rfl, rfl⟩
    · exact S.al o a h.1
    · exact ⟨by omega, all, by omega⟩
  · rcases (hu o a).1 h1 with h1 | ⟨rfl, rfl⟩
    · rcases (hu p b).1 h2 with h2 | ⟨rfl, rfl⟩
      · exact S.ap o a p b f h1.1 h2.1 h3 h4
      · exact absurd h4 (hold o a f h1.1 h1.2 h3)
    · rcases (hu p b).1 h2 with h2 | ⟨rfl, rfl⟩
      · exact absurd h3 (hold p b f h2.1 h2.2 h4)
      · exact ⟨rfl, rfl⟩
  · rw [hF'] at h
    rw [hT'] at h2
    rcases h2 with h2 | ⟨rfl, rfl⟩
    · exact S.dis o a h.1 h2.1
    · exact hold _ _ a (.inl h.1) (fun e => by omega) (self_in _ _) (self_in _ _)
  · obtain ⟨o, a, h1, h2⟩ := S.cov f hf
    by_cases e : o = q ∧ (a = x ∨ a = y)
    · refine ⟨q + 1, lo, (hu _ _).2 (.inr ⟨rfl, rfl⟩), (hin f).2 ?_⟩
      obtain ⟨rfl, rfl | rfl⟩ := e
      · exact .inl h2
      · exact .inr h2
    · exact ⟨o, a, (hu o a).2 (.inl ⟨h1, e⟩), h2⟩
theorem Stk.apart (S : Stk n F T) : Apart F :=
  ⟨fun o a h => (S.al o a (.inl h)).2.1, fun o a h => (S.al o a (.inl h)).1, fun o a p b f h1 h2 => S.ap o a p b f (.inl h1) (.inl h2), S.nb⟩
/-- What is free is told by what is taken. -/
theorem Stk.unique {G U : Nat → Nat → Prop} (S : Stk n F T) (R : Stk n G U) (h : ∀ o a, T o a ↔ U o a) (o a : Nat) : F o a ↔ G o a := by
  have key : ∀ {F T G U : Nat → Nat → Prop}, Stk n F T → Stk n G U → (∀ o a, T o a ↔ U o a) → ∀ f, (∃ o a, F o a ∧ inB o a f) → ∃ o a, G o a ∧ inB o a f := fun {F T G U} S R h f ⟨o, a, h1, h2⟩ => by
    have hf : f < n := by have := (S.al o a (.inl h1)).2.2; have := h2.2; omega
    obtain ⟨p, b, h3, h4⟩ := R.cov f hf
    rcases h3 with h3 | h3
    · exact ⟨p, b, h3, h4⟩
    · exfalso
      have h5 := (h p b).2 h3
      obtain ⟨rfl, rfl⟩ := S.ap o a p b f (.inl h1) (.inr h5) h2 h4
      exact S.dis _ _ h1 h5
  exact S.apart.unique R.apart (fun f => ⟨key S R h f, key R S (fun o a => (h o a).symm) f⟩) o a
end
end
/-! buddy's document: its lists are a node's free blocks. Pure. -/
section
def memL (L : List (Int × Int)) (o a : Nat) : Prop := ((a : Int), (o : Int)) ∈ L
/-- Numbers from 0 on. -/
def NatL (L : List (Int × Int)) : Prop := ∀ p ∈ L, ∃ a o : Nat, p = ((a : Int), (o : Int))
theorem memL_drop {L : List (Int × Int)} {p x : Nat} (o a : Nat) : memL (dropL L ((x : Int), (p : Int))) o a ↔ memL L o a ∧ ¬ (o = p ∧ a = x) := by
  unfold memL
  rw [mem_dropL]
  have e : ((a : Int), (o : Int)) ≠ ((x : Int), (p : Int)) ↔ ¬ (o = p ∧ a = x) := by
    rw [ne_eq, Prod.mk.injEq]
    omega
  rw [e]
theorem memL_put {L : List (Int × Int)} {p x : Nat} (o a : Nat) : memL (putL L ((x : Int), (p : Int))) o a ↔ memL L o a ∨ (o = p ∧ a = x) := by
  unfold memL
  rw [mem_putL, Prod.mk.injEq]
  exact or_congr Iff.rfl (by omega)
theorem NatL.drop {L : List (Int × Int)} (h : NatL L) (x : Int × Int) : NatL (dropL L x) := fun p hp => h p (mem_dropL.1 hp).1
theorem NatL.put {L : List (Int × Int)} (h : NatL L) (x o : Nat) : NatL (putL L ((x : Int), (o : Int))) := fun p hp => (mem_putL.1 hp).elim (h p) (fun e => ⟨x, o, e⟩)
theorem Stk.rising {n : Nat} {L : List (Int × Int)} {T : Nat → Nat → Prop} (S : Stk n (memL L) T) {p x : Nat} (hT : T p x) (hN : NatL L) : ∀ q ∈ L, q.1 ≠ (x : Int) := fun q hq e => by
  obtain ⟨a, o, rfl⟩ := hN q hq
  obtain rfl : a = x := by
    have e : (a : Int) = (x : Int) := e
    omega
  obtain ⟨rfl, _⟩ := S.ap o a p a a (.inl hq) (.inr hT) (self_in _ _) (self_in _ _)
  exact S.dis _ _ hq hT
theorem set_eq {T U : Nat → Nat → Prop} (h : ∀ o a, T o a ↔ U o a) : T = U := by
  funext o a
  exact propext (h o a)

/-- Where the block that is had begins. -/
def cutA (high : Bool) (od d : Nat) (x : Nat) : Nat := if high = true then x + (2 ^ (od + d) - 2 ^ od) else x
theorem cutA_next (od d x : Nat) : cutA true od d (x + 2 ^ (od + d)) = cutA true od (d + 1) x := by
  unfold cutA
  have h1 : 2 ^ od ≤ 2 ^ (od + d) := Nat.pow_le_pow_right (by decide) (by omega)
  rw [if_pos rfl, if_pos rfl, ← Nat.add_assoc, Nat.pow_succ]
  omega
theorem split_stk {n od : Nat} {high : Bool} : ∀ (d : Nat) (L : List (Int × Int)) (x : Nat) (T : Nat → Nat → Prop), Stk n (memL L) T → T (od + d) x → Rising L → NatL L →
    (splitL high od d L (x : Int)).2 = (cutA high od d x : Nat) ∧ Stk n (memL (splitL high od d L (x : Int)).1) (fun o a => (T o a ∧ ¬ (o = od + d ∧ a = x)) ∨ (o = od ∧ a = cutA high od d x)) ∧ Rising (splitL high od d L (x : Int)).1 ∧ NatL (splitL high od d L (x : Int)).1
  | 0, L, x, T, S, hT, hR, hN => by
    have e : cutA high od 0 x = x := by unfold cutA; split <;> simp
    rw [e]
    refine ⟨rfl, ?_, hR, hN⟩
    have : (fun o a => (T o a ∧ ¬ (o = od + 0 ∧ a = x)) ∨ (o = od ∧ a = x)) = T := set_eq fun o a => by
      constructor
      · rintro (h | ⟨rfl, rfl⟩)
        · exact h.1
        · exact hT
      · intro h
        by_cases e : o = od ∧ a = x
        · exact .inr e
        · exact .inl ⟨h, e⟩
    rw [this]
    exact S
  | d + 1, L, x, T, S, hT, hR, hN => by
    have hT' : T (od + d + 1) x := hT
    have hxl := (S.al _ _ (.inr hT')).2.1
    cases high with
    | true =>
      have e : splitL true od (d + 1) L (x : Int) = splitL true od d (putL L ((x : Int), ((od + d : Nat) : Int))) (((x + 2 ^ (od + d) : Nat)) : Int) := by
        show (if true = true then _ else _) = _
        rw [if_pos rfl]
        congr 1
      rw [e]
      have S2 := S.cut (q := od + d) (y := x) (z := x + 2 ^ (od + d)) hT' (.inl ⟨rfl, rfl⟩) (fun o a => memL_put o a) (fun o a => Iff.rfl)
      have ih := split_stk (high := true) d _ (x + 2 ^ (od + d)) _ S2 (.inr ⟨rfl, rfl⟩) (hR.putL (S.rising hT hN)) (hN.put _ _)
      rw [cutA_next] at ih
      refine ⟨ih.1, ?_, ih.2.2⟩
      have hset : (fun o a => (((T o a ∧ ¬ (o = od + d + 1 ∧ a = x)) ∨ (o = od + d ∧ a = x + 2 ^ (od + d))) ∧ ¬ (o = od + d ∧ a = x + 2 ^ (od + d))) ∨ (o = od ∧ a = cutA true od (d + 1) x)) = fun o a => (T o a ∧ ¬ (o = od + (d + 1) ∧ a = x)) ∨ (o = od ∧ a = cutA true od (d + 1) x) := set_eq fun o a => by
        have hno : T o a → ¬ (o = od + d ∧ a = x + 2 ^ (od + d)) := fun h e => by
          obtain ⟨rfl, rfl⟩ := e
          have := S.ap _ _ _ _ (x + 2 ^ (od + d)) (.inr h) (.inr hT') (self_in _ _) (inB_halves.2 (.inr (self_in _ _)))
          omega
        constructor
        · rintro (⟨h | h, h2⟩ | h)
          · exact .inl h
          · exact absurd h h2
          · exact .inr h
        · rintro (h | h)
          · exact .inl ⟨.inl h, hno h.1⟩
          · exact .inr h
      rw [← hset]
      exact ih.2.1
    | false =>
      have e : splitL false od (d + 1) L (x : Int) = splitL false od d (putL L (((x + 2 ^ (od + d) : Nat) : Int), ((od + d : Nat) : Int))) (x : Int) := by
        show (if false = true then _ else _) = _
        rw [if_neg (by decide)]
        congr 1
      rw [e]
      have S2 := S.cut (q := od + d) (y := x + 2 ^ (od + d)) (z := x) hT' (.inr ⟨rfl, rfl⟩) (fun o a => memL_put o a) (fun o a => Iff.rfl)
      have hno1 : ∀ q ∈ L, q.1 ≠ ((x + 2 ^ (od + d) : Nat) : Int) := fun q hq e => by
        obtain ⟨a, o, rfl⟩ := hN q hq
        have ea : a = x + 2 ^ (od + d) := by
          have : (a : Int) = ((x + 2 ^ (od + d) : Nat) : Int) := e
          omega
        subst ea
        have h1 := S.ap o _ _ x (x + 2 ^ (od + d)) (.inl hq) (.inr hT') (self_in _ _) (inB_halves.2 (.inr (self_in _ _)))
        have hp := Nat.one_le_two_pow (n := od + d)
        omega
      have ih := split_stk (high := false) d _ x _ S2 (.inr ⟨rfl, rfl⟩) (hR.putL hno1) (hN.put _ _)
      refine ⟨ih.1, ?_, ih.2.2⟩
      have hset : (fun o a => (((T o a ∧ ¬ (o = od + d + 1 ∧ a = x)) ∨ (o = od + d ∧ a = x)) ∧ ¬ (o = od + d ∧ a = x)) ∨ (o = od ∧ a = cutA false od d x)) = fun o a => (T o a ∧ ¬ (o = od + (d + 1) ∧ a = x)) ∨ (o = od ∧ a = cutA false od (d + 1) x) := set_eq fun o a => by
        have hno : T o a → ¬ (o = od + d ∧ a = x) := fun h e => by
          obtain ⟨rfl, rfl⟩ := e
          have := S.ap _ _ _ _ a (.inr h) (.inr hT') (self_in _ _) (self_in _ _)
          omega
        have ec : cutA false od d x = cutA false od (d + 1) x := rfl
        rw [ec]
        constructor
        · rintro (⟨h | h, h2⟩ | h)
          · exact .inl h
          · exact absurd h h2
          · exact .inr h
        · rintro (h | h)
          · exact .inl ⟨.inl h, hno h.1⟩
          · exact .inr h
      rw [← hset]
      exact ih.2.1

theorem budA_nat (o x : Nat) : budA (x : Int) o = (bud o x : Nat) ∧ lowA (x : Int) o = ((if bud o x < x then bud o x else x : Nat) : Int) := by
  have hp := Nat.one_le_two_pow (n := o)
  unfold budA lowA bud
  have e : ((x : Int) / ((2 ^ o : Nat) : Int) % 2 = 1) ↔ x / 2 ^ o % 2 = 1 := by
    rw [← Int.natCast_ediv]
    omega
  generalize 2 ^ o = p at *
  by_cases h : x / p % 2 = 1
  · rw [if_pos (e.2 h), if_pos (e.2 h), if_pos h]
    have hx : p ≤ x := by
      by_cases hx : p ≤ x
      · exact hx
      · rw [Nat.div_eq_of_lt (by omega)] at h
        omega
    rw [if_pos (by omega)]
    omega
  · rw [if_neg (fun hh => h (e.1 hh)), if_neg (fun hh => h (e.1 hh)), if_neg h, if_neg (by omega)]
    omega
theorem give_stk {n : Nat} : ∀ (d : Nat) (L : List (Int × Int)) (x o : Nat) (T : Nat → Nat → Prop), Stk n (memL L) T → T o x → Rising L → NatL L → o + d = 10 →
    Stk n (memL (giveL d L (x : Int) o)) (fun q a => T q a ∧ ¬ (q = o ∧ a = x)) ∧ Rising (giveL d L (x : Int) o) ∧ NatL (giveL d L (x : Int) o)
  | 0, L, x, o, T, S, hT, hR, hN, ho => by
    show Stk n (memL (putL L ((x : Int), (o : Int)))) _ ∧ Rising (putL L ((x : Int), (o : Int))) ∧ NatL (putL L ((x : Int), (o : Int)))
    exact ⟨S.back hT (fun h => by omega) (fun q a => memL_put q a) (fun q a => Iff.rfl), hR.putL (S.rising hT hN), hN.put _ _⟩
  | d + 1, L, x, o, T, S, hT, hR, hN, ho => by
    obtain ⟨e1, e2⟩ := budA_nat o x
    have e : giveL (d + 1) L (x : Int) o = if L.contains ((bud o x : Nat), (o : Int)) = true then giveL d (dropL L ((bud o x : Nat), (o : Int))) ((if bud o x < x then bud o x else x : Nat) : Int) (o + 1) else putL L ((x : Int), (o : Int)) := by
      show (if L.contains (budA (x : Int) o, (o : Int)) = true then _ else _) = _
      rw [e1, e2]
    rw [e]
    by_cases hc : L.contains (((bud o x : Nat) : Int), (o : Int)) = true
    · rw [if_pos hc]
      have hF : memL L o (bud o x) := List.contains_iff_mem.1 hc
      have S2 := S.join (by omega) hT hF rfl (fun q a => memL_drop q a) (fun q a => Iff.rfl)
      have ih := give_stk d _ _ (o + 1) _ S2 (.inr ⟨rfl, rfl⟩) (hR.dropL _) (hN.drop _) (by omega)
      refine ⟨?_, ih.2⟩
      have hset : (fun q a => ((T q a ∧ ¬ (q = o ∧ a = x)) ∨ (q = o + 1 ∧ a = if bud o x < x then bud o x else x)) ∧ ¬ (q = o + 1 ∧ a = if bud o x < x then bud o x else x)) = fun q a => T q a ∧ ¬ (q = o ∧ a = x) := set_eq fun q a => by
        have hno : T q a → ¬ (q = o + 1 ∧ a = if bud o x < x then bud o x else x) := fun h e => by
          obtain ⟨rfl, rfl⟩ := e
          have alx := (S.al o x (.inr hT)).2.1
          have hin : inB (o + 1) (if bud o x < x then bud o x else x) x := by
            have hp := Nat.one_le_two_pow (n := o)
            rcases bud_cases alx with ⟨_, e⟩ | ⟨l, e3, _, e⟩
            · rw [if_neg (by omega)]; exact self_in _ _
            · rw [if_pos (by omega), e, e3]
              exact inB_halves.2 (.inr (self_in _ _))
          have := S.ap _ _ _ _ x (.inr h) (.inr hT) hin (self_in _ _)
          omega
        constructor
        · rintro ⟨h | h, h2⟩
          · exact h
          · exact absurd h h2
        · intro h
          exact ⟨.inl h, hno h.1⟩
      rw [← hset]
      exact ih.1
    · rw [if_neg hc]
      exact ⟨S.back hT (fun _ h => hc (List.contains_iff_mem.2 h)) (fun q a => memL_put q a) (fun q a => Iff.rfl), hR.putL (S.rising hT hN), hN.put _ _⟩
end
/-! buddy's document: the node at first. Pure. -/
section
theorem best_al (a n : Nat) : ∀ k, a % 2 ^ bestK a n k = 0
  | 0 => Nat.mod_one a
  | k + 1 => by
    unfold bestK
    split
    · rename_i h; exact h.1
    · exact best_al a n k
theorem best_max {a n j : Nat} (h1 : a % 2 ^ j = 0) (h2 : a + 2 ^ j ≤ n) : ∀ k, j < k → j ≤ bestK a n k
  | 0, h => absurd h (Nat.not_lt_zero _)
  | k + 1, h => by
    unfold bestK
    split
    · omega
    · rename_i hc
      by_cases e : j = k
      · subst e; exact absurd ⟨h1, h2⟩ hc
      · exact best_max h1 h2 k (by omega)
theorem newF_in (n : Nat) : ∀ (f a : Nat) (p : Int × Int), p ∈ newF n f a → ∃ b : Nat, p = ((b : Int), ((bestK b n 11 : Nat) : Int)) ∧ a ≤ b ∧ b < n
  | 0, _, _, h => absurd h List.not_mem_nil
  | f + 1, a, p, h => by
    unfold newF at h
    split at h
    · rename_i hlt
      rcases List.mem_cons.1 h with rfl | h
      · exact ⟨a, rfl, Nat.le_refl _, hlt⟩
      · obtain ⟨b, e, h1, h2⟩ := newF_in n f _ p h
        have hp := Nat.one_le_two_pow (n := bestK a n 11)
        exact ⟨b, e, by omega, h2⟩
    · exact absurd h List.not_mem_nil
theorem newF_cov (n : Nat) : ∀ (f a x : Nat), n ≤ a + f → a ≤ x → x < n → ∃ b : Nat, ((b : Int), ((bestK b n 11 : Nat) : Int)) ∈ newF n f a ∧ inB (bestK b n 11) b x
  | 0, a, x, h, h1, h2 => by omega
  | f + 1, a, x, h, h1, h2 => by
    unfold newF
    rw [if_pos (by omega)]
    have hp := Nat.one_le_two_pow (n := bestK a n 11)
    by_cases hx : x < a + 2 ^ bestK a n 11
    · exact ⟨a, List.mem_cons_self, h1, hx⟩
    · obtain ⟨b, h3, h4⟩ := newF_cov n f (a + 2 ^ bestK a n 11) x (by omega) (by omega) h2
      exact ⟨b, List.mem_cons_of_mem _ h3, h4⟩
theorem newF_gap (n : Nat) : ∀ (f a : Nat), (newF n f a).Pairwise fun p q => p.1 + ((2 ^ p.2.toNat : Nat) : Int) ≤ q.1
  | 0, _ => List.Pairwise.nil
  | f + 1, a => by
    unfold newF
    split
    · refine List.pairwise_cons.2 ⟨fun q hq => ?_, newF_gap n f _⟩
      obtain ⟨b, rfl, h1, _⟩ := newF_in n f _ q hq
      rw [Int.toNat_natCast]
      show (a : Int) + _ ≤ (b : Int)
      omega
    · exact List.Pairwise.nil
theorem new_in {n o a : Nat} (h : memL (newL n) o a) : o = bestK a n 11 ∧ a < n := by
  obtain ⟨b, e, _, h2⟩ := newF_in n n 0 _ h
  rw [Prod.mk.injEq] at e
  obtain ⟨e1, e2⟩ := e
  obtain rfl : a = b := by omega
  exact ⟨by omega, h2⟩
theorem new_gap {n o a p b : Nat} (h1 : memL (newL n) o a) (h2 : memL (newL n) p b) (hab : a < b) : a + 2 ^ o ≤ b := by
  have hw := List.pairwise_iff_getElem.1 (newF_gap n n 0)
  obtain ⟨i, hi, ei⟩ := List.mem_iff_getElem.1 h1
  obtain ⟨j, hj, ej⟩ := List.mem_iff_getElem.1 h2
  by_cases hij : i < j
  · have h3 := hw i j hi hj hij
    unfold newL at ei ej
    rw [ei, ej, Int.toNat_natCast] at h3
    have h3 : (a : Int) + ((2 ^ o : Nat) : Int) ≤ (b : Int) := h3
    omega
  · by_cases hji : j < i
    · have h3 := hw j i hj hi hji
      unfold newL at ei ej
      rw [ei, ej, Int.toNat_natCast] at h3
      have h3 : (b : Int) + ((2 ^ p : Nat) : Int) ≤ (a : Int) := h3
      have hp := Nat.one_le_two_pow (n := p)
      omega
    · obtain rfl : i = j := by omega
      rw [ei, Prod.mk.injEq] at ej
      omega
theorem new_stk (n : Nat) : Stk n (memL (newL n)) (fun _ _ => False) ∧ Rising (newL n) ∧ NatL (newL n) := by
  have one : ∀ o a, memL (newL n) o a ∨ False → memL (newL n) o a := fun o a h => h.elim id False.elim
  refine ⟨⟨fun o a h => ?_, fun o a p b f h1 h2 h3 h4 => ?_, fun _ _ _ h => h, fun f hf => ?_, fun o a h ho h2 => ?_⟩, ?_, fun p hp => ?_⟩
  · obtain ⟨rfl, hlt⟩ := new_in (one _ _ h)
    exact ⟨best_lt a n 11 (Nat.le_refl _), best_al a n 11, best_fits a n hlt 11⟩
  · have h1 := one _ _ h1
    have h2 := one _ _ h2
    unfold inB at h3 h4
    by_cases e : a = b
    · subst e
      exact ⟨(new_in h1).1.trans (new_in h2).1.symm, rfl⟩
    · by_cases hab : a < b
      · have := new_gap h1 h2 hab; omega
      · have := new_gap h2 h1 (by omega); omega
  · obtain ⟨b, h1, h2⟩ := newF_cov n n 0 f (by omega) (by omega) hf
    exact ⟨_, b, .inl h1, h2⟩
  · obtain ⟨e1, l1⟩ := new_in h
    obtain ⟨e2, l2⟩ := new_in h2
    have hal : a % 2 ^ o = 0 := by rw [e1]; exact best_al a n 11
    have hfit := best_fits a n l1 11
    have hfit2 := best_fits (bud o a) n l2 11
    rw [← e1] at hfit
    rw [← e2] at hfit2
    have hpow : 2 ^ (o + 1) = 2 ^ o + 2 ^ o := by rw [Nat.pow_succ]; omega
    rcases bud_cases hal with ⟨h3, e⟩ | ⟨lo, e3, h3, e⟩
    · rw [e] at hfit2
      have := best_max (n := n) h3 (by omega) 11 (by omega)
      omega
    · rw [e] at e2 hfit2
      have := best_max (n := n) h3 (by omega) 11 (by omega)
      omega
  · exact (newF_gap n n 0).imp (fun {p q} h => by
      have : (0 : Int) < ((2 ^ p.2.toNat : Nat) : Int) := by
        have := Nat.one_le_two_pow (n := p.2.toNat)
        omega
      omega)
  · obtain ⟨b, e, _⟩ := newF_in n n 0 p hp
    exact ⟨b, _, e⟩
/-- As many blocks as the number has ones. -/
def onesN : Nat → Nat → Nat
  | 0, _ => 0
  | f + 1, k => if k = 0 then 0 else k % 2 + onesN f (k / 2)
theorem new_ones : ∀ n, n ≤ 128 → (newL n).length = onesN 8 n := by
  intro n hn
  have h : (List.range 129).all (fun n => (newL n).length == onesN 8 n) = true := by decide +kernel
  exact eq_of_beq (List.all_eq_true.1 h n (List.mem_range.2 (by omega)))
end
/-! buddy: a node as it lies; size, has, put, missing, Frames, Taken. -/
section
open Go.RowKit Go

noncomputable abbrev EI := elemInt (P := Try.prog) (e := 3) Try.underlying3
noncomputable abbrev EU := elemUnit
/-- The free blocks of an order; the taken ones. -/
def frL (L : List (Int × Int)) (o : Nat) (x : Int) : Option Unit := if (x, (o : Int)) ∈ L then some () else none
def tkL (T : List (Int × Int)) (x : Int) : Option Int := (T.find? fun p => p.1 == x).map (·.2)
def ndV (n : Nat) (mb : Nat → Nat) (tb : Nat) (i : Nat) : Value := if i = 0 then .int .i64 n else if i = 12 then .map (some tb) else .map (some (mb (i - 1)))
/-- A node in block d, its maps in mb and tb. -/
structure NodeAt (w : World) (d n : Nat) (mb : Nat → Nat) (tb : Nat) (L T : List (Int × Int)) : Prop where
  row : RowAt w d 13 (ndV n mb tb)
  free : ∀ o, o < 11 → FMap Try.prog 3 EU w (mb o) (frL L o)
  tkn : FMap Try.prog 3 EI w tb (tkL T)
  inj : ∀ o p, o < 11 → p < 11 → mb o = mb p → o = p
  ntb : ∀ o, o < 11 → mb o ≠ tb
  bnd : ∀ p ∈ L, 0 ≤ p.1 ∧ p.1 < 128
  tbnd : ∀ p ∈ T, 0 ≤ p.1 ∧ p.1 < 128
/-- Its maps. -/
def own6 (mb : Nat → Nat) (tb : Nat) (k : Nat) : Prop := k = tb ∨ ∃ o, o < 11 ∧ k = mb o

theorem frL_some {L : List (Int × Int)} {o : Nat} {x : Int} : (frL L o x).isSome = true ↔ (x, (o : Int)) ∈ L := by
  unfold frL
  split <;> simp_all
theorem frL_put (L : List (Int × Int)) (o : Nat) (x : Int) (p : Nat) : frL (putL L (x, (o : Int))) p = if p = o then fput (frL L o) x () else frL L p := by
  funext y
  unfold frL
  by_cases e : p = o
  · subst e
    rw [if_pos rfl]
    unfold fput
    by_cases h : y = x
    · subst h
      rw [if_pos rfl, if_pos (mem_putL.2 (.inr rfl))]
    · rw [if_neg h]
      show _ = (if (y, (p : Int)) ∈ L then some () else none)
      by_cases h2 : (y, (p : Int)) ∈ L
      · rw [if_pos h2, if_pos (mem_putL.2 (.inl h2))]
      · rw [if_neg h2, if_neg (fun h3 => (mem_putL.1 h3).elim h2 (fun e => h (by injection e)))]
  · rw [if_neg e]
    by_cases h2 : (y, (p : Int)) ∈ L
    · rw [if_pos h2, if_pos (mem_putL.2 (.inl h2))]
    · rw [if_neg h2, if_neg (fun h3 => (mem_putL.1 h3).elim h2 (fun e2 => e (by injection e2 with _ e2; omega)))]
theorem frL_drop (L : List (Int × Int)) (o : Nat) (x : Int) (p : Nat) : frL (dropL L (x, (o : Int))) p = if p = o then fcut (frL L o) x else frL L p := by
  funext y
  unfold frL
  by_cases e : p = o
  · subst e
    rw [if_pos rfl]
    unfold fcut
    by_cases h : y = x
    · subst h
      rw [if_pos rfl, if_neg (fun h3 => (mem_dropL.1 h3).2 rfl)]
    · rw [if_neg h]
      show _ = (if (y, (p : Int)) ∈ L then some () else none)
      by_cases h2 : (y, (p : Int)) ∈ L
      · rw [if_pos h2, if_pos (mem_dropL.2 ⟨h2, fun e => h (by injection e)⟩)]
      · rw [if_neg h2, if_neg (fun h3 => h2 (mem_dropL.1 h3).1)]
  · rw [if_neg e]
    by_cases h2 : (y, (p : Int)) ∈ L
    · rw [if_pos h2, if_pos (mem_dropL.2 ⟨h2, fun e2 => e (by injection e2 with _ e2; omega)⟩)]
    · rw [if_neg h2, if_neg (fun h3 => h2 (mem_dropL.1 h3).1)]
theorem tkL_some {T : List (Int × Int)} {x o : Int} (h : tkL T x = some o) : (x, o) ∈ T := by
  unfold tkL at h
  obtain ⟨p, hp, rfl⟩ := Option.map_eq_some_iff.1 h
  have h1 := List.mem_of_find?_eq_some hp
  have h2 := List.find?_some hp
  have : p.1 = x := by simpa using h2
  subst this
  exact h1
theorem tkL_none {T : List (Int × Int)} {x : Int} : tkL T x = none ↔ ∀ o, (x, o) ∉ T := by
  unfold tkL
  rw [Option.map_eq_none_iff, List.find?_eq_none]
  constructor
  · intro h o hm
    have := h _ hm
    simp at this
  · rintro h ⟨a, o⟩ hm e
    simp at e
    subst e
    exact h o hm

/-- A map is no row. -/
theorem map_row {α : Type} {R : Value → Option (MDat × List MemPlace)} {E : Elem R α} {w : World} {b d n : Nat} {f : Int → Option α} {g : Nat → Value} (h : FMap Try.prog 3 E w b f) (r : RowAt w d n g) : b ≠ d := fun e => by
  subst e
  obtain ⟨D, l, ⟨es, clock, hb, _⟩, _⟩ := h
  obtain ⟨A, t, hA, _⟩ := r
  rw [hb] at hA
  cases hA
theorem map_cell {α : Type} {R : Value → Option (MDat × List MemPlace)} {E : Elem R α} {w : World} {b d o : Nat} {f : Int → Option α} {v : Value} (h : FMap Try.prog 3 E w b f) (r : w.cell? ⟨d, o, none⟩ = some v) : b ≠ d := fun e => by
  subst e
  obtain ⟨D, l, ⟨es, clock, hb, _⟩, _⟩ := h
  simp [World.cell?, hb] at r

section
variable {w w' : World} {d n : Nat} {mb : Nat → Nat} {tb : Nat} {L T : List (Int × Int)}
theorem NodeAt.only {S : Nat → Prop} (N : NodeAt w d n mb tb L T) (h : Only S w w') (h1 : ¬ S d) (h2 : ∀ k, own6 mb tb k → ¬ S k) : NodeAt w' d n mb tb L T :=
  ⟨N.row.only h h1, fun o ho => (N.free o ho).only h (h2 _ (.inr ⟨o, ho, rfl⟩)), N.tkn.only h (h2 _ (.inl rfl)), N.inj, N.ntb, N.bnd, N.tbnd⟩
theorem NodeAt.later (N : NodeAt w d n mb tb L T) (h : Below w.heap.size w w') : NodeAt w' d n mb tb L T :=
  N.only (S := fun _ => False) (Only.of_below h) (fun h => h) (fun _ _ h => h)
theorem NodeAt.c0 (N : NodeAt w d n mb tb L T) : w.cell? ⟨d, 0, none⟩ = some (.int .i64 n) := N.row.cell 0 (by decide)
theorem NodeAt.c12 (N : NodeAt w d n mb tb L T) : w.cell? ⟨d, 12, none⟩ = some (.map (some tb)) := N.row.cell 12 (by decide)
theorem NodeAt.cf (N : NodeAt w d n mb tb L T) {o : Nat} (ho : o < 11) : w.cell? ⟨d, 1 + o, none⟩ = some (.map (some (mb o))) := by
  have h := N.row.cell (1 + o) (by omega)
  unfold ndV at h
  rw [if_neg (by omega), if_neg (by omega), Nat.add_sub_cancel_left] at h
  exact h
theorem NodeAt.lt (N : NodeAt w d n mb tb L T) : d < w.heap.size := N.row.lt
theorem NodeAt.own_lt (N : NodeAt w d n mb tb L T) {k : Nat} (h : own6 mb tb k) : k < w.heap.size := by
  rcases h with rfl | ⟨o, ho, rfl⟩
  · exact N.tkn.lt
  · exact (N.free o ho).lt
/-- Its maps are no rows. -/
theorem NodeAt.own_row (N : NodeAt w d n mb tb L T) {k : Nat} (h : own6 mb tb k) {m : Nat} {g : Nat → Value} (r : RowAt w k m g) : False := by
  rcases h with rfl | ⟨o, ho, rfl⟩
  · exact map_row N.tkn r rfl
  · exact map_row (N.free o ho) r rfl
theorem NodeAt.own_cell (N : NodeAt w d n mb tb L T) {k o : Nat} (h : own6 mb tb k) {v : Value} (r : w.cell? ⟨k, o, none⟩ = some v) : False := by
  rcases h with rfl | ⟨o, ho, rfl⟩
  · exact map_cell N.tkn r rfl
  · exact map_cell (N.free o ho) r rfl
end
theorem int_wf {x : Int} (h : -9223372036854775808 ≤ x ∧ x ≤ 9223372036854775807) : (Lit.int .i64 x).wf = true := by
  simp only [Lit.wf, Bool.and_eq_true, decide_eq_true_eq]
  exact ⟨h.1, h.2⟩
theorem zeroInt (w : World) : (zeroValue 3).run Try.prog w = .ok (.int .i64 0) w := by kernel_rfl
theorem zeroUnit (w : World) : (zeroValue 106).run Try.prog w = .ok (.agg #[]) w := by kernel_rfl
theorem store_unit (w : World) : (storeVar 106 ⟨w.heap.size, 0, none⟩ (.agg #[])).run Try.prog (w.alloc (.cells #[] 106)) = .ok () (w.alloc (.cells #[] 106)) :=
  run_storeVar_new (P := Try.prog) w 106 #[] #[] (show (Try.prog.info? 106).map (·.size) = some 0 by kernel_rfl) rfl (by simp)
theorem ok0 : EI.ok 0 := by show (Lit.int .i64 0).wf = true; decide

section
variable {w w' : World} {d n : Nat} {mb : Nat → Nat} {tb : Nat} {L T : List (Int × Int)}
/-- One of its maps turns. -/
theorem NodeAt.setF (N : NodeAt w d n mb tb L T) {o : Nat} (ho : o < 11) {L' : List (Int × Int)} {g : Int → Option Unit} (h1 : FMap Try.prog 3 EU w' (mb o) g) (h2 : Only (fun k => k = mb o) w w') (e1 : frL L' o = g) (e2 : ∀ p, p ≠ o → frL L' p = frL L p) (hb : ∀ p ∈ L', 0 ≤ p.1 ∧ p.1 < 128) :
    NodeAt w' d n mb tb L' T := by
  refine ⟨N.row.only h2 (fun e => N.own_row (.inr ⟨o, ho, e⟩) N.row), fun p hp => ?_, N.tkn.only h2 (fun e => N.ntb o ho e.symm), N.inj, N.ntb, hb, N.tbnd⟩
  by_cases e : p = o
  · subst e; rw [e1]; exact h1
  · rw [e2 p e]; exact (N.free p hp).only h2 (fun e3 => e (N.inj p o hp ho e3))
theorem NodeAt.setT (N : NodeAt w d n mb tb L T) {T' : List (Int × Int)} {g : Int → Option Int} (h1 : FMap Try.prog 3 EI w' tb g) (h2 : Only (fun k => k = tb) w w') (e1 : tkL T' = g) (hb : ∀ p ∈ T', 0 ≤ p.1 ∧ p.1 < 128) :
    NodeAt w' d n mb tb L T' :=
  ⟨N.row.only h2 (fun e => N.own_row (.inl e) N.row), fun p hp => (N.free p hp).only h2 (N.ntb p hp), by rw [e1]; exact h1, N.inj, N.ntb, N.bnd, hb⟩
end
theorem size_any (k : Nat) (hk : k ≤ 10) (w : World) : Calls Try.prog 53 #[.int .i64 k] w fun e w' => e = .returned (.int .i64 ((2 ^ k : Nat) : Int)) ∧ w = w' := by
  go_enter Try.func53, Try.ntmps53
  go_wp2_with (refine wpList_shl1 rfl _ _ _ _ rfl .i64 k _ hk rfl rfl rfl ?_)
  go_ret
  exact ⟨by simp, rfl⟩
section
variable {w : World} {d n : Nat} {mb : Nat → Nat} {tb : Nat} {L T : List (Int × Int)}
set_option maxRecDepth 100000 in
theorem has_any (N : NodeAt w d n mb tb L T) (o : Nat) (ho : o < 11) (x : Int) (hx : -9223372036854775808 ≤ x ∧ x ≤ 9223372036854775807) :
    Calls Try.prog 72 #[.pointer (some ⟨d, 0, none⟩), .int .i64 x, .int .i64 o] w fun e w' => e = .returned (.bool (frL L o x).isSome) ∧ Below w.heap.size w w' := by
  have hT := N.free o ho
  have hc := N.cf ho
  have hw := int_wf hx
  go_enter Try.func72, Try.ntmps72
  go_wp2_with (first | (at_lookup; (refine wpList_look_fmap rfl _ _ _ rfl 3 106 Try.underlying3 Try.underlying87 EU () trivial (zeroUnit _) (mb o) (frL L o) rfl hT x rfl hw ?_)) | (refine wpList_store_run rfl 106 _ _ rfl w.heap.size _ _ rfl rfl (store_unit w) ?_) | fail)
  go_ret
  exact ⟨rfl, (Below.refl _ w).alloc (Nat.le_refl _) _⟩
set_option maxRecDepth 100000 in
theorem put6_any (N : NodeAt w d n mb tb L T) (o : Nat) (ho : o < 11) (x : Int) (hx : 0 ≤ x ∧ x < 128) :
    Calls Try.prog 52 #[.pointer (some ⟨d, 0, none⟩), .int .i64 x, .int .i64 o] w fun e w' => e = .returned (.tuple #[]) ∧ NodeAt w' d n mb tb (putL L (x, (o : Int))) T ∧ Only (fun k => k = mb o) w w' := by
  have hT := N.free o ho
  have hc := N.cf ho
  have hw := int_wf (x := x) (by omega)
  go_enter Try.func52, Try.ntmps52
  go_wp2_with (first | (at_mapUpdate; (refine wpList_store_fmap rfl _ _ _ _ rfl 3 106 Try.underlying3 Try.underlying87 EU (mb o) (frL L o) rfl hT x rfl hw 128 (fun y hy => N.bnd _ (frL_some.1 hy)) (by decide) () rfl trivial ?_; intro w' h1 h2)) | fail)
  go_end0
  refine ⟨rfl, N.setF ho h1 h2 (by rw [frL_put, if_pos rfl]) (fun p hp => by rw [frL_put, if_neg hp]) (fun p hp => ?_), h2⟩
  rcases mem_putL.1 hp with h | rfl
  · exact N.bnd p h
  · exact hx
theorem missing_any (N : NodeAt w d n mb tb L T) (hn : 1 ≤ n) :
    Calls Try.prog 54 #[.pointer (some ⟨d, 0, none⟩)] w fun e w' => e = .returned (.bool false) ∧ w = w' := by
  have hc := N.c0
  have h0 : ((n : Int) == 0) = false := by simp; omega
  go_enter Try.func54, Try.ntmps54
  go_wp2_with (fail)
  go_ret
  exact ⟨rfl, rfl⟩
theorem frames_any (N : NodeAt w d n mb tb L T) :
    Calls Try.prog 74 #[.pointer (some ⟨d, 0, none⟩)] w fun e w' => e = .returned (.int .i64 n) ∧ w = w' := by
  have hc := N.c0
  go_enter Try.func74, Try.ntmps74
  go_wp2_with (fail)
  go_ret
  exact ⟨rfl, rfl⟩
theorem taken6_any (N : NodeAt w d n mb tb L T) (x : Int) (hx : -9223372036854775808 ≤ x ∧ x ≤ 9223372036854775807) :
    Calls Try.prog 60 #[.pointer (some ⟨d, 0, none⟩), .int .i64 x] w fun e w' => e = .returned (.tuple #[.int .i64 ((tkL T x).getD 0), .bool (tkL T x).isSome]) ∧ w = w' := by
  have hT := N.tkn
  have hc := N.c12
  have hw := int_wf hx
  go_enter Try.func60, Try.ntmps60
  go_wp2_with (first | (at_lookup; (refine wpList_look_fmap rfl _ _ _ rfl 3 3 Try.underlying3 Try.underlying58 EI 0 ok0 (zeroInt _) tb (tkL T) rfl hT x rfl hw ?_)) | fail)
  go_ret2
  exact ⟨rfl, rfl⟩
end
end
/-! buddy: the greatest block that begins somewhere; New. -/
section
open Go.RowKit Go

theorem size_of {x : Int} {k p : Nat} (hx : x = k) (hk : k ≤ 10) (hp : 2 ^ k = p) (w : World) : Calls Try.prog 53 #[.int .i64 x] w fun e w' => e = .returned (.int .i64 p) ∧ w = w' := by
  subst hx
  subst hp
  exact size_any k hk w
theorem best_down {a n k : Nat} (h : a % 2 ^ (k + 1) = 0 ∧ a + 2 ^ (k + 1) ≤ n) : a % 2 ^ k = 0 ∧ a + 2 ^ k ≤ n := by
  have := Nat.one_le_two_pow (n := k)
  refine ⟨(half_up h.1).1, ?_⟩
  have := h.2
  rw [Nat.pow_succ] at this
  omega
theorem best_is {a n : Nat} (ha : a < n) {k : Nat} (hk : k ≤ 10) (h : a % 2 ^ k = 0 ∧ a + 2 ^ k ≤ n) (hn : k = 10 ∨ ¬ (a % 2 ^ (k + 1) = 0 ∧ a + 2 ^ (k + 1) ≤ n)) : bestK a n 11 = k := by
  have h1 := best_max h.1 h.2 11 (by omega)
  have h2 := best_lt a n 11 (by decide)
  rcases hn with rfl | hn
  · omega
  · by_cases e : bestK a n 11 = k
    · exact e
    · exfalso
      have key : ∀ d, a % 2 ^ (k + 1 + d) = 0 ∧ a + 2 ^ (k + 1 + d) ≤ n → a % 2 ^ (k + 1) = 0 ∧ a + 2 ^ (k + 1) ≤ n := by
        intro d
        induction d with
        | zero => exact id
        | succ d ih => exact fun hh => ih (best_down hh)
      obtain ⟨d, hd⟩ : ∃ d, bestK a n 11 = k + 1 + d := ⟨bestK a n 11 - (k + 1), by omega⟩
      exact hn (key d (by rw [← hd]; exact ⟨best_al a n 11, best_fits a n ha 11⟩))

set_option maxRecDepth 100000 in
set_option maxHeartbeats 1000000 in
theorem greatest_any {a n : Nat} (ha : a < n) (hn : n ≤ 128) (w : World) : Calls Try.prog 51 #[.int .i64 a, .int .i64 n] w fun e w' => e = .returned (.int .i64 ((bestK a n 11 : Nat) : Int)) ∧ w = w' := by
  go_enter Try.func51, Try.ntmps51
  go_wp2_with (fail)
  go_loop [5] (fun i => ∃ k : Nat, k ≤ 10 ∧ i = .int .i64 k ∧ Hid (a % 2 ^ k = 0 ∧ a + 2 ^ k ≤ n)) (fun i => 10 - (intOf i).toNat)
  case atStart => exact ⟨0, by decide, rfl, Nat.mod_one a, ha⟩
  case round =>
    obtain ⟨k, hk, rfl, HP⟩ := hrel
    by_cases hlt : k < 10
    · obtain ⟨p, hp⟩ : ∃ p, 2 ^ (k + 1) = p := ⟨_, rfl⟩
      have hp2 := two_pow_small (k := k + 1) (by omega)
      rw [hp] at hp2
      obtain ⟨p1, p2⟩ := hp2
      have HQ := Lib.hid hp
      have em : ((a : Int) % (p : Int)) = ((a % p : Nat) : Int) := (Int.natCast_emod a p).symm
      by_cases c1 : a % p = 0
      · have em2 : ((a : Int) % (p : Int) == 0) = true := by rw [em, c1]; rfl
        by_cases c2 : a + p ≤ n
        · have HN := Lib.hid (show a % 2 ^ (k + 1) = 0 ∧ a + 2 ^ (k + 1) ≤ n by rw [hp]; exact ⟨c1, c2⟩)
          clear hp em
          go_wp2_with (fail)
          refine (size_of (k := k + 1) (by omega) (by omega) HQ.out _).mono ?_
          rintro e w' ⟨rfl, rfl⟩
          go_wp2_with (fail)
          refine (size_of (k := k + 1) (by omega) (by omega) HQ.out _).mono ?_
          rintro e w' ⟨rfl, rfl⟩
          go_wp2_with (fail)
          go_round
          case rel => exact ⟨k + 1, by omega, by go_num, HN⟩
          case measure => simp [intOf]; omega
        · have HE := Lib.hid (best_is ha hk HP.out (.inr (by rw [hp]; exact fun h => c2 h.2)))
          have c3 : n < a + p := by omega
          clear hp em c2
          go_wp2_with (fail)
          refine (size_of (k := k + 1) (by omega) (by omega) HQ.out _).mono ?_
          rintro e w' ⟨rfl, rfl⟩
          go_wp2_with (fail)
          refine (size_of (k := k + 1) (by omega) (by omega) HQ.out _).mono ?_
          rintro e w' ⟨rfl, rfl⟩
          go_wp2_with (fail)
          go_ret
          exact ⟨by rw [HE.out]; rfl, rfl⟩
      · have HE := Lib.hid (best_is ha hk HP.out (.inr (by rw [hp]; exact fun h => c1 h.1)))
        have em2 : ((a : Int) % (p : Int) == 0) = false := by
          rw [em]
          simpa using (show ((a % p : Nat) : Int) ≠ 0 by omega)
        clear hp em c1
        go_wp2_with (fail)
        refine (size_of (k := k + 1) (by omega) (by omega) HQ.out _).mono ?_
        rintro e w' ⟨rfl, rfl⟩
        go_wp2_with (fail)
        go_ret
        exact ⟨by rw [HE.out]; rfl, rfl⟩
    · obtain rfl : k = 10 := by omega
      have HE := Lib.hid (best_is ha hk HP.out (.inl rfl))
      go_wp2_with (fail)
      go_ret
      exact ⟨by rw [HE.out]; rfl, rfl⟩

theorem NodeAt.same {w : World} {d n : Nat} {mb : Nat → Nat} {tb : Nat} {L T L' : List (Int × Int)} (N : NodeAt w d n mb tb L T) (h : ∀ p, p ∈ L' ↔ p ∈ L) : NodeAt w d n mb tb L' T := by
  have e : ∀ o, frL L' o = frL L o := fun o => by
    funext x
    unfold frL
    by_cases h1 : (x, (o : Int)) ∈ L
    · rw [if_pos h1, if_pos ((h _).2 h1)]
    · rw [if_neg h1, if_neg (fun h2 => h1 ((h _).1 h2))]
  exact ⟨N.row, fun o ho => by rw [e]; exact N.free o ho, N.tkn, N.inj, N.ntb, fun p hp => N.bnd p ((h p).1 hp), N.tbnd⟩
def New6 (w : World) (n : Nat) (e : Ending) (w' : World) : Prop := ∃ d mb tb, e = .returned (.tuple #[.pointer (some ⟨d, 0, none⟩), .int .i64 0]) ∧ NodeAt w' d n mb tb (newL n) [] ∧ w.heap.size ≤ d ∧ (∀ k, own6 mb tb k → w.heap.size ≤ k) ∧ Below w.heap.size w w'
theorem newW {n : Int} (h : ¬ (1 ≤ n ∧ n ≤ 128)) (w : World) : Calls Try.prog 24 #[.int .i64 n] w fun e w' => e = .returned (.tuple #[.pointer none, .int .i64 2]) ∧ w = w' := by
  by_cases h1 : n < 1
  · go_enter Try.func24, Try.ntmps24
    go_wp2_with (fail)
    go_ret2
    exact ⟨rfl, rfl⟩
  · have h2 : 128 < n := by omega
    go_enter Try.func24, Try.ntmps24
    go_wp2_with (fail)
    go_ret2
    exact ⟨rfl, rfl⟩
/-- The row while its maps are made. -/
def rowN (n tb m : Nat) (k : Nat) (i : Nat) : Value := if i = 0 then .int .i64 n else if i = 12 then .map (some tb) else if i ≤ k then .map (some (m + (i - 1))) else .map none
theorem make_map (t : TypeId) (W : World) : (Instr.makeMap t none).run Try.prog W = .ok (.map (some W.heap.size)) (W.alloc (.map #[] 0)) := rfl
theorem rowN_next {w : World} {d n tb m k : Nat} (R : RowAt w d 13 (rowN n tb m k)) (hk : k < 11) : RowAt (w.setCell ⟨d, 1 + k, none⟩ (.map (some (m + k)))) d 13 (rowN n tb m (k + 1)) :=
  (R.setCell (1 + k) _).ext fun i hi => by
    unfold updV rowN
    by_cases e : i = 1 + k
    · subst e
      rw [if_pos rfl, if_neg (by omega), if_neg (by omega), if_pos (by omega), Nat.add_sub_cancel_left]
    · rw [if_neg e]
      by_cases e0 : i = 0
      · rw [if_pos e0, if_pos e0]
      · rw [if_neg e0, if_neg e0]
        by_cases e2 : i = 12
        · rw [if_pos e2, if_pos e2]
        · rw [if_neg e2, if_neg e2]
          by_cases e3 : i ≤ k
          · rw [if_pos e3, if_pos (by omega)]
          · rw [if_neg e3, if_neg (by omega)]
set_option maxRecDepth 100000 in
set_option maxHeartbeats 1000000 in
theorem new6_any {n : Nat} (h1 : 1 ≤ n) (h2 : n ≤ 128) (w : World) : Calls Try.prog 24 #[.int .i64 n] w (New6 w n) := by
  have g1 : ¬ ((n : Int) < 1) := by omega
  have g2 : ¬ (128 < (n : Int)) := by omega
  have hmk := make_map
  have HT0 := Lib.hid ((fmap_made Try.prog 3 EI w).later ((Below.refl _ _).alloc (Nat.le_refl _) (.cells #[Value.int IntKind.i64 ↑n, Value.map none, Value.map none, Value.map none, Value.map none, Value.map none, Value.map none, Value.map none, Value.map none, Value.map none, Value.map none, Value.map none, Value.map (some w.heap.size)] 90)))
  have HR0 := Lib.hid (RowAt.new (w.alloc (.map #[] 0)) #[Value.int IntKind.i64 ↑n, Value.map none, Value.map none, Value.map none, Value.map none, Value.map none, Value.map none, Value.map none, Value.map none, Value.map none, Value.map none, Value.map none, Value.map (some w.heap.size)] 90 13 (rowN n w.heap.size (w.heap.size + 2) 0) (fun i hi => by
    rcases (show i = 0 ∨ i = 1 ∨ i = 2 ∨ i = 3 ∨ i = 4 ∨ i = 5 ∨ i = 6 ∨ i = 7 ∨ i = 8 ∨ i = 9 ∨ i = 10 ∨ i = 11 ∨ i = 12 by omega) with rfl | rfl | rfl | rfl | rfl | rfl | rfl | rfl | rfl | rfl | rfl | rfl | rfl <;> rfl))
  have HB0 := Lib.hid ((((Below.refl w.heap.size w).alloc (Nat.le_refl _) (.map #[] 0))).alloc (by simp) (.cells #[Value.int IntKind.i64 ↑n, Value.map none, Value.map none, Value.map none, Value.map none, Value.map none, Value.map none, Value.map none, Value.map none, Value.map none, Value.map none, Value.map none, Value.map (some w.heap.size)] 90))
  have HS0 := Lib.hid (show ((w.alloc (.map #[] 0)).alloc (.cells #[Value.int IntKind.i64 ↑n, Value.map none, Value.map none, Value.map none, Value.map none, Value.map none, Value.map none, Value.map none, Value.map none, Value.map none, Value.map none, Value.map none, Value.map (some w.heap.size)] 90)).heap.size = w.heap.size + 2 by simp)
  rw [show (w.alloc (.map #[] 0)).heap.size = w.heap.size + 1 by simp] at HR0
  go_enter Try.func24, Try.ntmps24
  go_wp2_with (fail)
  generalize hBB : w.heap.size = B at *
  generalize (w.alloc (.map #[] 0)).alloc _ = w1 at *
  go_loopw [18] (fun i wr => ∃ k : Nat, k ≤ 11 ∧ i = .int .i64 k ∧ Hid (wr.heap.size = B + 2 + k) ∧ RowAt wr (B + 1) 13 (rowN n B (B + 2) k) ∧ FMap Try.prog 3 EI wr B (fun _ => none) ∧ (∀ o, o < k → FMap Try.prog 3 EU wr (B + 2 + o) (fun _ => none)) ∧ Below B w wr) (fun i _ => 11 - (intOf i).toNat)
  case atStart => exact ⟨0, by decide, rfl, HS0, HR0.out, HT0.out, fun o h => absurd h (Nat.not_lt_zero _), HB0.out⟩
  case round =>
    clear HT0 HR0 HB0 HS0
    obtain ⟨k, hk, rfl, HS, hR, hT, hF, hB⟩ := hrel
    have HR := Lib.hid hR
    have HT := Lib.hid hT
    have HF := Lib.hid hF
    have HB := Lib.hid hB
    clear hR hT hF hB
    by_cases hlt : k < 11
    · have hk2 : (k : Int) < 11 := by omega
      have c1 : (wr.alloc (.map #[] 0)).cell? ⟨B + 1, 1 + k, none⟩ = some (.map none) := by
        have h := (HR.out.alloc (.map #[] 0)).cell (1 + k) (by omega)
        unfold rowN at h
        rw [if_neg (by omega), if_neg (by omega), if_neg (by omega)] at h
        exact h
      have f1 : (wr.alloc (.map #[] 0)).frozen? ⟨B + 1, 1 + k, none⟩ = false := (HR.out.alloc (.map #[] 0)).frozen _
      have HN1 := Lib.hid (show RowAt ((wr.alloc (.map #[] 0)).setCell ⟨B + 1, 1 + k, none⟩ (.map (some wr.heap.size))) (B + 1) 13 (rowN n B (B + 2) (k + 1)) by
        rw [HS.out]; exact rowN_next (HR.out.alloc (.map #[] 0)) hlt)
      have ha : Below wr.heap.size wr (wr.alloc (.map #[] 0)) := (Below.refl _ wr).alloc (Nat.le_refl _) _
      have ho := Only.setCell (S := fun j => j = B + 1) (wr.alloc (.map #[] 0)) ⟨B + 1, 1 + k, none⟩ rfl (.map (some wr.heap.size))
      have HN2 := Lib.hid ((HT.out.later ha).only ho (by omega))
      have HN3 := Lib.hid (show ∀ o, o < k + 1 → FMap Try.prog 3 EU ((wr.alloc (.map #[] 0)).setCell ⟨B + 1, 1 + k, none⟩ (.map (some wr.heap.size))) (B + 2 + o) (fun _ => none) from fun o hlo => by
        by_cases e : o = k
        · subst e
          rw [← HS.out]
          exact (fmap_made Try.prog 3 EU wr).only ho (by have := HS.out; omega)
        · exact ((HF.out o (by omega)).later ha).only ho (by omega))
      have HN4 := Lib.hid (ho.below (HB.out.trans (ha.mono (by have := HB.out.size; omega))) (by have := HB.out.size; have := HS.out; simp; omega) (fun j hj => by omega))
      have HN5 := Lib.hid (show ((wr.alloc (.map #[] 0)).setCell ⟨B + 1, 1 + k, none⟩ (.map (some wr.heap.size))).heap.size = B + 2 + (k + 1) by
        have := HS.out
        simp [World.setCell]; omega)
      clear HR HT HF HB HS ha ho
      go_wp2_with (fail)
      go_roundw
      case rel => exact ⟨k + 1, hlt, by go_num, HN5, HN1.out, HN2.out, HN3.out, HN4.out⟩
      case measure => simp [intOf]; omega
    · obtain rfl : k = 11 := by omega
      rw [show ((11 : Nat) : Int) = 11 from rfl]
      have HN := Lib.hid (show NodeAt wr (B + 1) n (fun o => B + 2 + o) B [] [] from
        ⟨HR.out.ext fun i hi => by
          unfold rowN ndV
          by_cases e0 : i = 0
          · rw [if_pos e0, if_pos e0]
          · rw [if_neg e0, if_neg e0]
            by_cases e2 : i = 12
            · rw [if_pos e2, if_pos e2]
            · rw [if_neg e2, if_neg e2, if_pos (by omega)],
         fun o ho => HF.out o ho, HT.out, fun o p _ _ h => by omega, fun o _ => by omega, fun _ h => absurd h List.not_mem_nil, fun _ h => absurd h List.not_mem_nil⟩)
      clear HR HT HF HS hk hlt
      go_wp2_with (fail)
      generalize hD : B + 1 = d at *
      generalize hM : (fun o => B + 2 + o) = mb at *
      have HM := Lib.hid (show ∀ k, own6 mb B k → B ≤ k from fun k hk => by
        rcases hk with rfl | ⟨o, _, rfl⟩
        · exact Nat.le_refl _
        · subst hM; exact Nat.le_trans (Nat.le_add_right _ _) (Nat.le_add_right _ _))
      clear hM
      generalize wr = w2 at *
      go_loopw [6] (fun i wr => ∃ (a f : Nat) (out : List (Int × Int)), i = .int .i64 a ∧ a ≤ n ∧ n ≤ a + f ∧ out ++ newF n f a = newL n ∧ NodeAt wr d n mb B out [] ∧ Below B w wr) (fun i _ => n - (intOf i).toNat)
      case atStart => exact ⟨0, n, [], rfl, by omega, by omega, rfl, HN.out, HB.out⟩
      case round =>
        clear HN HB
        obtain ⟨a, f, out, rfl, ha, hf, he, hN, hB⟩ := hrel
        have HN := Lib.hid hN
        have HB := Lib.hid hB
        clear hN hB
        by_cases hlt : a < n
        · have hbl := best_lt a n 11 (by decide)
          have hbf := best_fits a n hlt 11
          obtain ⟨p, hp⟩ : ∃ p, 2 ^ bestK a n 11 = p := ⟨_, rfl⟩
          have hp2 := two_pow_small hbl
          rw [hp] at hp2 hbf
          obtain ⟨p1, p2⟩ := hp2
          have HP := Lib.hid hp
          obtain ⟨f', rfl⟩ : ∃ f', f = f' + 1 := ⟨f - 1, by omega⟩
          have HE := Lib.hid (show out ++ [((a : Int), (bestK a n 11 : Int))] ++ newF n f' (a + p) = newL n by
            rw [← he, ← hp, List.append_assoc]
            show _ = out ++ (if a < n then _ else [])
            rw [if_pos hlt]; rfl)
          have HG := Lib.hid (greatest_any hlt h2)
          clear hp he
          generalize bestK a n 11 = q at *
          go_wp2_with (fail)
          refine (HG.out _).mono ?_
          rintro e w' ⟨rfl, rfl⟩
          go_wp2_with (fail)
          refine (put6_any HN.out q (by omega) a (by omega)).mono ?_
          rintro e w3 ⟨rfl, hN3, ho3⟩
          have HN3 := Lib.hid (hN3.same (L' := out ++ [((a : Int), (q : Int))]) (fun p => by rw [mem_putL, List.mem_append, List.mem_singleton]))
          have HB3 := Lib.hid (ho3.below HB.out (by have := HB.out.size; omega) (fun k hk => HM.out k (.inr ⟨q, by omega, hk⟩)))
          clear hN3 ho3 HN HB
          go_wp2_with (fail)
          refine (size_of (k := q) rfl hbl HP.out _).mono ?_
          rintro e w' ⟨rfl, rfl⟩
          go_wp2_with (fail)
          go_roundw
          case rel => exact ⟨a + p, f', out ++ [((a : Int), (q : Int))], by go_num, by omega, by omega, HE.out, HN3.out, HB3.out⟩
          case measure => simp [intOf]; omega
        · have hend : newF n f a = [] := by
            cases f with
            | zero => rfl
            | succ f =>
              show (if a < n then _ else []) = []
              rw [if_neg hlt]
          rw [hend, List.append_nil] at he
          subst he
          have HE := Lib.hid (show New6 w n (.returned (.tuple #[.pointer (some ⟨d, 0, none⟩), .int .i64 0])) wr from
            ⟨d, mb, B, rfl, HN.out, by omega, fun k hk => by have := HM.out k hk; omega, by rw [hBB]; exact HB.out⟩)
          clear HN HB HM
          go_wp2_with (fail)
          go_ret2
          exact HE.out
end
/-! buddy: where a buddy begins; cut; join. -/
section
open Go.RowKit Go

theorem xor_bud {x o : Nat} (hx : x < 128) (ho : o ≤ 10) : bits .xor .i64 (x : Int) ((2 ^ o : Nat) : Int) = ((bud o x : Nat) : Int) := by
  have h : ((List.range 128).all fun x => (List.range 11).all fun o => bits .xor .i64 (x : Int) ((2 ^ o : Nat) : Int) == ((bud o x : Nat) : Int)) = true := by decide +kernel
  exact eq_of_beq (List.all_eq_true.1 (List.all_eq_true.1 h x (List.mem_range.2 hx)) o (List.mem_range.2 (by omega)))
set_option maxRecDepth 100000 in
theorem buddy_of {x o : Nat} {z : Int} (hx : x < 128) (ho : o ≤ 10) (hz : z = o) {y : Nat} (hy : bud o x = y) (w : World) : Calls Try.prog 69 #[.int .i64 x, .int .i64 z] w fun e w' => e = .returned (.int .i64 y) ∧ w = w' := by
  subst hz
  subst hy
  obtain ⟨p, hp⟩ : ∃ p, 2 ^ o = p := ⟨_, rfl⟩
  have HX := Lib.hid (show bits .xor .i64 (x : Int) (p : Int) = ((bud o x : Nat) : Int) by rw [← hp]; exact xor_bud hx ho)
  go_enter Try.func69, Try.ntmps69
  go_wp2_with (fail)
  refine (size_of (k := o) rfl ho hp _).mono ?_
  rintro e w' ⟨rfl, rfl⟩
  go_wp2_with (fail)
  go_ret
  refine ⟨?_, rfl⟩
  rw [← HX.out]; rfl

/-- One of its maps of free blocks. -/
def ownF (mb : Nat → Nat) (k : Nat) : Prop := ∃ o, o < 11 ∧ k = mb o
theorem putL_in {L : List (Int × Int)} {x : Int × Int} (h : ∀ p ∈ L, 0 ≤ p.1 ∧ p.1 < 128) (hx : 0 ≤ x.1 ∧ x.1 < 128) : ∀ p ∈ putL L x, 0 ≤ p.1 ∧ p.1 < 128 := fun p hp => (mem_putL.1 hp).elim (h p) (fun e => e ▸ hx)
section
variable {w : World} {d n : Nat} {mb : Nat → Nat} {tb : Nat} {L T : List (Int × Int)}
def Cut6 (w : World) (d n : Nat) (mb : Nat → Nat) (tb : Nat) (L T : List (Int × Int)) (high : Bool) (od d1 x : Nat) (e : Ending) (w' : World) : Prop :=
  e = .returned (.int .i64 (splitL high od d1 L (x : Int)).2) ∧ NodeAt w' d n mb tb (splitL high od d1 L (x : Int)).1 T ∧ Only (ownF mb) w w'
set_option maxRecDepth 100000 in
set_option maxHeartbeats 2000000 in
theorem cut_any (N : NodeAt w d n mb tb L T) {x q od : Nat} (hq : q ≤ 10) (ho : od ≤ q) (ha : x % 2 ^ q = 0) (hx : x + 2 ^ q ≤ 128) (high : Bool) :
    Calls Try.prog 56 #[.pointer (some ⟨d, 0, none⟩), .agg #[.int .i64 x, .int .i64 q], .int .i64 od, .bool high] w (Cut6 w d n mb tb L T high od (q - od) x) := by
  have HN0 := Lib.hid (N.later ((Below.refl _ w).alloc (Nat.le_refl _) (.cells #[.int .i64 x, .int .i64 q] 77)))
  have HO0 := Lib.hid (Only.alloc (ownF mb) w (.cells #[.int .i64 x, .int .i64 q] 77))
  go_enter Try.func56, Try.ntmps56
  go_wp2_with (fail)
  generalize w.alloc (.cells #[.int .i64 x, .int .i64 q] 77) = w1 at *
  go_loopw [9, 10] (fun h i wr => ∃ (r y : Nat) (z : Int) (M : List (Int × Int)), h = .int .i64 y ∧ i = .int .i64 z ∧ z = (r : Int) - 1 ∧ od ≤ r ∧ r ≤ q ∧ Hid (y % 2 ^ r = 0 ∧ y + 2 ^ r ≤ 128) ∧ Hid (splitL high od (r - od) M (y : Int) = splitL high od (q - od) L (x : Int)) ∧ NodeAt wr d n mb tb M T ∧ Only (ownF mb) w wr)
    (fun _ i _ => (intOf i + 1).toNat)
  case atStart => exact ⟨q, x, (q : Int) - 1, L, rfl, by go_num, rfl, ho, Nat.le_refl _, ⟨ha, hx⟩, rfl, HN0.out, HO0.out⟩
  case round =>
    clear HN0 HO0
    obtain ⟨r, y, z, M, rfl, rfl, hz, hr, hrq, HA, HE, hN, hO⟩ := hrel
    have HN := Lib.hid hN
    have HO := Lib.hid hO
    clear hN hO
    by_cases hlt : od < r
    · obtain ⟨s, rfl⟩ : ∃ s, r = s + 1 := ⟨r - 1, by omega⟩
      obtain rfl : z = (s : Int) := by omega
      clear hz
      obtain ⟨u1, u2⟩ := up_al HA.out.1
      have hpow : 2 ^ (s + 1) = 2 ^ s + 2 ^ s := by rw [Nat.pow_succ]; omega
      obtain ⟨p, hp⟩ : ∃ p, 2 ^ s = p := ⟨_, rfl⟩
      have hy2 := HA.out.2
      have hpp := Nat.one_le_two_pow (n := s)
      rw [hpow, hp] at hy2
      rw [hp] at u1 hpp
      obtain ⟨b1, b2, _⟩ := half_up HA.out.1
      rw [hp] at b2
      have hsub : s + 1 - od = (s - od) + 1 := by omega
      have hds : od + (s - od) = s := by omega
      have hzz : ((od + (s - od) : Nat) : Int) = (s : Int) := by rw [hds]
      have HU := Lib.hid u1
      have hle : (od : Int) ≤ (s : Int) := by omega
      cases high with
      | true =>
        have HE2 := Lib.hid (show splitL true od (s - od) (putL M ((y : Int), (s : Int))) ((y + p : Nat) : Int) = splitL true od (q - od) L (x : Int) by
          rw [← HE.out, hsub]
          show _ = (if true = true then splitL true od (s - od) (putL M ((y : Int), ((od + (s - od) : Nat) : Int))) ((y : Int) + ((2 ^ (od + (s - od)) : Nat) : Int)) else _)
          rw [if_pos rfl, hds, hp]
          rfl)
        have HA2 := Lib.hid (show (y + p) % 2 ^ s = 0 ∧ y + p + 2 ^ s ≤ 128 from by rw [hp]; exact ⟨b2, by omega⟩)
        clear hp u1 u2 b1 b2 hpow hsub hds hzz HE HA
        go_wp2_with (fail)
        refine (buddy_of (x := y) (o := s) (by omega) (by omega) rfl HU.out _).mono ?_
        rintro e w' ⟨rfl, rfl⟩
        go_wp2_with (fail)
        refine (put6_any HN.out s (by omega) y (by omega)).mono ?_
        rintro e w3 ⟨rfl, hN3, ho3⟩
        have HN3 := Lib.hid hN3
        have HO3 := Lib.hid (HO.out.trans (ho3.mono fun k hk => ⟨s, by omega, hk⟩))
        clear hN3 ho3 HN HO
        go_wp2_with (fail)
        go_roundw
        case rel => exact ⟨s, y + p, (s : Int) - 1, _, by go_num, by go_num, rfl, by omega, by omega, HA2, HE2, HN3.out, HO3.out⟩
        case measure => simp [intOf]
      | false =>
        have HE2 := Lib.hid (show splitL false od (s - od) (putL M (((y + p : Nat) : Int), (s : Int))) (y : Int) = splitL false od (q - od) L (x : Int) by
          rw [← HE.out, hsub]
          show _ = (if false = true then _ else splitL false od (s - od) (putL M ((y : Int) + ((2 ^ (od + (s - od)) : Nat) : Int), ((od + (s - od) : Nat) : Int))) (y : Int))
          rw [if_neg (by decide), hds, hp]
          rfl)
        have HA2 := Lib.hid (show y % 2 ^ s = 0 ∧ y + 2 ^ s ≤ 128 from ⟨b1, by rw [hp]; omega⟩)
        clear hp u1 u2 b1 b2 hpow hsub hds hzz HE HA
        go_wp2_with (fail)
        refine (buddy_of (x := y) (o := s) (by omega) (by omega) rfl HU.out _).mono ?_
        rintro e w' ⟨rfl, rfl⟩
        go_wp2_with (fail)
        refine (put6_any HN.out s (by omega) ((y + p : Nat) : Int) (by omega)).mono ?_
        rintro e w3 ⟨rfl, hN3, ho3⟩
        have HN3 := Lib.hid hN3
        have HO3 := Lib.hid (HO.out.trans (ho3.mono fun k hk => ⟨s, by omega, hk⟩))
        clear hN3 ho3 HN HO
        go_wp2_with (fail)
        go_roundw
        case rel => exact ⟨s, y, (s : Int) - 1, _, by go_num, by go_num, rfl, by omega, by omega, HA2, HE2, HN3.out, HO3.out⟩
        case measure => simp [intOf]
    · obtain rfl : r = od := by omega
      have HF := Lib.hid (show Cut6 w d n mb tb L T high r (q - r) x (.returned (.int .i64 y)) wr from by
        have e := HE.out
        rw [Nat.sub_self] at e
        unfold Cut6
        rw [← e]
        exact ⟨rfl, HN.out, HO.out⟩)
      have hlt2 : ¬ ((r : Int) ≤ z) := by omega
      clear HE HN HO HA
      go_wp2_with (fail)
      go_ret
      exact HF.out
def Join6 (w : World) (d n : Nat) (mb : Nat → Nat) (tb : Nat) (L T : List (Int × Int)) (x o : Nat) (e : Ending) (w' : World) : Prop :=
  e = .returned (.tuple #[]) ∧ NodeAt w' d n mb tb (giveL (10 - o) L (x : Int) o) T ∧ Only (ownF mb) w w'
set_option maxRecDepth 100000 in
set_option maxHeartbeats 2000000 in
theorem join_any (N : NodeAt w d n mb tb L T) {x o : Nat} (ho : o ≤ 10) (hx : x < 128) :
    Calls Try.prog 61 #[.pointer (some ⟨d, 0, none⟩), .int .i64 x, .int .i64 o] w (Join6 w d n mb tb L T x o) := by
  have HN0 := Lib.hid N
  go_enter Try.func61, Try.ntmps61
  go_wp2_with (fail)
  go_loopw [1, 2] (fun h i wr => ∃ (s y : Nat) (M : List (Int × Int)), h = .int .i64 y ∧ i = .int .i64 s ∧ s ≤ 10 ∧ y < 128 ∧ Hid (giveL (10 - s) M (y : Int) s = giveL (10 - o) L (x : Int) o) ∧ NodeAt wr d n mb tb M T ∧ Only (ownF mb) w wr)
    (fun _ i _ => 10 - (intOf i).toNat)
  case atStart => exact ⟨o, x, L, rfl, rfl, ho, hx, rfl, HN0.out, Only.refl _ _⟩
  case round =>
    clear HN0
    obtain ⟨s, y, M, rfl, rfl, hs, hy, HE, hN, hO⟩ := hrel
    have HN := Lib.hid hN
    have HO := Lib.hid hO
    clear hN hO
    by_cases hlt : s < 10
    · obtain ⟨z, hz⟩ : ∃ z, bud s y = z := ⟨_, rfl⟩
      have hz2 : z < 2000 := by
        have h1 := (two_pow_small (k := s) (by omega)).2
        rw [← hz]
        unfold bud
        generalize 2 ^ s = p at *
        split <;> omega
      have HZ := Lib.hid hz
      obtain ⟨g1, g2⟩ := budA_nat s y
      have hsub : 10 - s = (10 - (s + 1)) + 1 := by omega
      have hg : giveL (10 - s) M (y : Int) s = if M.contains ((z : Int), (s : Int)) = true then giveL (10 - (s + 1)) (dropL M ((z : Int), (s : Int))) ((if z < y then z else y : Nat) : Int) (s + 1) else putL M ((y : Int), (s : Int)) := by
        rw [hsub]
        show (if M.contains (budA (y : Int) s, (s : Int)) = true then giveL (10 - (s + 1)) (dropL M (budA (y : Int) s, (s : Int))) (lowA (y : Int) s) (s + 1) else putL M ((y : Int), (s : Int))) = _
        rw [g1, g2, hz]
      have HG := Lib.hid (hg.symm.trans HE.out)
      clear hg g1 g2 hz hsub HE
      by_cases hc : ((z : Int), (s : Int)) ∈ M
      · have hb := (HN.out.bnd _ hc).2
        have HH := Lib.hid (show (frL M s (z : Int)).isSome = true from frL_some.2 hc)
        have HG2 := Lib.hid (show giveL (10 - (s + 1)) (dropL M ((z : Int), (s : Int))) ((if z < y then z else y : Nat) : Int) (s + 1) = giveL (10 - o) L (x : Int) o by
          rw [← HG.out, if_pos (List.contains_iff_mem.2 hc)])
        clear hc HG
        go_wp2_with (fail)
        refine (buddy_of (x := y) (o := s) hy (by omega) rfl HZ.out _).mono ?_
        rintro e w' ⟨rfl, rfl⟩
        go_wp2_with (fail)
        refine (has_any HN.out s (by omega) z (by omega)).mono ?_
        rintro e w2 ⟨rfl, hb2⟩
        rw [HH.out]
        have HN2 := Lib.hid (HN.out.later hb2)
        have HO2 := Lib.hid (HO.out.trans (Only.of_below hb2))
        clear hb2 HN HO
        go_wp2_with (fail)
        refine (buddy_of (x := y) (o := s) hy (by omega) rfl HZ.out _).mono ?_
        rintro e w' ⟨rfl, rfl⟩
        have hT := HN2.out.free s (by omega)
        have hcf := HN2.out.cf (o := s) (by omega)
        have hw := int_wf (x := (z : Int)) (by omega)
        go_wp2_with (first | (at_delete; (refine wpList_drop_fmap rfl _ _ _ _ rfl 106 Try.underlying3 Try.underlying87 EU (mb s) (frL M s) rfl hT z rfl hw ?_; intro w3 h1 h2)) | fail)
        have HN3 := Lib.hid (HN2.out.setF (o := s) (L' := dropL M ((z : Int), (s : Int))) (by omega) h1 h2 (by rw [frL_drop, if_pos rfl]) (fun p hp => by rw [frL_drop, if_neg hp]) (fun p hp => HN2.out.bnd p (mem_dropL.1 hp).1))
        have HO3 := Lib.hid (HO2.out.trans (h2.mono fun k hk => ⟨s, by omega, hk⟩))
        clear hT hcf hw h1 h2 HN2 HO2
        refine ⟨⟨s + 1, if z < y then z else y, _, by first | (split <;> rfl) | (split <;> (congr 1; omega)), by go_num, by omega, by split <;> omega, HG2, HN3.out, HO3.out⟩, ?_⟩
        simp [intOf]; omega
      · have HH := Lib.hid (show (frL M s (z : Int)).isSome = false by
          cases h : (frL M s (z : Int)).isSome with
          | false => rfl
          | true => exact absurd (frL_some.1 h) hc)
        have HG2 := Lib.hid (show putL M ((y : Int), (s : Int)) = giveL (10 - o) L (x : Int) o by
          rw [← HG.out, if_neg (fun h => hc (List.contains_iff_mem.1 h))])
        clear hc HG
        go_wp2_with (fail)
        refine (buddy_of (x := y) (o := s) hy (by omega) rfl HZ.out _).mono ?_
        rintro e w' ⟨rfl, rfl⟩
        go_wp2_with (fail)
        refine (has_any HN.out s (by omega) z (by omega)).mono ?_
        rintro e w2 ⟨rfl, hb2⟩
        rw [HH.out]
        have HN2 := Lib.hid (HN.out.later hb2)
        have HO2 := Lib.hid (HO.out.trans (Only.of_below hb2))
        clear hb2 HN HO
        go_wp2_with (fail)
        refine (put6_any HN2.out s (by omega) y (by omega)).mono ?_
        rintro e w3 ⟨rfl, hN3, ho3⟩
        have HF := Lib.hid (show Join6 w d n mb tb L T x o (.returned (.tuple #[])) w3 from ⟨rfl, by rw [← HG2.out]; exact hN3, HO2.out.trans (ho3.mono fun k hk => ⟨s, by omega, hk⟩)⟩)
        clear hN3 ho3 HN2 HO2 HG2
        go_wp2_with (fail)
        go_end0
        exact HF.out
    · obtain rfl : s = 10 := by omega
      rw [show ((10 : Nat) : Int) = 10 from rfl]
      have hHE := HE.out
      rw [Nat.sub_self] at hHE
      have HG2 := Lib.hid (show putL M ((y : Int), ((10 : Nat) : Int)) = giveL (10 - o) L (x : Int) o from hHE)
      clear HE hHE
      go_wp2_with (fail)
      refine (put6_any HN.out 10 (by omega) y (by omega)).mono ?_
      rintro e w3 ⟨rfl, hN3, ho3⟩
      have HF := Lib.hid (show Join6 w d n mb tb L T x o (.returned (.tuple #[])) w3 from ⟨rfl, by rw [← HG2.out]; exact hN3, HO.out.trans (ho3.mono fun k hk => ⟨10, by omega, hk⟩)⟩)
      clear hN3 ho3 HN HO HG2
      go_wp2_with (fail)
      go_end0
      exact HF.out
end
end
/-! slices.Sorted(maps.Keys(m)) over a map from ints that holds what f says: its keys, rising; maps.Clone. -/
section
open Go.RowKit Go Go.Maps Go.Sort Go.Shelf

theorem sortsF (m : Nat) : AnyZI.SortsIn Try.prog Try.sortedF_ren Fence.wide m :=
  ⟨fun blk off cap ss W hH hblk hsz => callsIn_wide.2 (AnyM.slices_Sort_int Try.sortF blk off cap ss W hH hblk hsz),
   fun p cap W => callsIn_wide.2 (AnyM.slices_Sort_int_none Try.sortF p cap W)⟩
/-- maps.Keys. -/
theorem keys_any (mb : Option Nat) (w : World) : Calls Try.prog 68 #[.map mb] w fun e w' =>
    e = .returned (.func (.func 77) #[] #[.pointer (some ⟨w.heap.size, 0, none⟩)]) ∧ w' = w.alloc (.cells #[.map mb] 87) :=
  (callsIn_wide (n := 5)).1 (AnyZI.keys_in Try.keysF Fence.wide 5 trivial rfl mb w)
section
variable {w : World} {b : Nat} {f : Int → Option Unit}
/-- slices.Sorted of it. -/
theorem sorted_any (hF : FMap Try.prog 3 elemUnit w b f) (B : Nat) (hB : w.cell? ⟨B, 0, none⟩ = some (.map (some b))) {m : Nat} (hm : ∀ x, (f x).isSome = true → 0 ≤ x ∧ x < m) (hmm : m ≤ 4096) :
    Calls Try.prog 67 #[.func (.func 77) #[] #[.pointer (some ⟨B, 0, none⟩)]] w fun e w' => ∃ (v : Value) (zs : List Int), e = .returned v ∧
      (∀ x, x ∈ zs ↔ (f x).isSome = true) ∧ zs.Pairwise (fun x y => x < y) ∧ w'.ownsRow w.heap.size 3 1 v zs.length (zs.map encZ) ∧ Below w.heap.size w w' := by
  obtain ⟨l, hln, hlm, hll⟩ := hF.count hm
  obtain ⟨D, l2, ho, h1, h2, hn2, hl2, hsz⟩ := hF
  have hlen : l2.length ≤ 4096 := Nat.le_trans (nodup_short m l2 hn2 fun x hx => hm x (by have := (hl2 x).1 hx; simpa using this)) hmm
  have hseq : SeqGives Fence.wide 2 Try.prog 77 #[.pointer (some ⟨B, 0, none⟩)] encZ (fun ss => ss.Perm (intKeys D)) (Maps.size D) w :=
    AnyZI.keys_gives (ρ := Try.keysF_ren) { Try.keysF with } Fence.wide _ trivial rfl (by omega) B b l2.length D _ (World.block_lt_of_cell? _ _ hB) hB ho
  have cS := AnyZI.sorted_in Try.sortedF Fence.wide 5 trivial trivial trivial trivial rfl (by omega) (sortsF _) (enters_of Try.func76 (by kernel_rfl) rfl) 77 #[.pointer (some ⟨B, 0, none⟩)] trivial (enters_of Try.func77 (by kernel_rfl) rfl) _ _ (by unfold maxLen; omega) (by omega) _ hseq
  refine ((callsIn_wide (n := 5)).1 cS).mono ?_
  rintro e w' ⟨v, ss, rfl, hS, hrow, _, hb⟩
  have hperm : (ss.mergeSort (fun x y => decide (x ≤ y))).Perm (intKeys D) := (List.mergeSort_perm _ _).trans hS
  have hD : l2.Perm (intKeys D) := by
    obtain ⟨es, rfl, hpw, _⟩ := ho.entries (Maps.int_keyed Try.underlying3)
    obtain ⟨es', hD', hko⟩ := ho.keysOf
    obtain rfl : es = es' := by simpa using hD'
    exact perm_intKeys hpw (fun p hp => by
      obtain ⟨v, hv⟩ := hko p hp
      obtain ⟨x, _, hx, _⟩ := Maps.keyOf_int_inv Try.underlying3 hv
      exact ⟨x, hx⟩) hn2 (fun x => by rw [hl2 x, h1 x])
  refine ⟨v, _, rfl, fun x => ?_, ?_, by rw [List.length_mergeSort]; exact hrow, hb⟩
  · rw [hperm.mem_iff, ← hD.mem_iff, hl2 x]
    simp
  · have hnd : (ss.mergeSort (fun x y => decide (x ≤ y))).Nodup := (hperm.trans hD.symm).nodup_iff.2 hn2
    have hp := List.pairwise_mergeSort (le := fun x y : Int => decide (x ≤ y)) (fun a b c h1 h2 => by simp at *; omega) (fun a b => by simp; omega) ss
    refine (hp.and hnd).imp (fun {x y} h => ?_)
    obtain ⟨h1, h2⟩ := h
    simp at h1
    omega
end
/-- maps.Clone. -/
theorem cloneF_any {w : World} {b : Nat} {f : Int → Option Unit} (hF : FMap Try.prog 3 elemUnit w b f) : Calls Try.prog 63 #[.map (some b)] w fun e w' =>
    e = .returned (.map (some w.heap.size)) ∧ FMap Try.prog 3 elemUnit w' w.heap.size f ∧ Below w.heap.size w w' := by
  obtain ⟨D, l, ho, q⟩ := hF
  refine (AnyW.maps_Clone_owns Try.cloneF _ _ b l.length D w ho).mono ?_
  rintro e w' ⟨rfl, h1, _, hb⟩
  exact ⟨rfl, ⟨D, l, h1, q⟩, hb⟩
theorem cloneT_any {w : World} {b : Nat} {f : Int → Option Int} (hF : FMap Try.prog 3 (elemInt (P := Try.prog) (e := 3) Try.underlying3) w b f) : Calls Try.prog 62 #[.map (some b)] w fun e w' =>
    e = .returned (.map (some w.heap.size)) ∧ FMap Try.prog 3 (elemInt (P := Try.prog) (e := 3) Try.underlying3) w' w.heap.size f ∧ Below w.heap.size w w' := by
  obtain ⟨D, l, ho, q⟩ := hF
  refine (AnyW.maps_Clone_owns Try.cloneT _ _ b l.length D w ho).mono ?_
  rintro e w' ⟨rfl, h1, _, hb⟩
  exact ⟨rfl, ⟨D, l, h1, q⟩, hb⟩
end
/-! buddy: the free block to take one from. -/
section
open Go.RowKit Go Go.Maps Go.Sort Go.Shelf

/-- The block that is cut. -/
def Pick (L : List (Int × Int)) (od : Int) (high : Bool) (x : Int × Int) : Prop :=
  x ∈ L ∧ od ≤ x.2 ∧ (∀ p ∈ L, od ≤ p.2 → x.2 ≤ p.2) ∧ ∀ p ∈ L, p.2 = x.2 → if high = true then p.1 ≤ x.1 else x.1 ≤ p.1
theorem pick_none {L : List (Int × Int)} {od : Int} {high : Bool} (h : ∀ p ∈ L, ¬ od ≤ p.2) : pickK L od high L.length = -1 := by
  rcases pick_spec L od high L.length with h1 | ⟨j, _, h2, h3, _⟩
  · exact h1.1
  · rw [getD_at h2] at h3
    exact absurd h3 (h _ (List.getElem_mem h2))
theorem pick_is {L : List (Int × Int)} {od : Int} {high : Bool} {x : Int × Int} (hR : Rising L) (h : Pick L od high x) : ¬ pickK L od high L.length < 0 ∧ L.getD (pickK L od high L.length).toNat (0, 0) = x := by
  obtain ⟨hx, h1, h2, h3⟩ := h
  obtain ⟨i, hi, hix⟩ := List.mem_iff_getElem.1 hx
  rcases pick_spec L od high L.length with ⟨_, h4⟩ | ⟨j, h4, h5, h6, h7⟩
  · have := h4 i hi
    rw [getD_at hi, hix] at this
    omega
  · rw [h4, Int.toNat_natCast, getD_at h5]
    rw [getD_at h5] at h6
    refine ⟨by omega, ?_⟩
    obtain ⟨h8, h9⟩ := h7 i hi (by rw [getD_at hi, hix]; exact h1)
    rw [getD_at hi, hix, getD_at h5] at h8 h9
    have hj := List.getElem_mem h5
    have e2 : L[j].2 = x.2 := by have := h2 _ hj h6; omega
    have h10 := h9 e2.symm
    have h11 := h3 _ hj e2
    have hij : i = j := by
      have e3 := hR.index hi h5
      have e4 := hR.index h5 hi
      rw [hix] at e3 e4
      cases high with
      | true =>
        rw [if_pos rfl] at h10 h11
        have := e4.2 h11
        omega
      | false =>
        rw [if_neg (by decide)] at h10 h11
        have := e3.2 h11
        omega
    subst hij
    exact hix

theorem len_no {l : List Int} {x : Int} (h : x ∈ l) : ((l.length : Int) == 0) = false := by
  have h1 := List.length_pos_of_mem h
  have h2 : (l.length : Int) ≠ 0 := by omega
  simpa using h2
theorem len_all {l : List Int} (h : ∀ x, x ∉ l) : ((l.length : Int) == 0) = true := by
  obtain rfl := List.eq_nil_iff_forall_not_mem.2 h
  rfl
theorem keys_at {w : World} {B m : Nat} {v : Value} {zs : List Int} (h : w.ownsRow B 3 1 v zs.length (zs.map encZ)) (hm : zs.length = m + 1) : ∃ g cap, v = .slice (some ⟨g, 0, none⟩) (m + 1) cap ∧ B ≤ g ∧ ∀ i, ∀ hi : i < zs.length, w.cell? ⟨g, i, none⟩ = some (.int .i64 zs[i]) := by
  obtain ⟨a, cap, hv, hp⟩ := owns_slice h
  obtain ⟨g, rfl, hg, _, A, t, hA, hx⟩ := hp (by omega)
  refine ⟨g, cap, by rw [hv, hm], hg, fun i hi => ?_⟩
  rw [cell_of_row _ _ _ _ _ _ hA, hx i (by omega)]
  simp [hi, encZ]
theorem set_block {w : World} {B : Nat} {x0 y0 : Int} (R : RowAt w B 2 (blkV x0 y0)) (x y : Int) : RowAt ((w.setCell ⟨B, 0, none⟩ (.int .i64 x)).setCell ⟨B, 1, none⟩ (.int .i64 y)) B 2 (blkV x y) :=
  ((R.setCell 0 _).setCell 1 _).ext fun i hi => by
    unfold updV blkV
    rcases (show i = 0 ∨ i = 1 by omega) with rfl | rfl <;> simp
/-- Two results, the first a block that lies in a cell. -/
theorem ret_block {fn : Func} {p u : Tmp} (h : fn.results = #[.cell p 77, .tmp u]) {a : Act} {w : World} {Q : Ending → World → Prop} {B : Nat} {x y : Int} {b : Value} (hp : a.tmps.getD p undef = .pointer (some ⟨B, 0, none⟩)) (hu : a.tmps.getD u undef = b) (hd : a.defers = [])
    (R : RowAt w B 2 (blkV x y)) (hR : Q (.returned (.tuple #[.agg #[.int .i64 x, .int .i64 y], b])) w) : bodyPost Try.prog fn Q .ret a w := by
  refine bodyPost_ret_by ?_ hd hR
  rw [results_cell_tmp h, hp, hu]
  have hl := load_block (R.cell 0 (by decide)) (R.cell 1 (by decide))
  simp only [asAddr, Sem.run_pure, Result.andThen_ok, hl]
section
variable {w : World} {d n : Nat} {mb : Nat → Nat} {tb : Nat} {L T : List (Int × Int)}
def Least6 (w : World) (L : List (Int × Int)) (od : Nat) (high : Bool) (e : Ending) (w' : World) : Prop :=
  Below w.heap.size w w' ∧ ((∃ x q : Nat, Pick L od high ((x : Int), (q : Int)) ∧ e = .returned (.tuple #[.agg #[.int .i64 x, .int .i64 q], .bool true])) ∨ ((∀ p ∈ L, ¬ (od : Int) ≤ p.2) ∧ e = .returned (.tuple #[.agg #[.int .i64 0, .int .i64 0], .bool false])))
set_option maxRecDepth 100000 in
set_option maxHeartbeats 2000000 in
theorem least_any (N : NodeAt w d n mb tb L T) (hL : ∀ p ∈ L, ∃ a o : Nat, p = ((a : Int), (o : Int)) ∧ o ≤ 10) {od : Nat} (ho : od ≤ 10) (high : Bool) :
    Calls Try.prog 55 #[.pointer (some ⟨d, 0, none⟩), .int .i64 od, .bool high] w (Least6 w L od high) := by
  have HN0 := Lib.hid (N.later ((Below.refl _ w).alloc (Nat.le_refl _) (.cells #[.int .i64 0, .int .i64 0] 77)))
  have HB0 := Lib.hid ((Below.refl w.heap.size w).alloc (Nat.le_refl _) (.cells #[.int .i64 0, .int .i64 0] 77))
  have HX0 := Lib.hid (block_row w 0 0)
  go_enter Try.func55, Try.ntmps55
  go_wp2_with (fail)
  generalize hBB : w.heap.size = B at *
  generalize w.alloc (.cells #[.int .i64 0, .int .i64 0] 77) = w1 at *
  go_loopw [1] (fun i wr => ∃ s : Nat, i = .int .i64 s ∧ od ≤ s ∧ s ≤ 11 ∧ Hid (∀ p ∈ L, (od : Int) ≤ p.2 → (s : Int) ≤ p.2) ∧ NodeAt wr d n mb tb L T ∧ RowAt wr B 2 (blkV 0 0) ∧ Below B w wr) (fun i _ => 11 - (intOf i).toNat)
  case atStart => exact ⟨od, rfl, Nat.le_refl _, by omega, fun p _ h => h, HN0.out, HX0.out, HB0.out⟩
  case round =>
    clear HN0 HB0 HX0
    obtain ⟨s, rfl, hs, hs2, HM, hN, hX, hB⟩ := hrel
    have HN := Lib.hid hN
    have HX := Lib.hid hX
    have HB := Lib.hid hB
    clear hN hX hB
    by_cases hlt : s ≤ 10
    · have hcf := HN.out.cf (o := s) (by omega)
      have hF := HN.out.free s (by omega)
      have hlt2 : (s : Int) ≤ 10 := by omega
      by_cases hc : ∃ x, (x, (s : Int)) ∈ L
      · obtain ⟨x0, hx0⟩ := hc
        go_wp2_with (first | (at_len; (refine wpList_len_fmap rfl _ _ rfl 3 106 Try.underlying87 EU (mb s) (frL L s) rfl hF ?_; intro l hl1 hl2; have hl3 := len_no ((hl2 x0).2 (frL_some.2 hx0)))) | fail)
        refine (keys_any _ _).mono ?_
        rintro e w2 ⟨rfl, rfl⟩
        clear hcf hF hl1 hl2 hl3
        have ha : Below wr.heap.size wr (wr.alloc (.cells #[.map (some (mb s))] 87)) := (Below.refl _ wr).alloc (Nat.le_refl _) _
        have HC := Lib.hid (show (wr.alloc (.cells #[.map (some (mb s))] 87)).cell? ⟨wr.heap.size, 0, none⟩ = some (.map (some (mb s))) by simp [go_sem])
        have HF := Lib.hid ((HN.out.free s (by omega)).later ha)
        have HB2 := Lib.hid (HB.out.trans (ha.mono (by have := HB.out.size; omega)))
        have HX2 := Lib.hid (HX.out.later ha)
        clear ha HB HX
        go_wp2_with (fail)
        refine (sorted_any HF.out wr.heap.size HC.out (m := 128) (fun x hx => HN.out.bnd _ (frL_some.1 hx)) (by decide)).mono ?_
        rintro e w3 ⟨v, zs, rfl, hz1, hz2, hz3, hb3⟩
        obtain ⟨m, hm⟩ : ∃ m, zs.length = m + 1 := ⟨zs.length - 1, by
          have := List.length_pos_of_mem ((hz1 x0).2 (frL_some.2 hx0))
          omega⟩
        have hmb : m < 128 := by
          have := nodup_short 128 zs (hz2.imp fun {a b} h => by omega) (fun x hx => HN.out.bnd _ (frL_some.1 ((hz1 x).1 hx)))
          omega
        obtain ⟨g, cap, rfl, hg, hcz⟩ := keys_at hz3 hm
        have HX3 := Lib.hid (HX2.out.later hb3)
        have HB3 := Lib.hid (HB2.out.trans (hb3.mono (by have := HB2.out.size; omega)))
        clear hz3 hb3 HX2 HB2 HF HC HN
        have b0 := HX3.out.cell 0 (by decide)
        have b1 := HX3.out.cell 1 (by decide)
        have f0 := HX3.out.frozen 0
        have f1 := HX3.out.frozen 1
        have e0 : blkV 0 0 0 = .int .i64 0 := rfl
        have e1 : blkV 0 0 1 = .int .i64 0 := rfl
        rw [e0] at b0
        rw [e1] at b1
        clear e0 e1
        cases high with
        | true =>
          have cm := hcz m (by omega)
          have HP := Lib.hid (show (zs[m], (s : Int)) ∈ L ∧ ∀ p ∈ L, p.2 = (s : Int) → p.1 ≤ zs[m] from ⟨frL_some.1 ((hz1 _).1 (List.getElem_mem _)), fun p hp e => by
            obtain ⟨i, hi, hix⟩ := List.mem_iff_getElem.1 ((hz1 p.1).2 (frL_some.2 (by rw [← e]; exact hp)))
            rw [← hix]
            by_cases h : i = m
            · subst h; exact Int.le_refl _
            · exact Int.le_of_lt (List.pairwise_iff_getElem.1 hz2 i m hi (by omega) (by omega))⟩)
          generalize zs[m] = y at *
          clear hcz hz1 hz2 hx0
          have HF := Lib.hid (show Least6 w L od true (.returned (.tuple #[.agg #[.int .i64 y, .int .i64 s], .bool true])) ((w3.setCell ⟨B, 0, none⟩ (.int .i64 y)).setCell ⟨B, 1, none⟩ (.int .i64 s)) from by
            have h0 : 0 ≤ y := (N.bnd _ HP.out.1).1
            obtain ⟨k, rfl⟩ : ∃ k : Nat, y = k := ⟨y.toNat, by omega⟩
            refine ⟨by rw [hBB]; exact (HB3.out.setCell (p := ⟨B, 0, none⟩) (Nat.le_refl _) _).setCell (p := ⟨B, 1, none⟩) (Nat.le_refl _) _, .inl ⟨k, s, ⟨HP.out.1, by show (od : Int) ≤ (s : Int); omega, HM.out, fun p hp e => by rw [if_pos rfl]; exact HP.out.2 p hp e⟩, rfl⟩⟩)
          have HX4 := Lib.hid (set_block HX3.out y s)
          clear HP HM HB3 HX3
          go_wp2_with (fail)
          exact ret_block (b := .bool true) rfl rfl rfl rfl HX4.out HF.out
        | false =>
          have cm := hcz 0 (by omega)
          have HP := Lib.hid (show (zs[0], (s : Int)) ∈ L ∧ ∀ p ∈ L, p.2 = (s : Int) → zs[0] ≤ p.1 from ⟨frL_some.1 ((hz1 _).1 (List.getElem_mem _)), fun p hp e => by
            obtain ⟨i, hi, hix⟩ := List.mem_iff_getElem.1 ((hz1 p.1).2 (frL_some.2 (by rw [← e]; exact hp)))
            rw [← hix]
            by_cases h : i = 0
            · subst h; exact Int.le_refl _
            · exact Int.le_of_lt (List.pairwise_iff_getElem.1 hz2 0 i (by omega) hi (by omega))⟩)
          generalize zs[0] = y at *
          clear hcz hz1 hz2 hx0
          have HF := Lib.hid (show Least6 w L od false (.returned (.tuple #[.agg #[.int .i64 y, .int .i64 s], .bool true])) ((w3.setCell ⟨B, 0, none⟩ (.int .i64 y)).setCell ⟨B, 1, none⟩ (.int .i64 s)) from by
            have h0 : 0 ≤ y := (N.bnd _ HP.out.1).1
            obtain ⟨k, rfl⟩ : ∃ k : Nat, y = k := ⟨y.toNat, by omega⟩
            refine ⟨by rw [hBB]; exact (HB3.out.setCell (p := ⟨B, 0, none⟩) (Nat.le_refl _) _).setCell (p := ⟨B, 1, none⟩) (Nat.le_refl _) _, .inl ⟨k, s, ⟨HP.out.1, by show (od : Int) ≤ (s : Int); omega, HM.out, fun p hp e => by rw [if_neg (by decide)]; exact HP.out.2 p hp e⟩, rfl⟩⟩)
          have HX4 := Lib.hid (set_block HX3.out y s)
          clear HP HM HB3 HX3
          go_wp2_with (fail)
          exact ret_block (b := .bool true) rfl rfl rfl rfl HX4.out HF.out
      · have HM2 := Lib.hid (show ∀ p ∈ L, (od : Int) ≤ p.2 → ((s + 1 : Nat) : Int) ≤ p.2 from fun p hp h => by
          have h1 := HM.out p hp h
          have h2 : p.2 ≠ (s : Int) := fun e => hc ⟨p.1, by rw [← e]; exact hp⟩
          omega)
        have HC := Lib.hid hc
        clear HM hc
        go_wp2_with (first | (at_len; (refine wpList_len_fmap rfl _ _ rfl 3 106 Try.underlying87 EU (mb s) (frL L s) rfl hF ?_; intro l hl1 hl2; have hl3 := len_all (fun x hx => HC.out ⟨x, frL_some.1 ((hl2 x).1 hx)⟩))) | fail)
        go_roundw
        case rel => exact ⟨s + 1, by go_num, by omega, by omega, HM2, HN.out, HX.out, HB.out⟩
        case measure => simp [intOf]; omega
    · obtain rfl : s = 11 := by omega
      rw [show ((11 : Nat) : Int) = 11 from rfl]
      have b0 := HX.out.cell 0 (by decide)
      have b1 := HX.out.cell 1 (by decide)
      have f0 := HX.out.frozen 0
      have f1 := HX.out.frozen 1
      have e0 : blkV 0 0 0 = .int .i64 0 := rfl
      have e1 : blkV 0 0 1 = .int .i64 0 := rfl
      rw [e0] at b0
      rw [e1] at b1
      clear e0 e1
      have HF := Lib.hid (show Least6 w L od high (.returned (.tuple #[.agg #[.int .i64 0, .int .i64 0], .bool false])) ((wr.setCell ⟨B, 0, none⟩ (.int .i64 0)).setCell ⟨B, 1, none⟩ (.int .i64 0)) from
        ⟨by rw [hBB]; exact (HB.out.setCell (p := ⟨B, 0, none⟩) (Nat.le_refl _) _).setCell (p := ⟨B, 1, none⟩) (Nat.le_refl _) _, .inr ⟨fun p hp h => by
          have h1 := HM.out p hp h
          obtain ⟨a, o, rfl, h2⟩ := hL p hp
          have h3 : ((11 : Nat) : Int) ≤ (o : Int) := h1
          omega, rfl⟩⟩)
      have HX4 := Lib.hid (set_block HX.out 0 0)
      clear HX HB HM HN
      go_wp2_with (fail)
      exact ret_block (b := .bool false) rfl rfl rfl rfl HX4.out HF.out
end
end
/-! buddy: Take. -/
section
open Go.RowKit Go Go.Maps

section
variable {P : Program} {ops : Array Oper} {Q : Exit → Act → World → Prop} {S : World → Prop} {K : Act → World → Prop} {i : Nat} {r : List (Nat × Bool)} {a : Act}
/-- 'delete(m, x)' in a region that draws its order. -/
theorem lexH_drop {w : World} {o : Oper} (hi : ops[i]? = some o) (hw : Region.wanted o (yielded ops a.tmps) = true) (m y : Operand) (t k : TypeId) (ho : o.op = Op.call { callee := Callee.builtin Builtin.delete, args := #[m, y], argTypes := #[t, k] })
    (e : TypeId) (hk : P.underlying k = some (.int .i64)) (ht : P.underlying t = some (.map k e)) {R : Value → Option (MDat × List MemPlace)} {α : Type} (E : Elem R α) (b : Nat) (f : Int → Option α)
    (hm : a.eval m = .map (some b)) (hown : FMap P k E w b f) (x : Int) (hy : a.eval y = .int .i64 x) (hx : (Lit.int .i64 x).wf = true)
    (h : ∀ w', FMap P k E w' b (fcut f x) → Only (fun j => j = b) w w' → S w' ∧ LexH P ops Q S K r (a.put o.dst (.tuple #[])) w') : LexH P ops Q S K ((i, true) :: r) a w := by
  refine lexH_eff hi hw ?_
  obtain ⟨w', hrun, r1, r2⟩ := IMap.drop hk ht hx hown o.type
  rw [cut_map] at r1
  unfold Oper.wp execOp
  simp only [ho, resolve, invoke, builtin, Sem.run_bind, Sem.run_pure, Result.andThen_ok, List.map_toArray, List.map_cons, List.map_nil, hm, hy, hrun]
  exact h w' r1 r2
end

/-- A node as the document has it. -/
structure Inv (n : Nat) (L T : List (Int × Int)) : Prop where
  n1 : 1 ≤ n
  n2 : n ≤ 128
  stk : Stk n (memL L) (memL T)
  ris : Rising L
  nat : NatL L
  natT : NatL T
section
variable {n : Nat} {L T : List (Int × Int)}
theorem Inv.ten (I : Inv n L T) : ∀ p ∈ L, ∃ a o : Nat, p = ((a : Int), (o : Int)) ∧ o ≤ 10 := fun p hp => by
  obtain ⟨a, o, rfl⟩ := I.nat p hp
  exact ⟨a, o, rfl, (I.stk.al o a (.inl hp)).1⟩
theorem tkL_add {T : List (Int × Int)} {y o : Int} (h : tkL T y = none) : tkL (T ++ [(y, o)]) = fput (tkL T) y o := by
  funext z
  unfold fput
  unfold tkL at *
  rw [List.find?_append]
  by_cases e : z = y
  · subst e
    rw [if_pos rfl]
    rw [Option.map_eq_none_iff] at h
    rw [h]
    simp
  · rw [if_neg e]
    have : ([(y, o)] : List (Int × Int)).find? (fun p => p.1 == z) = none := by
      have e2 : ¬ y = z := fun h => e h.symm
      simp [e2]
    rw [this, Option.or_none]
theorem cutA_in (high : Bool) (od d x : Nat) : inB (od + d) x (cutA high od d x) := by
  unfold cutA inB
  have h1 := Nat.one_le_two_pow (n := od)
  have h2 : 2 ^ od ≤ 2 ^ (od + d) := Nat.pow_le_pow_right (by decide) (by omega)
  split <;> omega
theorem tkL_in {T : List (Int × Int)} (h : ∀ p ∈ T, 0 ≤ p.1 ∧ p.1 < 128) : ∀ x, (tkL T x).isSome = true → 0 ≤ x ∧ x < (128 : Nat) := fun x hx => by
  obtain ⟨o, ho⟩ := Option.isSome_iff_exists.1 hx
  exact h _ (tkL_some ho)
theorem ok_int {x : Int} (h : -9223372036854775808 ≤ x ∧ x ≤ 9223372036854775807) : EI.ok x := int_wf h
/-- What Take comes to, where a block is picked. -/
theorem inv_take (I : Inv n L T) {od x q : Nat} {high : Bool} (ho : od ≤ 10) (hp : Pick L (od : Int) high ((x : Int), (q : Int))) :
    ∃ y : Nat, (splitL high od (q - od) (dropL L ((x : Int), (q : Int))) (x : Int)).2 = (y : Int) ∧ takeS L T (od : Int) high = ((y : Int), 0, (splitL high od (q - od) (dropL L ((x : Int), (q : Int))) (x : Int)).1, T ++ [((y : Int), (od : Int))])
      ∧ Inv n (splitL high od (q - od) (dropL L ((x : Int), (q : Int))) (x : Int)).1 (T ++ [((y : Int), (od : Int))]) ∧ y < n ∧ tkL T (y : Int) = none ∧ od ≤ q ∧ q ≤ 10 ∧ x % 2 ^ q = 0 ∧ x + 2 ^ q ≤ n := by
  have hF : memL L q x := hp.1
  obtain ⟨hq, hal, hfit⟩ := I.stk.al q x (.inl hF)
  have hoq : od ≤ q := by have := hp.2.1; omega
  have hd : od + (q - od) = q := by omega
  obtain ⟨p1, p2⟩ := pick_is I.ris hp
  have S2 := I.stk.out (F' := memL (dropL L ((x : Int), (q : Int)))) (T' := fun o a => memL T o a ∨ (o = q ∧ a = x)) hF (fun o a => memL_drop o a) (fun o a => Iff.rfl)
  obtain ⟨e1, S3, R3, N3⟩ := split_stk (high := high) (od := od) (q - od) _ x _ S2 (by rw [hd]; exact .inr ⟨rfl, rfl⟩) (I.ris.dropL _) (I.nat.drop _)
  have hin := cutA_in high od (q - od) x
  generalize cutA high od (q - od) x = y at *
  rw [hd] at hin S3
  have hT : ∀ o a, ((memL T o a ∨ (o = q ∧ a = x)) ∧ ¬ (o = q ∧ a = x)) ∨ (o = od ∧ a = y) ↔ memL (T ++ [((y : Int), (od : Int))]) o a := fun o a => by
    unfold memL
    rw [List.mem_append, List.mem_singleton, Prod.mk.injEq]
    constructor
    · rintro (⟨h | h, h2⟩ | ⟨rfl, rfl⟩)
      · exact .inl h
      · exact absurd h h2
      · exact .inr ⟨rfl, rfl⟩
    · rintro (h | ⟨h1, h2⟩)
      · refine .inl ⟨.inl h, fun e => ?_⟩
        obtain ⟨rfl, rfl⟩ := e
        exact I.stk.dis _ _ hF h
      · exact .inr ⟨by omega, by omega⟩
  rw [set_eq hT] at S3
  refine ⟨y, e1, ?_, ⟨I.n1, I.n2, S3, R3, N3, fun p hp => ?_⟩, ?_, tkL_none.2 fun o h => ?_, hoq, hq, hal, hfit⟩
  · unfold takeS
    rw [if_pos ⟨by omega, by omega⟩, if_neg p1, p2]
    simp only [Int.toNat_natCast]
    rw [e1]
  · rcases List.mem_append.1 hp with h | h
    · exact I.natT p h
    · rw [List.mem_singleton] at h
      exact ⟨y, od, h⟩
  · have := hin.2
    omega
  · obtain ⟨a, o2, h2⟩ := I.natT _ h
    rw [Prod.mk.injEq] at h2
    obtain ⟨h3, rfl⟩ := h2
    obtain rfl : a = y := by omega
    obtain ⟨rfl, rfl⟩ := I.stk.ap q x o2 a a (.inl hF) (.inr h) hin (self_in _ _)
    exact I.stk.dis _ _ hF h
theorem inv_same (I : Inv n L T) {order : Int} {high : Bool} (h : takeS L T order high = (0, 6, L, T) ∨ takeS L T order high = (0, 2, L, T)) : Inv n (takeS L T order high).2.2.1 (takeS L T order high).2.2.2 := by
  rcases h with h | h <;> (rw [h]; exact I)
/-- One of both. -/
theorem pick_or (I : Inv n L T) (od : Nat) (high : Bool) : (∃ x q : Nat, Pick L (od : Int) high ((x : Int), (q : Int))) ∨ ∀ p ∈ L, ¬ (od : Int) ≤ p.2 := by
  rcases pick_spec L (od : Int) high L.length with ⟨_, h⟩ | ⟨j, h1, h2, h3, h4⟩
  · refine .inr fun p hp => ?_
    obtain ⟨i, hi, rfl⟩ := List.mem_iff_getElem.1 hp
    have := h i hi
    rw [getD_at hi] at this
    omega
  · rw [getD_at h2] at h3 h4
    obtain ⟨a, o, e⟩ := I.nat _ (List.getElem_mem h2)
    refine .inl ⟨a, o, ?_⟩
    rw [← e]
    refine ⟨List.getElem_mem h2, h3, fun p hp hle => ?_, fun p hp e2 => ?_⟩
    · obtain ⟨i, hi, rfl⟩ := List.mem_iff_getElem.1 hp
      have := (h4 i hi (by rw [getD_at hi]; exact hle)).1
      rwa [getD_at hi] at this
    · obtain ⟨i, hi, rfl⟩ := List.mem_iff_getElem.1 hp
      have := (h4 i hi (by rw [getD_at hi]; omega)).2
      rw [getD_at hi] at this
      have := this e2
      cases high with
      | true => rw [if_pos rfl] at this ⊢; exact (I.ris.index hi h2).1 this
      | false => rw [if_neg (by decide)] at this ⊢; exact (I.ris.index h2 hi).1 this
/-- Behind Take a node is one. -/
theorem Inv.take (I : Inv n L T) (order : Int) (high : Bool) : Inv n (takeS L T order high).2.2.1 (takeS L T order high).2.2.2 := by
  by_cases ho : 0 ≤ order ∧ order ≤ 10
  · obtain ⟨od, rfl⟩ : ∃ od : Nat, order = od := ⟨order.toNat, by omega⟩
    rcases pick_or I od high with ⟨x, q, hp⟩ | hp
    · obtain ⟨y, _, e, J, _⟩ := inv_take I (by omega) hp
      rw [e]
      exact J
    · refine inv_same I (.inl ?_)
      unfold takeS
      rw [if_pos ho, pick_none hp, if_pos (by decide)]
  · refine inv_same I (.inr ?_)
    unfold takeS
    rw [if_neg ho]
end
section
variable {w : World} {d n : Nat} {mb : Nat → Nat} {tb : Nat} {L T : List (Int × Int)}
def Take6 (w : World) (d n : Nat) (mb : Nat → Nat) (tb : Nat) (L T : List (Int × Int)) (order : Int) (high : Bool) (e : Ending) (w' : World) : Prop :=
  e = .returned (.tuple #[.int .i64 (takeS L T order high).1, .int .i64 (takeS L T order high).2.1]) ∧ NodeAt w' d n mb tb (takeS L T order high).2.2.1 (takeS L T order high).2.2.2 ∧ Only (own6 mb tb) w w'
theorem Take6.same (N : NodeAt w d n mb tb L T) {w' : World} (hb : Below w.heap.size w w') {order : Int} {high : Bool} {k : Int} (h : takeS L T order high = (0, k, L, T)) : Take6 w d n mb tb L T order high (.returned (.tuple #[.int .i64 0, .int .i64 k])) w' := by
  unfold Take6
  rw [h]
  exact ⟨rfl, N.later hb, Only.of_below hb⟩
set_option maxRecDepth 100000 in
set_option maxHeartbeats 2000000 in
theorem take6_any (N : NodeAt w d n mb tb L T) (I : Inv n L T) (order : Int) (high : Bool) :
    Calls Try.prog 34 #[.pointer (some ⟨d, 0, none⟩), .int .i64 order, .bool high] w (Take6 w d n mb tb L T order high) := by
  by_cases ho : 0 ≤ order ∧ order ≤ 10
  · obtain ⟨od, rfl⟩ : ∃ od : Nat, order = od := ⟨order.toNat, by omega⟩
    obtain ⟨_, ho2⟩ := ho
    have ho3 : od ≤ 10 := by omega
    have g1 : ¬ ((od : Int) < 0) := by omega
    have g2 : ¬ (10 < (od : Int)) := by omega
    have HN := Lib.hid N
    go_enter Try.func34, Try.ntmps34
    go_wp2_with (fail)
    refine (missing_any HN.out I.n1).mono ?_
    rintro e w' ⟨rfl, rfl⟩
    go_wp2_with (fail)
    refine (least_any HN.out I.ten ho3 high).mono ?_
    rintro e w1 ⟨hb1, ⟨x, q, hp, rfl⟩ | ⟨hp, rfl⟩⟩
    · obtain ⟨y, hy, hT, J, hyn, hnone, hoq, hq, hal, hfit⟩ := inv_take I ho3 hp
      have hn2 := I.n2
      have hpw := Nat.one_le_two_pow (n := q)
      have hx128 : x < 128 := by omega
      have hx2 : x + 2 ^ q ≤ 128 := by omega
      have ha : Below w1.heap.size w1 (w1.alloc (.cells #[.int .i64 x, .int .i64 q] 77)) := (Below.refl _ w1).alloc (Nat.le_refl _) _
      have HB2 := Lib.hid (hb1.trans (ha.mono hb1.size))
      have HN2 := Lib.hid (N.later HB2.out)
      have HX2 := Lib.hid (block_row w1 x q)
      have HST := Lib.hid (store_block w1 #[.int .i64 0, .int .i64 0] rfl x q)
      have HJ := Lib.hid J
      have HT := Lib.hid hT
      have HY := Lib.hid hy
      have HNO := Lib.hid hnone
      have HP := Lib.hid hp
      have HAL := Lib.hid hal
      clear hb1 ha J hT hy hnone hp hal I N HN
      go_wp2_with (refine wpList_store_run rfl 77 _ _ rfl w1.heap.size _ _ rfl rfl HST.out ?_)
      clear HST
      generalize w1.heap.size = xb at *
      generalize w1.alloc (.cells #[.int .i64 x, .int .i64 q] 77) = w2 at *
      have L1 := Lib.hid (show ∀ W, RowAt W d 13 (ndV n mb tb) ∧ RowAt W xb 2 (blkV x q) → (loadVar 3 ⟨xb, 1, none⟩).run Try.prog W = .ok (.int .i64 q) W from
        fun W hW => run_loadVar_cell (fun _ => by kernel_rfl) (hW.2.cell 1 (by decide)))
      have L0 := Lib.hid (show ∀ W, RowAt W d 13 (ndV n mb tb) ∧ RowAt W xb 2 (blkV x q) → (loadVar 3 ⟨xb, 0, none⟩).run Try.prog W = .ok (.int .i64 x) W from
        fun W hW => run_loadVar_cell (fun _ => by kernel_rfl) (hW.2.cell 0 (by decide)))
      have L2 := Lib.hid (show ∀ W, RowAt W d 13 (ndV n mb tb) ∧ RowAt W xb 2 (blkV x q) → (loadVar 87 ⟨d, 1 + q, none⟩).run Try.prog W = .ok (.map (some (mb q))) W from
        fun W hW => run_loadVar_cell (fun _ => by kernel_rfl) (by
          have h := hW.1.cell (1 + q) (by omega)
          unfold ndV at h
          rw [if_neg (by omega), if_neg (by omega), Nat.add_sub_cancel_left] at h
          exact h))
      go_wp2_with (fail)
      refine wp_region_lex1 (fun W => RowAt W d 13 (ndV n mb tb) ∧ RowAt W xb 2 (blkV x q)) [(0, false), (1, false), (2, false), (3, false), (4, false), (5, false), (6, false), (7, false), (8, false), (9, true)]
        (by kernel_rfl) (by kernel_rfl) rfl (by kernel_rfl) ⟨HN2.out.row.later (Below.refl _ w2).drew, HX2.out.later (Below.refl _ w2).drew⟩ ?_
      intro W0 hW0 hK0
      have HN3 := Lib.hid (show NodeAt W0 d n mb tb L T by rw [hW0]; exact HN2.out.later (Below.refl _ w2).drew)
      have HB3 := Lib.hid (show Below w.heap.size w W0 by rw [hW0]; exact HB2.out.trans ((Below.refl _ w2).drew))
      have HX3 := Lib.hid hK0.2
      clear hW0 hK0 HN2 HX2 HB2
      refine lexH_yieldE rfl rfl ?_
      apply Exists.intro
      refine ⟨fun W hW => ?_, ?_⟩
      focus (go_simp; exact rfl)
      simp only [List.getElem_toArray, List.getElem_cons_zero, Act.put, List.setIfInBounds_toArray, List.set_cons_zero, List.set_cons_succ]
      refine lexH_yieldE rfl rfl ?_
      apply Exists.intro
      refine ⟨fun W hW => ?_, ?_⟩
      focus (go_simp; exact rfl)
      simp only [List.getElem_toArray, List.getElem_cons_succ, List.getElem_cons_zero, Act.put, List.setIfInBounds_toArray, List.set_cons_zero, List.set_cons_succ]
      refine lexH_load rfl rfl _ _ rfl rfl L1.out ?_
      simp only [List.getElem_toArray, List.getElem_cons_succ, List.getElem_cons_zero, Act.put, List.setIfInBounds_toArray, List.set_cons_zero, List.set_cons_succ]
      refine lexH_yieldE rfl rfl ?_
      apply Exists.intro
      refine ⟨fun W hW => ?_, ?_⟩
      focus (go_simp; exact rfl)
      simp only [List.getElem_toArray, List.getElem_cons_succ, List.getElem_cons_zero, Act.put, List.setIfInBounds_toArray, List.set_cons_zero, List.set_cons_succ]
      refine lexH_yieldE rfl rfl ?_
      apply Exists.intro
      refine ⟨fun W hW => ?_, ?_⟩
      focus (go_simp; exact rfl)
      simp only [List.getElem_toArray, List.getElem_cons_succ, List.getElem_cons_zero, Act.put, List.setIfInBounds_toArray, List.set_cons_zero, List.set_cons_succ]
      refine lexH_yieldE rfl rfl ?_
      apply Exists.intro
      refine ⟨fun W hW => ?_, ?_⟩
      focus (go_simp; rw [if_pos (by omega)])
      simp only [List.getElem_toArray, List.getElem_cons_succ, List.getElem_cons_zero, Act.put, List.setIfInBounds_toArray, List.set_cons_zero, List.set_cons_succ]
      refine lexH_load rfl rfl _ _ rfl rfl L2.out ?_
      simp only [List.getElem_toArray, List.getElem_cons_succ, List.getElem_cons_zero, Act.put, List.setIfInBounds_toArray, List.set_cons_zero, List.set_cons_succ]
      refine lexH_yieldE rfl rfl ?_
      apply Exists.intro
      refine ⟨fun W hW => ?_, ?_⟩
      focus (go_simp; exact rfl)
      simp only [List.getElem_toArray, List.getElem_cons_succ, List.getElem_cons_zero, Act.put, List.setIfInBounds_toArray, List.set_cons_zero, List.set_cons_succ]
      refine lexH_load rfl rfl _ _ rfl rfl L0.out ?_
      simp only [List.getElem_toArray, List.getElem_cons_succ, List.getElem_cons_zero, Act.put, List.setIfInBounds_toArray, List.set_cons_zero, List.set_cons_succ]
      refine lexH_drop rfl rfl _ _ _ _ rfl 106 Try.underlying3 Try.underlying87 EU (mb q) (frL L q) rfl (HN3.out.free q (by omega)) x rfl (int_wf (by omega)) ?_
      intro w4 h1 h2
      have HX4 := Lib.hid (HX3.out.only h2 (fun e => map_row (HN3.out.free q (by omega)) HX3.out e.symm))
      have HN4 := Lib.hid (HN3.out.setF (o := q) (L' := dropL L ((x : Int), (q : Int))) (by omega) h1 h2 (by rw [frL_drop, if_pos rfl]) (fun p hp => by rw [frL_drop, if_neg hp]) (fun p hp => HN3.out.bnd p (mem_dropL.1 hp).1))
      have HO4 := Lib.hid (show Only (own6 mb tb) w w4 from (Only.of_below HB3.out).trans (h2.mono fun k hk => .inr ⟨q, by omega, hk⟩))
      refine ⟨⟨HN4.out.row, HX4.out⟩, ?_⟩
      clear h1 h2 HX3 HN3 HB3 L0 L1 L2
      simp only [List.getElem_toArray, List.getElem_cons_succ, List.getElem_cons_zero, Act.put]
      refine lexH_nil ?_
      have c0 : w4.cell? ⟨xb, 0, none⟩ = some (.int .i64 x) := HX4.out.cell 0 (by decide)
      have c1 : w4.cell? ⟨xb, 1, none⟩ = some (.int .i64 q) := HX4.out.cell 1 (by decide)
      go_wp2_with (fail)
      refine (cut_any HN4.out hq hoq HAL.out hx2 high).mono ?_
      rintro e w5 ⟨rfl, hN5, ho5⟩
      rw [HY.out]
      have HN5 := Lib.hid hN5
      have HO5 := Lib.hid (HO4.out.trans (ho5.mono fun k hk => .inr hk))
      clear hN5 ho5 HN4 HO4 c0 c1 HX4
      have c12 := HN5.out.c12
      go_wp2_with (first | (at_mapUpdate; (refine wpList_store_fmap rfl _ _ _ _ rfl 3 3 Try.underlying3 Try.underlying58 EI tb (tkL T) rfl HN5.out.tkn y rfl (int_wf (by omega)) 128 (tkL_in HN5.out.tbnd) (by decide) od rfl (ok_int (by omega)) ?_; intro w6 h3 h4)) | fail)
      have HF := Lib.hid (show Take6 w d n mb tb L T (od : Int) high (.returned (.tuple #[.int .i64 y, .int .i64 0])) w6 by
        unfold Take6
        rw [HT.out]
        refine ⟨rfl, HN5.out.setT h3 h4 (tkL_add HNO.out) (fun p hp => ?_), HO5.out.trans (h4.mono fun k hk => .inl hk)⟩
        rcases List.mem_append.1 hp with h | h
        · exact HN5.out.tbnd p h
        · rw [List.mem_singleton] at h
          subst h
          exact ⟨by omega, by show (y : Int) < 128; omega⟩)
      clear h3 h4
      go_wp2_with (fail)
      go_ret2
      exact HF.out
    · have HF := Lib.hid (Take6.same (high := high) N (hb1.trans (((Below.refl _ w1).alloc (Nat.le_refl _) (.cells #[.int .i64 0, .int .i64 0] 77)).mono hb1.size)) (show takeS L T (od : Int) high = (0, 6, L, T) by
        unfold takeS
        rw [if_pos ⟨by omega, ho2⟩, pick_none hp, if_pos (by decide)]))
      clear hp hb1
      go_wp2_with (fail)
      go_ret2
      exact HF.out
  · have HF := Lib.hid (Take6.same N (Below.refl _ w) (show takeS L T order high = (0, 2, L, T) by unfold takeS; rw [if_neg ho]))
    by_cases h1 : order < 0
    · go_enter Try.func34, Try.ntmps34
      go_wp2_with (fail)
      refine (missing_any N I.n1).mono ?_
      rintro e w' ⟨rfl, rfl⟩
      go_wp2_with (fail)
      go_ret2
      exact HF.out
    · have h2 : 10 < order := by omega
      go_enter Try.func34, Try.ntmps34
      go_wp2_with (fail)
      refine (missing_any N I.n1).mono ?_
      rintro e w' ⟨rfl, rfl⟩
      go_wp2_with (fail)
      go_ret2
      exact HF.out
end
end
/-! buddy: the next free block. -/
section
open Go.RowKit Go

section
variable {w : World} {d n : Nat} {mb : Nat → Nat} {tb : Nat} {L T : List (Int × Int)}
/-- What next answers: the j-th block. -/
def nextV (L : List (Int × Int)) (j : Nat) : Value := if h : j < L.length then .tuple #[.agg #[.int .i64 L[j].1, .int .i64 L[j].2], .bool true] else .tuple #[.agg #[.int .i64 0, .int .i64 0], .bool false]
theorem Inv.at_one (I : Inv n L T) {x o p : Int} (h1 : (x, o) ∈ L) (h2 : (x, p) ∈ L) : o = p := by
  have := I.ris.inj h1 h2 rfl
  injection this
set_option maxRecDepth 100000 in
set_option maxHeartbeats 2000000 in
theorem next_any (N : NodeAt w d n mb tb L T) (I : Inv n L T) {i j : Nat} (hi : i ≤ 200) (h1 : ∀ k, ∀ hk : k < L.length, k < j → L[k].1 < (i : Int)) (h2 : ∀ hj : j < L.length, (i : Int) ≤ L[j].1) :
    Calls Try.prog 65 #[.pointer (some ⟨d, 0, none⟩), .int .i64 i] w fun e w' => e = .returned (nextV L j) ∧ Below w.heap.size w w' := by
  have HN0 := Lib.hid (N.later ((Below.refl _ w).alloc (Nat.le_refl _) (.cells #[.int .i64 0, .int .i64 0] 77)))
  have HB0 := Lib.hid ((Below.refl w.heap.size w).alloc (Nat.le_refl _) (.cells #[.int .i64 0, .int .i64 0] 77))
  have HX0 := Lib.hid (block_row w 0 0)
  have H1 := Lib.hid h1
  have H2 := Lib.hid h2
  have hn2 := I.n2
  clear h1 h2 N
  go_enter Try.func65, Try.ntmps65
  go_wp2_with (fail)
  generalize hBB : w.heap.size = B at *
  generalize w.alloc (.cells #[.int .i64 0, .int .i64 0] 77) = w1 at *
  have HW := Lib.hid hBB
  clear hBB
  go_loopw [6] (fun h wr => ∃ a : Nat, h = .int .i64 a ∧ i ≤ a ∧ a ≤ 328 ∧ Hid (∀ p ∈ L, (i : Int) ≤ p.1 → (a : Int) ≤ p.1) ∧ NodeAt wr d n mb tb L T ∧ RowAt wr B 2 (blkV 0 0) ∧ Below B w wr) (fun h _ => n - (intOf h).toNat)
  case atStart => exact ⟨i, rfl, Nat.le_refl _, by omega, fun p _ h => h, HN0.out, HX0.out, HB0.out⟩
  case round =>
    clear HN0 HB0 HX0
    obtain ⟨a, rfl, hia, ha3, HM, hN, hX, hB⟩ := hrel
    have HN := Lib.hid hN
    have HX := Lib.hid hX
    have HB := Lib.hid hB
    clear hN hX hB
    by_cases hlt : a < n
    · go_wp2_with (fail)
      refine (frames_any HN.out).mono ?_
      rintro e w' ⟨rfl, rfl⟩
      go_wp2_with (fail)
      go_loopw [7] (fun h wr => ∃ s : Nat, h = .int .i64 s ∧ s ≤ 11 ∧ Hid (∀ t : Nat, t < s → ((a : Int), (t : Int)) ∉ L) ∧ NodeAt wr d n mb tb L T ∧ RowAt wr B 2 (blkV 0 0) ∧ Below B w wr) (fun h _ => 11 - (intOf h).toNat)
      case atStart => exact ⟨0, rfl, by decide, fun t h => absurd h (Nat.not_lt_zero _), HN.out, HX.out, HB.out⟩
      case round =>
        clear HN HX HB
        obtain ⟨s, rfl, hs, HS, hN, hX, hB⟩ := hrel
        have HN := Lib.hid hN
        have HX := Lib.hid hX
        have HB := Lib.hid hB
        clear hN hX hB
        by_cases hs2 : s ≤ 10
        · obtain ⟨p, hp⟩ : ∃ p, 2 ^ s = p := ⟨_, rfl⟩
          have hp2 := two_pow_small hs2
          rw [hp] at hp2
          obtain ⟨p1, p2⟩ := hp2
          have HP := Lib.hid hp
          have em : ((a : Int) % (p : Int)) = ((a % p : Nat) : Int) := (Int.natCast_emod a p).symm
          have hs3 : (s : Int) ≤ 10 := by omega
          by_cases c1 : a % p = 0
          · have em2 : ((a : Int) % (p : Int) == 0) = true := by rw [em, c1]; rfl
            clear em hp c1
            by_cases hc : ((a : Int), (s : Int)) ∈ L
            · have HH := Lib.hid (show (frL L s (a : Int)).isSome = true from frL_some.2 hc)
              have HV := Lib.hid (show nextV L j = .tuple #[.agg #[.int .i64 a, .int .i64 s], .bool true] by
                obtain ⟨k, hk, e⟩ := List.mem_iff_getElem.1 hc
                have hjk : k = j := by
                  by_cases h1 : k < j
                  · have := H1.out k hk h1
                    rw [e] at this
                    have : (a : Int) < (i : Int) := this
                    omega
                  · by_cases h2 : j < k
                    · exfalso
                      have hj : j < L.length := by omega
                      have h3 := H2.out hj
                      have h4 := HM.out _ (List.getElem_mem hj) h3
                      have h5 := List.pairwise_iff_getElem.1 I.ris j k hj hk h2
                      rw [e] at h5
                      have h5 : L[j].1 < (a : Int) := h5
                      omega
                    · omega
                subst hjk
                unfold nextV
                rw [dif_pos hk, e])
              clear hc
              go_wp2_with (fail)
              refine (size_of (k := s) rfl hs2 HP.out _).mono ?_
              rintro e w' ⟨rfl, rfl⟩
              go_wp2_with (fail)
              refine (has_any HN.out s (by omega) a (by omega)).mono ?_
              rintro e w2 ⟨rfl, hb2⟩
              rw [HH.out]
              have HX2 := Lib.hid (HX.out.later hb2)
              have HB2 := Lib.hid (HB.out.trans (hb2.mono (by have := HB.out.size; have := HW.out; omega)))
              have b0 : w2.cell? ⟨B, 0, none⟩ = some (.int .i64 0) := HX2.out.cell 0 (by decide)
              have b1 : w2.cell? ⟨B, 1, none⟩ = some (.int .i64 0) := HX2.out.cell 1 (by decide)
              have f0 := HX2.out.frozen 0
              have f1 := HX2.out.frozen 1
              have HX4 := Lib.hid (set_block HX2.out a s)
              have HF := Lib.hid (show (Ending.returned (.tuple #[.agg #[.int .i64 a, .int .i64 s], .bool true]) = .returned (nextV L j)) ∧ Below B w ((w2.setCell ⟨B, 0, none⟩ (.int .i64 a)).setCell ⟨B, 1, none⟩ (.int .i64 s)) from
                ⟨by rw [HV.out], (HB2.out.setCell (p := ⟨B, 0, none⟩) (Nat.le_refl _) _).setCell (p := ⟨B, 1, none⟩) (Nat.le_refl _) _⟩)
              clear hb2 HN HX HB HX2 HB2 HV
              go_wp2_with (fail)
              exact ret_block (b := .bool true) rfl rfl rfl rfl HX4.out (by rw [HW.out]; exact HF.out)
            · have HH := Lib.hid (show (frL L s (a : Int)).isSome = false by
                cases h : (frL L s (a : Int)).isSome with
                | false => rfl
                | true => exact absurd (frL_some.1 h) hc)
              have HS2 := Lib.hid (show ∀ t : Nat, t < s + 1 → ((a : Int), (t : Int)) ∉ L from fun t ht => by
                by_cases e : t = s
                · subst e; exact hc
                · exact HS.out t (by omega))
              clear hc HS
              go_wp2_with (fail)
              refine (size_of (k := s) rfl hs2 HP.out _).mono ?_
              rintro e w' ⟨rfl, rfl⟩
              go_wp2_with (fail)
              refine (has_any HN.out s (by omega) a (by omega)).mono ?_
              rintro e w2 ⟨rfl, hb2⟩
              rw [HH.out]
              have HN2 := Lib.hid (HN.out.later hb2)
              have HX2 := Lib.hid (HX.out.later hb2)
              have HB2 := Lib.hid (HB.out.trans (hb2.mono (by have := HB.out.size; have := HW.out; omega)))
              clear hb2 HN HX HB
              go_wp2_with (fail)
              go_roundw
              case rel => exact ⟨s + 1, by go_num, by omega, HS2, HN2.out, HX2.out, HB2.out⟩
              case measure => simp [intOf]; omega
          · have em2 : ((a : Int) % (p : Int) == 0) = false := by
              rw [em]
              simpa using (show ((a % p : Nat) : Int) ≠ 0 by omega)
            have HM2 := Lib.hid (show ∀ p ∈ L, (i : Int) ≤ p.1 → ((a + 1 : Nat) : Int) ≤ p.1 from fun q hq h => by
              have h3 := HM.out q hq h
              obtain ⟨b, o, rfl⟩ := I.nat q hq
              have h3 : (a : Int) ≤ (b : Int) := h3
              show ((a + 1 : Nat) : Int) ≤ (b : Int)
              by_cases e : b = a
              · exfalso
                subst e
                have hal := (I.stk.al o b (.inl hq)).2.1
                by_cases ho : o < s
                · exact HS.out o ho hq
                · have := al_down (show s ≤ o by omega) hal
                  rw [hp] at this
                  exact c1 this
              · omega)
            clear em hp c1 HM HS
            go_wp2_with (fail)
            refine (size_of (k := s) rfl hs2 HP.out _).mono ?_
            rintro e w' ⟨rfl, rfl⟩
            go_wp2_with (fail)
            go_roundw
            case rel => exact ⟨a + 1, by go_num, by omega, by omega, HM2, HN.out, HX.out, HB.out⟩
            case measure => simp [intOf]; omega
        · obtain rfl : s = 11 := by omega
          rw [show ((11 : Nat) : Int) = 11 from rfl]
          have HM2 := Lib.hid (show ∀ p ∈ L, (i : Int) ≤ p.1 → ((a + 1 : Nat) : Int) ≤ p.1 from fun q hq h => by
            have h3 := HM.out q hq h
            obtain ⟨b, o, rfl⟩ := I.nat q hq
            have h3 : (a : Int) ≤ (b : Int) := h3
            show ((a + 1 : Nat) : Int) ≤ (b : Int)
            by_cases e : b = a
            · exfalso
              subst e
              have hal := (I.stk.al o b (.inl hq)).1
              exact HS.out o (by omega) hq
            · omega)
          clear HM HS
          go_wp2_with (fail)
          go_roundw
          case rel => exact ⟨a + 1, by go_num, by omega, by omega, HM2, HN.out, HX.out, HB.out⟩
          case measure => simp [intOf]; omega
    · have HV := Lib.hid (show nextV L j = .tuple #[.agg #[.int .i64 0, .int .i64 0], .bool false] by
        have hj : ¬ j < L.length := fun hj => by
          have h3 := HM.out _ (List.getElem_mem hj) (H2.out hj)
          obtain ⟨b, o, e⟩ := I.nat _ (List.getElem_mem hj)
          have h4 := (I.stk.al o b (.inl (by show ((b : Int), (o : Int)) ∈ L; rw [← e]; exact List.getElem_mem hj))).2.2
          have hpp := Nat.one_le_two_pow (n := o)
          rw [e] at h3
          have h3 : (a : Int) ≤ (b : Int) := h3
          omega
        unfold nextV
        rw [dif_neg hj])
      have b0 : wr.cell? ⟨B, 0, none⟩ = some (.int .i64 0) := HX.out.cell 0 (by decide)
      have b1 : wr.cell? ⟨B, 1, none⟩ = some (.int .i64 0) := HX.out.cell 1 (by decide)
      have f0 := HX.out.frozen 0
      have f1 := HX.out.frozen 1
      have HX4 := Lib.hid (set_block HX.out 0 0)
      have HF := Lib.hid (show (Ending.returned (.tuple #[.agg #[.int .i64 0, .int .i64 0], .bool false]) = .returned (nextV L j)) ∧ Below B w ((wr.setCell ⟨B, 0, none⟩ (.int .i64 0)).setCell ⟨B, 1, none⟩ (.int .i64 0)) from
        ⟨by rw [HV.out], (HB.out.setCell (p := ⟨B, 0, none⟩) (Nat.le_refl _) _).setCell (p := ⟨B, 1, none⟩) (Nat.le_refl _) _⟩)
      clear HM HV HB HX
      go_wp2_with (fail)
      refine (frames_any HN.out).mono ?_
      rintro e w' ⟨rfl, rfl⟩
      go_wp2_with (fail)
      exact ret_block (b := .bool false) rfl rfl rfl rfl HX4.out (by rw [HW.out]; exact HF.out)
end
end
/-! buddy: Blocks, as an iterator: it tells the free blocks, whatever the body does that leaves the node alone. -/
section
open Go.RowKit Go.Shelf Go
attribute [local go_sem] Oper.semAt_some

theorem blocks_any (s : Option Addr) (w : World) :
    Calls Try.prog 43 #[.pointer s] w fun e w' => e = .returned (.func (.func 64) #[] #[.pointer (some ⟨w.heap.size, 0, none⟩)]) ∧ w' = w.alloc (.cells #[.pointer s] 63) := by
  go_enter Try.func43, Try.ntmps43
  go_wp2_with (fail)
  go_ret
  exact ⟨rfl, rfl⟩

/-- What a round may turn: the blocks of C, and from B on what is no cells. -/
structure KpC (C : Nat → Prop) (B : Nat) (W W' : World) : Prop where
  size : W.heap.size ≤ W'.heap.size
  same : ∀ k o, W.heap[k]? = some o → ¬ C k → (k < B ∨ o.isCells = true) → W'.heap[k]? = some o
section
variable {C : Nat → Prop} {B : Nat} {W W' W'' : World}
theorem KpC.refl (C : Nat → Prop) (B : Nat) (W : World) : KpC C B W W := ⟨Nat.le_refl _, fun _ _ h _ _ => h⟩
theorem KpC.trans (h : KpC C B W W') (k : KpC C B W' W'') : KpC C B W W'' := ⟨Nat.le_trans h.size k.size, fun i o hi hc hb => k.same i o (h.same i o hi hc hb) hc hb⟩
theorem KpC.of_below (h : Below W.heap.size W W') : KpC C B W W' := ⟨h.size, fun k _ hk _ _ => (h.block k (Array.getElem?_eq_some_iff.1 hk).1).trans hk⟩
theorem KpC.of_only (h : Only C W W') : KpC C B W W' := ⟨h.size, fun k _ hk hc _ => (h.block k (Array.getElem?_eq_some_iff.1 hk).1 hc).trans hk⟩
theorem KpC.put (l : Nat) {o : Obj} (o' : Obj) (hB : B ≤ l) (hl : W.heap[l]? = some o) (ho : o.isCells = false) : KpC C B W (W.putObj l o') :=
  ⟨by simp [World.putObj], fun k x hk _ hb => (World.putObj_heap_other (fun e => by
    subst e
    rw [hl] at hk
    injection hk with hk
    subst hk
    rcases hb with h | h
    · omega
    · rw [ho] at h; cases h)).trans hk⟩
theorem KpC.row (h : KpC C B W W') {b n : Nat} {f : Nat → Value} (R : RowAt W b n f) (hc : ¬ C b) : RowAt W' b n f := by
  obtain ⟨A, t, hA, hf⟩ := R
  exact ⟨A, t, h.same b _ hA hc (.inr rfl), hf⟩
theorem KpC.cell (h : KpC C B W W') {b o : Nat} {v : Value} (hv : W.cell? ⟨b, o, none⟩ = some v) (hc : ¬ C b) : W'.cell? ⟨b, o, none⟩ = some v := by
  obtain ⟨x, hx, hxc⟩ := cells_of_cell hv
  exact (World.cell?_of_block (a := ⟨b, o, none⟩) ((h.same b x hx hc (.inr hxc)).trans hx.symm)).trans hv
theorem KpC.fmap (h : KpC C B W W') {α : Type} {R : Value → Option (MDat × List MemPlace)} {E : Elem R α} {b : Nat} {f : Int → Option α} (M : FMap Try.prog 3 E W b f) (hb : b < B) (hc : ¬ C b) : FMap Try.prog 3 E W' b f := by
  obtain ⟨D, l, ⟨es, clock, hm, r⟩, q⟩ := M
  exact ⟨D, l, ⟨es, clock, h.same b _ hm hc (.inl hb), r⟩, q⟩
theorem KpC.node (h : KpC C B W W') {d n : Nat} {mb : Nat → Nat} {tb : Nat} {L T : List (Int × Int)} (N : NodeAt W d n mb tb L T) (hd : ¬ C d) (ho : ∀ k, own6 mb tb k → k < B ∧ ¬ C k) : NodeAt W' d n mb tb L T :=
  ⟨h.row N.row hd, fun o hlo => h.fmap (N.free o hlo) (ho _ (.inr ⟨o, hlo, rfl⟩)).1 (ho _ (.inr ⟨o, hlo, rfl⟩)).2, h.fmap N.tkn (ho _ (.inl rfl)).1 (ho _ (.inl rfl)).2, N.inj, N.ntb, N.bnd, N.tbnd⟩
end
theorem grown_none {W W' : World} (h : Below W.heap.size W W') : W.grownBy W' none := ⟨h.os, h.tape, h.output, h.size, fun k hk _ => h.block k hk⟩

section
variable {d n : Nat} {mb : Nat → Nat} {tb : Nat} {L T : List (Int × Int)}
/-- A block's value. -/
def blk (p : Int × Int) : Value := .agg #[.int .i64 p.1, .int .i64 p.2]
/-- The j-th one. -/
def nextA (L : List (Int × Int)) (j : Nat) : Int × Int := L.getD j (0, 0)
theorem next_eq (L : List (Int × Int)) (j : Nat) : nextV L j = .tuple #[.agg #[.int .i64 (nextA L j).1, .int .i64 (nextA L j).2], .bool (decide (j < L.length))] := by
  unfold nextV nextA
  by_cases h : j < L.length
  · rw [dif_pos h, getD_at h, decide_eq_true h]
  · rw [dif_neg h, decide_eq_false h, List.getD_eq_getElem?_getD, List.getElem?_eq_none (by omega)]; rfl
theorem next_of {w : World} (N : NodeAt w d n mb tb L T) (I : Inv n L T) {z : Int} {i j : Nat} (hz : z = i) (hi : i ≤ 200) (h1 : ∀ k, ∀ hk : k < L.length, k < j → L[k].1 < (i : Int)) (h2 : ∀ hj : j < L.length, (i : Int) ≤ L[j].1) :
    Calls Try.prog 65 #[.pointer (some ⟨d, 0, none⟩), .int .i64 z] w fun e w' => e = .returned (.tuple #[.agg #[.int .i64 (nextA L j).1, .int .i64 (nextA L j).2], .bool (decide (j < L.length))]) ∧ Below w.heap.size w w' := by
  subst hz
  have h := next_any N I hi h1 h2
  rw [next_eq] at h
  exact h
/-- How much is left. -/
def seqM (x y : Value) (wr : World) : Nat :=
  match y with
  | .bool true => 200 - (match x with
    | .pointer (some p) => (match wr.cell? p with
      | some (.int _ q) => q.toNat
      | _ => 0)
    | _ => 0)
  | _ => 0
theorem seqM_no (x : Value) (wr : World) : seqM x (.bool false) wr = 0 := rfl
theorem seqM_yes {xb : Nat} {wr : World} {q : Int} (h : wr.cell? ⟨xb, 0, none⟩ = some (.int .i64 q)) : seqM (.pointer (some ⟨xb, 0, none⟩)) (.bool true) wr = 200 - q.toNat := by
  simp [seqM, h]
set_option maxRecDepth 100000 in
set_option maxHeartbeats 4000000 in
theorem blocks_in (m : Nat) (hm : 1 ≤ m) (l Bn B : Nat) (C : Nat → Prop) (I : Inv n L T) (J Jx : List (Fin L.length) → World → Prop) (w0 : World)
    (hJ : AbidesFrom w0.heap.size J)
    (hY : ∀ pre (x : Fin L.length) W, J pre W → pre.length < L.length → YieldAt Fence.wide (m - 1) Try.prog l #[blk (L[x.val]'x.isLt)] W fun e W' =>
      (e = .returned (.bool true) ∧ J (pre ++ [x]) W' ∧ KpC C B W W') ∨ (e = .returned (.bool false) ∧ Jx (pre ++ [x]) W'))
    (N : NodeAt w0 d n mb tb L T) (hc : w0.cell? ⟨Bn, 0, none⟩ = some (.pointer (some ⟨d, 0, none⟩))) (hd : ¬ C d) (ho : ∀ k, own6 mb tb k → k < B ∧ ¬ C k) (hBn : ¬ C Bn) (hB : B ≤ w0.heap.size) (hC : ∀ k, C k → k < B) (h0 : J [] w0) :
    CallsIn Fence.wide m Try.prog 64 #[.func (.yield l) #[] #[], .pointer (some ⟨Bn, 0, none⟩)] w0 fun e W' => (∃ v, e = .returned v) ∧
      ((∃ xs : List (Fin L.length), xs.map Fin.val = List.range L.length ∧ J xs W') ∨ (∃ pre : List (Fin L.length), (∃ k, k ≤ L.length ∧ pre.map Fin.val = List.range k) ∧ Jx pre W')) := by
  have HY := Lib.hid hY
  have HJ := Lib.hid hJ
  have HC := Lib.hid hc
  have HOW := Lib.hid ho
  have HCL := Lib.hid hC
  clear hY hJ hc ho hC
  refine callsIn_of_wp Try.func64 rfl trivial ?_ rfl
  simp only [Try.ntmps64, List.size_toArray, List.length_cons, List.length_nil, Nat.reduceAdd, Nat.reduceSub, Array.replicate_succ, Array.replicate_zero, List.push_toArray, List.append_toArray, List.nil_append, List.cons_append]
  have h1 := HC.out
  gi_wp2_with (fail)
  clear h1
  refine ⟨trivial, (callsIn_wide.2 (next_of N I (z := 0) (i := 0) (j := 0) rfl (by decide) (fun k _ h => absurd h (Nat.not_lt_zero _)) (fun hj => (N.bnd _ (List.getElem_mem hj)).1))).mono ?_⟩
  rintro e w1 ⟨rfl, hb1⟩
  have ha : Below w1.heap.size w1 (w1.alloc (.cells #[.int .i64 (nextA L 0).1, .int .i64 (nextA L 0).2] 77)) := (Below.refl _ w1).alloc (Nat.le_refl _) _
  have hb2 := hb1.trans (ha.mono hb1.size)
  have HX := Lib.hid (block_row w1 (nextA L 0).1 (nextA L 0).2)
  have HK := Lib.hid (KpC.of_below (C := C) (B := B) hb2)
  have HJ0 := Lib.hid (HJ.out [] w0 _ none h0 (grown_none hb2) (fun r e => by cases e))
  have HLE := Lib.hid hb1.size
  obtain ⟨b, hb⟩ : ∃ b, decide (0 < L.length) = b := ⟨_, rfl⟩
  rw [hb]
  have HBD := Lib.hid hb
  have HNX := Lib.hid (show nextA L 0 = ((nextA L 0).1, (nextA L 0).2) from rfl)
  generalize (nextA L 0).1 = y1 at *
  generalize (nextA L 0).2 = y2 at *
  clear ha hb1 hb2 h0 hb
  gi_wp2_with (fail)
  generalize w1.heap.size = xb at *
  generalize w1.alloc (.cells #[.int .i64 y1, .int .i64 y2] 77) = w2 at *
  gi_loopw [3, 4] (fun x y wr => ∃ (j : Nat) (pre : List (Fin L.length)) (xb : Nat) (b : Bool) (y1 y2 : Int), x = .pointer (some ⟨xb, 0, none⟩) ∧ y = .bool b ∧ j ≤ L.length ∧ w0.heap.size ≤ xb ∧ Hid (decide (j < L.length) = b) ∧ Hid (nextA L j = (y1, y2)) ∧ Hid (pre.map Fin.val = List.range j) ∧ Hid (J pre wr) ∧ Hid (RowAt wr xb 2 (blkV y1 y2)) ∧ Hid (KpC C B w0 wr))
    (fun x y wr => seqM x y wr)
  case atStart => exact ⟨0, [], xb, b, y1, y2, rfl, rfl, Nat.zero_le _, HLE.out, HBD, HNX, rfl, HJ0.out, HX, HK⟩
  case round =>
    clear HJ0 HX HK HBD HNX HLE
    obtain ⟨j, pre, xb, b, y1, y2, rfl, rfl, hj, hxb, HBD, HNX, HPR, HJJ, HX, HK⟩ := hrel
    cases b with
    | false =>
      gi_wp2_with (fail)
      go_end0
      have : j = L.length := by have := of_decide_eq_false HBD.out; omega
      subst this
      exact ⟨⟨_, rfl⟩, .inl ⟨pre, HPR.out, HJJ.out⟩⟩
    | true =>
      have hjl : j < L.length := of_decide_eq_true HBD.out
      have c0 : wr.cell? ⟨xb, 0, none⟩ = some (.int .i64 y1) := HX.out.cell 0 (by decide)
      have c1 : wr.cell? ⟨xb, 1, none⟩ = some (.int .i64 y2) := HX.out.cell 1 (by decide)
      have hy : (y1, y2) = L[j] := by rw [← HNX.out]; exact getD_at hjl
      have hlen : pre.length < L.length := by
        have := congrArg List.length HPR.out
        simp at this
        omega
      have hbk : blk (L[j]'hjl) = .agg #[.int .i64 y1, .int .i64 y2] := by rw [← hy]; rfl
      have hYj := HY.out pre ⟨j, hjl⟩ wr HJJ.out hlen
      dsimp only at hYj
      rw [hbk] at hYj
      obtain ⟨fn, tmps, assign, body, hyy, hR⟩ := hYj
      have hM := seqM_yes c0
      have HM := Lib.hid hM
      have HP2 := Lib.hid (show (pre ++ [(⟨j, hjl⟩ : Fin L.length)]).map Fin.val = List.range (j + 1) by
        rw [List.map_append, HPR.out, List.range_succ]; rfl)
      clear hbk hM
      gi_wp2_with (fail)
      clear c0 c1
      refine hR.mono ?_
      rintro e W3 (⟨rfl, hJ3, hk3⟩ | ⟨rfl, hJx3⟩)
      · have hxC : ¬ C xb := fun h => by have := HCL.out xb h; omega
        have HX3 := Lib.hid (hk3.row HX.out hxC)
        have HK3 := Lib.hid (HK.out.trans hk3)
        have HJ3 := Lib.hid hJ3
        have HHY := Lib.hid hy
        have hy1 : 0 ≤ y1 ∧ y1 < 128 := by have h := N.bnd _ (List.getElem_mem hjl); rw [← hy] at h; exact h
        have c0 : W3.cell? ⟨xb, 0, none⟩ = some (.int .i64 y1) := HX3.out.cell 0 (by decide)
        have c1 : W3.cell? ⟨xb, 1, none⟩ = some (.int .i64 y2) := HX3.out.cell 1 (by decide)
        have cB : (W3.alloc (.cells #[.int .i64 y1, .int .i64 y2] 77)).cell? ⟨Bn, 0, none⟩ = some (.pointer (some ⟨d, 0, none⟩)) := by
          have h := HK3.out.cell HC.out hBn
          rw [((Below.refl W3.heap.size W3).alloc (Nat.le_refl _) _).cell (p := ⟨Bn, 0, none⟩) (World.block_lt_of_cell? _ _ h)]
          exact h
        have ha : Below W3.heap.size W3 (W3.alloc (.cells #[.int .i64 y1, .int .i64 y2] 77)) := (Below.refl _ W3).alloc (Nat.le_refl _) _
        have HA := Lib.hid ha
        have HX4 := Lib.hid (block_row W3 y1 y2)
        have HN4 := Lib.hid ((HK3.out.node N hd HOW.out).later ha)
        clear hJ3 hk3 hyy hR HX HJJ HX3 ha hy
        gi_wp2_with (fail)
        clear c0 c1 cB
        have hyj : ∀ k, ∀ hk : k < L.length, k < j + 1 → L[k].1 < ((y1.toNat + 1 : Nat) : Int) := fun k hk h => by
          have h2 := (I.ris.index hk hjl).1 (by omega)
          rw [← HHY.out] at h2
          have h2 : L[k].1 ≤ y1 := h2
          omega
        have hyk : ∀ hj : j + 1 < L.length, ((y1.toNat + 1 : Nat) : Int) ≤ L[j + 1].1 := fun h => by
          have h2 := List.pairwise_iff_getElem.1 I.ris j (j + 1) hjl h (by omega)
          rw [← HHY.out] at h2
          have h2 : y1 < L[j + 1].1 := h2
          omega
        have HYK := Lib.hid hyk
        refine ⟨trivial, (callsIn_wide.2 (next_of HN4.out I (z := y1 + 1) (i := y1.toNat + 1) (j := j + 1) (by omega) (by omega) hyj hyk)).mono ?_⟩
        rintro e W5 ⟨rfl, hb5⟩
        have hbX : Below W3.heap.size W3 W5 := HA.out.trans (hb5.mono HA.out.size)
        have HX5 := Lib.hid (HX4.out.later hb5)
        have HL3 := Lib.hid (show w0.heap.size ≤ W3.heap.size from HK3.out.size)
        generalize hXB : W3.heap.size = xb2 at *
        have HXB := Lib.hid hXB
        clear hXB
        have b0 : W5.cell? ⟨xb2, 0, none⟩ = some (.int .i64 y1) := HX5.out.cell 0 (by decide)
        have b1 : W5.cell? ⟨xb2, 1, none⟩ = some (.int .i64 y2) := HX5.out.cell 1 (by decide)
        have f0 := HX5.out.frozen 0
        have f1 := HX5.out.frozen 1
        obtain ⟨b', hb'⟩ : ∃ b', decide (j + 1 < L.length) = b' := ⟨_, rfl⟩
        rw [hb']
        have HBD2 := Lib.hid hb'
        have HNX2 := Lib.hid (show nextA L (j + 1) = ((nextA L (j + 1)).1, (nextA L (j + 1)).2) from rfl)
        generalize (nextA L (j + 1)).1 = z1 at *
        generalize (nextA L (j + 1)).2 = z2 at *
        have hb6 : Below W3.heap.size W3 ((W5.setCell ⟨xb2, 0, none⟩ (.int .i64 z1)).setCell ⟨xb2, 1, none⟩ (.int .i64 z2)) := by
          rw [HXB.out]
          exact (hbX.setCell (p := ⟨xb2, 0, none⟩) (Nat.le_refl _) _).setCell (p := ⟨xb2, 1, none⟩) (Nat.le_refl _) _
        have HX6 := Lib.hid (set_block HX5.out z1 z2)
        have HJ6 := Lib.hid (HJ.out _ W3 _ none HJ3.out (grown_none hb6) (fun r e => by cases e))
        have HK6 := Lib.hid (HK3.out.trans (KpC.of_below hb6))
        have HLT := Lib.hid (show seqM (.pointer (some ⟨xb2, 0, none⟩)) (.bool b') ((W5.setCell ⟨xb2, 0, none⟩ (.int .i64 z1)).setCell ⟨xb2, 1, none⟩ (.int .i64 z2)) < 200 - y1.toNat by
          cases b' with
          | false => rw [seqM_no]; omega
          | true =>
            have h := of_decide_eq_true HBD2.out
            rw [seqM_yes (HX6.out.cell 0 (by decide))]
            have h2 := HYK.out h
            have h3 : nextA L (j + 1) = L[j + 1] := getD_at h
            rw [← h3, HNX2.out] at h2
            have h2 : ((y1.toNat + 1 : Nat) : Int) ≤ z1 := h2
            omega)
        clear hb5 hb6 hbX hb' HX4 HX5 HJ3 HK3 HA HN4
        gi_wp2_with (fail)
        go_roundw
        case rel => exact ⟨j + 1, pre ++ [⟨j, hjl⟩], xb2, b', z1, z2, rfl, rfl, hjl, HL3.out, HBD2, HNX2, HP2, HJ6, HX6, HK6⟩
        case measure => rw [HM.out]; exact HLT.out
      · clear hyy hR
        gi_wp2_with (fail)
        refine bodyPost_ret (results_none rfl _ _ _) rfl ?_
        exact ⟨⟨_, rfl⟩, .inr ⟨_, ⟨j + 1, hjl, HP2.out⟩, hJx3⟩⟩
end
theorem blocks_nil (w : World) (a : Value) : (binOp .eql 51 (.func (.func 64) #[] #[a]) .nilFunc).run Try.prog w = .ok (.bool false) w := by kernel_rfl
end
/-! Maps from ints as finite functions: look-up, store, delete, len inside a fence; an operation by its run. Of no program. -/
section
open Go.RowKit Go Go.Maps

section
variable {F : Fence} {nF : Nat} {P : Program} {w : World} {ops : Array Oper} {rest : List Oper} {o : Oper} {a : Act} {Q : Exit → Act → World → Prop}
/-- 'len(m)'. -/
theorem wpListIn_len_fmap (hg : o.guard = none) (m : Operand) (t : TypeId) (hop : o.op = Op.call { callee := Callee.builtin Builtin.len, args := #[m], argTypes := #[t] })
    (k e : TypeId) (ht : P.underlying t = some (.map k e)) {R : Value → Option (MDat × List MemPlace)} {α : Type} (E : Elem R α) (b : Nat) (f : Int → Option α) (hm : a.eval m = .map (some b)) (hown : FMap P k E w b f)
    (hK : ∀ l : List Int, l.Nodup → (∀ x, x ∈ l ↔ (f x).isSome = true) → wpListIn F nF P ops Q rest (a.put o.dst (.int .i64 l.length)) w) :
    wpListIn F nF P ops Q (o :: rest) a w := by
  refine wpListIn_plain hg fun K' hK' => ?_
  obtain ⟨l, hn, hl, hrun⟩ := hown.len ht o.type
  unfold Oper.wpIn
  refine ⟨by simp [Oper.about, hop, resolve, Target.leads, Sem.run_pure], ?_⟩
  rw [Oper.semAt_plain F _ _ (by rw [hop]; intro c hc'; cases hc')]
  simp [execOp, hop, resolve, invoke, builtin, hm, hrun, Result.andThen]
  exact hK' _ _ (hK l hn hl)
/-- 'v, ok := m[x]'. -/
theorem wpListIn_look_fmap (hg : o.guard = none) (m y : Operand) (t : TypeId) (hop : o.op = Op.lookup t m y true)
    (k e : TypeId) (hk : P.underlying k = some (.int .i64)) (ht : P.underlying t = some (.map k e)) {R : Value → Option (MDat × List MemPlace)} {α : Type} (E : Elem R α) (z : α) (hzo : E.ok z) (hz : (zeroValue e).run P w = .ok (E.v z) w) (b : Nat) (f : Int → Option α)
    (hm : a.eval m = .map (some b)) (hown : FMap P k E w b f) (x : Int) (hy : a.eval y = .int .i64 x) (hx : (Lit.int .i64 x).wf = true)
    (hK : wpListIn F nF P ops Q rest (a.put o.dst (.tuple #[E.v ((f x).getD z), .bool (f x).isSome])) w) :
    wpListIn F nF P ops Q (o :: rest) a w := by
  obtain ⟨zp, hzd⟩ := E.says z hzo
  refine wpListIn_plain hg fun K' hK' => ?_
  obtain ⟨v, ps, hrun, hv⟩ := IMap.look hk ht hx hown hz hzd
  have e1 : ((f x).map E.g).getD (E.g z) = E.g ((f x).getD z) := by cases f x <;> rfl
  rw [e1] at hv
  rw [E.inv v _ ps hv, Option.isSome_map] at hrun
  unfold Oper.wpIn
  refine ⟨by simp [Oper.about, hop], ?_⟩
  rw [Oper.semAt_plain F _ _ (by rw [hop]; intro c hc'; cases hc')]
  simp [execOp, hop, hm, hy, hrun, Result.andThen]
  exact hK' _ _ hK
/-- 'm[x] = c'. -/
theorem wpListIn_store_fmap (hg : o.guard = none) (m y v : Operand) (t : TypeId) (hop : o.op = Op.mapUpdate t m y v)
    (k e : TypeId) (hk : P.underlying k = some (.int .i64)) (ht : P.underlying t = some (.map k e)) {R : Value → Option (MDat × List MemPlace)} {α : Type} (E : Elem R α) (b : Nat) (f : Int → Option α)
    (hm : a.eval m = .map (some b)) (hown : FMap P k E w b f) (x : Int) (hy : a.eval y = .int .i64 x) (hx : (Lit.int .i64 x).wf = true) (n : Nat) (hn : ∀ x, (f x).isSome = true → 0 ≤ x ∧ x < n) (hmax : n < maxLen)
    (c : α) (hv : a.eval v = E.v c) (hc : E.ok c)
    (hK : ∀ w', FMap P k E w' b (fput f x c) → Only (fun j => j = b) w w' → wpListIn F nF P ops Q rest (a.put o.dst undef) w') :
    wpListIn F nF P ops Q (o :: rest) a w := by
  obtain ⟨ps, hval⟩ := E.says c hc
  refine wpListIn_plain hg fun K' hK' => ?_
  obtain ⟨w', hrun, r1, r2⟩ := IMap.store hk ht hx hown (fun y hy => hn y (by simpa using hy)) hmax hval
  rw [upd_map] at r1
  unfold Oper.wpIn
  refine ⟨by simp [Oper.about, hop], ?_⟩
  rw [Oper.semAt_plain F _ _ (by rw [hop]; intro c hc'; cases hc')]
  simp [execOp, hop, hm, hy, hv, hrun, Result.andThen]
  exact hK' _ _ (hK w' r1 r2)
/-- A store of a whole by its run. -/
theorem wpListIn_store_run (hgd : o.guard = none) (ty : TypeId) (x y : Operand) (ho : o.op = .store ty x y)
    (b : Nat) (cells : Array Value) (w2 : World) (hx : a.eval x = .pointer (some ⟨b, 0, none⟩)) (hy : a.eval y = .agg cells)
    (hr : (storeVar ty ⟨b, 0, none⟩ (.agg cells)).run P w = .ok () w2)
    (h : wpListIn F nF P ops Q rest (a.put o.dst undef) w2) : wpListIn F nF P ops Q (o :: rest) a w := by
  refine wpListIn_plain hgd fun K' hK' => ?_
  unfold Oper.wpIn
  refine ⟨by simp [Oper.about, ho], ?_⟩
  rw [Oper.semAt_plain F _ _ (by rw [ho]; intro c hc'; cases hc')]
  unfold execOp
  simp only [ho, hx, hy, Instr.storeAt, Instr.sureAddr, Sem.run_bind, Sem.run_pure, Result.andThen_ok, hr]
  exact hK' _ _ h
end
end
end Go.Proofs.Ytdpnmjlapgldgaa
