/-
  A node of free blocks and taken ones, each frame one block's, no two free ones buddies: cut, merged, taken, given back. Pure; of no program.
-/
import Derived.Test.YtilcdnkjfbkpnaaBlk
namespace Go.Proofs.Ytilcdnkjfbkpnaa

structure Stk (n : Nat) (F T : Nat → Nat → Prop) : Prop where
  al : ∀ o a, F o a ∨ T o a → o ≤ 10 ∧ a % 2 ^ o = 0 ∧ a + 2 ^ o ≤ n
  ap : ∀ o a p b f, F o a ∨ T o a → F p b ∨ T p b → inB o a f → inB p b f → o = p ∧ a = b
  dis : ∀ o a, F o a → ¬ T o a
  cov : ∀ f, f < n → ∃ o a, (F o a ∨ T o a) ∧ inB o a f
  nb : ∀ o a, F o a → o < 10 → ¬ F o (bud o a)

theorem up_al {o x : Nat} (h : x % 2 ^ (o + 1) = 0) : bud o x = x + 2 ^ o ∧ bud o (x + 2 ^ o) = x := by
  obtain ⟨_, _, h3⟩ := half_up h
  have hp := Nat.one_le_two_pow (n := o)
  unfold bud
  rw [if_neg (by omega), Nat.add_div_right _ (by omega), if_pos (by omega), Nat.add_sub_cancel]
  exact ⟨rfl, rfl⟩
/-- A block is the lower half of two or the upper one. -/
theorem bud_cases {o x : Nat} (h : x % 2 ^ o = 0) : (x % 2 ^ (o + 1) = 0 ∧ bud o x = x + 2 ^ o) ∨ ∃ lo, x = lo + 2 ^ o ∧ lo % 2 ^ (o + 1) = 0 ∧ bud o x = lo := by
  obtain ⟨c, hc⟩ := Nat.dvd_of_mod_eq_zero h
  have hp := Nat.one_le_two_pow (n := o)
  by_cases hcc : c % 2 = 0
  · have h1 : x % 2 ^ (o + 1) = 0 := by
      refine Nat.mod_eq_zero_of_dvd ⟨c / 2, ?_⟩
      rw [hc, Nat.pow_succ, Nat.mul_assoc]
      congr 1
      omega
    exact .inl ⟨h1, (up_al h1).1⟩
  · have h1 : (2 ^ o * (c - 1)) % 2 ^ (o + 1) = 0 := by
      refine Nat.mod_eq_zero_of_dvd ⟨(c - 1) / 2, ?_⟩
      rw [Nat.pow_succ, Nat.mul_assoc]
      congr 1
      omega
    have h2 : x = 2 ^ o * (c - 1) + 2 ^ o := by
      rw [hc]
      obtain ⟨d, rfl⟩ : ∃ d, c = d + 1 := ⟨c - 1, by omega⟩
      rw [Nat.add_sub_cancel, Nat.mul_add, Nat.mul_one]
    exact .inr ⟨_, h2, h1, by rw [h2]; exact (up_al h1).2⟩
theorem bud_back {o x : Nat} (h : x % 2 ^ o = 0) : bud o (bud o x) = x ∧ bud o x ≠ x ∧ bud o x % 2 ^ o = 0 := by
  have hp := Nat.one_le_two_pow (n := o)
  rcases bud_cases h with ⟨h1, e⟩ | ⟨lo, rfl, h1, e⟩
  · rw [e]
    exact ⟨(up_al h1).2, by omega, (half_up h1).2.1⟩
  · rw [e]
    exact ⟨(up_al h1).1, by omega, (half_up h1).1⟩
theorem inB_halves {o x f : Nat} : inB (o + 1) x f ↔ inB o x f ∨ inB o (x + 2 ^ o) f := by
  unfold inB
  rw [Nat.pow_succ]
  omega
theorem halves_apart {o x f : Nat} (h : inB o x f) : ¬ inB o (x + 2 ^ o) f := fun h2 => by
  unfold inB at h h2
  omega

section
variable {n : Nat} {F T F' T' : Nat → Nat → Prop}
/-- A free block is taken in hand. -/
theorem Stk.out (S : Stk n F T) {p x : Nat} (hF : F p x) (hF' : ∀ o a, F' o a ↔ F o a ∧ ¬ (o = p ∧ a = x)) (hT' : ∀ o a, T' o a ↔ T o a ∨ (o = p ∧ a = x)) : Stk n F' T' := by
  have hu : ∀ o a, F' o a ∨ T' o a ↔ F o a ∨ T o a := fun o a => by
    rw [hF', hT']
    by_cases e : o = p ∧ a = x
    · obtain ⟨rfl, rfl⟩ := e
      exact ⟨fun _ => .inl hF, fun _ => .inr (.inr ⟨rfl, rfl⟩)⟩
    · exact ⟨fun h => h.elim (fun h => .inl h.1) (fun h => h.elim .inr (fun h => absurd h e)), fun h => h.elim (fun h => .inl ⟨h, e⟩) (fun h => .inr (.inl h))⟩
  refine ⟨fun o a h => S.al o a ((hu o a).1 h), fun o a q b f h1 h2 => S.ap o a q b f ((hu o a).1 h1) ((hu q b).1 h2), fun o a h => ?_, fun f hf => ?_, fun o a h ho h2 => S.nb o a ((hF' o a).1 h).1 ho ((hF' o _).1 h2).1⟩
  · rw [hF'] at h
    rw [hT']
    exact fun h2 => h2.elim (S.dis o a h.1) h.2
  · obtain ⟨o, a, h1, h2⟩ := S.cov f hf
    exact ⟨o, a, (hu o a).2 h1, h2⟩
/-- A block in hand comes back, where its buddy is not free. -/
theorem Stk.back (S : Stk n F T) {p x : Nat} (hT : T p x) (hb : p < 10 → ¬ F p (bud p x)) (hF' : ∀ o a, F' o a ↔ F o a ∨ (o = p ∧ a = x)) (hT' : ∀ o a, T' o a ↔ T o a ∧ ¬ (o = p ∧ a = x)) : Stk n F' T' := by
  have hu : ∀ o a, F' o a ∨ T' o a ↔ F o a ∨ T o a := fun o a => by
    rw [hF', hT']
    by_cases e : o = p ∧ a = x
    · obtain ⟨rfl, rfl⟩ := e
      exact ⟨fun _ => .inr hT, fun _ => .inl (.inr ⟨rfl, rfl⟩)⟩
    · exact ⟨fun h => h.elim (fun h => h.elim .inl (fun h => absurd h e)) (fun h => .inr h.1), fun h => h.elim (fun h => .inl (.inl h)) (fun h => .inr ⟨h, e⟩)⟩
  refine ⟨fun o a h => S.al o a ((hu o a).1 h), fun o a q b f h1 h2 => S.ap o a q b f ((hu o a).1 h1) ((hu q b).1 h2), fun o a h => ?_, fun f hf => ?_, fun o a h ho h2 => ?_⟩
  · rw [hF'] at h
    rw [hT']
    exact fun h2 => h.elim (fun h => S.dis o a h h2.1) h2.2
  · obtain ⟨o, a, h1, h2⟩ := S.cov f hf
    exact ⟨o, a, (hu o a).2 h1, h2⟩
  · rw [hF'] at h h2
    rcases h with h | ⟨rfl, rfl⟩
    · rcases h2 with h2 | ⟨rfl, e⟩
      · exact S.nb o a h ho h2
      · have hal := (S.al o a (.inl h)).2.1
        refine hb ho ?_
        rw [← e, (bud_back hal).1]
        exact h
    · rcases h2 with h2 | ⟨_, e⟩
      · exact hb ho h2
      · exact (bud_back (S.al o a (.inr hT)).2.1).2.1 e
/-- A block in hand is cut: one half is free, the other one in hand. -/
theorem Stk.cut (S : Stk n F T) {q x y z : Nat} (hT : T (q + 1) x) (hyz : (y = x ∧ z = x + 2 ^ q) ∨ (y = x + 2 ^ q ∧ z = x)) (hF' : ∀ o a, F' o a ↔ F o a ∨ (o = q ∧ a = y)) (hT' : ∀ o a, T' o a ↔ (T o a ∧ ¬ (o = q + 1 ∧ a = x)) ∨ (o = q ∧ a = z)) : Stk n F' T' := by
  obtain ⟨ten, alx, fit⟩ := S.al _ _ (.inr hT)
  obtain ⟨b1, b2, b3⟩ := half_up alx
  obtain ⟨u1, u2⟩ := up_al alx
  have hpow : 2 ^ (q + 1) = 2 ^ q + 2 ^ q := by rw [Nat.pow_succ]; omega
  have hp := Nat.one_le_two_pow (n := q)
  have hu : ∀ o a, F' o a ∨ T' o a ↔ ((F o a ∨ T o a) ∧ ¬ (o = q + 1 ∧ a = x)) ∨ (o = q ∧ (a = x ∨ a = x + 2 ^ q)) := fun o a => by
    rw [hF', hT']
    have hne : F o a → ¬ (o = q + 1 ∧ a = x) := fun h e => by
      obtain ⟨rfl, rfl⟩ := e
      exact S.dis _ _ h hT
    constructor
    · rintro ((h | ⟨h1, h2⟩) | (h | ⟨h1, h2⟩))
      · exact .inl ⟨.inl h, hne h⟩
      · exact .inr ⟨h1, by omega⟩
      · exact .inl ⟨.inr h.1, h.2⟩
      · exact .inr ⟨h1, by omega⟩
    · rintro (⟨h | h, h2⟩ | ⟨h1, h2⟩)
      · exact .inl (.inl h)
      · exact .inr (.inl ⟨h, h2⟩)
      · by_cases e : a = y
        · exact .inl (.inr ⟨h1, e⟩)
        · exact .inr (.inr ⟨h1, by omega⟩)
  have hin : ∀ a f, a = x ∨ a = x + 2 ^ q → inB q a f → inB (q + 1) x f := fun a f h1 h2 => inB_halves.2 (h1.elim (fun e => .inl (e ▸ h2)) (fun e => .inr (e ▸ h2)))
  refine ⟨fun o a h => ?_, fun o a p b f h1 h2 h3 h4 => ?_, fun o a h h2 => ?_, fun f hf => ?_, fun o a h ho h2 => ?_⟩
  · rcases (hu o a).1 h with h | ⟨rfl, h⟩
    · exact S.al o a h.1
    · rcases h with rfl | rfl
      · exact ⟨by omega, b1, by omega⟩
      · exact ⟨by omega, b2, by omega⟩
  · rcases (hu o a).1 h1 with h1 | ⟨rfl, h1⟩
    · rcases (hu p b).1 h2 with h2 | ⟨rfl, h2⟩
      · exact S.ap o a p b f h1.1 h2.1 h3 h4
      · exact absurd (S.ap o a (p + 1) x f h1.1 (.inr hT) h3 (hin b f h2 h4)) h1.2
    · rcases (hu p b).1 h2 with h2 | ⟨rfl, h2⟩
      · obtain ⟨e1, e2⟩ := S.ap p b (o + 1) x f h2.1 (.inr hT) h4 (hin a f h1 h3)
        exact absurd ⟨e1, e2⟩ h2.2
      · refine ⟨rfl, ?_⟩
        rcases h1 with rfl | rfl
        · rcases h2 with rfl | rfl
          · rfl
          · exact absurd h4 (halves_apart h3)
        · rcases h2 with rfl | rfl
          · exact absurd h3 (halves_apart h4)
          · rfl
  · rw [hF'] at h
    rw [hT'] at h2
    have hz : ∀ c, (c = x ∨ c = x + 2 ^ q) → ¬ (F q c ∨ T q c) := fun c hc hh => by
      obtain ⟨e, _⟩ := S.ap q c (q + 1) x c hh (.inr hT) (self_in q c) (hin c c hc (self_in q c))
      omega
    rcases h with h | ⟨rfl, rfl⟩
    · rcases h2 with h2 | ⟨rfl, rfl⟩
      · exact S.dis o a h h2.1
      · exact hz a (by omega) (.inl h)
    · rcases h2 with h2 | ⟨_, h2⟩
      · exact hz a (by omega) (.inr h2.1)
      · omega
  · obtain ⟨o, a, h1, h2⟩ := S.cov f hf
    by_cases e : o = q + 1 ∧ a = x
    · obtain ⟨rfl, rfl⟩ := e
      rcases inB_halves.1 h2 with h2 | h2
      · exact ⟨q, a, (hu q a).2 (.inr ⟨rfl, .inl rfl⟩), h2⟩
      · exact ⟨q, a + 2 ^ q, (hu q _).2 (.inr ⟨rfl, .inr rfl⟩), h2⟩
    · exact ⟨o, a, (hu o a).2 (.inl ⟨h1, e⟩), h2⟩
  · have hz : ∀ c, (c = x ∨ c = x + 2 ^ q) → ¬ F q c := fun c hc hh => by
      obtain ⟨e, _⟩ := S.ap q c (q + 1) x c (.inl hh) (.inr hT) (self_in q c) (hin c c hc (self_in q c))
      omega
    rw [hF'] at h h2
    rcases h with h | ⟨rfl, rfl⟩
    · rcases h2 with h2 | ⟨rfl, e⟩
      · exact S.nb o a h ho h2
      · have hal := (S.al o a (.inl h)).2.1
        have e2 := (bud_back hal).1
        rw [e] at e2
        refine hz a ?_ h
        rcases hyz with ⟨rfl, _⟩ | ⟨rfl, _⟩
        · rw [u1] at e2; exact .inr e2.symm
        · rw [u2] at e2; exact .inl e2.symm
    · rcases h2 with h2 | ⟨_, e⟩
      · refine hz _ ?_ h2
        rcases hyz with ⟨rfl, _⟩ | ⟨rfl, _⟩
        · rw [u1]; exact .inr rfl
        · rw [u2]; exact .inl rfl
      · rcases hyz with ⟨rfl, _⟩ | ⟨rfl, _⟩
        · rw [u1] at e; omega
        · rw [u2] at e; omega
/-- A block in hand and its free buddy are one block in hand. -/
theorem Stk.join (S : Stk n F T) {q x lo : Nat} (hq : q < 10) (hT : T q x) (hF : F q (bud q x)) (hlo : lo = if bud q x < x then bud q x else x) (hF' : ∀ o a, F' o a ↔ F o a ∧ ¬ (o = q ∧ a = bud q x)) (hT' : ∀ o a, T' o a ↔ (T o a ∧ ¬ (o = q ∧ a = x)) ∨ (o = q + 1 ∧ a = lo)) : Stk n F' T' := by
  obtain ⟨_, alx, fit⟩ := S.al _ _ (.inr hT)
  obtain ⟨_, alb, fib⟩ := S.al _ _ (.inl hF)
  have hp := Nat.one_le_two_pow (n := q)
  have hpow : 2 ^ (q + 1) = 2 ^ q + 2 ^ q := by rw [Nat.pow_succ]; omega
  have hpair : lo % 2 ^ (q + 1) = 0 ∧ ((x = lo ∧ bud q x = lo + 2 ^ q) ∨ (x = lo + 2 ^ q ∧ bud q x = lo)) := by
    rcases bud_cases alx with ⟨h1, e⟩ | ⟨l, e1, h1, e⟩
    · have : lo = x := by rw [hlo, if_neg (by omega)]
      rw [this]
      exact ⟨h1, .inl ⟨rfl, e⟩⟩
    · have : lo = l := by rw [hlo, if_pos (by omega), e]
      rw [this]
      exact ⟨h1, .inr ⟨e1, e⟩⟩
  obtain ⟨all, hpr⟩ := hpair
  generalize bud q x = y at *
  have hin : ∀ f, inB (q + 1) lo f ↔ inB q x f ∨ inB q y f := fun f => by
    rw [inB_halves]
    rcases hpr with ⟨rfl, rfl⟩ | ⟨rfl, rfl⟩
    · exact Iff.rfl
    · exact Or.comm
  have hu : ∀ o a, F' o a ∨ T' o a ↔ ((F o a ∨ T o a) ∧ ¬ (o = q ∧ (a = x ∨ a = y))) ∨ (o = q + 1 ∧ a = lo) := fun o a => by
    rw [hF', hT']
    have d1 : F o a → ¬ (o = q ∧ a = x) := fun h e => by
      obtain ⟨rfl, rfl⟩ := e
      exact S.dis _ _ h hT
    have d2 : T o a → ¬ (o = q ∧ a = y) := fun h e => by
      obtain ⟨rfl, rfl⟩ := e
      exact S.dis _ _ hF h
    constructor
    · rintro (⟨h1, h2⟩ | (⟨h1, h2⟩ | h))
      · exact .inl ⟨.inl h1, fun e => e.2.elim (fun e2 => d1 h1 ⟨e.1, e2⟩) (fun e2 => h2 ⟨e.1, e2⟩)⟩
      · exact .inl ⟨.inr h1, fun e => e.2.elim (fun e2 => h2 ⟨e.1, e2⟩) (fun e2 => d2 h1 ⟨e.1, e2⟩)⟩
      · exact .inr h
    · rintro (⟨h | h, h2⟩ | h)
      · exact .inl ⟨h, fun e => h2 ⟨e.1, .inr e.2⟩⟩
      · exact .inr (.inl ⟨h, fun e => h2 ⟨e.1, .inl e.2⟩⟩)
      · exact .inr (.inr h)
  have hold : ∀ o a f, F o a ∨ T o a → ¬ (o = q ∧ (a = x ∨ a = y)) → inB o a f → ¬ inB (q + 1) lo f := fun o a f h1 h2 h3 h4 => by
    rcases (hin f).1 h4 with h4 | h4
    · obtain ⟨e1, e2⟩ := S.ap o a q x f h1 (.inr hT) h3 h4
      exact h2 ⟨e1, .inl e2⟩
    · obtain ⟨e1, e2⟩ := S.ap o a q y f h1 (.inl hF) h3 h4
      exact h2 ⟨e1, .inr e2⟩
  refine ⟨fun o a h => ?_, fun o a p b f h1 h2 h3 h4 => ?_, fun o a h h2 => ?_, fun f hf => ?_, fun o a h ho h2 => S.nb o a ((hF' o a).1 h).1 ho ((hF' o _).1 h2).1⟩
  · rcases (hu o a).1 h with h | ⟨rfl, rfl⟩
    · exact S.al o a h.1
    · exact ⟨by omega, all, by omega⟩
  · rcases (hu o a).1 h1 with h1 | ⟨rfl, rfl⟩
    · rcases (hu p b).1 h2 with h2 | ⟨rfl, rfl⟩
      · exact S.ap o a p b f h1.1 h2.1 h3 h4
      · exact absurd h4 (hold o a f h1.1 h1.2 h3)
    · rcases (hu p b).1 h2 with h2 | ⟨rfl, rfl⟩
      · exact absurd h3 (hold p b f h2.1 h2.2 h4)
      · exact ⟨rfl, rfl⟩
  · rw [hF'] at h
    rw [hT'] at h2
    rcases h2 with h2 | ⟨rfl, rfl⟩
    · exact S.dis o a h.1 h2.1
    · exact hold _ _ a (.inl h.1) (fun e => by omega) (self_in _ _) (self_in _ _)
  · obtain ⟨o, a, h1, h2⟩ := S.cov f hf
    by_cases e : o = q ∧ (a = x ∨ a = y)
    · refine ⟨q + 1, lo, (hu _ _).2 (.inr ⟨rfl, rfl⟩), (hin f).2 ?_⟩
      obtain ⟨rfl, rfl | rfl⟩ := e
      · exact .inl h2
      · exact .inr h2
    · exact ⟨o, a, (hu o a).2 (.inl ⟨h1, e⟩), h2⟩
theorem Stk.apart (S : Stk n F T) : Apart F :=
  ⟨fun o a h => (S.al o a (.inl h)).2.1, fun o a h => (S.al o a (.inl h)).1, fun o a p b f h1 h2 => S.ap o a p b f (.inl h1) (.inl h2), S.nb⟩
/-- What is free is told by what is taken. -/
theorem Stk.unique {G U : Nat → Nat → Prop} (S : Stk n F T) (R : Stk n G U) (h : ∀ o a, T o a ↔ U o a) (o a : Nat) : F o a ↔ G o a := by
  have key : ∀ {F T G U : Nat → Nat → Prop}, Stk n F T → Stk n G U → (∀ o a, T o a ↔ U o a) → ∀ f, (∃ o a, F o a ∧ inB o a f) → ∃ o a, G o a ∧ inB o a f := fun {F T G U} S R h f ⟨o, a, h1, h2⟩ => by
    have hf : f < n := by have := (S.al o a (.inl h1)).2.2; have := h2.2; omega
    obtain ⟨p, b, h3, h4⟩ := R.cov f hf
    rcases h3 with h3 | h3
    · exact ⟨p, b, h3, h4⟩
    · exfalso
      have h5 := (h p b).2 h3
      obtain ⟨rfl, rfl⟩ := S.ap o a p b f (.inl h1) (.inr h5) h2 h4
      exact S.dis _ _ h1 h5
  exact S.apart.unique R.apart (fun f => ⟨key S R h f, key R S (fun o a => (h o a).symm) f⟩) o a
end
end Go.Proofs.Ytilcdnkjfbkpnaa
