/-
  buddy's document: its lists are a node's free blocks. Pure.
-/
import Derived.Test.YtilcdnkjfbkpnaaBdPure
import Derived.Test.YtilcdnkjfbkpnaaNodeB
namespace Go.Proofs.Ytilcdnkjfbkpnaa

def memL (L : List (Int × Int)) (o a : Nat) : Prop := ((a : Int), (o : Int)) ∈ L
/-- Numbers from 0 on. -/
def NatL (L : List (Int × Int)) : Prop := ∀ p ∈ L, ∃ a o : Nat, p = ((a : Int), (o : Int))
theorem memL_drop {L : List (Int × Int)} {p x : Nat} (o a : Nat) : memL (dropL L ((x : Int), (p : Int))) o a ↔ memL L o a ∧ ¬ (o = p ∧ a = x) := by
  unfold memL
  rw [mem_dropL]
  have e : ((a : Int), (o : Int)) ≠ ((x : Int), (p : Int)) ↔ ¬ (o = p ∧ a = x) := by
    rw [ne_eq, Prod.mk.injEq]
    omega
  rw [e]
theorem memL_put {L : List (Int × Int)} {p x : Nat} (o a : Nat) : memL (putL L ((x : Int), (p : Int))) o a ↔ memL L o a ∨ (o = p ∧ a = x) := by
  unfold memL
  rw [mem_putL, Prod.mk.injEq]
  exact or_congr Iff.rfl (by omega)
theorem NatL.drop {L : List (Int × Int)} (h : NatL L) (x : Int × Int) : NatL (dropL L x) := fun p hp => h p (mem_dropL.1 hp).1
theorem NatL.put {L : List (Int × Int)} (h : NatL L) (x o : Nat) : NatL (putL L ((x : Int), (o : Int))) := fun p hp => (mem_putL.1 hp).elim (h p) (fun e => ⟨x, o, e⟩)
theorem Stk.rising {n : Nat} {L : List (Int × Int)} {T : Nat → Nat → Prop} (S : Stk n (memL L) T) {p x : Nat} (hT : T p x) (hN : NatL L) : ∀ q ∈ L, q.1 ≠ (x : Int) := fun q hq e => by
  obtain ⟨a, o, rfl⟩ := hN q hq
  obtain rfl : a = x := by
    have e : (a : Int) = (x : Int) := e
    omega
  obtain ⟨rfl, _⟩ := S.ap o a p a a (.inl hq) (.inr hT) (self_in _ _) (self_in _ _)
  exact S.dis _ _ hq hT
theorem set_eq {T U : Nat → Nat → Prop} (h : ∀ o a, T o a ↔ U o a) : T = U := by
  funext o a
  exact propext (h o a)

/-- Where the block that is had begins. -/
def cutA (high : Bool) (od d : Nat) (x : Nat) : Nat := if high = true then x + (2 ^ (od + d) - 2 ^ od) else x
theorem cutA_next (od d x : Nat) : cutA true od d (x + 2 ^ (od + d)) = cutA true od (d + 1) x := by
  unfold cutA
  have h1 : 2 ^ od ≤ 2 ^ (od + d) := Nat.pow_le_pow_right (by decide) (by omega)
  rw [if_pos rfl, if_pos rfl, ← Nat.add_assoc, Nat.pow_succ]
  omega
theorem split_stk {n od : Nat} {high : Bool} : ∀ (d : Nat) (L : List (Int × Int)) (x : Nat) (T : Nat → Nat → Prop), Stk n (memL L) T → T (od + d) x → Rising L → NatL L →
    (splitL high od d L (x : Int)).2 = (cutA high od d x : Nat) ∧ Stk n (memL (splitL high od d L (x : Int)).1) (fun o a => (T o a ∧ ¬ (o = od + d ∧ a = x)) ∨ (o = od ∧ a = cutA high od d x)) ∧ Rising (splitL high od d L (x : Int)).1 ∧ NatL (splitL high od d L (x : Int)).1
  | 0, L, x, T, S, hT, hR, hN => by
    have e : cutA high od 0 x = x := by unfold cutA; split <;> simp
    rw [e]
    refine ⟨rfl, ?_, hR, hN⟩
    have : (fun o a => (T o a ∧ ¬ (o = od + 0 ∧ a = x)) ∨ (o = od ∧ a = x)) = T := set_eq fun o a => by
      constructor
      · rintro (h | ⟨rfl, rfl⟩)
        · exact h.1
        · exact hT
      · intro h
        by_cases e : o = od ∧ a = x
        · exact .inr e
        · exact .inl ⟨h, e⟩
    rw [this]
    exact S
  | d + 1, L, x, T, S, hT, hR, hN => by
    have hT' : T (od + d + 1) x := hT
    have hxl := (S.al _ _ (.inr hT')).2.1
    cases high with
    | true =>
      have e : splitL true od (d + 1) L (x : Int) = splitL true od d (putL L ((x : Int), ((od + d : Nat) : Int))) (((x + 2 ^ (od + d) : Nat)) : Int) := by
        show (if true = true then _ else _) = _
        rw [if_pos rfl]
        congr 1
      rw [e]
      have S2 := S.cut (q := od + d) (y := x) (z := x + 2 ^ (od + d)) hT' (.inl ⟨rfl, rfl⟩) (fun o a => memL_put o a) (fun o a => Iff.rfl)
      have ih := split_stk (high := true) d _ (x + 2 ^ (od + d)) _ S2 (.inr ⟨rfl, rfl⟩) (hR.putL (S.rising hT hN)) (hN.put _ _)
      rw [cutA_next] at ih
      refine ⟨ih.1, ?_, ih.2.2⟩
      have hset : (fun o a => (((T o a ∧ ¬ (o = od + d + 1 ∧ a = x)) ∨ (o = od + d ∧ a = x + 2 ^ (od + d))) ∧ ¬ (o = od + d ∧ a = x + 2 ^ (od + d))) ∨ (o = od ∧ a = cutA true od (d + 1) x)) = fun o a => (T o a ∧ ¬ (o = od + (d + 1) ∧ a = x)) ∨ (o = od ∧ a = cutA true od (d + 1) x) := set_eq fun o a => by
        have hno : T o a → ¬ (o = od + d ∧ a = x + 2 ^ (od + d)) := fun h e => by
          obtain ⟨rfl, rfl⟩ := e
          have := S.ap _ _ _ _ (x + 2 ^ (od + d)) (.inr h) (.inr hT') (self_in _ _) (inB_halves.2 (.inr (self_in _ _)))
          omega
        constructor
        · rintro (⟨h | h, h2⟩ | h)
          · exact .inl h
          · exact absurd h h2
          · exact .inr h
        · rintro (h | h)
          · exact .inl ⟨.inl h, hno h.1⟩
          · exact .inr h
      rw [← hset]
      exact ih.2.1
    | false =>
      have e : splitL false od (d + 1) L (x : Int) = splitL false od d (putL L (((x + 2 ^ (od + d) : Nat) : Int), ((od + d : Nat) : Int))) (x : Int) := by
        show (if false = true then _ else _) = _
        rw [if_neg (by decide)]
        congr 1
      rw [e]
      have S2 := S.cut (q := od + d) (y := x + 2 ^ (od + d)) (z := x) hT' (.inr ⟨rfl, rfl⟩) (fun o a => memL_put o a) (fun o a => Iff.rfl)
      have hno1 : ∀ q ∈ L, q.1 ≠ ((x + 2 ^ (od + d) : Nat) : Int) := fun q hq e => by
        obtain ⟨a, o, rfl⟩ := hN q hq
        have ea : a = x + 2 ^ (od + d) := by
          have : (a : Int) = ((x + 2 ^ (od + d) : Nat) : Int) := e
          omega
        subst ea
        have h1 := S.ap o _ _ x (x + 2 ^ (od + d)) (.inl hq) (.inr hT') (self_in _ _) (inB_halves.2 (.inr (self_in _ _)))
        have hp := Nat.one_le_two_pow (n := od + d)
        omega
      have ih := split_stk (high := false) d _ x _ S2 (.inr ⟨rfl, rfl⟩) (hR.putL hno1) (hN.put _ _)
      refine ⟨ih.1, ?_, ih.2.2⟩
      have hset : (fun o a => (((T o a ∧ ¬ (o = od + d + 1 ∧ a = x)) ∨ (o = od + d ∧ a = x)) ∧ ¬ (o = od + d ∧ a = x)) ∨ (o = od ∧ a = cutA false od d x)) = fun o a => (T o a ∧ ¬ (o = od + (d + 1) ∧ a = x)) ∨ (o = od ∧ a = cutA false od (d + 1) x) := set_eq fun o a => by
        have hno : T o a → ¬ (o = od + d ∧ a = x) := fun h e => by
          obtain ⟨rfl, rfl⟩ := e
          have := S.ap _ _ _ _ a (.inr h) (.inr hT') (self_in _ _) (self_in _ _)
          omega
        have ec : cutA false od d x = cutA false od (d + 1) x := rfl
        rw [ec]
        constructor
        · rintro (⟨h | h, h2⟩ | h)
          · exact .inl h
          · exact absurd h h2
          · exact .inr h
        · rintro (h | h)
          · exact .inl ⟨.inl h, hno h.1⟩
          · exact .inr h
      rw [← hset]
      exact ih.2.1

theorem budA_nat (o x : Nat) : budA (x : Int) o = (bud o x : Nat) ∧ lowA (x : Int) o = ((if bud o x < x then bud o x else x : Nat) : Int) := by
  have hp := Nat.one_le_two_pow (n := o)
  unfold budA lowA bud
  have e : ((x : Int) / ((2 ^ o : Nat) : Int) % 2 = 1) ↔ x / 2 ^ o % 2 = 1 := by
    rw [← Int.natCast_ediv]
    omega
  generalize 2 ^ o = p at *
  by_cases h : x / p % 2 = 1
  · rw [if_pos (e.2 h), if_pos (e.2 h), if_pos h]
    have hx : p ≤ x := by
      by_cases hx : p ≤ x
      · exact hx
      · rw [Nat.div_eq_of_lt (by omega)] at h
        omega
    rw [if_pos (by omega)]
    omega
  · rw [if_neg (fun hh => h (e.1 hh)), if_neg (fun hh => h (e.1 hh)), if_neg h, if_neg (by omega)]
    omega
theorem give_stk {n : Nat} : ∀ (d : Nat) (L : List (Int × Int)) (x o : Nat) (T : Nat → Nat → Prop), Stk n (memL L) T → T o x → Rising L → NatL L → o + d = 10 →
    Stk n (memL (giveL d L (x : Int) o)) (fun q a => T q a ∧ ¬ (q = o ∧ a = x)) ∧ Rising (giveL d L (x : Int) o) ∧ NatL (giveL d L (x : Int) o)
  | 0, L, x, o, T, S, hT, hR, hN, ho => by
    show Stk n (memL (putL L ((x : Int), (o : Int)))) _ ∧ Rising (putL L ((x : Int), (o : Int))) ∧ NatL (putL L ((x : Int), (o : Int)))
    exact ⟨S.back hT (fun h => by omega) (fun q a => memL_put q a) (fun q a => Iff.rfl), hR.putL (S.rising hT hN), hN.put _ _⟩
  | d + 1, L, x, o, T, S, hT, hR, hN, ho => by
    obtain ⟨e1, e2⟩ := budA_nat o x
    have e : giveL (d + 1) L (x : Int) o = if L.contains ((bud o x : Nat), (o : Int)) = true then giveL d (dropL L ((bud o x : Nat), (o : Int))) ((if bud o x < x then bud o x else x : Nat) : Int) (o + 1) else putL L ((x : Int), (o : Int)) := by
      show (if L.contains (budA (x : Int) o, (o : Int)) = true then _ else _) = _
      rw [e1, e2]
    rw [e]
    by_cases hc : L.contains (((bud o x : Nat) : Int), (o : Int)) = true
    · rw [if_pos hc]
      have hF : memL L o (bud o x) := List.contains_iff_mem.1 hc
      have S2 := S.join (by omega) hT hF rfl (fun q a => memL_drop q a) (fun q a => Iff.rfl)
      have ih := give_stk d _ _ (o + 1) _ S2 (.inr ⟨rfl, rfl⟩) (hR.dropL _) (hN.drop _) (by omega)
      refine ⟨?_, ih.2⟩
      have hset : (fun q a => ((T q a ∧ ¬ (q = o ∧ a = x)) ∨ (q = o + 1 ∧ a = if bud o x < x then bud o x else x)) ∧ ¬ (q = o + 1 ∧ a = if bud o x < x then bud o x else x)) = fun q a => T q a ∧ ¬ (q = o ∧ a = x) := set_eq fun q a => by
        have hno : T q a → ¬ (q = o + 1 ∧ a = if bud o x < x then bud o x else x) := fun h e => by
          obtain ⟨rfl, rfl⟩ := e
          have alx := (S.al o x (.inr hT)).2.1
          have hin : inB (o + 1) (if bud o x < x then bud o x else x) x := by
            have hp := Nat.one_le_two_pow (n := o)
            rcases bud_cases alx with ⟨_, e⟩ | ⟨l, e3, _, e⟩
            · rw [if_neg (by omega)]; exact self_in _ _
            · rw [if_pos (by omega), e, e3]
              exact inB_halves.2 (.inr (self_in _ _))
          have := S.ap _ _ _ _ x (.inr h) (.inr hT) hin (self_in _ _)
          omega
        constructor
        · rintro ⟨h | h, h2⟩
          · exact h
          · exact absurd h h2
        · intro h
          exact ⟨.inl h, hno h.1⟩
      rw [← hset]
      exact ih.1
    · rw [if_neg hc]
      exact ⟨S.back hT (fun _ h => hc (List.contains_iff_mem.2 h)) (fun q a => memL_put q a) (fun q a => Iff.rfl), hR.putL (S.rising hT hN), hN.put _ _⟩
end Go.Proofs.Ytilcdnkjfbkpnaa
