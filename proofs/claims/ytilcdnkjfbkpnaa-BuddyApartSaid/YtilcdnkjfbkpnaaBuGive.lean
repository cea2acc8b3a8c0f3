/-
  buddy: Give.
-/
import Derived.Test.YtilcdnkjfbkpnaaBuTake
namespace Go.Proofs.Ytilcdnkjfbkpnaa
open Go.RowKit Go Go.Maps

section
variable {n : Nat} {L T : List (Int × Int)}
/-- At one place one order was taken. -/
theorem Inv.one (I : Inv n L T) {x o p : Int} (h1 : (x, o) ∈ T) (h2 : (x, p) ∈ T) : o = p := by
  obtain ⟨a, c, e⟩ := I.natT _ h1
  rw [Prod.mk.injEq] at e
  obtain ⟨rfl, rfl⟩ := e
  obtain ⟨b, c2, e⟩ := I.natT _ h2
  rw [Prod.mk.injEq] at e
  obtain ⟨e, rfl⟩ := e
  obtain rfl : a = b := by omega
  have := (I.stk.ap c a c2 a a (.inr h1) (.inr h2) (self_in _ _) (self_in _ _)).1
  omega
theorem Inv.tk (I : Inv n L T) {x o : Int} (h : (x, o) ∈ T) : tkL T x = some o := by
  cases e : tkL T x with
  | none => exact absurd h (tkL_none.1 e o)
  | some p => rw [I.one h (tkL_some e)]
theorem Inv.cut (I : Inv n L T) {x o : Int} (h : (x, o) ∈ T) : tkL (dropL T (x, o)) = fcut (tkL T) x := by
  funext z
  unfold fcut
  by_cases e : z = x
  · subst e
    rw [if_pos rfl, tkL_none]
    intro p hp
    obtain ⟨h1, h2⟩ := mem_dropL.1 hp
    exact h2 (by rw [I.one h1 h])
  · rw [if_neg e]
    cases e2 : tkL T z with
    | none =>
      rw [tkL_none]
      intro p hp
      exact tkL_none.1 e2 p (mem_dropL.1 hp).1
    | some p =>
      have hp := tkL_some e2
      cases e3 : tkL (dropL T (x, o)) z with
      | none => exact absurd (mem_dropL.2 ⟨hp, fun e4 => e (by injection e4)⟩) (tkL_none.1 e3 p)
      | some p2 => rw [I.one hp (mem_dropL.1 (tkL_some e3)).1]
/-- What Give comes to. -/
theorem Inv.give (I : Inv n L T) {x o : Nat} (h : ((x : Int), (o : Int)) ∈ T) : Inv n (giveL (10 - o) L (x : Int) o) (dropL T ((x : Int), (o : Int))) ∧ o ≤ 10 ∧ x < n ∧ giveS L T (x : Int) (o : Int) = (0, giveL (10 - o) L (x : Int) o, dropL T ((x : Int), (o : Int))) := by
  obtain ⟨h1, h2, h3⟩ := I.stk.al o x (.inr h)
  have hp := Nat.one_le_two_pow (n := o)
  obtain ⟨S, R, N⟩ := give_stk (10 - o) L x o _ I.stk h I.ris I.nat (by omega)
  have hT : ∀ q a, (memL T q a ∧ ¬ (q = o ∧ a = x)) ↔ memL (dropL T ((x : Int), (o : Int))) q a := fun q a => (memL_drop q a).symm
  rw [set_eq hT] at S
  refine ⟨⟨I.n1, I.n2, S, R, N, fun p hp => I.natT p (mem_dropL.1 hp).1⟩, h1, by omega, ?_⟩
  unfold giveS
  rw [if_pos (List.contains_iff_mem.2 h), Int.toNat_natCast]
theorem Inv.giveAny (I : Inv n L T) (x o : Int) : Inv n (giveS L T x o).2.1 (giveS L T x o).2.2 := by
  by_cases h : (x, o) ∈ T
  · obtain ⟨a, b, e⟩ := I.natT _ h
    rw [Prod.mk.injEq] at e
    obtain ⟨rfl, rfl⟩ := e
    obtain ⟨J, _, _, e⟩ := I.give h
    rw [e]
    exact J
  · unfold giveS
    rw [if_neg (fun h2 => h (List.contains_iff_mem.1 h2))]
    exact I
end
section
variable {w : World} {d n : Nat} {mb : Nat → Nat} {tb : Nat} {L T : List (Int × Int)}
def Give6 (w : World) (d n : Nat) (mb : Nat → Nat) (tb : Nat) (L T : List (Int × Int)) (x o : Int) (e : Ending) (w' : World) : Prop :=
  e = .returned (.int .i64 (giveS L T x o).1) ∧ NodeAt w' d n mb tb (giveS L T x o).2.1 (giveS L T x o).2.2 ∧ Only (own6 mb tb) w w'
set_option maxRecDepth 100000 in
set_option maxHeartbeats 2000000 in
theorem give6_any (N : NodeAt w d n mb tb L T) (I : Inv n L T) (x o : Int) (hx : -9223372036854775808 ≤ x ∧ x ≤ 9223372036854775807) :
    Calls Try.prog 15 #[.pointer (some ⟨d, 0, none⟩), .int .i64 x, .int .i64 o] w (Give6 w d n mb tb L T x o) := by
  by_cases hm : (x, o) ∈ T
  · obtain ⟨a, b, e⟩ := I.natT _ hm
    rw [Prod.mk.injEq] at e
    obtain ⟨rfl, rfl⟩ := e
    obtain ⟨J, hb, han, e⟩ := I.give hm
    have HE := Lib.hid e
    have HC := Lib.hid (I.cut hm)
    have HTK := Lib.hid (I.tk hm)
    have hn2 := I.n2
    have HN := Lib.hid N
    clear e
    go_enter Try.func15, Try.ntmps15
    go_wp2_with (fail)
    refine (missing_any HN.out I.n1).mono ?_
    rintro e w' ⟨rfl, rfl⟩
    go_wp2_with (fail)
    refine (taken6_any HN.out _ hx).mono ?_
    rintro e w' ⟨rfl, rfl⟩
    rw [HTK.out]
    have c12 := N.c12
    go_wp2_with (first | (at_delete; (refine wpList_drop_fmap rfl _ _ _ _ rfl 3 Try.underlying3 Try.underlying47 EI tb (tkL T) rfl N.tkn a rfl (int_wf (by omega)) ?_; intro w3 h1 h2)) | fail)
    have HN3 := Lib.hid (N.setT (T' := dropL T ((a : Int), (b : Int))) h1 h2 HC.out (fun p hp => N.tbnd p (mem_dropL.1 hp).1))
    have HO3 := Lib.hid (show Only (own6 mb tb) w w3 from h2.mono fun k hk => .inl hk)
    clear h1 h2 N HN c12
    refine (join_any HN3.out hb (by omega)).mono ?_
    rintro e w4 ⟨rfl, hN4, ho4⟩
    have HF := Lib.hid (show Give6 w d n mb tb L T (a : Int) (b : Int) (.returned (.int .i64 0)) w4 by
      unfold Give6
      rw [HE.out]
      exact ⟨rfl, hN4, HO3.out.trans (ho4.mono fun k hk => .inr hk)⟩)
    clear hN4 ho4
    go_wp2_with (fail)
    go_ret
    exact HF.out
  · have HF := Lib.hid (show Give6 w d n mb tb L T x o (.returned (.int .i64 2)) w by
      unfold Give6 giveS
      rw [if_neg (fun h2 => hm (List.contains_iff_mem.1 h2))]
      exact ⟨rfl, N, Only.refl _ _⟩)
    cases e : tkL T x with
    | none =>
      have HTK := Lib.hid e
      clear e
      go_enter Try.func15, Try.ntmps15
      go_wp2_with (fail)
      refine (missing_any N I.n1).mono ?_
      rintro e w' ⟨rfl, rfl⟩
      go_wp2_with (fail)
      refine (taken6_any N _ hx).mono ?_
      rintro e w' ⟨rfl, rfl⟩
      rw [HTK.out]
      go_wp2_with (fail)
      go_ret
      exact HF.out
    | some p =>
      have HTK := Lib.hid e
      have hne : (p == o) = false := by
        have : p ≠ o := fun e2 => hm (by subst e2; exact tkL_some e)
        simpa using this
      clear e
      go_enter Try.func15, Try.ntmps15
      go_wp2_with (fail)
      refine (missing_any N I.n1).mono ?_
      rintro e w' ⟨rfl, rfl⟩
      go_wp2_with (fail)
      refine (taken6_any N _ hx).mono ?_
      rintro e w' ⟨rfl, rfl⟩
      rw [HTK.out]
      go_wp2_with (fail)
      go_ret
      exact HF.out
end
end Go.Proofs.Ytilcdnkjfbkpnaa
