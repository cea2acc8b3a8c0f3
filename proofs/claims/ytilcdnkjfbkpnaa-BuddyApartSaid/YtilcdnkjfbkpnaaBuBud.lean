/-
  buddy: where a buddy begins; cut; join.
-/
import Derived.Test.YtilcdnkjfbkpnaaBuNew
namespace Go.Proofs.Ytilcdnkjfbkpnaa
open Go.RowKit Go

theorem xor_bud {x o : Nat} (hx : x < 128) (ho : o ≤ 10) : bits .xor .i64 (x : Int) ((2 ^ o : Nat) : Int) = ((bud o x : Nat) : Int) := by
  have h : ((List.range 128).all fun x => (List.range 11).all fun o => bits .xor .i64 (x : Int) ((2 ^ o : Nat) : Int) == ((bud o x : Nat) : Int)) = true := by decide +kernel
  exact eq_of_beq (List.all_eq_true.1 (List.all_eq_true.1 h x (List.mem_range.2 hx)) o (List.mem_range.2 (by omega)))
set_option maxRecDepth 100000 in
theorem buddy_of {x o : Nat} {z : Int} (hx : x < 128) (ho : o ≤ 10) (hz : z = o) {y : Nat} (hy : bud o x = y) (w : World) : Calls Try.prog 41 #[.int .i64 x, .int .i64 z] w fun e w' => e = .returned (.int .i64 y) ∧ w = w' := by
  subst hz
  subst hy
  obtain ⟨p, hp⟩ : ∃ p, 2 ^ o = p := ⟨_, rfl⟩
  have HX := Lib.hid (show bits .xor .i64 (x : Int) (p : Int) = ((bud o x : Nat) : Int) by rw [← hp]; exact xor_bud hx ho)
  go_enter Try.func41, Try.ntmps41
  go_wp2_with (fail)
  refine (size_of (k := o) rfl ho hp _).mono ?_
  rintro e w' ⟨rfl, rfl⟩
  go_wp2_with (fail)
  go_ret
  refine ⟨?_, rfl⟩
  rw [← HX.out]; rfl

/-- One of its maps of free blocks. -/
def ownF (mb : Nat → Nat) (k : Nat) : Prop := ∃ o, o < 11 ∧ k = mb o
theorem putL_in {L : List (Int × Int)} {x : Int × Int} (h : ∀ p ∈ L, 0 ≤ p.1 ∧ p.1 < 128) (hx : 0 ≤ x.1 ∧ x.1 < 128) : ∀ p ∈ putL L x, 0 ≤ p.1 ∧ p.1 < 128 := fun p hp => (mem_putL.1 hp).elim (h p) (fun e => e ▸ hx)
section
variable {w : World} {d n : Nat} {mb : Nat → Nat} {tb : Nat} {L T : List (Int × Int)}
def Cut6 (w : World) (d n : Nat) (mb : Nat → Nat) (tb : Nat) (L T : List (Int × Int)) (high : Bool) (od d1 x : Nat) (e : Ending) (w' : World) : Prop :=
  e = .returned (.int .i64 (splitL high od d1 L (x : Int)).2) ∧ NodeAt w' d n mb tb (splitL high od d1 L (x : Int)).1 T ∧ Only (ownF mb) w w'
set_option maxRecDepth 100000 in
set_option maxHeartbeats 2000000 in
theorem cut_any (N : NodeAt w d n mb tb L T) {x q od : Nat} (hq : q ≤ 10) (ho : od ≤ q) (ha : x % 2 ^ q = 0) (hx : x + 2 ^ q ≤ 128) (high : Bool) :
    Calls Try.prog 30 #[.pointer (some ⟨d, 0, none⟩), .agg #[.int .i64 x, .int .i64 q], .int .i64 od, .bool high] w (Cut6 w d n mb tb L T high od (q - od) x) := by
  have HN0 := Lib.hid (N.later ((Below.refl _ w).alloc (Nat.le_refl _) (.cells #[.int .i64 x, .int .i64 q] 42)))
  have HO0 := Lib.hid (Only.alloc (ownF mb) w (.cells #[.int .i64 x, .int .i64 q] 42))
  go_enter Try.func30, Try.ntmps30
  go_wp2_with (fail)
  generalize w.alloc (.cells #[.int .i64 x, .int .i64 q] 42) = w1 at *
  go_loopw [9, 10] (fun h i wr => ∃ (r y : Nat) (z : Int) (M : List (Int × Int)), h = .int .i64 y ∧ i = .int .i64 z ∧ z = (r : Int) - 1 ∧ od ≤ r ∧ r ≤ q ∧ Hid (y % 2 ^ r = 0 ∧ y + 2 ^ r ≤ 128) ∧ Hid (splitL high od (r - od) M (y : Int) = splitL high od (q - od) L (x : Int)) ∧ NodeAt wr d n mb tb M T ∧ Only (ownF mb) w wr)
    (fun _ i _ => (intOf i + 1).toNat)
  case atStart => exact ⟨q, x, (q : Int) - 1, L, rfl, by go_num, rfl, ho, Nat.le_refl _, ⟨ha, hx⟩, rfl, HN0.out, HO0.out⟩
  case round =>
    clear HN0 HO0
    obtain ⟨r, y, z, M, rfl, rfl, hz, hr, hrq, HA, HE, hN, hO⟩ := hrel
    have HN := Lib.hid hN
    have HO := Lib.hid hO
    clear hN hO
    by_cases hlt : od < r
    · obtain ⟨s, rfl⟩ : ∃ s, r = s + 1 := ⟨r - 1, by omega⟩
      obtain rfl : z = (s : Int) := by omega
      clear hz
      obtain ⟨u1, u2⟩ := up_al HA.out.1
      have hpow : 2 ^ (s + 1) = 2 ^ s + 2 ^ s := by rw [Nat.pow_succ]; omega
      obtain ⟨p, hp⟩ : ∃ p, 2 ^ s = p := ⟨_, rfl⟩
      have hy2 := HA.out.2
      have hpp := Nat.one_le_two_pow (n := s)
      rw [hpow, hp] at hy2
      rw [hp] at u1 hpp
      obtain ⟨b1, b2, _⟩ := half_up HA.out.1
      rw [hp] at b2
      have hsub : s + 1 - od = (s - od) + 1 := by omega
      have hds : od + (s - od) = s := by omega
      have hzz : ((od + (s - od) : Nat) : Int) = (s : Int) := by rw [hds]
      have HU := Lib.hid u1
      have hle : (od : Int) ≤ (s : Int) := by omega
      cases high with
      | true =>
        have HE2 := Lib.hid (show splitL true od (s - od) (putL M ((y : Int), (s : Int))) ((y + p : Nat) : Int) = splitL true od (q - od) L (x : Int) by
          rw [← HE.out, hsub]
          show _ = (if true = true then splitL true od (s - od) (putL M ((y : Int), ((od + (s - od) : Nat) : Int))) ((y : Int) + ((2 ^ (od + (s - od)) : Nat) : Int)) else _)
          rw [if_pos rfl, hds, hp]
          rfl)
        have HA2 := Lib.hid (show (y + p) % 2 ^ s = 0 ∧ y + p + 2 ^ s ≤ 128 from by rw [hp]; exact ⟨b2, by omega⟩)
        clear hp u1 u2 b1 b2 hpow hsub hds hzz HE HA
        go_wp2_with (fail)
        refine (buddy_of (x := y) (o := s) (by omega) (by omega) rfl HU.out _).mono ?_
        rintro e w' ⟨rfl, rfl⟩
        go_wp2_with (fail)
        refine (put6_any HN.out s (by omega) y (by omega)).mono ?_
        rintro e w3 ⟨rfl, hN3, ho3⟩
        have HN3 := Lib.hid hN3
        have HO3 := Lib.hid (HO.out.trans (ho3.mono fun k hk => ⟨s, by omega, hk⟩))
        clear hN3 ho3 HN HO
        go_wp2_with (fail)
        go_roundw
        case rel => exact ⟨s, y + p, (s : Int) - 1, _, by go_num, by go_num, rfl, by omega, by omega, HA2, HE2, HN3.out, HO3.out⟩
        case measure => simp [intOf]
      | false =>
        have HE2 := Lib.hid (show splitL false od (s - od) (putL M (((y + p : Nat) : Int), (s : Int))) (y : Int) = splitL false od (q - od) L (x : Int) by
          rw [← HE.out, hsub]
          show _ = (if false = true then _ else splitL false od (s - od) (putL M ((y : Int) + ((2 ^ (od + (s - od)) : Nat) : Int), ((od + (s - od) : Nat) : Int))) (y : Int))
          rw [if_neg (by decide), hds, hp]
          rfl)
        have HA2 := Lib.hid (show y % 2 ^ s = 0 ∧ y + 2 ^ s ≤ 128 from ⟨b1, by rw [hp]; omega⟩)
        clear hp u1 u2 b1 b2 hpow hsub hds hzz HE HA
        go_wp2_with (fail)
        refine (buddy_of (x := y) (o := s) (by omega) (by omega) rfl HU.out _).mono ?_
        rintro e w' ⟨rfl, rfl⟩
        go_wp2_with (fail)
        refine (put6_any HN.out s (by omega) ((y + p : Nat) : Int) (by omega)).mono ?_
        rintro e w3 ⟨rfl, hN3, ho3⟩
        have HN3 := Lib.hid hN3
        have HO3 := Lib.hid (HO.out.trans (ho3.mono fun k hk => ⟨s, by omega, hk⟩))
        clear hN3 ho3 HN HO
        go_wp2_with (fail)
        go_roundw
        case rel => exact ⟨s, y, (s : Int) - 1, _, by go_num, by go_num, rfl, by omega, by omega, HA2, HE2, HN3.out, HO3.out⟩
        case measure => simp [intOf]
    · obtain rfl : r = od := by omega
      have HF := Lib.hid (show Cut6 w d n mb tb L T high r (q - r) x (.returned (.int .i64 y)) wr from by
        have e := HE.out
        rw [Nat.sub_self] at e
        unfold Cut6
        rw [← e]
        exact ⟨rfl, HN.out, HO.out⟩)
      have hlt2 : ¬ ((r : Int) ≤ z) := by omega
      clear HE HN HO HA
      go_wp2_with (fail)
      go_ret
      exact HF.out
def Join6 (w : World) (d n : Nat) (mb : Nat → Nat) (tb : Nat) (L T : List (Int × Int)) (x o : Nat) (e : Ending) (w' : World) : Prop :=
  e = .returned (.tuple #[]) ∧ NodeAt w' d n mb tb (giveL (10 - o) L (x : Int) o) T ∧ Only (ownF mb) w w'
set_option maxRecDepth 100000 in
set_option maxHeartbeats 2000000 in
theorem join_any (N : NodeAt w d n mb tb L T) {x o : Nat} (ho : o ≤ 10) (hx : x < 128) :
    Calls Try.prog 33 #[.pointer (some ⟨d, 0, none⟩), .int .i64 x, .int .i64 o] w (Join6 w d n mb tb L T x o) := by
  have HN0 := Lib.hid N
  go_enter Try.func33, Try.ntmps33
  go_wp2_with (fail)
  go_loopw [1, 2] (fun h i wr => ∃ (s y : Nat) (M : List (Int × Int)), h = .int .i64 y ∧ i = .int .i64 s ∧ s ≤ 10 ∧ y < 128 ∧ Hid (giveL (10 - s) M (y : Int) s = giveL (10 - o) L (x : Int) o) ∧ NodeAt wr d n mb tb M T ∧ Only (ownF mb) w wr)
    (fun _ i _ => 10 - (intOf i).toNat)
  case atStart => exact ⟨o, x, L, rfl, rfl, ho, hx, rfl, HN0.out, Only.refl _ _⟩
  case round =>
    clear HN0
    obtain ⟨s, y, M, rfl, rfl, hs, hy, HE, hN, hO⟩ := hrel
    have HN := Lib.hid hN
    have HO := Lib.hid hO
    clear hN hO
    by_cases hlt : s < 10
    · obtain ⟨z, hz⟩ : ∃ z, bud s y = z := ⟨_, rfl⟩
      have hz2 : z < 2000 := by
        have h1 := (two_pow_small (k := s) (by omega)).2
        rw [← hz]
        unfold bud
        generalize 2 ^ s = p at *
        split <;> omega
      have HZ := Lib.hid hz
      obtain ⟨g1, g2⟩ := budA_nat s y
      have hsub : 10 - s = (10 - (s + 1)) + 1 := by omega
      have hg : giveL (10 - s) M (y : Int) s = if M.contains ((z : Int), (s : Int)) = true then giveL (10 - (s + 1)) (dropL M ((z : Int), (s : Int))) ((if z < y then z else y : Nat) : Int) (s + 1) else putL M ((y : Int), (s : Int)) := by
        rw [hsub]
        show (if M.contains (budA (y : Int) s, (s : Int)) = true then giveL (10 - (s + 1)) (dropL M (budA (y : Int) s, (s : Int))) (lowA (y : Int) s) (s + 1) else putL M ((y : Int), (s : Int))) = _
        rw [g1, g2, hz]
      have HG := Lib.hid (hg.symm.trans HE.out)
      clear hg g1 g2 hz hsub HE
      by_cases hc : ((z : Int), (s : Int)) ∈ M
      · have hb := (HN.out.bnd _ hc).2
        have HH := Lib.hid (show (frL M s (z : Int)).isSome = true from frL_some.2 hc)
        have HG2 := Lib.hid (show giveL (10 - (s + 1)) (dropL M ((z : Int), (s : Int))) ((if z < y then z else y : Nat) : Int) (s + 1) = giveL (10 - o) L (x : Int) o by
          rw [← HG.out, if_pos (List.contains_iff_mem.2 hc)])
        clear hc HG
        go_wp2_with (fail)
        refine (buddy_of (x := y) (o := s) hy (by omega) rfl HZ.out _).mono ?_
        rintro e w' ⟨rfl, rfl⟩
        go_wp2_with (fail)
        refine (has_any HN.out s (by omega) z (by omega)).mono ?_
        rintro e w2 ⟨rfl, hb2⟩
        rw [HH.out]
        have HN2 := Lib.hid (HN.out.later hb2)
        have HO2 := Lib.hid (HO.out.trans (Only.of_below hb2))
        clear hb2 HN HO
        go_wp2_with (fail)
        refine (buddy_of (x := y) (o := s) hy (by omega) rfl HZ.out _).mono ?_
        rintro e w' ⟨rfl, rfl⟩
        have hT := HN2.out.free s (by omega)
        have hcf := HN2.out.cf (o := s) (by omega)
        have hw := int_wf (x := (z : Int)) (by omega)
        go_wp2_with (first | (at_delete; (refine wpList_drop_fmap rfl _ _ _ _ rfl 76 Try.underlying3 Try.underlying45 EU (mb s) (frL M s) rfl hT z rfl hw ?_; intro w3 h1 h2)) | fail)
        have HN3 := Lib.hid (HN2.out.setF (o := s) (L' := dropL M ((z : Int), (s : Int))) (by omega) h1 h2 (by rw [frL_drop, if_pos rfl]) (fun p hp => by rw [frL_drop, if_neg hp]) (fun p hp => HN2.out.bnd p (mem_dropL.1 hp).1))
        have HO3 := Lib.hid (HO2.out.trans (h2.mono fun k hk => ⟨s, by omega, hk⟩))
        clear hT hcf hw h1 h2 HN2 HO2
        refine ⟨⟨s + 1, if z < y then z else y, _, by split <;> rfl, by go_num, by omega, by split <;> omega, HG2, HN3.out, HO3.out⟩, ?_⟩
        simp [intOf]; omega
      · have HH := Lib.hid (show (frL M s (z : Int)).isSome = false by
          cases h : (frL M s (z : Int)).isSome with
          | false => rfl
          | true => exact absurd (frL_some.1 h) hc)
        have HG2 := Lib.hid (show putL M ((y : Int), (s : Int)) = giveL (10 - o) L (x : Int) o by
          rw [← HG.out, if_neg (fun h => hc (List.contains_iff_mem.1 h))])
        clear hc HG
        go_wp2_with (fail)
        refine (buddy_of (x := y) (o := s) hy (by omega) rfl HZ.out _).mono ?_
        rintro e w' ⟨rfl, rfl⟩
        go_wp2_with (fail)
        refine (has_any HN.out s (by omega) z (by omega)).mono ?_
        rintro e w2 ⟨rfl, hb2⟩
        rw [HH.out]
        have HN2 := Lib.hid (HN.out.later hb2)
        have HO2 := Lib.hid (HO.out.trans (Only.of_below hb2))
        clear hb2 HN HO
        go_wp2_with (fail)
        refine (put6_any HN2.out s (by omega) y (by omega)).mono ?_
        rintro e w3 ⟨rfl, hN3, ho3⟩
        have HF := Lib.hid (show Join6 w d n mb tb L T x o (.returned (.tuple #[])) w3 from ⟨rfl, by rw [← HG2.out]; exact hN3, HO2.out.trans (ho3.mono fun k hk => ⟨s, by omega, hk⟩)⟩)
        clear hN3 ho3 HN2 HO2 HG2
        go_wp2_with (fail)
        go_end0
        exact HF.out
    · obtain rfl : s = 10 := by omega
      rw [show ((10 : Nat) : Int) = 10 from rfl]
      have hHE := HE.out
      rw [Nat.sub_self] at hHE
      have HG2 := Lib.hid (show putL M ((y : Int), ((10 : Nat) : Int)) = giveL (10 - o) L (x : Int) o from hHE)
      clear HE hHE
      go_wp2_with (fail)
      refine (put6_any HN.out 10 (by omega) y (by omega)).mono ?_
      rintro e w3 ⟨rfl, hN3, ho3⟩
      have HF := Lib.hid (show Join6 w d n mb tb L T x o (.returned (.tuple #[])) w3 from ⟨rfl, by rw [← HG2.out]; exact hN3, HO.out.trans (ho3.mono fun k hk => ⟨10, by omega, hk⟩)⟩)
      clear hN3 ho3 HN HO HG2
      go_wp2_with (fail)
      go_end0
      exact HF.out
end
end Go.Proofs.Ytilcdnkjfbkpnaa
