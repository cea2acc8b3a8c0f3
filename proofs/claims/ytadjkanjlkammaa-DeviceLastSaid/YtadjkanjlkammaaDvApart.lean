/-
  The walk of DeviceApart: it returns true, and below the old heap nothing has turned.
-/
import Derived.Test.YtadjkanjlkammaaDvNone
import Derived.IntWalk
namespace Go.Proofs.Ytadjkanjlkammaa
open Go.RowKit Go

/-- An int as a uint64, modulo so many: below them. -/
theorem u64_mod (x n : Int) (h1 : 1 ≤ n) (h2 : n ≤ 1024) : ∃ k : Nat, (k : Int) < n ∧ wrap64 ((IntKind.u64.wrap x).tmod n) = k := by
  have h0 : 0 ≤ IntKind.u64.wrap x := by rw [IntKind.wrap_u64]; omega
  have e1 : (IntKind.u64.wrap x).tmod n = (IntKind.u64.wrap x) % n := Int.tmod_eq_emod_of_nonneg h0
  have l1 := Int.emod_lt_of_pos (IntKind.u64.wrap x) (show 0 < n by omega)
  have l2 := Int.emod_nonneg (IntKind.u64.wrap x) (show n ≠ 0 by omega)
  refine ⟨((IntKind.u64.wrap x) % n).toNat, by omega, ?_⟩
  rw [e1, IntWalk.wrap64_in _ ⟨by omega, by omega⟩]; omega
theorem clampS_in {n : Int} (h1 : 0 ≤ n) (h2 : n ≤ 1024) : (clampS n : Int) = n := by
  unfold clampS; rw [if_neg (by omega), if_neg (by omega)]; omega
theorem Src.row {w : World} {b : Nat} {x : Nat → UInt8} (R : RowAt w b 256 (byV x)) : Src w (some ⟨b, 0, none⟩) 256 x := Src.of_row R (fun j hj => ⟨by omega, by rw [Nat.zero_add]⟩)
theorem Src.drewN {w : World} {a : Option Addr} {n : Nat} {x : Nat → UInt8} (S : Src w a n x) (m : Nat) : Src (w.drewN m) a n x := S

set_option maxRecDepth 100000 in
set_option maxHeartbeats 4000000 in
theorem lawApart_any (slots at1 other : Int) (a b : Option Addr) (la ca lb cb : Nat) (x y : Nat → UInt8) (w : World) (ha : la ≤ 9223372036854775807) (hb : lb ≤ 9223372036854775807) (SA : Src w a la x) (SB : Src w b lb y) :
    Calls Try.prog 4 #[.int .i64 slots, .int .i64 at1, .int .i64 other, .slice a la ca, .slice b lb cb] w fun e w' => e = .returned (.bool true) ∧ Below w.heap.size w w' := by
  have HSA := Lib.hid SA
  have HSB := Lib.hid SB
  clear SA SB
  by_cases hin : 2 ≤ slots ∧ slots ≤ 1024 ∧ la ≤ 256 ∧ lb ≤ 256
  · obtain ⟨h1, h2, h3, h4⟩ := hin
    obtain ⟨i, hi, ei⟩ := u64_mod at1 slots (by omega) h2
    obtain ⟨k, hk, ek⟩ := u64_mod other slots (by omega) h2
    have HB0 := Lib.hid (fun n => below_drewN (Below.refl w.heap.size w) n)
    by_cases hik : i = k
    · subst hik
      go_enter Try.func4, Try.ntmps4
      go_wp2_with (fail)
      go_quiet (fail)
      have HB1 := Lib.hid (HB0.out nq)
      rw [ei, ek]
      clear ei ek
      go_wp2_with (fail)
      generalize w.drewN nq = w1 at HB1 ⊢
      refine (known_any w1).mono ?_
      rintro e w9 ⟨rfl, hb⟩
      have HB2 := Lib.hid (HB1.out.trans (hb.mono HB1.out.size))
      clear hb
      go_wp2_with (fail)
      go_ret
      exact ⟨rfl, HB2.out⟩
    · have hne : ((i : Int) == (k : Int)) = false := by simp; omega
      go_enter Try.func4, Try.ntmps4
      go_wp2_with (fail)
      go_quiet (fail)
      have HB1 := Lib.hid (HB0.out nq)
      rw [ei, ek]
      clear ei ek HB0
      go_wp2_with (fail)
      generalize w.drewN nq = w1 at HB1 ⊢
      refine (new_any slots w1).mono ?_
      rintro e w2 ⟨D, rfl, H, hn, d1, d2, hb⟩
      have hD : (D.n : Int) = slots := by rw [hn]; exact clampS_in (by omega) h2
      have hiD : i < D.n := by omega
      have hkD : k < D.n := by omega
      have hs1 := HB1.out.size
      have hsb : w.heap.size ≤ D.sb := by omega
      have HB2 := Lib.hid (HB1.out.trans (hb.mono HB1.out.size))
      have H2 := Lib.hid H
      clear hb H hn hne hD hi hk hs1
      go_wp2_with (fail)
      refine (page_any (HSA.out.later HB2.out) h3).mono ?_
      rintro e w3 ⟨g3, c3, rfl, hg3, _, hr, hb⟩
      have HS3 := Lib.hid (Src.row hr)
      have HB3 := Lib.hid (HB2.out.trans (hb.mono HB2.out.size))
      have H3 := Lib.hid (H2.out.later hb)
      clear hr hb H2 hg3
      go_wp2_with (fail)
      refine (write_ok H3.out i hiD _ c3 _ HS3.out).mono ?_
      rintro e w4 ⟨rfl, H, ho⟩
      have HB4 := Lib.hid (ho.below HB3.out HB3.out.size (fun k hk => by omega))
      have H4 := Lib.hid H
      clear H ho H3 HS3
      go_wp2_with (fail)
      refine (page_any (HSB.out.later HB4.out) h4).mono ?_
      rintro e w5 ⟨g5, c5, rfl, hg5, _, hr, hb⟩
      have HS5 := Lib.hid (Src.row hr)
      have HB5 := Lib.hid (HB4.out.trans (hb.mono HB4.out.size))
      have H5 := Lib.hid (H4.out.later hb)
      clear hr hb H4 hg5
      go_wp2_with (fail)
      refine (write_ok H5.out k hkD _ c5 _ HS5.out).mono ?_
      rintro e w6 ⟨rfl, H, ho⟩
      have HB6 := Lib.hid (ho.below HB5.out HB5.out.size (fun k hk => by omega))
      have H6 := Lib.hid H
      clear H ho H5 HS5
      go_wp2_with (fail)
      refine (page_any (HSB.out.later HB6.out) h4).mono ?_
      rintro e w7 ⟨g7, c7, rfl, hg7, _, hr, hb⟩
      have HB7 := Lib.hid (HB6.out.trans (hb.mono HB6.out.size))
      have H7 := Lib.hid (H6.out.later hb)
      clear hr hb H6 hg7
      go_wp2_with (fail)
      refine (write_fail H7.out i ⟨by omega, by omega⟩ _ c7).mono ?_
      rintro e w' ⟨rfl, rfl⟩
      go_wp2_with (fail)
      refine (read_fail H7.out i ⟨by omega, by omega⟩).mono ?_
      rintro e w' ⟨rfl, rfl⟩
      go_wp2_with (fail)
      refine (read_ok H7.out i hiD (padB la x) (fun j hj => by rw [put_else hik j hj, put_here j hj])).mono ?_
      rintro e w8 ⟨g8, c8, rfl, hg8, hr, hb⟩
      have HB8 := Lib.hid (HB7.out.trans (hb.mono HB7.out.size))
      have H8 := Lib.hid (H7.out.later hb)
      have HR8 := Lib.hid hr
      clear hr hb H7 hg8
      go_wp2_with (fail)
      refine (read_ok H8.out k hkD (padB lb y) (fun j hj => put_here j hj)).mono ?_
      rintro e w9 ⟨g9, c9, rfl, hg9, hr, hb⟩
      have HB9 := Lib.hid (HB8.out.trans (hb.mono HB8.out.size))
      have L1 := Lib.hid (show ∀ W, Kept w9.heap.size w9 W → (convert 32 9 (.slice (some ⟨g8, 0, none⟩) 256 c8)).run Try.prog W = .ok (.string (strB 256 (padB la x))) W from
        fun W hW => run_string ((HR8.out.later hb).later hW.below))
      have L2 := Lib.hid (show ∀ W, Kept w9.heap.size w9 W → (convert 32 9 (.slice (some ⟨g9, 0, none⟩) 256 c9)).run Try.prog W = .ok (.string (strB 256 (padB lb y))) W from
        fun W hW => run_string (hr.later hW.below))
      clear hr hb H8 hg9
      go_wp2_with (fail)
      refine wp_region_lex (Kept w9.heap.size w9) [(0, false), (1, false), (2, false), (3, false), (4, false), (5, false), (6, false), (7, false), (8, false), (9, false), (10, false), (11, false), (12, false), (13, false), (14, true), (15, true), (16, false), (17, false), (18, false), (19, false), (20, false), (21, false), (22, true), (23, true), (24, false), (25, false), (26, false), (27, true), (28, false), (29, false)]
        (by kernel_rfl) (by kernel_rfl) rfl (by kernel_rfl) ⟨rfl, rfl, rfl, Nat.le_refl _, fun _ _ => rfl⟩ ?_
      intro W0 hK0
      refine lexH_yieldE rfl rfl ?_
      apply Exists.intro
      refine ⟨fun W hW => ?_, ?_⟩
      focus (go_simp; exact rfl)
      simp only [List.getElem_toArray, List.getElem_cons_zero, Act.put, List.setIfInBounds_toArray, List.set_cons_zero, List.set_cons_succ]
      refine lexH_yieldE rfl rfl ?_
      apply Exists.intro
      refine ⟨fun W hW => ?_, ?_⟩
      focus (go_simp; exact rfl)
      simp only [List.getElem_toArray, List.getElem_cons_succ, List.getElem_cons_zero, Act.put, List.setIfInBounds_toArray, List.set_cons_zero, List.set_cons_succ]
      refine lexH_yieldE rfl rfl ?_
      apply Exists.intro
      refine ⟨fun W hW => ?_, ?_⟩
      focus (go_simp; exact rfl)
      simp only [List.getElem_toArray, List.getElem_cons_succ, List.getElem_cons_zero, Act.put, List.setIfInBounds_toArray, List.set_cons_zero, List.set_cons_succ]
      refine lexH_yieldE rfl rfl ?_
      apply Exists.intro
      refine ⟨fun W hW => ?_, ?_⟩
      focus (go_simp; exact rfl)
      simp only [List.getElem_toArray, List.getElem_cons_succ, List.getElem_cons_zero, Act.put, List.setIfInBounds_toArray, List.set_cons_zero, List.set_cons_succ]
      refine lexH_yieldE rfl rfl ?_
      apply Exists.intro
      refine ⟨fun W hW => ?_, ?_⟩
      focus (go_simp; exact rfl)
      simp only [List.getElem_toArray, List.getElem_cons_succ, List.getElem_cons_zero, Act.put, List.setIfInBounds_toArray, List.set_cons_zero, List.set_cons_succ]
      refine lexH_yieldE rfl rfl ?_
      apply Exists.intro
      refine ⟨fun W hW => ?_, ?_⟩
      focus (go_simp; exact rfl)
      simp only [List.getElem_toArray, List.getElem_cons_succ, List.getElem_cons_zero, Act.put, List.setIfInBounds_toArray, List.set_cons_zero, List.set_cons_succ]
      refine lexH_yieldE rfl rfl ?_
      apply Exists.intro
      refine ⟨fun W hW => ?_, ?_⟩
      focus (go_simp; exact rfl)
      simp only [List.getElem_toArray, List.getElem_cons_succ, List.getElem_cons_zero, Act.put, List.setIfInBounds_toArray, List.set_cons_zero, List.set_cons_succ]
      refine lexH_yieldE rfl rfl ?_
      apply Exists.intro
      refine ⟨fun W hW => ?_, ?_⟩
      focus (go_simp; exact rfl)
      simp only [List.getElem_toArray, List.getElem_cons_succ, List.getElem_cons_zero, Act.put, List.setIfInBounds_toArray, List.set_cons_zero, List.set_cons_succ]
      refine lexH_yieldE rfl rfl ?_
      apply Exists.intro
      refine ⟨fun W hW => ?_, ?_⟩
      focus (go_simp; exact rfl)
      simp only [List.getElem_toArray, List.getElem_cons_succ, List.getElem_cons_zero, Act.put, List.setIfInBounds_toArray, List.set_cons_zero, List.set_cons_succ]
      refine lexH_yieldE rfl rfl ?_
      apply Exists.intro
      refine ⟨fun W hW => ?_, ?_⟩
      focus (go_simp; exact rfl)
      simp only [List.getElem_toArray, List.getElem_cons_succ, List.getElem_cons_zero, Act.put, List.setIfInBounds_toArray, List.set_cons_zero, List.set_cons_succ]
      refine lexH_yieldE rfl rfl ?_
      apply Exists.intro
      refine ⟨fun W hW => ?_, ?_⟩
      focus (go_simp; exact rfl)
      simp only [List.getElem_toArray, List.getElem_cons_succ, List.getElem_cons_zero, Act.put, List.setIfInBounds_toArray, List.set_cons_zero, List.set_cons_succ]
      refine lexH_yieldE rfl rfl ?_
      apply Exists.intro
      refine ⟨fun W hW => ?_, ?_⟩
      focus (go_simp; exact rfl)
      simp only [List.getElem_toArray, List.getElem_cons_succ, List.getElem_cons_zero, Act.put, List.setIfInBounds_toArray, List.set_cons_zero, List.set_cons_succ]
      refine lexH_conv rfl rfl _ _ _ rfl rfl L1.out ?_
      simp only [List.getElem_toArray, List.getElem_cons_succ, List.getElem_cons_zero, Act.put, List.setIfInBounds_toArray, List.set_cons_zero, List.set_cons_succ]
      refine lexH_yieldE rfl rfl ?_
      apply Exists.intro
      refine ⟨fun W hW => ?_, ?_⟩
      focus (go_simp; exact rfl)
      simp only [List.getElem_toArray, List.getElem_cons_succ, List.getElem_cons_zero, Act.put, List.setIfInBounds_toArray, List.set_cons_zero, List.set_cons_succ]
      refine lexH_call 16 #[.slice a la ca] rfl rfl ?_ ?_
      focus (go_simp; done)
      refine (page_any (HSA.out.later (HB9.out.trans (hK0.below.mono HB9.out.size))) h3).mono ?_
      rintro e w10 ⟨g10, c10, rfl, hg10, _, hr10, hb10⟩
      have hK10 : Kept w9.heap.size w9 w10 := hK0.call (Nat.le_refl _) hb10
      have HR10 := Lib.hid hr10
      clear hr10 hb10
      refine ⟨_, rfl, hK10, ?_⟩
      simp only [List.getElem_toArray, List.getElem_cons_succ, List.getElem_cons_zero, Act.put, List.setIfInBounds_toArray, List.set_cons_zero, List.set_cons_succ]
      refine lexH_convT rfl rfl _ _ _ rfl rfl (run_string HR10.out) hK10 ?_
      simp only [List.getElem_toArray, List.getElem_cons_succ, List.getElem_cons_zero, Act.put, List.setIfInBounds_toArray, List.set_cons_zero, List.set_cons_succ]
      refine lexH_yieldE rfl rfl ?_
      apply Exists.intro
      refine ⟨fun W hW => ?_, ?_⟩
      focus (go_simp; exact rfl)
      simp only [List.getElem_toArray, List.getElem_cons_succ, List.getElem_cons_zero, Act.put, List.setIfInBounds_toArray, List.set_cons_zero, List.set_cons_succ]
      refine lexH_yieldE rfl rfl ?_
      apply Exists.intro
      refine ⟨fun W hW => ?_, ?_⟩
      focus (go_simp; exact rfl)
      simp only [List.getElem_toArray, List.getElem_cons_succ, List.getElem_cons_zero, Act.put, List.setIfInBounds_toArray, List.set_cons_zero, List.set_cons_succ]
      refine lexH_yieldE rfl rfl ?_
      apply Exists.intro
      refine ⟨fun W hW => ?_, ?_⟩
      focus (go_simp; exact rfl)
      simp only [List.getElem_toArray, List.getElem_cons_succ, List.getElem_cons_zero, Act.put, List.setIfInBounds_toArray, List.set_cons_zero, List.set_cons_succ]
      refine lexH_yieldE rfl rfl ?_
      apply Exists.intro
      refine ⟨fun W hW => ?_, ?_⟩
      focus (go_simp; exact rfl)
      simp only [List.getElem_toArray, List.getElem_cons_succ, List.getElem_cons_zero, Act.put, List.setIfInBounds_toArray, List.set_cons_zero, List.set_cons_succ]
      refine lexH_conv rfl rfl _ _ _ rfl rfl L2.out ?_
      simp only [List.getElem_toArray, List.getElem_cons_succ, List.getElem_cons_zero, Act.put, List.setIfInBounds_toArray, List.set_cons_zero, List.set_cons_succ]
      refine lexH_yieldE rfl rfl ?_
      apply Exists.intro
      refine ⟨fun W hW => ?_, ?_⟩
      focus (go_simp; exact rfl)
      simp only [List.getElem_toArray, List.getElem_cons_succ, List.getElem_cons_zero, Act.put, List.setIfInBounds_toArray, List.set_cons_zero, List.set_cons_succ]
      refine lexH_call 16 #[.slice b lb cb] rfl rfl ?_ ?_
      focus (go_simp; done)
      refine (page_any (HSB.out.later (HB9.out.trans (hK10.below.mono HB9.out.size))) h4).mono ?_
      rintro e w11 ⟨g11, c11, rfl, hg11, _, hr11, hb11⟩
      have hK11 : Kept w9.heap.size w9 w11 := hK10.call (Nat.le_refl _) hb11
      have HR11 := Lib.hid hr11
      clear hr11 hb11
      refine ⟨_, rfl, hK11, ?_⟩
      simp only [List.getElem_toArray, List.getElem_cons_succ, List.getElem_cons_zero, Act.put, List.setIfInBounds_toArray, List.set_cons_zero, List.set_cons_succ]
      refine lexH_convT rfl rfl _ _ _ rfl rfl (run_string HR11.out) hK11 ?_
      simp only [List.getElem_toArray, List.getElem_cons_succ, List.getElem_cons_zero, Act.put, List.setIfInBounds_toArray, List.set_cons_zero, List.set_cons_succ]
      refine lexH_yieldE rfl rfl ?_
      apply Exists.intro
      refine ⟨fun W hW => ?_, ?_⟩
      focus (go_simp; exact rfl)
      simp only [List.getElem_toArray, List.getElem_cons_succ, List.getElem_cons_zero, Act.put, List.setIfInBounds_toArray, List.set_cons_zero, List.set_cons_succ]
      refine lexH_yieldE rfl rfl ?_
      apply Exists.intro
      refine ⟨fun W hW => ?_, ?_⟩
      focus (go_simp; exact rfl)
      simp only [List.getElem_toArray, List.getElem_cons_succ, List.getElem_cons_zero, Act.put, List.setIfInBounds_toArray, List.set_cons_zero, List.set_cons_succ]
      refine lexH_yieldE rfl rfl ?_
      apply Exists.intro
      refine ⟨fun W hW => ?_, ?_⟩
      focus (go_simp; exact rfl)
      simp only [List.getElem_toArray, List.getElem_cons_succ, List.getElem_cons_zero, Act.put, List.setIfInBounds_toArray, List.set_cons_zero, List.set_cons_succ]
      refine lexH_call 8 #[] rfl rfl ?_ ?_
      focus (go_simp; done)
      refine (known_any w11).mono ?_
      rintro e w12 ⟨rfl, hb12⟩
      have hK12 : Kept w9.heap.size w9 w12 := hK11.call (Nat.le_refl _) hb12
      refine ⟨_, rfl, hK12, ?_⟩
      simp only [List.getElem_toArray, List.getElem_cons_succ, List.getElem_cons_zero, Act.put, List.setIfInBounds_toArray, List.set_cons_zero, List.set_cons_succ]
      refine lexH_yieldE rfl rfl ?_
      apply Exists.intro
      refine ⟨fun W hW => ?_, ?_⟩
      focus (go_simp; exact rfl)
      simp only [List.getElem_toArray, List.getElem_cons_succ, List.getElem_cons_zero, Act.put, List.setIfInBounds_toArray, List.set_cons_zero, List.set_cons_succ]
      refine lexH_yieldE rfl rfl ?_
      apply Exists.intro
      refine ⟨fun W hW => ?_, ?_⟩
      focus (go_simp; exact rfl)
      simp only [List.getElem_toArray, List.getElem_cons_succ, List.getElem_cons_zero, Act.put, List.setIfInBounds_toArray, List.set_cons_zero, List.set_cons_succ]
      refine lexH_nil ?_
      have HB12 := Lib.hid (HB9.out.trans (hK12.below.mono HB9.out.size))
      clear hK0 hK10 hK11 hK12 hb12
      go_wp2_with (fail)
      go_ret
      exact ⟨rfl, HB12.out⟩
  · have hcs : slots < 2 ∨ (2 ≤ slots ∧ 1024 < slots) ∨ (2 ≤ slots ∧ slots ≤ 1024 ∧ 256 < la) ∨ (2 ≤ slots ∧ slots ≤ 1024 ∧ la ≤ 256 ∧ 256 < lb) := by omega
    clear hin
    rcases hcs with h1 | ⟨h1, h2⟩ | ⟨h1, h2, h3⟩ | ⟨h1, h2, h3, h4⟩
    all_goals
      go_enter Try.func4, Try.ntmps4
      go_wp2_with (fail)
      refine (known_any w).mono ?_
      rintro e w9 ⟨rfl, hb⟩
      have HB2 := Lib.hid hb
      clear hb
      go_wp2_with (fail)
      go_ret
      exact ⟨rfl, HB2.out⟩
end Go.Proofs.Ytadjkanjlkammaa
