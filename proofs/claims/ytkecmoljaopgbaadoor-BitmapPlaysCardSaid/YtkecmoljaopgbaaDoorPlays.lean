/-
  The walk of BitmapPlays: every script on a set; it returns true, and below the old heap nothing has turned.
-/
import Derived.Test.YtkecmoljaopgbaaDoorBoth
import Derived.Deep.DeepCutAuto
import Derived.Deep.CutBlock
namespace Go.Proofs.YtkecmoljaopgbaaDoor
open Go.RowKit Go Bm

set_option maxRecDepth 100000 in
set_option maxHeartbeats 2000000 in
theorem plays_in (n : Int) (a : Option Addr) (len cap : Nat) (ops : Nat → Int × Int × Int) (w : World) (hl : (n ≤ 300 ∧ len ≤ 200) ∨ (65536 ≤ n ∧ len ≤ 6))
    (hc : OpRow w a len ops) (hT : TabAt 0 Lib.deBruijn64tab w) :
    Calls Tryd.prog 3 #[.int .i64 n, .slice a len cap] w fun e w' => e = .returned (.bool true) ∧ Below w.heap.size w w' := by
  have HC := Lib.hid hc
  have HT := Lib.hid hT
  have hlen : len ≤ 200 := by omega
  clear hc hT
  go_enter Tryd.func3, Tryd.ntmps3
  go_upto_region 1 with fail
  go_cut [38] (fun s wc => s = .bool false ∧ w = wc)
  case first =>
    rcases hl with ⟨h1, h2⟩ | ⟨h1, h2⟩
    all_goals
      go_wp2_with (fail)
      go_meet
      exact ⟨by simp; omega, rfl⟩
  case rest =>
    obtain ⟨rfl, rfl⟩ := hcut
    clear hl
    go_wp2_with (fail)
    refine (new_own n w HT.out).mono ?_
    rintro e w1 ⟨p0, wb0, rfl, O⟩
    go_wp2_with (fail)
    refine (refnew_any n w1).mono ?_
    rintro e w2 ⟨rfl, R, hg, hlt⟩
    have B0 := both_new O R hg
    generalize w1.heap.size = rb at B0
    generalize clampN n = N at B0
    clear O R hg hlt
    unfold refV
    go_wp2_with (fail)
    go_loopw [5, 48] (fun s x wr => ∃ k p wb f, k ≤ len ∧ x = .int .i64 (k : Nat) ∧ s = .pointer (some ⟨p, 0, none⟩) ∧ Both w.heap.size w wr p wb rb N f) (fun _ x _ => len - (intOf x).toNat)
    case atStart => exact ⟨0, p0, wb0, _, Nat.zero_le _, rfl, rfl, B0⟩
    case round =>
      obtain ⟨k, p, wb, f, hk, rfl, rfl, B1⟩ := hrel
      by_cases hlt : k < len
      · obtain ⟨b, o, rfl, g1, g2, g3⟩ := HC.out k hlt
        have hb := World.block_lt_of_cell? _ _ g1
        rw [← B1.own.below.cell (p := ⟨b, o + k * 3, none⟩) hb] at g1
        rw [← B1.own.below.cell (p := ⟨b, o + k * 3 + 1, none⟩) hb] at g2
        rw [← B1.own.below.cell (p := ⟨b, o + k * 3 + 2, none⟩) hb] at g3
        generalize (ops k).1 = kd at g1
        generalize (ops k).2.1 = I at g2
        generalize (ops k).2.2 = N2 at g3
        clear hb
        go_upto_block 2 with fail
        have cx0 : (wr.alloc (.cells #[.int .i64 kd, .int .i64 I, .int .i64 N2] 30)).cell? ⟨wr.heap.size, 0, none⟩ = some (.int .i64 kd) := by simp [go_sem]
        have cx1 : (wr.alloc (.cells #[.int .i64 kd, .int .i64 I, .int .i64 N2] 30)).cell? ⟨wr.heap.size, 1, none⟩ = some (.int .i64 I) := by simp [go_sem]
        have cx2 : (wr.alloc (.cells #[.int .i64 kd, .int .i64 I, .int .i64 N2] 30)).cell? ⟨wr.heap.size, 2, none⟩ = some (.int .i64 N2) := by simp [go_sem]
        have B2 := B1.later ((Below.refl _ wr).alloc (Nat.le_refl _) (.cells #[.int .i64 kd, .int .i64 I, .int .i64 N2] 30))
        have hbx : wb < wr.heap.size ∨ N = 0 := B1.wb_lt
        have hbrr : 0 < N → wr.heap.size ≠ rb := B1.rb_ne
        generalize hbxe : wr.heap.size = bx at *
        generalize wr.alloc (.cells #[.int .i64 kd, .int .i64 I, .int .i64 N2] 30) = W at *
        clear hbxe B1 g1 g2 g3
        have hbr : 0 < N → bx ≠ rb := hbrr
        have hbw : 0 < N → bx ≠ wb := fun h => by omega
        have hN := B2.own.set.max
        have M : Mid w.heap.size w W p wb rb N bx I f f := ⟨B2.own, B2.ref, B2.hr, B2.ne1, B2.ne2, cx1, hbw, hbr⟩
        clear hbx hbrr
        go_cut [5, 9] (fun s5 s9 wc => ∃ p' wb' f', s5 = .pointer (some ⟨p', 0, none⟩) ∧ s9 = .bool true ∧ Both w.heap.size w wc p' wb' rb N f')
        case first =>
          by_cases hk1 : kd = 1
          · as_aux_lemma =>
              subst hk1
              by_cases hno : I < 0 ∨ (N : Int) ≤ I
              · as_aux_lemma =>
                  have HNO := Lib.hid hno
                  clear hno
                  have hz := B2.own.set.size
                  go_wp2_with (fail)
                  go_quiet ((first | (go_at_call 10; exact quiet_eq (put_no p N I _ (by exact hz) HNO.out)) | (go_at_call 11; exact quiet_eq (refput_no rb N I _ HNO.out))))
                  go_wp2_with (fail)
                  go_meet
                  exact ⟨p, wb, f, rfl, rfl, B2.drewN _⟩
              · as_aux_lemma =>
                  obtain ⟨i, rfl⟩ := Int.eq_ofNat_of_zero_le (show 0 ≤ I by omega)
                  have hi : i < N := by omega
                  clear hno
                  cases hf : f i with
                  | true =>
                    have HF := Lib.hid hf
                    clear hf
                    go_wp2_with (fail)
                    go_quiet ((first | (go_at_call 10; exact quiet_draw (put_twice p wb N f i _ (B2.own.set.drewN _) hi HF.out)) | (go_at_call 11; exact quiet_eq (refput_twice rb N f i _ (B2.ref.drewN _) hi HF.out))))
                    go_wp2_with (fail)
                    go_meet
                    exact ⟨p, wb, f, rfl, rfl, B2.drewN _⟩
                  | false =>
                    have HF := Lib.hid hf
                    clear hf
                    go_wp2_with (fail)
                    go_region_held3 (fun w' => w'.cell? ⟨bx, 1, none⟩ = some (.int .i64 (i : Nat))) (first | exact cx1 | exact Mid.cx (by assumption))
                      (first
                        | (go_at_call 10; refine (mid_put w.heap.size w _ p wb rb N bx (i : Nat) f f (by first | exact M | exact M.drewN 1) (by omega) (by omega) HF.out).mono ?_; rintro e w3 ⟨rfl, M3⟩)
                        | (go_at_call 11; refine (mid_refput w.heap.size w _ p wb rb N bx (i : Nat) _ f (by assumption) (by omega) (by omega) HF.out).mono ?_; rintro e w4 ⟨rfl, M4⟩))
                    go_wp2_with (fail)
                    go_meet
                    exact ⟨p, wb, _, rfl, rfl, M4.both⟩
          · have e1 : (kd == 1) = false := by simp; exact hk1
            clear hk1
            by_cases hk2 : kd = 2
            · as_aux_lemma =>
                subst hk2
                by_cases hno : I < 0 ∨ (N : Int) ≤ I
                · as_aux_lemma =>
                    have HNO := Lib.hid hno
                    clear hno
                    have hz := B2.own.set.size
                    go_wp2_with (fail)
                    go_quiet ((first | (go_at_call 12; exact quiet_eq (take_no p N I _ (by exact hz) HNO.out)) | (go_at_call 13; exact quiet_eq (reftake_no rb N I _ HNO.out))))
                    go_wp2_with (fail)
                    go_meet
                    exact ⟨p, wb, f, rfl, rfl, B2.drewN _⟩
                · as_aux_lemma =>
                    obtain ⟨i, rfl⟩ := Int.eq_ofNat_of_zero_le (show 0 ≤ I by omega)
                    have hi : i < N := by omega
                    clear hno
                    cases hf : f i with
                    | false =>
                      have HF := Lib.hid hf
                      clear hf
                      go_wp2_with (fail)
                      go_quiet ((first | (go_at_call 12; exact quiet_draw (take_none p wb N f i _ (B2.own.set.drewN _) hi HF.out)) | (go_at_call 13; exact quiet_eq (reftake_none rb N f i _ (B2.ref.drewN _) hi HF.out))))
                      go_wp2_with (fail)
                      go_meet
                      exact ⟨p, wb, f, rfl, rfl, B2.drewN _⟩
                    | true =>
                      have HF := Lib.hid hf
                      clear hf
                      go_wp2_with (fail)
                      go_region_held3 (fun w' => w'.cell? ⟨bx, 1, none⟩ = some (.int .i64 (i : Nat))) (first | exact cx1 | exact Mid.cx (by assumption))
                        (first
                          | (go_at_call 12; refine (mid_take w.heap.size w _ p wb rb N bx (i : Nat) f f (by first | exact M | exact M.drewN 1) (by omega) (by omega) HF.out).mono ?_; rintro e w3 ⟨rfl, M3⟩)
                          | (go_at_call 13; refine (mid_reftake w.heap.size w _ p wb rb N bx (i : Nat) _ f (by assumption) (by omega) (by omega) HF.out).mono ?_; rintro e w4 ⟨rfl, M4⟩))
                      go_wp2_with (fail)
                      go_meet
                      exact ⟨p, wb, _, rfl, rfl, M4.both⟩
            · have e2 : (kd == 2) = false := by simp; exact hk2
              clear hk2
              by_cases hk3 : kd = 3
              · as_aux_lemma =>
                  subst hk3
                  go_wp2_with (fail)
                  refine (free_own _ _ _ p wb N f I _ M.own rfl).mono ?_
                  rintro e w' ⟨rfl, rfl⟩
                  rw [fnd_eq]
                  go_wp2_with (fail)
                  refine (refrun_any rb N f I 1 false _ M.ref).mono ?_
                  rintro e w' ⟨rfl, rfl⟩
                  rw [fnd_eq, refO_one, show (!false) = true from rfl]
                  generalize findN (turned f true) I.toNat N = q
                  go_wp2_with (fail)
                  go_meet
                  exact ⟨p, wb, f, rfl, by simp, B2⟩
              · have e3 : (kd == 3) = false := by simp; exact hk3
                clear hk3
                by_cases hk4 : kd = 4
                · as_aux_lemma =>
                    subst hk4
                    go_wp2_with (fail)
                    refine (next_own _ _ _ p wb N f I _ M.own rfl).mono ?_
                    rintro e w' ⟨rfl, rfl⟩
                    rw [fnd_eq]
                    go_wp2_with (fail)
                    refine (refrun_any rb N f I 1 true _ M.ref).mono ?_
                    rintro e w' ⟨rfl, rfl⟩
                    rw [fnd_eq, refO_one, show (!true) = false from rfl]
                    generalize findN (turned f false) I.toNat N = q
                    go_wp2_with (fail)
                    go_meet
                    exact ⟨p, wb, f, rfl, by simp, B2⟩
                · have e4 : (kd == 4) = false := by simp; exact hk4
                  clear hk4
                  by_cases hk5 : kd = 5
                  · as_aux_lemma =>
                      subst hk5
                      by_cases hbig : 300 < N ∧ 300 < N2
                      · as_aux_lemma =>
                          obtain ⟨hb1, hb2⟩ := hbig
                          go_wp2_with (fail)
                          go_roundw
                          case rel => exact ⟨k + 1, p, wb, f, hlt, by go_num, rfl, B2⟩
                          case measure => simp [intOf]; omega
                      · have hbb : ¬ 300 < N ∨ (300 < N ∧ ¬ 300 < N2) := by omega
                        clear hbig
                        rcases hbb with hb1 | ⟨hb1, hb2⟩
                        all_goals
                          go_wp2_with (fail)
                          refine (run_all _ _ _ p wb N f I N2 M.own).mono ?_
                          rintro e w' ⟨rfl, rfl⟩
                          rw [fnd_eq]
                          go_wp2_with (fail)
                          refine (refrun_any rb N f I N2 false _ M.ref).mono ?_
                          rintro e w' ⟨rfl, rfl⟩
                          rw [fnd_eq, refO_run]
                          generalize runO f N N2 I = q
                          go_wp2_with (fail)
                          go_meet
                          exact ⟨p, wb, f, rfl, by simp, B2⟩
                  · have e5 : (kd == 5) = false := by simp; exact hk5
                    clear hk5
                    by_cases hk6 : kd = 6
                    · as_aux_lemma =>
                        subst hk6
                        go_wp2_with (fail)
                        refine (trio_copy M cx2).mono ?_
                        rintro e w3 ⟨p2, wb2, rfl, T3, A3⟩
                        have hr3 := B2.hr
                        have hne := B2.ne2
                        clear B2 M cx0 cx1 cx2
                        have y1 := T3.cx
                        go_wp2_with (fail)
                        refine (trio_put _ _ _ p wb p2 wb2 rb N bx I N2 f _ T3 A3.pw A3.ww hne hbw).mono ?_
                        rintro e w4 ⟨⟨z4, rfl⟩, T4⟩
                        have y2 := T4.cy
                        clear y1 T3
                        go_wp2_with (fail)
                        refine (trio_take _ _ _ p wb p2 wb2 rb N bx I N2 f _ T4 A3.pw A3.ww hne hbw).mono ?_
                        rintro e w5 ⟨⟨z5, rfl⟩, T5⟩
                        clear y2 T4
                        go_wp2_with (fail)
                        go_meet
                        exact ⟨p2, wb2, f, rfl, rfl, T5.both A3 hr3⟩
                    · have e6 : (kd == 6) = false := by simp; exact hk6
                      clear hk6
                      by_cases hno : I < 0 ∨ (N : Int) ≤ I
                      · as_aux_lemma =>
                          have HNO := Lib.hid hno
                          clear hno
                          have hz := B2.own.set.size
                          go_wp2_with (fail)
                          go_quiet ((first | (go_at_call 19; exact quiet_draw (has_no p N I _ (by exact hz) HNO.out)) | (go_at_call 20; exact quiet_eq (refhas_no rb N I _ HNO.out))))
                          go_wp2_with (fail)
                          go_meet
                          exact ⟨p, wb, f, rfl, rfl, B2.drewN _⟩
                      · as_aux_lemma =>
                          obtain ⟨i, rfl⟩ := Int.eq_ofNat_of_zero_le (show 0 ≤ I by omega)
                          have hi : i < N := by omega
                          clear hno
                          go_wp2_with (fail)
                          go_quiet ((first | (go_at_call 19; exact quiet_draw (has_any p wb N f i _ (B2.own.set.drewN _) hi)) | (go_at_call 20; exact quiet_eq (refhas_yes rb N f i _ (B2.ref.drewN _) hi))))
                          go_wp2_with (fail)
                          go_meet
                          exact ⟨p, wb, f, rfl, by simp, B2.drewN _⟩
        case rest =>
          obtain ⟨p', wb', f', rfl, rfl, B3⟩ := hcut
          go_wp2_with (fail)
          refine (same_any p' wb' rb N f' wc B3.own.set B3.ref B3.own.table).mono ?_
          rintro e w5 ⟨rfl, hb5⟩
          go_wp2_with (fail)
          go_roundw
          case rel => exact ⟨k + 1, p', wb', f', hlt, by go_num, rfl, B3.later hb5⟩
          case measure => simp [intOf]; omega
      · go_wp2_with (fail)
        refine (known_any _ B1.own.table).mono ?_
        rintro e w5 ⟨rfl, hb5⟩
        go_wp2_with (fail)
        go_ret
        exact ⟨rfl, B1.own.below.trans (hb5.mono B1.own.base)⟩
end Go.Proofs.YtkecmoljaopgbaaDoor
