/-
  The walk of ClockRounds, for whatever clock. (Printed by tools/gen-clockrounds.py.)
-/
import Derived.Test.YtndddfkebbeemaaClTold
namespace Go.Proofs.Ytndddfkebbeemaa
open Go.RowKit Go.Shelf Go
attribute [local go_sem] Oper.semAt_some

section
variable {IsC : Thg → Nat → List Fr → Prop} (ok : ClOk IsC)
include ok
set_option maxRecDepth 100000 in
set_option maxHeartbeats 16000000 in
theorem lawCRounds_any (a : Option Addr) (len cap : Nat) (O : Nat → OpA) (w : World) (hO : OpsAt w a len O) :
    Calls Try.prog 5 #[.slice a len cap] w fun e w' => e = .returned (.bool true) ∧ Below w.heap.size w w' := by
  have HO := Lib.hid hO
  clear hO
  obtain ⟨i0, hi0, hz0, hz1, hz2⟩ := info_parts infoIntC
  by_cases hin : len ≤ 100
  · have hlI : ¬ (100 : Int) < len := by omega
    have hd2 : decide (100 < len) = false := decide_eq_false (by omega)
    have hd1 : decide ((100 : Int) < (len : Int)) = false := decide_eq_false hlI
    go_enter Try.func5, Try.ntmps5
    go_wp2_with (fail)
    refine (new_cl ok w).mono ?_
    rintro e w1 ⟨d, rfl, hK⟩
    have HK1 := Lib.hid hK
    clear hK hd1 hd2
    go_wp2_with (fail)
    go_loopw [22] (fun iv wr => ∃ (k : Nat) (L : List Fr), iv = .int .i64 k ∧ k ≤ len ∧ L.length ≤ k ∧ Hid (KPT (fun X => IsC X d L) w (fun _ => False) wr)) (fun iv _ => len - (intOf iv).toNat)
    case atStart => exact ⟨0, [], rfl, Nat.zero_le _, Nat.le_refl _, HK1⟩
    case round =>
      clear HK1
      obtain ⟨k, L, rfl, hk, hLk, HK⟩ := hrel
      by_cases hlk : k < len
      · have hkI : (k : Int) < len := by omega
        obtain ⟨gi, oi, rfl, _, hok, hcI⟩ := HO.out.one k hlk
        obtain ⟨a0, a1⟩ := hcI wr HK.out.bel
        clear hcI
        generalize O k = op at a0 a1 hok
        obtain ⟨kind, frame⟩ := op
        dsimp only at a0 a1 hok
        have hL1 : L.length < 1000 := by omega
        by_cases h1 : kind = 1
        · subst h1
          go_wp2_with (fail)
          refine (remove_cl ok HK.out frame hok _ _ rfl rfl).mono ?_
          rintro e w2 ⟨rfl, hk2, _⟩
          have HK2 := Lib.hid hk2
          have hLn : (remL L frame).length ≤ k + 1 := by have := remL_len L frame; omega
          generalize remL L frame = L2 at hLn HK2
          clear hk2 HK a0 a1
          go_wp2_with (fail)
          go_roundw
          case rel => exact ⟨k + 1, L2, by go_num, hlk, hLn, HK2⟩
          case measure => simp [intOf]; omega
        · have hb1 : (kind == 1) = false := by simp; exact h1
          by_cases h2 : kind = 2
          · subst h2
            go_wp2_with (fail)
            refine (touch_cl ok HK.out frame hok _ _ rfl rfl).mono ?_
            rintro e w2 ⟨rfl, hk2, _⟩
            have HK2 := Lib.hid hk2
            have hLn : (touL L frame).length ≤ k + 1 := by have := touL_len L frame; omega
            generalize touL L frame = L2 at hLn HK2
            clear hk2 HK a0 a1
            go_wp2_with (fail)
            go_roundw
            case rel => exact ⟨k + 1, L2, by go_num, hlk, hLn, HK2⟩
            case measure => simp [intOf]; omega
          · have hb2 : (kind == 2) = false := by simp; exact h2
            by_cases h3 : kind = 3
            · subst h3
              go_wp2_with (fail)
              refine (next_cl ok HK.out (nextL L).1.1 (nextL L).1.2 (nextL L).2 rfl).mono ?_
              rintro e w2 ⟨rfl, hk2, _⟩
              have HK2 := Lib.hid hk2
              have hLn : ((nextL L).2).length ≤ k + 1 := by have := nextL_len L; omega
              generalize (nextL L).2 = L2 at hLn HK2
              clear hk2 HK a0 a1
              go_wp2_with (fail)
              go_roundw
              case rel => exact ⟨k + 1, L2, by go_num, hlk, hLn, HK2⟩
              case measure => simp [intOf]; omega
            · have hb3 : (kind == 3) = false := by simp; exact h3
              go_wp2_with (fail)
              refine (add_cl ok HK.out frame hok hL1 _ _ rfl rfl).mono ?_
              rintro e w2 ⟨rfl, hk2, _⟩
              have HK2 := Lib.hid hk2
              have hLn : (addL L frame).length ≤ k + 1 := by have := addL_len L frame; omega
              generalize addL L frame = L2 at hLn HK2
              clear hk2 HK a0 a1
              go_wp2_with (fail)
              go_roundw
              case rel => exact ⟨k + 1, L2, by go_num, hlk, hLn, HK2⟩
              case measure => simp [intOf]; omega
      · obtain rfl : k = len := by omega
        obtain ⟨n, hn⟩ : ∃ n, L.length = n := ⟨_, rfl⟩
        have hn100 : n ≤ 100 := by omega
        have HC := Lib.hid (len_cl ok HK.out)
        rw [hn] at HC
        go_wp2_with (fail)
        refine HC.out.mono ?_
        rintro e w2 ⟨rfl, hb⟩
        have HK2 := Lib.hid (show KPT (fun X => IsC X d (nexts 0 L)) w (fun _ => False) w2 from HK.out.later hb)
        clear hb HK HC hLk hk
        go_wp2_with (fail)
        go_loopw [64] (fun iv wx => ∃ i : Nat, iv = .int .i64 i ∧ i ≤ 3 * n ∧ Hid (KPT (fun X => IsC X d (nexts i L)) w (fun _ => False) wx)) (fun iv _ => 3 * n - (intOf iv).toNat)
        case atStart => exact ⟨0, rfl, Nat.zero_le _, HK2⟩
        case round =>
          clear HK2
          rename World => wx
          obtain ⟨i, rfl, hi, HK⟩ := hrel
          by_cases hli : i < 3 * n
          · have hiI : (i : Int) < 3 * (n : Int) := by omega
            obtain ⟨x, hx⟩ := next_one (L := L) (by omega) i
            have HC := Lib.hid (next_cl ok HK.out x true _ hx)
            clear hx
            go_wp2_with (fail)
            refine HC.out.mono ?_
            rintro e w3 ⟨rfl, hk3, _⟩
            have HK3 := Lib.hid hk3
            clear hk3 HK HC
            go_wp2_with (fail)
            go_roundw
            case rel => exact ⟨i + 1, by go_num, hli, HK3⟩
            case measure => simp [intOf]; omega
          · obtain rfl : i = 3 * n := by omega
            have HQ := Lib.hid (nexts_quiet L (3 * n) (by omega))
            have HQL := Lib.hid ((nexts_len (3 * n) L).trans hn)
            have HCI := Lib.hid (KPT.inv_cl ok HK.out)
            clear hi hli hn
            generalize nexts (3 * n) L = Q at *
            have HT1 := Lib.hid (show CrAt IsC w d (rotQ Q 0) ((namesL Q).take 0) 0 (.slice none 0 0) wx from by rw [rotQ_zero]; exact CrAt.nil HK.out)
            clear HK
            go_wp2_with (fail)
            go_loopw [8, 75] (fun vv iv wx => ∃ (i lc : Nat) (la : Option Addr), iv = .int .i64 i ∧ vv = .slice la i lc ∧ i ≤ n ∧ Hid (CrAt IsC w d (rotQ Q i) ((namesL Q).take i) i (.slice la i lc) wx)) (fun _ iv _ => n - (intOf iv).toNat)
            case atStart => exact ⟨0, 0, none, rfl, rfl, Nat.zero_le _, HT1⟩
            case round =>
              clear HT1
              rename World => wy
              obtain ⟨i, lc, la, rfl, rfl, hi, HT⟩ := hrel
              by_cases hli : i < n
              · have hiI : (i : Int) < n := by omega
                have hlq : i < Q.length := by rw [HQL.out]; exact hli
                obtain ⟨x, hx⟩ : ∃ x, (Q[i]'hlq).1 = x := ⟨_, rfl⟩
                have hnx := rotQ_next HQ.out hlq
                rw [hx] at hnx
                have hmq : (Q[i]'hlq) ∈ rotQ Q (i + 1) := rotQ_mem.2 (List.getElem_mem hlq)
                have hhs := has_mem hmq
                rw [hx] at hhs
                have HHS := Lib.hid hhs
                have hxl := name_le HCI.out (List.getElem_mem hlq)
                rw [hx] at hxl
                have HNE := Lib.hid (show ∀ j, j < i → ∃ y, (namesL Q)[j]? = some y ∧ y ≠ x from fun j hj => ⟨_, names_at (Nat.lt_trans hj hlq), by rw [← hx]; exact names_ne HCI.out hlq hj⟩)
                have HTK := Lib.hid (show (namesL Q).take i ++ [x] = (namesL Q).take (i + 1) from take_snoc (by rw [names_at hlq, hx]))
                have HC := Lib.hid (next_cl ok HT.out.kp x true _ hnx)
                clear hx hnx hmq hhs
                go_wp2_with (fail)
                refine HC.out.mono ?_
                rintro e w3 ⟨rfl, hk3, ho⟩
                have HT3 := Lib.hid (HT.out.turn hk3 ho)
                clear hk3 ho HT HC
                go_wp2_with (fail)
                refine (has_cl ok HT3.out.kp (x : Int) ⟨by omega, hxl⟩ true HHS.out).mono ?_
                rintro e w4 ⟨rfl, hb⟩
                have HT4 := Lib.hid (HT3.out.later hb)
                clear hb HT3 HHS
                go_wp2_with (fail)
                go_loopw [92] (fun iv wz => ∃ j : Nat, iv = .int .i64 j ∧ j ≤ i ∧ Hid (CrAt IsC w d (rotQ Q (i + 1)) ((namesL Q).take i) i (.slice la i lc) wz)) (fun iv _ => i - (intOf iv).toNat)
                case atStart => exact ⟨0, rfl, Nat.zero_le _, HT4⟩
                case round =>
                  clear HT4
                  rename World => wz
                  obtain ⟨j, rfl, hj, HT⟩ := hrel
                  by_cases hlj : j < i
                  · have hjI : (j : Int) < i := by omega
                    obtain ⟨y, hy, hne⟩ := HNE.out j hlj
                    obtain ⟨g, rfl, c0⟩ := HT.out.at j y (by rw [List.getElem?_take_of_lt hlj]; exact hy)
                    have hnb : ((y : Int) == x) = false := by rw [beq_eq_false_iff_ne]; omega
                    have hnb2 : ¬ (y : Int) = x := by omega
                    clear hy hne
                    go_wp2_with (fail)
                    go_roundw
                    case rel => exact ⟨j + 1, by go_num, hlj, HT⟩
                    case measure => simp [intOf]; omega
                  · obtain rfl : j = i := by omega
                    go_wp2_with (first | (at_builtin; refine wpList_append_where wz rfl _ _ 38 rfl w.heap.size 3 i0 _ 1 8 Try.underlying38 hi0 hz0 hz1 hz2 rfl (by decide) _ _ _ #[.int .i64 x] HT.out.row HT.out.kp.bel.size rfl rfl rfl (oneI _) (by omega) (by decide) ?_; intro v' W6 hown ho6 hwh) | fail)
                    have hg := HT.out.grow hown ho6 hwh
                    rw [HTK.out] at hg
                    obtain ⟨la2, lc2, rfl⟩ := hg.slice
                    have HT6 := Lib.hid hg
                    clear hg hown ho6 hwh HT HTK HNE
                    go_wp2_with (fail)
                    go_roundw
                    case rel => exact ⟨_, _, _, _, _, _, ⟨j + 1, rfl, lc2, la2, rfl, hli, HT6⟩, rfl, rfl, rfl, rfl, rfl, by go_num⟩
                    case measure => simp [intOf]; omega
              · obtain rfl : i = n := by omega
                have HT2 := Lib.hid (show CrAt IsC w d (rotQ Q 0) (namesL Q) i (.slice la i lc) wy from by
                  have h := HT.out
                  rw [rotQ_all HQL.out, List.take_of_length_le (by rw [namesL_len, HQL.out]; exact Nat.le_refl _)] at h
                  rw [rotQ_zero]
                  exact h)
                clear HT hi hli
                generalize i = n at *
                go_wp2_with (fail)
                go_loopw [109] (fun iv wz => ∃ i : Nat, iv = .int .i64 i ∧ i ≤ n ∧ Hid (CrAt IsC w d (rotQ Q i) (namesL Q) n (.slice la n lc) wz)) (fun iv _ => n - (intOf iv).toNat)
                case atStart => exact ⟨0, rfl, Nat.zero_le _, HT2⟩
                case round =>
                  clear HT2
                  rename World => wz
                  obtain ⟨i, rfl, hi, HT⟩ := hrel
                  by_cases hli : i < n
                  · have hiI : (i : Int) < n := by omega
                    have hlq : i < Q.length := by rw [HQL.out]; exact hli
                    obtain ⟨x, hx⟩ : ∃ x, (Q[i]'hlq).1 = x := ⟨_, rfl⟩
                    have hnx := rotQ_next HQ.out hlq
                    have hna := names_at hlq
                    rw [hx] at hnx hna
                    have HNA := Lib.hid hna
                    have HC := Lib.hid (next_cl ok HT.out.kp x true _ hnx)
                    clear hx hnx hna
                    go_wp2_with (fail)
                    refine HC.out.mono ?_
                    rintro e w3 ⟨rfl, hk3, ho⟩
                    have HT3 := Lib.hid (HT.out.turn hk3 ho)
                    clear hk3 ho HT HC
                    obtain ⟨g, rfl, c0⟩ := HT3.out.at i x HNA.out
                    go_wp2_with (fail)
                    go_roundw
                    case rel => exact ⟨_, _, _, _, _, _, _, _, _, _, _, _, _, _, _, _, _, _, _, _, _, _, _, ⟨i + 1, rfl, hli, HT3⟩, rfl⟩
                    case measure => simp [intOf]; omega
                  · obtain rfl : i = n := by omega
                    have hr := rotQ_all HQL.out
                    have HA := Lib.hid (show ∀ W, CrAt IsC w d (rotQ Q i) (namesL Q) i (.slice la i lc) W → Calls Try.prog 24 #[.pointer (some ⟨d, 0, none⟩)] W fun e w' => e = .returned (.int .i64 0) ∧ Below W.heap.size W w' from fun W hW => by
                      have h := active_cl ok hW.kp
                      rw [hr, actL_quiet HQ.out] at h
                      exact h)
                    have HL := Lib.hid (show ∀ W, CrAt IsC w d (rotQ Q i) (namesL Q) i (.slice la i lc) W → Calls Try.prog 21 #[.pointer (some ⟨d, 0, none⟩)] W fun e w' => e = .returned (.int .i64 i) ∧ Below W.heap.size W w' from fun W hW => by
                      have h := len_cl ok hW.kp
                      rw [hr, HQL.out] at h
                      exact h)
                    clear hr
                    go_wp2_with (fail)
                    refine (HA.out _ HT.out).mono ?_
                    rintro e w3 ⟨rfl, hb⟩
                    have HT3 := Lib.hid (HT.out.later hb)
                    clear hb HT
                    go_wp2_with (fail)
                    refine (HL.out _ HT3.out).mono ?_
                    rintro e w4 ⟨rfl, hb⟩
                    have HT4 := Lib.hid (HT3.out.later hb)
                    clear hb HT3
                    go_wp2_with (fail)
                    refine (cknown_any ok _).mono ?_
                    rintro e w5 ⟨rfl, hb⟩
                    have HB := Lib.hid (HT4.out.later hb).kp.bel
                    clear hb HT4
                    go_wp2_with (fail)
                    go_ret
                    exact ⟨rfl, HB.out⟩
  · have hlI : (100 : Int) < len := by omega
    have hd2 : decide (100 < len) = true := decide_eq_true (by omega)
    clear hin
    go_enter Try.func5, Try.ntmps5
    go_wp2_with (fail)
    refine (cknown_any ok w).mono ?_
    rintro e w2 ⟨rfl, hb⟩
    go_wp2_with (fail)
    go_ret
    exact ⟨rfl, hb⟩
end
end Go.Proofs.Ytndddfkebbeemaa
