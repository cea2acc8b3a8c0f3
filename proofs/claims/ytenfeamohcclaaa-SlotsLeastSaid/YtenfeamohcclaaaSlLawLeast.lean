/-
  The walk of SlotsLeast, for whatever slots.
-/
import Derived.Test.YtenfeamohcclaaaSlOk
import Derived.Test.YtenfeamohcclaaaSlOps
namespace Go.Proofs.Ytenfeamohcclaaa
open Go.RowKit Go.Shelf Go
attribute [local go_sem] Oper.semAt_some

theorem scapN_gt {n : Int} (h : n ≤ 40) : capN n ≤ 40 := by
  unfold capN
  split
  · omega
  · split <;> omega
theorem srgO_in {f : Nat → Ownr} {N i : Nat} (h : i < N) : rgO f N (i : Int) = f i := by
  unfold rgO
  rw [if_pos ⟨by omega, by omega⟩, Int.toNat_natCast]
/-- The least free one from m on, as it is found. -/
def LoF (f : Nat → Ownr) (N m : Nat) (lv : Int) : Prop :=
  (lv = -1 ∧ ∀ i, m ≤ i → i < N → (f i).1 ≠ 0) ∨ ∃ l : Nat, lv = l ∧ m ≤ l ∧ l < N ∧ (f l).1 = 0 ∧ ∀ i, m ≤ i → i < l → (f i).1 ≠ 0
theorem LoF.free {f : Nat → Ownr} {N m : Nat} (hm : m < N) (h0 : (f m).1 = 0) : LoF f N m m := .inr ⟨m, rfl, Nat.le_refl _, hm, h0, fun i h1 h2 => by omega⟩
theorem LoF.taken {f : Nat → Ownr} {N m : Nat} {lv : Int} (h0 : (f m).1 ≠ 0) (h : LoF f N (m + 1) lv) : LoF f N m lv := by
  have hi : ∀ i, m ≤ i → ¬ m + 1 ≤ i → (f i).1 ≠ 0 := fun i h1 h2 => by
    obtain rfl : i = m := by omega
    exact h0
  rcases h with ⟨h1, h2⟩ | ⟨l, h1, h2, h3, h4, h5⟩
  · exact .inl ⟨h1, fun i a b => if h : m + 1 ≤ i then h2 i h b else hi i a h⟩
  · exact .inr ⟨l, h1, by omega, h3, h4, fun i a b => if h : m + 1 ≤ i then h5 i h b else hi i a h⟩
theorem take_one {f : Nat → Ownr} {N l : Nat} (h : leastF f N = some l) : stK f N 1 1 = l ∧ stE f N 1 1 = 0 ∧ stF f N 1 1 = updO f l (1, 1) := by
  have hp : PgOk 1 1 := by decide
  refine ⟨?_, ?_, ?_⟩
  · unfold stK; rw [if_pos hp, h]; rfl
  · unfold stE; rw [if_pos hp, h]; rfl
  · unfold stF; rw [if_pos hp, h]; rfl
theorem take_full {f : Nat → Ownr} {N : Nat} (h : leastF f N = none) : stK f N 1 1 = 0 ∧ stE f N 1 1 = 9 ∧ stF f N 1 1 = f := by
  have hp : PgOk 1 1 := by decide
  refine ⟨?_, ?_, ?_⟩
  · unfold stK; rw [if_pos hp, h]; rfl
  · unfold stE; rw [if_pos hp, h]; rfl
  · unfold stF; rw [if_pos hp, h]
theorem lcnt_all {P : Nat → Bool} : ∀ {n}, (∀ i, i < n → P i = true) → cntB P n = n
  | 0, _ => rfl
  | n + 1, h => by rw [cntB, lcnt_all (fun i hi => h i (by omega)), h n (by omega)]; rfl
section
variable {IsS : Thg → Nat → Nat → (Nat → Ownr) → Prop} (ok : SlOk IsS)
include ok
set_option maxRecDepth 100000 in
set_option maxHeartbeats 8000000 in
theorem lawSLeast_any (n0 : Int) (a : Option Addr) (len cap : Nat) (O : Nat → OpA) (w : World) (hI : InZ n0) (hO : OpsAt w a len O) :
    Calls Try.prog 6 #[.int .i64 n0, .slice a len cap] w fun e w' => e = .returned (.bool true) ∧ Below w.heap.size w w' := by
  have HO := Lib.hid hO
  clear hO
  by_cases hin : n0 ≤ 40 ∧ len ≤ 150
  · obtain ⟨g1, hl⟩ := hin
    have g1I : ¬ (40 : Int) < n0 := by omega
    have hlI : ¬ (150 : Int) < len := by omega
    have hd2 : decide (150 < len) = false := decide_eq_false (by omega)
    have hd1 : decide ((150 : Int) < (len : Int)) = false := decide_eq_false hlI
    obtain ⟨N, hN⟩ : ∃ N, capN n0 = N := ⟨_, rfl⟩
    have HN := Lib.hid (show N ≤ 40 from by rw [← hN]; exact scapN_gt g1)
    go_enter Try.func6, Try.ntmps6
    go_wp2_with (fail)
    refine (new_sl ok w n0 hI hN).mono ?_
    rintro e w1 ⟨d, rfl, hK⟩
    have HK1 := Lib.hid hK
    clear hK g1I g1 hd1 hd2 hN
    go_wp2_with (fail)
    go_loopw [27] (fun iv wr => ∃ (k : Nat) (f : Nat → Ownr), iv = .int .i64 k ∧ k ≤ len ∧ Hid (KPT (fun X => IsS X d N f) w (fun _ => False) wr)) (fun iv _ => len - (intOf iv).toNat)
    case atStart => exact ⟨0, _, rfl, Nat.zero_le _, HK1⟩
    case round =>
      clear HK1
      obtain ⟨k, f, rfl, hk, HK⟩ := hrel
      by_cases hlk : k < len
      · have hkI : (k : Int) < len := by omega
        obtain ⟨gi, oi, rfl, _, hok, hcI⟩ := HO.out.one k hlk
        obtain ⟨a0, a1, _, _⟩ := hcI wr HK.out.bel
        clear hcI
        by_cases hkd : (O k).kind = 1
        · have hkb : ((O k).kind == 1) = true := by simp [hkd]
          go_wp2_with (fail)
          refine (free_sl ok HK.out (O k).slot hok.1 _ _ rfl rfl).mono ?_
          rintro e w2 ⟨rfl, hk2, _⟩
          have HK2 := Lib.hid hk2
          clear hk2 HK a0 a1
          generalize rcE f N (O k).slot = cc at *
          go_wp2_with (fail)
          go_roundw
          case rel => exact ⟨k + 1, _, by go_num, hlk, HK2⟩
          case measure => simp [intOf]; omega
        · have hkb : ((O k).kind == 1) = false := by simp; exact hkd
          have b1 := HN.out
          go_wp2_with (fail)
          clear a0 a1
          refine (len_sl ok HK.out).mono ?_
          rintro e w2 ⟨rfl, hb⟩
          have HK2 := Lib.hid (HK.out.later hb)
          clear hb HK
          go_wp2_with (fail)
          go_loopw [7, 8] (fun lv kv wx => ∃ (m : Nat) (l : Int), kv = .int .i64 ((m : Int) - 1) ∧ lv = .int .i64 l ∧ m ≤ N ∧ Hid (LoF f N m l) ∧ Hid (KPT (fun X => IsS X d N f) w (fun _ => False) wx)) (fun _ kv _ => (intOf kv + 1).toNat)
          case atStart => exact ⟨N, -1, rfl, rfl, Nat.le_refl _, Lib.hid (.inl ⟨rfl, fun i h1 h2 => by omega⟩), HK2⟩
          case round =>
            clear HK2
            rename World => wx
            obtain ⟨m, l, rfl, rfl, hm, HL, HK⟩ := hrel
            by_cases h0 : 0 < m
            · obtain ⟨j, rfl⟩ : ∃ j, m = j + 1 := ⟨m - 1, by omega⟩
              have ej : ((j + 1 : Nat) : Int) - 1 = j := by omega
              rw [ej]
              have hj0 : ¬ (j : Int) < 0 := by omega
              obtain ⟨⟨p, q⟩, hpq⟩ : ∃ x, f j = x := ⟨_, rfl⟩
              have HG := Lib.hid (owner_sl ok HK.out (j : Int) ⟨by omega, by omega⟩ p q (decide (p ≠ 0)) (by rw [srgO_in (by omega)]; exact hpq) rfl)
              by_cases hp : p = 0
              · subst hp
                have HL2 := Lib.hid (show LoF f N j j from LoF.free (by omega) (by rw [hpq]))
                clear hpq ej
                go_wp2_with (fail)
                refine HG.out.mono ?_
                rintro e w3 ⟨rfl, hb⟩
                have HK3 := Lib.hid (HK.out.later hb)
                rw [show decide ((0 : Nat) ≠ 0) = false from rfl]
                clear hb HK HG HL
                go_wp2_with (fail)
                go_roundw
                case rel => exact ⟨j, j, by go_num, rfl, by omega, HL2, HK3⟩
                case measure => simp [intOf]
              · have HL2 := Lib.hid (show LoF f N j l from LoF.taken (by rw [hpq]; exact hp) HL.out)
                have hpd := decide_eq_true (show p ≠ 0 from hp)
                clear hpq ej
                go_wp2_with (fail)
                refine HG.out.mono ?_
                rintro e w3 ⟨rfl, hb⟩
                have HK3 := Lib.hid (HK.out.later hb)
                rw [hpd]
                clear hb HK HG HL hpd
                go_wp2_with (fail)
                go_roundw
                case rel => exact ⟨j, l, by go_num, rfl, by omega, HL2, HK3⟩
                case measure => simp [intOf]
            · obtain rfl : m = 0 := by omega
              rw [show (((0 : Nat) : Int) - 1) = -1 from rfl]
              rcases HL.out with ⟨rfl, hfull⟩ | ⟨l2, rfl, _, hl2, hz, hlow⟩
              · have hfl : leastF f N = none := leastF_full (fun j hj => hfull j (Nat.zero_le _) hj)
                have hc : cntB (ownB f) N = N := lcnt_all fun i hi => decide_eq_true (hfull i (Nat.zero_le _) hi)
                obtain ⟨t1, t2, t3⟩ := take_full hfl
                have HT := Lib.hid (fun W (hW : KPT (fun X => IsS X d N f) w (fun _ => False) W) => take_sl ok hW 1 1 (by decide) (by decide) 0 9 f t1 t2 t3)
                clear hfl t1 t2 t3 hfull HL
                go_wp2_with (fail)
                refine (used_sl ok HK.out N hc).mono ?_
                rintro e w3 ⟨rfl, hb⟩
                have HK3 := Lib.hid (HK.out.later hb)
                clear hb HK
                go_wp2_with (fail)
                refine (HT.out w3 HK3.out).mono ?_
                rintro e w4 ⟨rfl, hk4, _⟩
                have HK4 := Lib.hid hk4
                clear hk4 HK3
                go_wp2_with (fail)
                refine (len_sl ok HK4.out).mono ?_
                rintro e w5 ⟨rfl, hb⟩
                have HK5 := Lib.hid (HK4.out.later hb)
                clear hb HK4
                go_wp2_with (fail)
                go_roundw
                case rel => exact ⟨k + 1, f, by go_num, hlk, HK5⟩
                case measure => simp [intOf]; omega
              · have hfl : leastF f N = some l2 := leastF_of hl2 hz (fun j hj => hlow j (Nat.zero_le _) hj)
                obtain ⟨t1, t2, t3⟩ := take_one hfl
                obtain ⟨c, hc⟩ : ∃ c, cntB (ownB f) N = c := ⟨_, rfl⟩
                have hcl : c ≤ N := by rw [← hc]; exact cntB_le _ _
                have hc2 : cntB (ownB (updO f l2 (1, 1))) N = c + 1 := by
                  have h := cnt_upd (f := f) (1, 1) hl2
                  rw [hc] at h
                  have h2 : ownB f l2 = false := decide_eq_false (fun h => h hz)
                  rw [h2] at h
                  exact h
                have HT := Lib.hid (fun W (hW : KPT (fun X => IsS X d N f) w (fun _ => False) W) => take_sl ok hW 1 1 (by decide) (by decide) l2 0 _ t1 t2 t3)
                clear hfl t1 t2 t3 hz hlow HL
                have hl0 : ¬ (l2 : Int) < 0 := by omega
                go_wp2_with (fail)
                refine (used_sl ok HK.out c hc).mono ?_
                rintro e w3 ⟨rfl, hb⟩
                have HK3 := Lib.hid (HK.out.later hb)
                clear hb HK
                go_wp2_with (fail)
                refine (HT.out w3 HK3.out).mono ?_
                rintro e w4 ⟨rfl, hk4, _⟩
                have HK4 := Lib.hid hk4
                clear hk4 HK3
                go_wp2_with (fail)
                refine (used_sl ok HK4.out (c + 1) hc2).mono ?_
                rintro e w5 ⟨rfl, hb⟩
                have HK5 := Lib.hid (HK4.out.later hb)
                clear hb HK4
                go_wp2_with (fail)
                go_roundw
                case rel => exact ⟨k + 1, _, by go_num, hlk, HK5⟩
                case measure => simp [intOf]; omega
      · obtain rfl : k = len := by omega
        go_wp2_with (fail)
        refine (sknown_any ok wr).mono ?_
        rintro e w2 ⟨rfl, hb⟩
        have HB := Lib.hid (HK.out.later hb).bel
        clear hb HK
        go_wp2_with (fail)
        go_ret
        exact ⟨rfl, HB.out⟩
  · rcases (show (40 : Int) < n0 ∨ (¬ (40 : Int) < n0 ∧ (150 : Int) < len ∧ 150 < len) by omega) with g1 | ⟨g1, g2, g3⟩
    · clear hin
      go_enter Try.func6, Try.ntmps6
      go_wp2_with (fail)
      refine (sknown_any ok w).mono ?_
      rintro e w2 ⟨rfl, hb⟩
      go_wp2_with (fail)
      go_ret
      exact ⟨rfl, hb⟩
    · have hd2 : decide (150 < len) = true := decide_eq_true g3
      clear hin g3
      go_enter Try.func6, Try.ntmps6
      go_wp2_with (fail)
      refine (sknown_any ok w).mono ?_
      rintro e w2 ⟨rfl, hb⟩
      go_wp2_with (fail)
      go_ret
      exact ⟨rfl, hb⟩
end
end Go.Proofs.Ytenfeamohcclaaa
