/-
  The walk of SlotsAgain, for whatever slots.
-/
import Derived.Test.YtenfeamohcclaaaSlOk
import Derived.Test.YtenfeamohcclaaaSlAgP
namespace Go.Proofs.Ytenfeamohcclaaa
open Go.RowKit Go.Shelf Go
attribute [local go_sem] Oper.semAt_some

theorem scapN_of {F : Nat} (h : F ≤ 1024) : capN (F : Int) = F := by
  unfold capN
  rw [if_neg (by omega), if_neg (by omega), Int.toNat_natCast]
theorem su64_mod (x n : Int) (h1 : 1 ≤ n) (h2 : n ≤ 1024) : ∃ k : Nat, (k : Int) < n ∧ wrap64 ((IntKind.u64.wrap x).tmod n) = k ∧ wrap64 (IntKind.u64.wrap x % n) = k := by
  have h0 : 0 ≤ IntKind.u64.wrap x := by rw [IntKind.wrap_u64]; omega
  have e1 : (IntKind.u64.wrap x).tmod n = (IntKind.u64.wrap x) % n := Int.tmod_eq_emod_of_nonneg h0
  have l1 := Int.emod_lt_of_pos (IntKind.u64.wrap x) (show 0 < n by omega)
  have l2 := Int.emod_nonneg (IntKind.u64.wrap x) (show n ≠ 0 by omega)
  have h3 : wrap64 (IntKind.u64.wrap x % n) = ((IntKind.u64.wrap x % n).toNat : Int) := by
    rw [IntWalk.wrap64_in _ ⟨by omega, by omega⟩]; omega
  exact ⟨((IntKind.u64.wrap x) % n).toNat, by omega, by rw [e1]; exact h3, h3⟩
section
variable {IsS : Thg → Nat → Nat → (Nat → Ownr) → Prop} (ok : SlOk IsS)
include ok
set_option maxRecDepth 100000 in
set_option maxHeartbeats 8000000 in
theorem lawSAgain_any (n0 turn : Int) (w : World) (hI : InZ n0) :
    Calls Try.prog 7 #[.int .i64 n0, .int .i64 turn] w fun e w' => e = .returned (.bool true) ∧ Below w.heap.size w w' := by
  by_cases hin : 0 ≤ n0 ∧ n0 ≤ 200
  · obtain ⟨g1, g2⟩ := hin
    obtain ⟨n, rfl⟩ : ∃ n : Nat, n0 = n := ⟨n0.toNat, by omega⟩
    have g1I : ¬ (n : Int) < 0 := by omega
    have g2I : ¬ (200 : Int) < n := by omega
    have hn : n ≤ 200 := by omega
    obtain ⟨T, hT, hT1, hT2⟩ := su64_mod turn 200 (by decide) (by decide)
    have HT1 := Lib.hid hT1
    have HT2 := Lib.hid hT2
    clear hT1 hT2
    go_enter Try.func7, Try.ntmps7
    go_wp2_with (fail)
    refine (new_sl ok w n hI (N := n) (scapN_of (by omega))).mono ?_
    rintro e w1 ⟨d, rfl, hK⟩
    have HK1 := Lib.hid hK
    clear hK g1I g2I g1 g2
    go_wp2_with (fail)
    go_loopw [21] (fun iv wr => ∃ r : Nat, iv = .int .i64 r ∧ r ≤ 2 ∧ Hid (KPT (fun X => IsS X d n (fun _ => (0, 0))) w (fun _ => False) wr)) (fun iv _ => 2 - (intOf iv).toNat)
    case atStart => exact ⟨0, rfl, Nat.zero_le _, HK1⟩
    case round =>
      clear HK1
      obtain ⟨r, rfl, hr, HK⟩ := hrel
      by_cases hlr : r < 2
      · have hrI : (r : Int) < 2 := by omega
        go_wp2_with (fail)
        go_loopw [24] (fun iv wx => ∃ i : Nat, iv = .int .i64 i ∧ i ≤ n ∧ Hid (KPT (fun X => IsS X d n (tkF i)) w (fun _ => False) wx)) (fun iv _ => n - (intOf iv).toNat)
        case atStart => exact ⟨0, rfl, Nat.zero_le _, by rw [tk_zero]; exact HK⟩
        case round =>
          clear HK
          rename World => wx
          obtain ⟨i, rfl, hi, HK⟩ := hrel
          by_cases hli : i < n
          · have hiI : (i : Int) < n := by omega
            obtain ⟨t1, t2, t3⟩ := tk_take hn hli
            have HT := Lib.hid (take_sl ok HK.out (1 + (i : Int) % 8) i ⟨by omega, by omega⟩ ⟨by omega, by omega⟩ i 0 (tkF (i + 1)) t1 t2 t3)
            clear t1 t2 t3
            go_wp2_with (fail)
            refine HT.out.mono ?_
            rintro e w2 ⟨rfl, hk, _⟩
            have HK2 := Lib.hid hk
            clear hk HK HT
            go_wp2_with (fail)
            go_roundw
            case rel => exact ⟨i + 1, by go_num, hli, HK2⟩
            case measure => simp [intOf]; omega
          · obtain rfl : i = n := by omega
            obtain ⟨t1, t2, t3⟩ := tk_full (n := i)
            have HT := Lib.hid (take_sl ok HK.out 1 1 (by decide) (by decide) 0 9 _ t1 t2 t3)
            clear t1 t2 t3
            go_wp2_with (fail)
            refine HT.out.mono ?_
            rintro e w2 ⟨rfl, hk, _⟩
            have HK2 := Lib.hid hk
            clear hk HK HT
            go_wp2_with (fail)
            refine (used_sl ok HK2.out i (tk_used i)).mono ?_
            rintro e w3 ⟨rfl, hb⟩
            have HK3 := Lib.hid (HK2.out.later hb)
            clear hb HK2
            go_wp2_with (fail)
            go_loopw [58] (fun iv wy => ∃ j : Nat, iv = .int .i64 j ∧ j ≤ i ∧ Hid (KPT (fun X => IsS X d i (frF i T j)) w (fun _ => False) wy)) (fun iv _ => i - (intOf iv).toNat)
            case atStart => exact ⟨0, rfl, Nat.zero_le _, by rw [fr_zero]; exact HK3⟩
            case round =>
              clear HK3
              rename World => wy
              obtain ⟨j, rfl, hj, HK⟩ := hrel
              by_cases hlj : j < i
              · have hjI : (j : Int) < i := by omega
                have h0I : ((i : Int) == 0) = false := by simp; omega
                have h0N : ¬ i = 0 := by omega
                have hm : (j + T) % i < i := Nat.mod_lt _ (by omega)
                have HT := Lib.hid (free_sl ok HK.out (((j + T) % i : Nat) : Int) ⟨by omega, by omega⟩ 0 _ (fr_free hlj).1 (fr_free hlj).2)
                have HM := Lib.hid (show (wrap64 ((j : Int) + T)).tmod (i : Int) = (((j + T) % i : Nat) : Int) from by
                  rw [IntWalk.wrap64_in _ ⟨by omega, by omega⟩, Int.tmod_eq_emod_of_nonneg (by omega)]
                  rw [Int.natCast_emod, Int.natCast_add])
                clear hm
                go_wp2_with (fail)
                rw [HT1.out, HM.out]
                refine HT.out.mono ?_
                rintro e w2 ⟨rfl, hk, _⟩
                have HK2 := Lib.hid hk
                clear hk HK HT HM
                go_wp2_with (fail)
                go_roundw
                case rel => exact ⟨j + 1, by go_num, hlj, HK2⟩
                case measure => simp [intOf]; omega
              · obtain rfl : j = i := by omega
                rw [fr_all] at HK
                go_wp2_with (fail)
                refine (used_sl ok HK.out 0 (zero_used j)).mono ?_
                rintro e w3 ⟨rfl, hb⟩
                have HK3 := Lib.hid (HK.out.later hb)
                clear hb HK
                go_wp2_with (fail)
                go_roundw
                case rel => exact ⟨r + 1, by go_num, by omega, HK3⟩
                case measure => simp [intOf]; omega
      · obtain rfl : r = 2 := by omega
        rw [show ((2 : Nat) : Int) = 2 from rfl]
        go_wp2_with (fail)
        refine (sknown_any ok wr).mono ?_
        rintro e w2 ⟨rfl, hb⟩
        have HB := Lib.hid (HK.out.later hb).bel
        clear hb HK
        go_wp2_with (fail)
        go_ret
        exact ⟨rfl, HB.out⟩
  · rcases (show n0 < 0 ∨ (0 ≤ n0 ∧ 200 < n0) by omega) with g1 | ⟨g1, g2⟩
    all_goals
      clear hin
      go_enter Try.func7, Try.ntmps7
      go_wp2_with (fail)
      refine (sknown_any ok w).mono ?_
      rintro e w2 ⟨rfl, hb⟩
      go_wp2_with (fail)
      go_ret
      exact ⟨rfl, hb⟩
end
end Go.Proofs.Ytenfeamohcclaaa
