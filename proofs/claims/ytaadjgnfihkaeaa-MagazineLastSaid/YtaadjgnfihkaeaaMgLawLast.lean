/-
  The walk of MagazineLast: it returns true, and below the old heap nothing has turned.
-/
import Derived.Test.YtaadjgnfihkaeaaMgStk
namespace Go.Proofs.Ytaadjgnfihkaeaa
open Go.RowKit Go
set_option maxRecDepth 100000 in
set_option maxHeartbeats 8000000 in
theorem lawLast_any (nn : Int) {v : Value} {A : Obs} (w : World) (hv : SrcO w v A) : Calls Try.prog 7 #[.int .i64 nn, v] w fun e w' => e = .returned (.bool true) ∧ Below w.heap.size w w' := by
  have HV := Lib.hid hv
  obtain ⟨va, vc, rfl, _⟩ := hv
  by_cases hlen : A.length ≤ 80
  · have hlenI : ¬ (80 < (A.length : Int)) := by omega
    go_enter Try.func7, Try.ntmps7
    go_wp2_with (fail)
    refine (new_ps nn w).mono ?_
    rintro e w1 ⟨p, rfl, hP⟩
    have HP := Lib.hid hP
    have h32 := hP.n2
    clear hP
    generalize clN nn = N at *
    go_wp2_with (fail)
    go_loopw [6, 22] (fun t i wr => ∃ k : Nat, k ≤ A.length ∧ t = .int .i64 ((min k (2 * N) : Nat) : Int) ∧ i = .int .i64 k ∧ Hid (PS w p N (A.take (min k (2 * N))) wr)) (fun _ i _ => A.length - (intOf i).toNat)
    case atStart => exact ⟨0, Nat.zero_le _, by rw [Nat.zero_min]; rfl, rfl, by rw [Nat.zero_min]; exact HP⟩
    case round =>
      clear HP
      obtain ⟨k, hk, rfl, rfl, HP⟩ := hrel
      by_cases hlt : k < A.length
      · have hltI : (k : Int) < (A.length : Int) := by omega
        obtain ⟨b, o, c, e, c0, c1⟩ := (HV.out.later HP.out.bel).get hlt
        injection e with e _ e3
        subst e
        subst e3
        have HTK := Lib.hid (takeN_next hlt)
        have HLT := Lib.hid hlt
        generalize A[k] = q at *
        obtain ⟨x, y⟩ := q
        dsimp only at c0 c1
        by_cases hn : k < 2 * N
        · have e1 : min k (2 * N) = k := by omega
          have e2 : min (k + 1) (2 * N) = k + 1 := by omega
          have hnI : (k : Int) < 2 * (N : Int) := by omega
          have HE2 := Lib.hid e2
          rw [e1] at HP ⊢
          have HC := Lib.hid (show (A.take k).length < 2 * N by rw [List.length_take]; omega)
          clear hlt e1 e2 hn
          go_wp2_with (fail)
          refine (put_yes HP.out x y HC.out).mono ?_
          rintro e w2 ⟨rfl, hP2⟩
          rw [← HTK.out] at hP2
          have HP2 := Lib.hid hP2
          clear hP2 HP HTK HC c0 c1
          go_wp2_with (fail)
          refine (rounds_ps HP2.out).mono ?_
          rintro e w3 ⟨rfl, rfl⟩
          go_wp2_with (fail)
          go_roundw
          case rel => exact ⟨k + 1, HLT.out, by rw [HE2.out]; go_num, by go_num, by rw [HE2.out]; exact HP2⟩
          case measure => have := HLT.out; simp [intOf]; omega
        · have e1 : min k (2 * N) = 2 * N := by omega
          have e2 : min (k + 1) (2 * N) = 2 * N := by omega
          have hnI : ¬ ((k : Int) < 2 * (N : Int)) := by omega
          have HE2 := Lib.hid e2
          rw [e1] at HP ⊢
          have HC := Lib.hid (show ¬ (A.take (2 * N)).length < 2 * N by rw [List.length_take]; omega)
          clear hlt e1 e2 hn
          generalize hM : 2 * N = m at HP HE2 HC ⊢
          have HMM := Lib.hid hM
          have hnI : ¬ ((k : Int) < 2 * (N : Int)) := hnI
          clear hM
          go_wp2_with (fail)
          refine (put_no HP.out x y (by rw [HMM.out]; exact HC.out)).mono ?_
          rintro e w2 ⟨rfl, hP2⟩
          have HP2 := Lib.hid hP2
          clear hP2 HP HTK HC c0 c1
          go_wp2_with (fail)
          refine (rounds_ps HP2.out).mono ?_
          rintro e w3 ⟨rfl, rfl⟩
          go_wp2_with (fail)
          go_roundw
          case rel => exact ⟨k + 1, HLT.out, by rw [HE2.out], by go_num, by rw [HE2.out]; exact HP2⟩
          case measure => have := HLT.out; simp [intOf]; omega
      · obtain rfl : k = A.length := by omega
        have HML := Lib.hid (show min A.length (2 * N) ≤ A.length by omega)
        generalize min A.length (2 * N) = m at *
        have hm80 : m ≤ 80 := Nat.le_trans HML.out hlen
        go_wp2_with (fail)
        go_loopw [9] (fun i wr => ∃ j : Nat, j ≤ m ∧ i = .int .i64 ((j : Int) - 1) ∧ Hid (PS w p N (A.take j) wr)) (fun i _ => ((intOf i) + 1).toNat)
        case atStart => exact ⟨m, Nat.le_refl _, rfl, HP⟩
        case round =>
          clear HP
          obtain ⟨j, hj, rfl, HP⟩ := hrel
          cases j with
          | zero =>
            rw [show ((0 : Nat) : Int) - 1 = -1 from rfl]
            go_wp2_with (fail)
            refine (get_no HP.out).mono ?_
            rintro e w2 ⟨rfl, hP2⟩
            have HP2 := Lib.hid hP2
            have HST := Lib.hid (store_obj w2 #[.int .i64 0, .int .i64 0] rfl 0 0)
            have hba : Below w2.heap.size w2 (w2.alloc (.cells #[.int .i64 0, .int .i64 0] 33)) := (Below.refl _ _).alloc (Nat.le_refl _) _
            have HP4 := Lib.hid (hP2.later hba)
            clear hP2 hba HP
            go_wp2_with (first | (refine wpList_store_run rfl TO _ _ rfl _ _ _ rfl rfl HST.out ?_) | fail)
            refine (known_any _).mono ?_
            rintro e w5 ⟨rfl, hb⟩
            have HB := Lib.hid (HP4.out.bel.trans (hb.mono HP4.out.bel.size))
            clear hb
            go_wp2_with (fail)
            go_ret
            exact ⟨rfl, HB.out⟩
          | succ j =>
            have e0 : ((j + 1 : Nat) : Int) - 1 = (j : Int) := by omega
            rw [e0]
            have hjl : j < A.length := by have := HML.out; omega
            have hjI : (j : Int) < (A.length : Int) := by omega
            obtain ⟨b, o, c, e, hcc⟩ := HV.out.at hjl
            have HCC := Lib.hid hcc
            clear hcc
            rw [takeN_next hjl] at HP
            injection e with e _ e3
            subst e
            subst e3
            have HJ := Lib.hid hj
            generalize A[j] = q at *
            obtain ⟨x, y⟩ := q
            dsimp only at HCC HP
            clear e0 hjl hj
            go_wp2_with (fail)
            refine (get_yes HP.out).mono ?_
            rintro e w2 ⟨rfl, hP2⟩
            have HSD := Lib.hid hP2
            have HST := Lib.hid (store_obj w2 #[.int .i64 0, .int .i64 0] rfl x y)
            have hba : Below w2.heap.size w2 (w2.alloc (.cells #[.int .i64 x, .int .i64 y] 33)) := (Below.refl _ _).alloc (Nat.le_refl _) _
            have hP4 := hP2.later hba
            have HP4 := Lib.hid hP4
            have hR := obj_row w2 x y
            have r0 : (w2.alloc (.cells #[.int .i64 x, .int .i64 y] 33)).cell? ⟨w2.heap.size, 0, none⟩ = some (.int .i64 x) := hR.cell 0 (by decide)
            have r1 : (w2.alloc (.cells #[.int .i64 x, .int .i64 y] 33)).cell? ⟨w2.heap.size, 1, none⟩ = some (.int .i64 y) := hR.cell 1 (by decide)
            obtain ⟨d0, d1⟩ := HCC.out _ hP4.bel
            clear hP2 hba HP hR hP4 HSD
            go_wp2_with (first | (refine wpList_store_run rfl TO _ _ rfl _ _ _ rfl rfl HST.out ?_) | fail)
            clear HST
            generalize w2.alloc (.cells #[.int .i64 x, .int .i64 y] 33) = w3 at *
            go_quiet (fail)
            have HP5 := Lib.hid (HP4.out.later (below_drewN (Below.refl _ _) nq))
            clear HP4 d0 d1 r0 r1
            go_wp2_with (fail)
            go_roundw
            case rel => exact ⟨j, by have := HJ.out; omega, rfl, HP5⟩
            case measure => first | (simp [intOf]; done) | (simp [intOf]; omega)
  · have hlenI : 80 < (A.length : Int) := by omega
    go_enter Try.func7, Try.ntmps7
    go_wp2_with (fail)
    refine (known_any _).mono ?_
    rintro e w5 ⟨rfl, hb⟩
    have HB := Lib.hid hb
    clear hb
    go_wp2_with (fail)
    go_ret
    exact ⟨rfl, HB.out⟩
end Go.Proofs.Ytaadjgnfihkaeaa
