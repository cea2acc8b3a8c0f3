/-
  The walk of MagazineTurns: it returns true, and below the old heap nothing has turned.
-/
import Derived.Test.YtaadjgnfihkaeaaMgOps
namespace Go.Proofs.Ytaadjgnfihkaeaa
open Go.RowKit Go
set_option maxRecDepth 100000 in
set_option maxHeartbeats 8000000 in
theorem lawTurns_any (nn : Int) (a : Option Addr) (len cap : Nat) (O : Nat → OpM) (n : Int) (w : World) (hO : OpsM w a len O) : Calls Try.prog 5 #[.int .i64 nn, .slice a len cap, .int .i64 n] w fun e w' => e = .returned (.bool true) ∧ Below w.heap.size w w' := by
  have HO := Lib.hid hO
  clear hO
  by_cases hlen : len ≤ 100 ∧ n ≤ 50
  · have hlenI : ¬ (100 < (len : Int)) := by omega
    have hnI : ¬ (50 < n) := by omega
    have HNN := Lib.hid hlen
    clear hlen
    go_enter Try.func5, Try.ntmps5
    go_wp2_with (fail)
    refine (new_ps nn w).mono ?_
    rintro e w1 ⟨p, rfl, hP⟩
    have HP := Lib.hid hP
    have h32 := hP.n2
    clear hP
    generalize clN nn = N at *
    go_wp2_with (fail)
    go_loopw [25] (fun i wr => ∃ (k : Nat) (S : Obs), k ≤ len ∧ i = .int .i64 k ∧ Hid (PS w p N S wr)) (fun i _ => len - (intOf i).toNat)
    case atStart => exact ⟨0, [], Nat.zero_le _, rfl, HP⟩
    case round =>
      clear HP
      obtain ⟨k, S, hk, rfl, HP⟩ := hrel
      by_cases hlt : k < len
      · have hltI : (k : Int) < (len : Int) := by omega
        obtain ⟨b, o, rfl, _, _, hc⟩ := HO.out.one k hlt
        obtain ⟨c0, c1, c2, c3⟩ := hc wr HP.out.bel
        have HLT := Lib.hid hlt
        clear hc c3 hlt
        generalize O k = op at *
        obtain ⟨kind, x, y, la, ln, cp, z⟩ := op
        dsimp only at c0 c1 c2
        by_cases hk0 : kind = 0
        · subst hk0
          by_cases hl : S.length < 2 * N
          · go_wp2_with (fail)
            refine (put_yes HP.out x y hl).mono ?_
            rintro e w2 ⟨rfl, hP2⟩
            have HP2 := Lib.hid hP2
            clear hP2 HP c0 c1 c2 hl
            go_wp2_with (fail)
            go_roundw
            case rel => exact ⟨k + 1, _, HLT.out, by go_num, HP2⟩
            case measure => have := HLT.out; simp [intOf]; omega
          · go_wp2_with (fail)
            refine (put_no HP.out x y hl).mono ?_
            rintro e w2 ⟨rfl, hP2⟩
            have HP2 := Lib.hid hP2
            clear hP2 HP c0 c1 c2 hl
            go_wp2_with (fail)
            go_roundw
            case rel => exact ⟨k + 1, _, HLT.out, by go_num, HP2⟩
            case measure => have := HLT.out; simp [intOf]; omega
        · have e0 : (kind == 0) = false := by simpa using hk0
          clear hk0
          rcases nil_or_snoc S with rfl | ⟨T, x1, y1, rfl⟩
          · go_wp2_with (fail)
            refine (get_no HP.out).mono ?_
            rintro e w2 ⟨rfl, hP2⟩
            have HP2 := Lib.hid hP2
            clear hP2 HP c0 c1 c2
            go_wp2_with (fail)
            go_roundw
            case rel => exact ⟨k + 1, _, HLT.out, by go_num, HP2⟩
            case measure => have := HLT.out; simp [intOf]; omega
          · go_wp2_with (fail)
            refine (get_yes HP.out).mono ?_
            rintro e w2 ⟨rfl, hP2⟩
            have HP2 := Lib.hid hP2
            clear hP2 HP c0 c1 c2
            go_wp2_with (fail)
            go_roundw
            case rel => exact ⟨k + 1, _, HLT.out, by go_num, HP2⟩
            case measure => have := HLT.out; simp [intOf]; omega
      · obtain rfl : k = len := by omega
        clear HO hlt hk
        rcases nil_or_snoc S with rfl | ⟨T, x1, y1, rfl⟩
        · go_wp2_with (fail)
          refine (get_no HP.out).mono ?_
          rintro e w2 ⟨rfl, hP2⟩
          have HST := Lib.hid (store_obj w2 #[.int .i64 0, .int .i64 0] rfl 0 0)
          have hba : Below w2.heap.size w2 (w2.alloc (.cells #[.int .i64 0, .int .i64 0] 33)) := (Below.refl _ _).alloc (Nat.le_refl _) _
          have HP4 := Lib.hid (hP2.later hba)
          clear hP2 hba HP
          go_wp2_with (first | (refine wpList_store_run rfl TO _ _ rfl _ _ _ rfl rfl HST.out ?_) | fail)
          refine (len_ps HP4.out).mono ?_
          rintro e w5 ⟨rfl, hP5⟩
          have HP5 := Lib.hid hP5
          clear hP5 HP4 HST
          go_wp2_with (fail)
          refine (known_any _).mono ?_
          rintro e w6 ⟨rfl, hb⟩
          have HB := Lib.hid (HP5.out.bel.trans (hb.mono HP5.out.bel.size))
          clear hb HP5
          go_wp2_with (fail)
          go_ret
          exact ⟨rfl, HB.out⟩
        · have HLN := Lib.hid (show T.length < 2 * N from by
            have := HP.out.ln
            rw [List.length_append, List.length_singleton] at this
            omega)
          go_wp2_with (fail)
          refine (get_yes HP.out).mono ?_
          rintro e w2 ⟨rfl, hP2⟩
          have HST := Lib.hid (store_obj w2 #[.int .i64 0, .int .i64 0] rfl x1 y1)
          have hba : Below w2.heap.size w2 (w2.alloc (.cells #[.int .i64 x1, .int .i64 y1] 33)) := (Below.refl _ _).alloc (Nat.le_refl _) _
          have HP4 := Lib.hid (hP2.aside hba)
          have HR := Lib.hid (obj_row w2 x1 y1)
          have HLE := Lib.hid (show w2.heap.size < (w2.alloc (.cells #[.int .i64 x1, .int .i64 y1] 33)).heap.size by simp)
          clear hP2 hba HP
          go_wp2_with (first | (refine wpList_store_run rfl TO _ _ rfl _ _ _ rfl rfl HST.out ?_) | fail)
          have HP5 := Lib.hid (HP4.out.fewer (B' := Eq w2.heap.size) (fun k hk => ⟨by omega, by rw [← hk]; exact HLE.out⟩))
          clear HST HP4 HLE
          generalize w2.alloc (.cells #[.int .i64 x1, .int .i64 y1] 33) = w3 at *
          generalize w2.heap.size = X at *
          go_loopw [58] (fun i wr => ∃ j : Nat, ((j : Int) ≤ n ∨ j = 0) ∧ i = .int .i64 j ∧ Hid (PSB w p N T (Eq X) wr) ∧ Hid (RowAt wr X 2 (obV x1 y1))) (fun i _ => (n - intOf i).toNat)
          case atStart => exact ⟨0, .inr rfl, rfl, HP5, HR⟩
          case round =>
            clear HP5 HR
            obtain ⟨j, hj, rfl, HP, HR⟩ := hrel
            by_cases hlt : (j : Int) < n
            · have c0 : wr.cell? ⟨X, 0, none⟩ = some (.int .i64 x1) := HR.out.cell 0 (by decide)
              have c1 : wr.cell? ⟨X, 1, none⟩ = some (.int .i64 y1) := HR.out.cell 1 (by decide)
              have HLT := Lib.hid hlt
              clear hj
              go_wp2_with (fail)
              refine (put_yesB HP.out x1 y1 HLN.out).mono ?_
              rintro e w4 ⟨rfl, hP4, ho4⟩
              have HR4 := Lib.hid (HR.out.only ho4 (fun h => h rfl))
              have HP4 := Lib.hid hP4
              clear hP4 ho4 HP HR c0 c1
              go_wp2_with (fail)
              refine (get_yesB HP4.out).mono ?_
              rintro e w5 ⟨rfl, hP5, ho5⟩
              have hR5 := HR4.out.only ho5 (fun h => h rfl)
              have HST := Lib.hid (store_obj w5 #[.int .i64 0, .int .i64 0] rfl x1 y1)
              have hba : Below w5.heap.size w5 (w5.alloc (.cells #[.int .i64 x1, .int .i64 y1] 33)) := (Below.refl _ _).alloc (Nat.le_refl _) _
              have HP6 := Lib.hid (hP5.later hba)
              have HR6 := Lib.hid (hR5.later hba)
              have d0 := HR6.out.cell 0 (by decide)
              have d1 := HR6.out.cell 1 (by decide)
              have r0 := (obj_row w5 x1 y1).cell 0 (by decide)
              have r1 := (obj_row w5 x1 y1).cell 1 (by decide)
              have e0 : obV x1 y1 0 = .int .i64 x1 := rfl
              have e1 : obV x1 y1 1 = .int .i64 y1 := rfl
              rw [e0] at d0 r0
              rw [e1] at d1 r1
              clear hP5 ho5 hR5 hba HP4 HR4 e0 e1
              go_wp2_with (first | (refine wpList_store_run rfl TO _ _ rfl _ _ _ rfl rfl HST.out ?_) | fail)
              go_roundw
              case rel => exact ⟨j + 1, .inl (by have := HLT.out; omega), by go_num, HP6, HR6⟩
              case measure => have := HLT.out; simp [intOf]; omega
            · go_wp2_with (fail)
              refine (known_any _).mono ?_
              rintro e w6 ⟨rfl, hb⟩
              have HB := Lib.hid (HP.out.ps.bel.trans (hb.mono HP.out.ps.bel.size))
              clear hb HP
              go_wp2_with (fail)
              go_ret
              exact ⟨rfl, HB.out⟩
  · go_enter Try.func5, Try.ntmps5
    by_cases h1 : len ≤ 100
    · have hlenI : ¬ (100 < (len : Int)) := by omega
      have hnI : 50 < n := by omega
      clear hlen
      go_wp2_with (fail)
      refine (known_any _).mono ?_
      rintro e w5 ⟨rfl, hb⟩
      have HB := Lib.hid hb
      clear hb
      go_wp2_with (fail)
      go_ret
      exact ⟨rfl, HB.out⟩
    · have hlenI : 100 < (len : Int) := by omega
      clear hlen
      go_wp2_with (fail)
      refine (known_any _).mono ?_
      rintro e w5 ⟨rfl, hb⟩
      have HB := Lib.hid hb
      clear hb
      go_wp2_with (fail)
      go_ret
      exact ⟨rfl, HB.out⟩
end Go.Proofs.Ytaadjgnfihkaeaa
