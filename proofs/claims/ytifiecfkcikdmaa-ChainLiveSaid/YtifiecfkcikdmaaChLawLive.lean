/-
  The walk of ChainLive: it returns true, and below the old heap nothing has turned.
-/
import Derived.Test.YtifiecfkcikdmaaChPlay
import Derived.Test.YtifiecfkcikdmaaChLv
import Derived.Deep.DeepCutAuto
import Derived.Deep.CutBlock
namespace Go.Proofs.Ytifiecfkcikdmaa
open Go.RowKit Go

section
variable {SlAt : World → SC → Sl → Prop}
set_option maxRecDepth 100000 in
set_option maxHeartbeats 8000000 in
theorem lawCLive_any (K : ChainOk SlAt) (size turn : Int) (ba : Option Addr) (bn bcc : Nat) (x : Nat → UInt8) (la : Option Addr) (len cap : Nat) (O : Nat → OpC) (w : World) (hS : Src w ba bn x) (hO : OpsC w la len O) :
    Calls Try.prog 5 #[.int .i64 size, .int .u64 turn, .slice ba bn bcc, .slice la len cap] w fun e w' => e = .returned (.bool true) ∧ Below w.heap.size w w' := by
  obtain ⟨Z, hZ, hmk⟩ := make_bytes
  have HK := Lib.hid K
  have HS := Lib.hid hS
  have HO := Lib.hid hO
  have HZR := Lib.hid (RowAt.new w Z 5 256 _ hZ)
  have HB1 := Lib.hid ((Below.refl w.heap.size w).alloc (Nat.le_refl _) (.cells Z 5))
  clear K hZ hS hO
  by_cases hl : len ≤ 100
  · have hlI : ¬ 100 < (len : Int) := by omega
    by_cases ht : turn = 0
    · subst ht
      go_enter Try.func5, Try.ntmps5
      go_wp2_with (fail)
      clear hmk
      refine (cknown_any HK.out _).mono ?_
      rintro e w3 ⟨rfl, hb⟩
      have HB := Lib.hid hb
      clear hb
      go_wp2_with (fail)
      go_ret
      exact ⟨rfl, HB.out⟩
    · have htb : (turn == 0) = false := by simpa using ht
      by_cases hn : bn ≤ 300
      · have hnI : ¬ 300 < (bn : Int) := by omega
        by_cases hm : mayC size 0 = true
        · have hm' := hm
          unfold mayC at hm'
          obtain ⟨m1, m2, m3, m4, m5, m6⟩ := of_decide_eq_true hm'
          obtain ⟨sz, rfl⟩ : ∃ sz : Nat, size = sz := ⟨size.toNat, by omega⟩
          have hmn : mayC sz ((0 : Nat) : Int) = true := hm
          have HM := Lib.hid hmn
          obtain ⟨S1, S2, e1, e2, e3, I1, I2, hLv⟩ := lv_new hmn ht
          have HE1 := Lib.hid e1
          have HE2 := Lib.hid e2
          have HE3 := Lib.hid e3
          have HI2 := Lib.hid I2
          have HLV := Lib.hid hLv
          have HT := Lib.hid ht
          have hsz : 8 ≤ sz ∧ sz ≤ 128 := by omega
          have hszI : ¬ (256 : Int) < (sz : Int) := by omega
          clear hm hm' m1 m2 m3 m4 m5 m6 hmn e1 e2 e3 I1 I2 hLv ht
          go_enter Try.func5, Try.ntmps5
          go_wp2_with (fail)
          clear hmk
          generalize w.alloc (.cells Z 5) = w1 at *
          refine (HK.out.new sz 0 w.heap.size 256 _ w1 HM.out (Nat.le_refl _) HZR.out).mono ?_
          intro e w2 hN
          obtain ⟨C, rfl, hCb, _, hL, _, _⟩ := LAt.new HB1.out HB1.out.size (Nat.le_refl _) hN
          have HL := Lib.hid hL
          have HCb := Lib.hid hCb
          clear hN hL hCb
          go_wp2_with (fail)
          refine (HK.out.take HL.out.at_).mono ?_
          rintro e w3 ⟨rfl, hA, ho⟩
          rw [HE1.out] at hA ⊢
          have HL3 := Lib.hid (HL.out.turn hA ho)
          clear hA ho HL
          go_wp2_with (fail)
          refine (HK.out.place 0 HL3.out.at_).mono ?_
          rintro e w4 ⟨rfl, hb⟩
          rw [HE3.out]
          have HL4 := Lib.hid (HL3.out.later HK.out hb)
          clear hb HL3
          go_wp2_with (fail)
          refine (HK.out.mark 0 turn HL4.out.at_).mono ?_
          rintro e w5 ⟨rfl, hA, ho⟩
          rw [HE2.out] at hA ⊢
          have HL5 := Lib.hid (HL4.out.turn hA ho)
          clear hA ho HL4
          have hsI : (sz : Int) - 0 = (sz : Int) := by omega
          go_wp2_with (fail)
          have hpos0 : S2.pos 0 = 0 := by rw [HLV.out.pos]; omega
          have HBI := Lib.hid (show ∀ j, j ≤ sz → SlI (bS S2 0 j x) from fun j hj => by
            have h := bS_inv HI2.out (i := 0) (by have := HI2.out.parts; omega) HLV.out.out (j := j) (by rw [HLV.out.sz_]; exact hj) x
            rw [hpos0] at h
            exact h)
          have HL0 := Lib.hid (show LAt SlAt w.heap.size w C (bS S2 0 0 x) w5 by rw [bS_zero]; exact HL5.out)
          clear HL5 hpos0
          go_loopw [16] (fun q wr => ∃ j : Nat, j ≤ sz ∧ j ≤ bn ∧ q = .int .i64 j ∧ Hid (LAt SlAt w.heap.size w C (bS S2 0 j x) wr)) (fun q _ => bn - (intOf q).toNat)
          case atStart => exact ⟨0, Nat.zero_le _, Nat.zero_le _, rfl, HL0⟩
          case round =>
            clear HL0
            obtain ⟨j, hj1, hj2, rfl, HL⟩ := hrel
            by_cases hjj : j < bn ∧ j < sz
            · obtain ⟨hjb, hjs⟩ := hjj
              have hjbI : (j : Int) < (bn : Int) := by omega
              have hjsI : (j : Int) < (sz : Int) := by omega
              obtain ⟨b2, o2, rfl, hb2, hcc⟩ := HS.out.plain (by omega)
              have cb : wr.cell? ⟨b2, o2 + j, none⟩ = some (byV x j) := by rw [HL.out.bel.cell (p := ⟨b2, o2 + j, none⟩) hb2]; exact hcc j hjb
              have hrow := HK.out.byt HL.out.at_
              rw [HCb.out] at hrow
              have ct : wr.cell? ⟨w.heap.size, j, none⟩ = some (byV (bS S2 0 j x).bt j) := hrow.cell _ (by omega)
              have ft : wr.frozen? ⟨w.heap.size, j, none⟩ = false := hrow.frozen _
              have hj256 : (j : Int) < 256 := by omega
              have hr0 := row_bS hrow
              rw [Nat.zero_add] at hr0
              have hor : Only (fun k => k = C.b) wr (wr.setCell ⟨w.heap.size, j, none⟩ (.int .u8 (x j).toNat)) := by rw [HCb.out]; exact Only.setCell (S := fun k => k = w.heap.size) _ ⟨w.heap.size, j, none⟩ rfl _
              have HL1 := Lib.hid (show LAt SlAt w.heap.size w C (bS S2 0 (j + 1) x) (wr.setCell ⟨w.heap.size, j, none⟩ (.int .u8 (x j).toNat)) from HL.out.bytes HK.out hor (by rw [HCb.out]; exact hr0) (HBI.out (j + 1) hjs))
              have HLT := Lib.hid (And.intro hjs hjb)
              unfold byV at cb ct
              clear hrow hr0 hor HL
              go_wp2_with (fail)
              go_roundw
              case rel => exact ⟨j + 1, HLT.out.1, HLT.out.2, by go_num, HL1⟩
              case measure => simp [intOf]; omega
            · have HJ := Lib.hid hjj
              have HL1 := HL
              have HI3 := Lib.hid (HBI.out j hj1)
              have HLV3 := Lib.hid (show Lv turn sz (bS S2 0 j x).bt (bS S2 0 j x) from ⟨HLV.out.sz_, HLV.out.co_, HLV.out.out, HLV.out.tu, fun _ _ => rfl⟩)
              generalize bS S2 0 j x = S3 at *
              have hcv : (convert 22 9 (.slice (some ⟨w.heap.size, 0, none⟩) sz 256)).run Try.prog wr = .ok (.string (strB sz S3.bt)) wr := by
                have hrow := HK.out.byt HL.out.at_
                rw [HCb.out] at hrow
                exact run_string_src (Src.of_row hrow (fun i hi => ⟨by omega, by rw [Nat.zero_add]⟩))
              have HSB := Lib.hid (show ∀ g : Nat → UInt8, (∀ p, p < sz → g p = S3.bt p) → strB sz g = strB sz S3.bt from fun g hg => strB_ext hg)
              have HF := Lib.hid (show ∃ f, f = S3.bt from ⟨_, rfl⟩)
              obtain ⟨f, hf⟩ := HF.out
              rw [← hf] at HLV3 hcv HSB
              generalize strB sz f = str at *
              clear hjj HBI HL1 HF hf HI2 HLV HE1 HE2 HE3
              have hszb : (sz : Int) ≤ 256 := by omega
              by_cases hjb : j < bn
              · have hjs : ¬ (j : Int) < (sz : Int) := by have := HJ.out; omega
                have hjbI : (j : Int) < (bn : Int) := by omega
                go_wp2_with (fail)
                clear hcv
                go_loopw [111] (fun q wr => ∃ (k : Nat) (S : Sl), k ≤ len ∧ q = .int .i64 k ∧ Hid (LAt SlAt w.heap.size w C S wr) ∧ Hid (Lv turn sz f S)) (fun q _ => len - (intOf q).toNat)
                case atStart => exact ⟨0, S3, Nat.zero_le _, rfl, HL, HLV3⟩
                case round =>
                  clear HL HLV3 HI3
                  obtain ⟨k, S, hk, rfl, HL, HV⟩ := hrel
                  have HI := Lib.hid (HK.out.inv HL.out.at_)
                  by_cases hlt : k < len
                  · obtain ⟨b, o, rfl, hbl, hsrc, hbl2, hc⟩ := HO.out.one k hlt
                    obtain ⟨q0, q1, q2, q3⟩ := hc wr HL.out.bel
                    have hltI : (k : Int) < (len : Int) := by omega
                    clear hc hbl hsrc hbl2
                    generalize O k = op at q0 q1 q2 q3
                    obtain ⟨kind, at1, tn, bp, bl, bcp, ox⟩ := op
                    dsimp only at q0 q1 q2 q3
                    have HST := Lib.hid (store_opc wr #[.int .i64 0, .int .i64 0, .int .u64 0, .slice none 0 0] rfl ⟨kind, at1, tn, bp, bl, bcp, ox⟩)
                    have hba : Below wr.heap.size wr (wr.alloc (.cells (OpC.arr ⟨kind, at1, tn, bp, bl, bcp, ox⟩) 35)) := (Below.refl _ _).alloc (Nat.le_refl _) _
                    have HR := Lib.hid (opc_row wr ⟨kind, at1, tn, bp, bl, bcp, ox⟩)
                    have HCL := Lib.hid (HK.out.lt HL.out.at_)
                    have HL1 := Lib.hid (HL.out.later HK.out hba)
                    clear hba HL
                    unfold OpC.arr at HST HR HL1
                    dsimp only at HST HR HL1
                    by_cases hcont : kind ≠ 0 ∧ at1 = 0
                    · obtain ⟨hkn, rfl⟩ := hcont
                      have hkb : (kind == 0) = false := by simpa using hkn
                      have r0 := (opc_four HR.out).1
                      have r1 := (opc_four HR.out).2.1
                      dsimp only at r0 r1
                      go_wp2_with (refine wpList_store_run rfl 35 _ _ rfl wr.heap.size _ _ rfl rfl HST.out ?_)
                      go_roundw
                      case rel => exact ⟨k + 1, S, by omega, by go_num, HL1, HV⟩
                      case measure => simp [intOf]; omega
                    · have HCN := Lib.hid hcont
                      clear hcont
                      go_upto_block 4 with (refine wpList_store_run rfl 35 _ _ rfl wr.heap.size _ _ rfl rfl HST.out ?_)
                      clear q0 q1 q2 q3 HST
                      generalize wr.heap.size = ob at HR HCL ⊢
                      generalize wr.alloc (.cells #[.int .i64 kind, .int .i64 at1, .int .u64 tn, .slice bp bl bcp] 35) = W at HR HL1 ⊢
                      try go_frame
                      go_cut [18] (fun q wc => ∃ S : Sl, q = .int .i64 k ∧ Hid (LAt SlAt w.heap.size w C S wc) ∧ Hid (Lv turn sz f S))
                      case first =>
                        obtain ⟨q0, q1, q2, q3⟩ := opc_four HR.out
                        dsimp only at q0 q1 q2 q3
                        by_cases hk0 : kind = 0
                        · subst hk0
                          go_wp2_with (fail)
                          refine (HK.out.take HL1.out.at_).mono ?_
                          rintro e w3 ⟨rfl, hA, ho⟩
                          have HL3 := Lib.hid (HL1.out.turn hA ho)
                          have HV3 := Lib.hid (HV.out.take HI.out)
                          clear hA ho q0 q1 q2 q3 HL1 HR
                          go_wp2_with (fail)
                          go_meet
                          exact ⟨_, rfl, HL3, HV3⟩
                        have hne : at1 ≠ 0 := fun h => HCN.out ⟨hk0, h⟩
                        have hneb : (at1 == 0) = false := by simpa using hne
                        have HNE := Lib.hid hne
                        have e0 : (kind == 0) = false := by simpa using hk0
                        clear hne hk0
                        by_cases hk1 : kind = 1
                        · subst hk1
                          go_wp2_with (fail)
                          refine (HK.out.give at1 HL1.out.at_).mono ?_
                          rintro e w3 ⟨rfl, hA, ho⟩
                          have HL3 := Lib.hid (HL1.out.turn hA ho)
                          have HV3 := Lib.hid (HV.out.give HNE.out)
                          clear hA ho q0 q1 q2 q3 HL1 HR
                          go_wp2_with (fail)
                          go_meet
                          exact ⟨_, rfl, HL3, HV3⟩
                        by_cases hk2 : kind = 2
                        · subst hk2
                          go_wp2_with (fail)
                          refine (HK.out.mark at1 tn HL1.out.at_).mono ?_
                          rintro e w3 ⟨rfl, hA, ho⟩
                          have HL3 := Lib.hid (HL1.out.turn hA ho)
                          have HV3 := Lib.hid (HV.out.mark (u := tn) HNE.out)
                          clear hA ho q0 q1 q2 q3 HL1 HR
                          go_wp2_with (fail)
                          go_meet
                          exact ⟨_, rfl, HL3, HV3⟩
                        by_cases hk3 : kind = 3
                        · subst hk3
                          go_wp2_with (fail)
                          refine (HK.out.clr at1 HL1.out.at_).mono ?_
                          rintro e w3 ⟨rfl, hA, ho⟩
                          have HL3 := Lib.hid (HL1.out.turn hA ho)
                          have HV3 := Lib.hid (HV.out.clr HNE.out)
                          clear hA ho q0 q1 q2 q3 HL1 HR
                          go_wp2_with (fail)
                          go_meet
                          exact ⟨_, rfl, HL3, HV3⟩
                        have e1 : (kind == 1) = false := by simpa using hk1
                        have e2 : (kind == 2) = false := by simpa using hk2
                        have e3 : (kind == 3) = false := by simpa using hk3
                        clear hk1 hk2 hk3
                        go_wp2_with (fail)
                        go_meet
                        exact ⟨S, rfl, HL1, HV⟩
                      case rest =>
                        obtain ⟨S', rfl, HL', HV'⟩ := hcut
                        clear HL1 HR HCN HI HV HCL
                        have HI' := Lib.hid (HK.out.inv HL'.out.at_)
                        have HLI := Lib.hid (HV'.out.live HI'.out HT.out)
                        have HBU := Lib.hid (HV'.out.busy HI'.out HT.out)
                        go_wp2_with (fail)
                        refine (HK.out.live 0 HL'.out.at_).mono ?_
                        rintro e w5 ⟨rfl, hb⟩
                        rw [HLI.out]
                        have HL5 := Lib.hid (HL'.out.later HK.out hb)
                        clear hb HL'
                        have hcv : (convert 22 9 (.slice (some ⟨w.heap.size, 0, none⟩) sz 256)).run Try.prog w5 = .ok (.string str) w5 := by
                          have hrow := HK.out.byt HL5.out.at_
                          rw [HCb.out] at hrow
                          rw [← HSB.out S'.bt HV'.out.bt]
                          exact run_string_src (Src.of_row hrow (fun i hi => ⟨by omega, by rw [Nat.zero_add]⟩))
                        go_wp2_with (fail)
                        clear hcv
                        refine (HK.out.give 0 HL5.out.at_).mono ?_
                        rintro e w6 ⟨rfl, hA, ho⟩
                        rw [HBU.out] at hA ⊢
                        have HL6 := Lib.hid (HL5.out.turn hA ho)
                        clear hA ho HL5
                        go_wp2_with (fail)
                        go_roundw
                        case rel => exact ⟨k + 1, S', by omega, by go_num, HL6, HV'⟩
                        case measure => simp [intOf]; omega
                  · obtain rfl : k = len := by omega
                    obtain ⟨S', hc1, hc2⟩ := HV.out.clear HI.out HT.out
                    have HC1 := Lib.hid hc1
                    have HC2 := Lib.hid hc2
                    clear hc1 hc2
                    go_wp2_with (fail)
                    refine (HK.out.clr 0 HL.out.at_).mono ?_
                    rintro e w5 ⟨rfl, hA, ho⟩
                    rw [HC1.out] at hA ⊢
                    have HL5 := Lib.hid (HL.out.turn hA ho)
                    clear hA ho HL
                    go_wp2_with (fail)
                    refine (HK.out.give 0 HL5.out.at_).mono ?_
                    rintro e w6 ⟨rfl, hA, ho⟩
                    rw [HC2.out]
                    have HL6 := Lib.hid (HL5.out.turn hA ho)
                    clear hA ho HL5
                    go_wp2_with (fail)
                    refine (cknown_any HK.out _).mono ?_
                    rintro e w7 ⟨rfl, hb⟩
                    have HB7 := Lib.hid (HL6.out.ends hb)
                    clear hb
                    go_wp2_with (fail)
                    go_ret
                    exact ⟨rfl, HB7.out⟩
              · have hjbI : ¬ (j : Int) < (bn : Int) := by omega
                go_wp2_with (fail)
                clear hcv
                go_loopw [111] (fun q wr => ∃ (k : Nat) (S : Sl), k ≤ len ∧ q = .int .i64 k ∧ Hid (LAt SlAt w.heap.size w C S wr) ∧ Hid (Lv turn sz f S)) (fun q _ => len - (intOf q).toNat)
                case atStart => exact ⟨0, S3, Nat.zero_le _, rfl, HL, HLV3⟩
                case round =>
                  clear HL HLV3 HI3
                  obtain ⟨k, S, hk, rfl, HL, HV⟩ := hrel
                  have HI := Lib.hid (HK.out.inv HL.out.at_)
                  by_cases hlt : k < len
                  · obtain ⟨b, o, rfl, hbl, hsrc, hbl2, hc⟩ := HO.out.one k hlt
                    obtain ⟨q0, q1, q2, q3⟩ := hc wr HL.out.bel
                    have hltI : (k : Int) < (len : Int) := by omega
                    clear hc hbl hsrc hbl2
                    generalize O k = op at q0 q1 q2 q3
                    obtain ⟨kind, at1, tn, bp, bl, bcp, ox⟩ := op
                    dsimp only at q0 q1 q2 q3
                    have HST := Lib.hid (store_opc wr #[.int .i64 0, .int .i64 0, .int .u64 0, .slice none 0 0] rfl ⟨kind, at1, tn, bp, bl, bcp, ox⟩)
                    have hba : Below wr.heap.size wr (wr.alloc (.cells (OpC.arr ⟨kind, at1, tn, bp, bl, bcp, ox⟩) 35)) := (Below.refl _ _).alloc (Nat.le_refl _) _
                    have HR := Lib.hid (opc_row wr ⟨kind, at1, tn, bp, bl, bcp, ox⟩)
                    have HCL := Lib.hid (HK.out.lt HL.out.at_)
                    have HL1 := Lib.hid (HL.out.later HK.out hba)
                    clear hba HL
                    unfold OpC.arr at HST HR HL1
                    dsimp only at HST HR HL1
                    by_cases hcont : kind ≠ 0 ∧ at1 = 0
                    · obtain ⟨hkn, rfl⟩ := hcont
                      have hkb : (kind == 0) = false := by simpa using hkn
                      have r0 := (opc_four HR.out).1
                      have r1 := (opc_four HR.out).2.1
                      dsimp only at r0 r1
                      go_wp2_with (refine wpList_store_run rfl 35 _ _ rfl wr.heap.size _ _ rfl rfl HST.out ?_)
                      go_roundw
                      case rel => exact ⟨k + 1, S, by omega, by go_num, HL1, HV⟩
                      case measure => simp [intOf]; omega
                    · have HCN := Lib.hid hcont
                      clear hcont
                      go_upto_block 4 with (refine wpList_store_run rfl 35 _ _ rfl wr.heap.size _ _ rfl rfl HST.out ?_)
                      clear q0 q1 q2 q3 HST
                      generalize wr.heap.size = ob at HR HCL ⊢
                      generalize wr.alloc (.cells #[.int .i64 kind, .int .i64 at1, .int .u64 tn, .slice bp bl bcp] 35) = W at HR HL1 ⊢
                      try go_frame
                      go_cut [18] (fun q wc => ∃ S : Sl, q = .int .i64 k ∧ Hid (LAt SlAt w.heap.size w C S wc) ∧ Hid (Lv turn sz f S))
                      case first =>
                        obtain ⟨q0, q1, q2, q3⟩ := opc_four HR.out
                        dsimp only at q0 q1 q2 q3
                        by_cases hk0 : kind = 0
                        · subst hk0
                          go_wp2_with (fail)
                          refine (HK.out.take HL1.out.at_).mono ?_
                          rintro e w3 ⟨rfl, hA, ho⟩
                          have HL3 := Lib.hid (HL1.out.turn hA ho)
                          have HV3 := Lib.hid (HV.out.take HI.out)
                          clear hA ho q0 q1 q2 q3 HL1 HR
                          go_wp2_with (fail)
                          go_meet
                          exact ⟨_, rfl, HL3, HV3⟩
                        have hne : at1 ≠ 0 := fun h => HCN.out ⟨hk0, h⟩
                        have hneb : (at1 == 0) = false := by simpa using hne
                        have HNE := Lib.hid hne
                        have e0 : (kind == 0) = false := by simpa using hk0
                        clear hne hk0
                        by_cases hk1 : kind = 1
                        · subst hk1
                          go_wp2_with (fail)
                          refine (HK.out.give at1 HL1.out.at_).mono ?_
                          rintro e w3 ⟨rfl, hA, ho⟩
                          have HL3 := Lib.hid (HL1.out.turn hA ho)
                          have HV3 := Lib.hid (HV.out.give HNE.out)
                          clear hA ho q0 q1 q2 q3 HL1 HR
                          go_wp2_with (fail)
                          go_meet
                          exact ⟨_, rfl, HL3, HV3⟩
                        by_cases hk2 : kind = 2
                        · subst hk2
                          go_wp2_with (fail)
                          refine (HK.out.mark at1 tn HL1.out.at_).mono ?_
                          rintro e w3 ⟨rfl, hA, ho⟩
                          have HL3 := Lib.hid (HL1.out.turn hA ho)
                          have HV3 := Lib.hid (HV.out.mark (u := tn) HNE.out)
                          clear hA ho q0 q1 q2 q3 HL1 HR
                          go_wp2_with (fail)
                          go_meet
                          exact ⟨_, rfl, HL3, HV3⟩
                        by_cases hk3 : kind = 3
                        · subst hk3
                          go_wp2_with (fail)
                          refine (HK.out.clr at1 HL1.out.at_).mono ?_
                          rintro e w3 ⟨rfl, hA, ho⟩
                          have HL3 := Lib.hid (HL1.out.turn hA ho)
                          have HV3 := Lib.hid (HV.out.clr HNE.out)
                          clear hA ho q0 q1 q2 q3 HL1 HR
                          go_wp2_with (fail)
                          go_meet
                          exact ⟨_, rfl, HL3, HV3⟩
                        have e1 : (kind == 1) = false := by simpa using hk1
                        have e2 : (kind == 2) = false := by simpa using hk2
                        have e3 : (kind == 3) = false := by simpa using hk3
                        clear hk1 hk2 hk3
                        go_wp2_with (fail)
                        go_meet
                        exact ⟨S, rfl, HL1, HV⟩
                      case rest =>
                        obtain ⟨S', rfl, HL', HV'⟩ := hcut
                        clear HL1 HR HCN HI HV HCL
                        have HI' := Lib.hid (HK.out.inv HL'.out.at_)
                        have HLI := Lib.hid (HV'.out.live HI'.out HT.out)
                        have HBU := Lib.hid (HV'.out.busy HI'.out HT.out)
                        go_wp2_with (fail)
                        refine (HK.out.live 0 HL'.out.at_).mono ?_
                        rintro e w5 ⟨rfl, hb⟩
                        rw [HLI.out]
                        have HL5 := Lib.hid (HL'.out.later HK.out hb)
                        clear hb HL'
                        have hcv : (convert 22 9 (.slice (some ⟨w.heap.size, 0, none⟩) sz 256)).run Try.prog w5 = .ok (.string str) w5 := by
                          have hrow := HK.out.byt HL5.out.at_
                          rw [HCb.out] at hrow
                          rw [← HSB.out S'.bt HV'.out.bt]
                          exact run_string_src (Src.of_row hrow (fun i hi => ⟨by omega, by rw [Nat.zero_add]⟩))
                        go_wp2_with (fail)
                        clear hcv
                        refine (HK.out.give 0 HL5.out.at_).mono ?_
                        rintro e w6 ⟨rfl, hA, ho⟩
                        rw [HBU.out] at hA ⊢
                        have HL6 := Lib.hid (HL5.out.turn hA ho)
                        clear hA ho HL5
                        go_wp2_with (fail)
                        go_roundw
                        case rel => exact ⟨k + 1, S', by omega, by go_num, HL6, HV'⟩
                        case measure => simp [intOf]; omega
                  · obtain rfl : k = len := by omega
                    obtain ⟨S', hc1, hc2⟩ := HV.out.clear HI.out HT.out
                    have HC1 := Lib.hid hc1
                    have HC2 := Lib.hid hc2
                    clear hc1 hc2
                    go_wp2_with (fail)
                    refine (HK.out.clr 0 HL.out.at_).mono ?_
                    rintro e w5 ⟨rfl, hA, ho⟩
                    rw [HC1.out] at hA ⊢
                    have HL5 := Lib.hid (HL.out.turn hA ho)
                    clear hA ho HL
                    go_wp2_with (fail)
                    refine (HK.out.give 0 HL5.out.at_).mono ?_
                    rintro e w6 ⟨rfl, hA, ho⟩
                    rw [HC2.out]
                    have HL6 := Lib.hid (HL5.out.turn hA ho)
                    clear hA ho HL5
                    go_wp2_with (fail)
                    refine (cknown_any HK.out _).mono ?_
                    rintro e w7 ⟨rfl, hb⟩
                    have HB7 := Lib.hid (HL6.out.ends hb)
                    clear hb
                    go_wp2_with (fail)
                    go_ret
                    exact ⟨rfl, HB7.out⟩
        · have HM := Lib.hid (show mayC size 0 = false by simpa using hm)
          clear hm
          go_enter Try.func5, Try.ntmps5
          go_wp2_with (fail)
          clear hmk
          generalize w.alloc (.cells Z 5) = w1 at *
          refine (HK.out.newNo _ _ _ size 0 w1 (.inr HM.out)).mono ?_
          rintro e w2 ⟨rfl, hb⟩
          have HB2 := Lib.hid (HB1.out.trans (hb.mono HB1.out.size))
          clear hb
          go_wp2_with (fail)
          refine (cknown_any HK.out w2).mono ?_
          rintro e w3 ⟨rfl, hb⟩
          have HB3 := Lib.hid (HB2.out.trans (hb.mono HB2.out.size))
          clear hb
          go_wp2_with (fail)
          go_ret
          exact ⟨rfl, HB3.out⟩
      · have hnI : 300 < (bn : Int) := by omega
        go_enter Try.func5, Try.ntmps5
        go_wp2_with (fail)
        clear hmk
        refine (cknown_any HK.out _).mono ?_
        rintro e w3 ⟨rfl, hb⟩
        have HB := Lib.hid hb
        clear hb
        go_wp2_with (fail)
        go_ret
        exact ⟨rfl, HB.out⟩
  · have hlI : 100 < (len : Int) := by omega
    go_enter Try.func5, Try.ntmps5
    go_wp2_with (fail)
    clear hmk
    refine (cknown_any HK.out _).mono ?_
    rintro e w3 ⟨rfl, hb⟩
    have HB := Lib.hid hb
    clear hb
    go_wp2_with (fail)
    go_ret
    exact ⟨rfl, HB.out⟩
end
end Go.Proofs.Ytifiecfkcikdmaa
