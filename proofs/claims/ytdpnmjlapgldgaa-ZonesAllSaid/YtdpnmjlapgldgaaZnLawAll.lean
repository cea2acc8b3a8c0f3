/-
  The walk of ZonesAll: it returns true, and below the old heap nothing has turned.
-/
import Derived.Test.YtdpnmjlapgldgaaZaAt
namespace Go.Proofs.Ytdpnmjlapgldgaa
open Go.RowKit Go

set_option maxRecDepth 100000 in
set_option maxHeartbeats 8000000 in
theorem lawZAll_any (A : Array Value) (g : Nat → Int) (a : Option Addr) (len cap : Nat) (z : Nat → Int) (floor : Int) (high : Bool) (w : World) (hA : Cfg A g) (hz : IntsIn w a len z) :
    Calls Try.prog 5 #[.agg A, .slice a len cap, .int .i64 floor, .bool high] w fun e w' => e = .returned (.bool true) ∧ Below w.heap.size w w' := by
  obtain rfl : A = ofG g := Cfg.unique hA (cfg_ofG g)
  have C0 := CfgAt.new w hA
  have HA := Lib.hid hA
  have HIN := Lib.hid hz
  have HB0 := Lib.hid ((Below.refl _ w).alloc (Nat.le_refl _) (.cells (ofG g) 26))
  have hs1 : (w.alloc (.cells (ofG g) 26)).heap.size = w.heap.size + 1 := by simp
  clear hA hz
  by_cases hm : mayB g = true
  · have HM := Lib.hid hm
    clear hm
    go_enter Try.func5, Try.ntmps5
    go_wp2_with (refine wpList_load_cfg rfl _ rfl _ rfl C0 ?_)
    have HC0 := Lib.hid C0
    clear C0
    generalize w.alloc (.cells (ofG g) 26) = w1 at *
    refine (znew6_any (ofG g) g w1 HA.out HM.out).mono ?_
    rintro e w2 ⟨Z, rfl, hZ, hb2, hall⟩
    have HZ := Lib.hid (ZsAt.new hZ HB0.out HC0.out hb2 hs1 hall)
    clear hZ hb2 hall HB0 HC0
    by_cases hl : len ≤ 8
    · have hl2 : ¬ (8 < (len : Int)) := by omega
      by_cases hf0 : floor < 0
      · go_wp2_with (fail)
        refine (zknown_any _).mono ?_
        rintro e w3 ⟨rfl, hb⟩
        have HB := Lib.hid (HZ.out.ends hb)
        clear hb
        go_wp2_with (fail)
        go_ret
        exact ⟨rfl, HB.out⟩
      · by_cases hf2 : 200 < floor
        · go_wp2_with (fail)
          refine (zknown_any _).mono ?_
          rintro e w3 ⟨rfl, hb⟩
          have HB := Lib.hid (HZ.out.ends hb)
          clear hb
          go_wp2_with (fail)
          go_ret
          exact ⟨rfl, HB.out⟩
        · obtain ⟨fl, rfl⟩ : ∃ fl : Nat, floor = fl := ⟨floor.toNat, by omega⟩
          have hfl : fl ≤ 200 := by omega
          have hR := RowAt.new w2 #[.bool false, .bool false, .bool false, .bool false, .bool false, .bool false, .bool false, .bool false] 57 8 (fun i => .bool (askd z 0 i)) (fun i hi => by
            rw [askd_zero]
            rcases (show i = 0 ∨ i = 1 ∨ i = 2 ∨ i = 3 ∨ i = 4 ∨ i = 5 ∨ i = 6 ∨ i = 7 by omega) with rfl | rfl | rfl | rfl | rfl | rfl | rfl | rfl <;> rfl)
          have HR := Lib.hid hR
          have HZ1 := Lib.hid (HZ.out.later ((Below.refl w2.heap.size w2).alloc (Nat.le_refl _) (.cells #[.bool false, .bool false, .bool false, .bool false, .bool false, .bool false, .bool false, .bool false] 57)))
          clear hR HZ
          go_wp2_with (fail)
          obtain ⟨B, hB⟩ : ∃ B, w2.heap.size = B := ⟨_, rfl⟩
          rw [hB] at HZ1 HR ⊢
          generalize w2.alloc (.cells #[.bool false, .bool false, .bool false, .bool false, .bool false, .bool false, .bool false, .bool false] 57) = w3 at *
          clear hB
          go_loopw [54] (fun i wr => ∃ j : Nat, j ≤ len ∧ i = .int .i64 j ∧ Hid (ZsAt w Z g (fun i => newL (frN g i)) (fun _ => []) B wr) ∧ Hid (RowAt wr B 8 (fun i => .bool (askd z j i))) ∧ Hid (∀ i, i < j → 0 ≤ z i ∧ z i < (Z.N : Int))) (fun i _ => len - (intOf i).toNat)
          case atStart => exact ⟨0, Nat.zero_le _, rfl, HZ1, HR, fun i hi => absurd hi (Nat.not_lt_zero i)⟩
          case round =>
            clear HZ1 HR
            obtain ⟨j, hj, rfl, HZ, HR, HOK⟩ := hrel
            have h8 := HZ.out.zn.n8
            by_cases hlt : j < len
            · have hltI : (j : Int) < (len : Int) := by omega
              obtain ⟨b, o, rfl, hbl, hx, hc⟩ := HIN.out.one j hlt
              have cz := hc wr HZ.out.bel
              have c0 := HZ.out.c0
              have HD := Lib.hid (show ∀ U, U = wr.drew → (loadVar 3 ⟨b, o + j, none⟩).run Try.prog U = .ok (.int .i64 (z j)) U from fun U hU => by rw [hU]; exact run_loadVar_cell (fun _ => by kernel_rfl) (by exact cz))
              have L0 := Lib.hid (show ∀ U, U = wr.drew → (loadVar 3 ⟨w.heap.size, 0, none⟩).run Try.prog U = .ok (.int .i64 Z.N) U from fun U hU => by rw [hU]; exact run_loadVar_cell (fun _ => by kernel_rfl) (by exact c0))
              obtain ⟨x, hzx⟩ : ∃ x, z j = x := ⟨_, rfl⟩
              have hcw := Lib.hid hc
              rw [hzx] at cz HD hx hcw
              have HZX := Lib.hid hzx
              have HDR := Lib.hid (HZ.out.later (Below.refl wr.heap.size wr).drew)
              have HRR := Lib.hid (HR.out.later (Below.refl wr.heap.size wr).drew)
              clear hzx hc
              by_cases hx0 : x < 0
              · have hd1 : decide (x < 0) = true := decide_eq_true hx0
                go_wp2_with (fail)
                refine wp_region_lex1 (fun V => V = wr.drew) [(0, false), (1, false), (2, false), (3, false), (4, false), (5, false), (6, false), (7, false), (8, false), (9, false), (10, false), (11, false), (12, false), (13, false)]
                  (by kernel_rfl) (by kernel_rfl) rfl (by kernel_rfl) rfl ?_
                intro V0 hV0 hK0
                clear hK0
                subst hV0
                refine lexH_yieldE rfl rfl ?_
                apply Exists.intro
                refine ⟨fun W hW => ?_, ?_⟩
                focus (go_simp; exact rfl)
                simp only [List.getElem_toArray, List.getElem_cons_zero, Act.put, List.setIfInBounds_toArray, List.set_cons_zero, List.set_cons_succ]
                refine lexH_yieldE rfl rfl ?_
                apply Exists.intro
                refine ⟨fun W hW => ?_, ?_⟩
                focus (go_simp; exact rfl)
                simp only [List.getElem_toArray, List.getElem_cons_succ, List.getElem_cons_zero, Act.put, List.setIfInBounds_toArray, List.set_cons_zero, List.set_cons_succ]
                refine lexH_yieldE rfl rfl ?_
                apply Exists.intro
                refine ⟨fun W hW => ?_, ?_⟩
                focus (go_simp; exact rfl)
                simp only [List.getElem_toArray, List.getElem_cons_succ, List.getElem_cons_zero, Act.put, List.setIfInBounds_toArray, List.set_cons_zero, List.set_cons_succ]
                refine lexH_load rfl rfl _ _ rfl rfl HD.out ?_
                simp only [List.getElem_toArray, List.getElem_cons_succ, List.getElem_cons_zero, Act.put, List.setIfInBounds_toArray, List.set_cons_zero, List.set_cons_succ]
                refine lexH_yieldE rfl rfl ?_
                apply Exists.intro
                refine ⟨fun W hW => ?_, ?_⟩
                focus (go_simp; exact rfl)
                simp only [List.getElem_toArray, List.getElem_cons_succ, List.getElem_cons_zero, Act.put, List.setIfInBounds_toArray, List.set_cons_zero, List.set_cons_succ]
                refine lexH_yieldE rfl rfl ?_
                apply Exists.intro
                refine ⟨fun W hW => ?_, ?_⟩
                focus (go_simp; exact rfl)
                simp only [List.getElem_toArray, List.getElem_cons_succ, List.getElem_cons_zero, Act.put, List.setIfInBounds_toArray, List.set_cons_zero, List.set_cons_succ]
                refine lexH_skip rfl rfl ?_
                simp only [List.getElem_toArray, List.getElem_cons_succ, List.getElem_cons_zero, Act.put, List.setIfInBounds_toArray, List.set_cons_zero, List.set_cons_succ]
                refine lexH_skip rfl rfl ?_
                simp only [List.getElem_toArray, List.getElem_cons_succ, List.getElem_cons_zero, Act.put, List.setIfInBounds_toArray, List.set_cons_zero, List.set_cons_succ]
                refine lexH_skip rfl rfl ?_
                simp only [List.getElem_toArray, List.getElem_cons_succ, List.getElem_cons_zero, Act.put, List.setIfInBounds_toArray, List.set_cons_zero, List.set_cons_succ]
                refine lexH_skip rfl rfl ?_
                simp only [List.getElem_toArray, List.getElem_cons_succ, List.getElem_cons_zero, Act.put, List.setIfInBounds_toArray, List.set_cons_zero, List.set_cons_succ]
                refine lexH_skip rfl rfl ?_
                simp only [List.getElem_toArray, List.getElem_cons_succ, List.getElem_cons_zero, Act.put, List.setIfInBounds_toArray, List.set_cons_zero, List.set_cons_succ]
                refine lexH_skip rfl rfl ?_
                simp only [List.getElem_toArray, List.getElem_cons_succ, List.getElem_cons_zero, Act.put, List.setIfInBounds_toArray, List.set_cons_zero, List.set_cons_succ]
                refine lexH_skip rfl rfl ?_
                simp only [List.getElem_toArray, List.getElem_cons_succ, List.getElem_cons_zero, Act.put, List.setIfInBounds_toArray, List.set_cons_zero, List.set_cons_succ]
                refine lexH_yieldE rfl rfl ?_
                apply Exists.intro
                refine ⟨fun W hW => ?_, ?_⟩
                focus (go_simp; exact rfl)
                simp only [List.getElem_toArray, List.getElem_cons_succ, List.getElem_cons_zero, Act.put, List.setIfInBounds_toArray, List.set_cons_zero, List.set_cons_succ]
                refine lexH_nil ?_
                clear HD L0 cz c0
                go_wp2_with (fail)
                refine (ztake6_any HDR.out.zn (some ⟨b, o, none⟩) len cap z (by omega) (IntsIn.next HIN.out HDR.out.bel) (fl : Int) high).mono ?_
                rintro e w4 ⟨rfl, hA4, ho4⟩
                rw [zTake_bad hlt (.inl (by rw [HZX.out]; exact hx0))] at hA4 ⊢
                have HZ4 := Lib.hid (HDR.out.turn hA4 ho4)
                clear hA4 ho4
                go_wp2_with (fail)
                refine (zknown_any _).mono ?_
                rintro e w5 ⟨rfl, hb⟩
                have HB := Lib.hid (HZ4.out.ends hb)
                clear hb
                go_wp2_with (fail)
                go_ret
                exact ⟨rfl, HB.out⟩
              · have hd1 : decide (x < 0) = false := decide_eq_false hx0
                by_cases hxN : (Z.N : Int) ≤ x
                · have hd2 : decide ((Z.N : Int) ≤ x) = true := decide_eq_true hxN
                  go_wp2_with (fail)
                  refine wp_region_lex1 (fun V => V = wr.drew) [(0, false), (1, false), (2, false), (3, false), (4, false), (5, false), (6, false), (7, false), (8, false), (9, false), (10, false), (11, false), (12, false), (13, false)]
                    (by kernel_rfl) (by kernel_rfl) rfl (by kernel_rfl) rfl ?_
                  intro V0 hV0 hK0
                  clear hK0
                  subst hV0
                  refine lexH_yieldE rfl rfl ?_
                  apply Exists.intro
                  refine ⟨fun W hW => ?_, ?_⟩
                  focus (go_simp; exact rfl)
                  simp only [List.getElem_toArray, List.getElem_cons_zero, Act.put, List.setIfInBounds_toArray, List.set_cons_zero, List.set_cons_succ]
                  refine lexH_yieldE rfl rfl ?_
                  apply Exists.intro
                  refine ⟨fun W hW => ?_, ?_⟩
                  focus (go_simp; exact rfl)
                  simp only [List.getElem_toArray, List.getElem_cons_succ, List.getElem_cons_zero, Act.put, List.setIfInBounds_toArray, List.set_cons_zero, List.set_cons_succ]
                  refine lexH_yieldE rfl rfl ?_
                  apply Exists.intro
                  refine ⟨fun W hW => ?_, ?_⟩
                  focus (go_simp; exact rfl)
                  simp only [List.getElem_toArray, List.getElem_cons_succ, List.getElem_cons_zero, Act.put, List.setIfInBounds_toArray, List.set_cons_zero, List.set_cons_succ]
                  refine lexH_load rfl rfl _ _ rfl rfl HD.out ?_
                  simp only [List.getElem_toArray, List.getElem_cons_succ, List.getElem_cons_zero, Act.put, List.setIfInBounds_toArray, List.set_cons_zero, List.set_cons_succ]
                  refine lexH_yieldE rfl rfl ?_
                  apply Exists.intro
                  refine ⟨fun W hW => ?_, ?_⟩
                  focus (go_simp; exact rfl)
                  simp only [List.getElem_toArray, List.getElem_cons_succ, List.getElem_cons_zero, Act.put, List.setIfInBounds_toArray, List.set_cons_zero, List.set_cons_succ]
                  refine lexH_yieldE rfl rfl ?_
                  apply Exists.intro
                  refine ⟨fun W hW => ?_, ?_⟩
                  focus (go_simp; exact rfl)
                  simp only [List.getElem_toArray, List.getElem_cons_succ, List.getElem_cons_zero, Act.put, List.setIfInBounds_toArray, List.set_cons_zero, List.set_cons_succ]
                  refine lexH_yieldE rfl rfl ?_
                  apply Exists.intro
                  refine ⟨fun W hW => ?_, ?_⟩
                  focus (go_simp; exact rfl)
                  simp only [List.getElem_toArray, List.getElem_cons_succ, List.getElem_cons_zero, Act.put, List.setIfInBounds_toArray, List.set_cons_zero, List.set_cons_succ]
                  refine lexH_yieldE rfl rfl ?_
                  apply Exists.intro
                  refine ⟨fun W hW => ?_, ?_⟩
                  focus (go_simp; exact rfl)
                  simp only [List.getElem_toArray, List.getElem_cons_succ, List.getElem_cons_zero, Act.put, List.setIfInBounds_toArray, List.set_cons_zero, List.set_cons_succ]
                  refine lexH_yieldE rfl rfl ?_
                  apply Exists.intro
                  refine ⟨fun W hW => ?_, ?_⟩
                  focus (go_simp; exact rfl)
                  simp only [List.getElem_toArray, List.getElem_cons_succ, List.getElem_cons_zero, Act.put, List.setIfInBounds_toArray, List.set_cons_zero, List.set_cons_succ]
                  refine lexH_load rfl rfl _ _ rfl rfl HD.out ?_
                  simp only [List.getElem_toArray, List.getElem_cons_succ, List.getElem_cons_zero, Act.put, List.setIfInBounds_toArray, List.set_cons_zero, List.set_cons_succ]
                  refine lexH_yieldE rfl rfl ?_
                  apply Exists.intro
                  refine ⟨fun W hW => ?_, ?_⟩
                  focus (go_simp; exact rfl)
                  simp only [List.getElem_toArray, List.getElem_cons_succ, List.getElem_cons_zero, Act.put, List.setIfInBounds_toArray, List.set_cons_zero, List.set_cons_succ]
                  refine lexH_load rfl rfl _ _ rfl rfl L0.out ?_
                  simp only [List.getElem_toArray, List.getElem_cons_succ, List.getElem_cons_zero, Act.put, List.setIfInBounds_toArray, List.set_cons_zero, List.set_cons_succ]
                  refine lexH_yieldE rfl rfl ?_
                  apply Exists.intro
                  refine ⟨fun W hW => ?_, ?_⟩
                  focus (go_simp; exact rfl)
                  simp only [List.getElem_toArray, List.getElem_cons_succ, List.getElem_cons_zero, Act.put, List.setIfInBounds_toArray, List.set_cons_zero, List.set_cons_succ]
                  refine lexH_yieldE rfl rfl ?_
                  apply Exists.intro
                  refine ⟨fun W hW => ?_, ?_⟩
                  focus (go_simp; exact rfl)
                  simp only [List.getElem_toArray, List.getElem_cons_succ, List.getElem_cons_zero, Act.put, List.setIfInBounds_toArray, List.set_cons_zero, List.set_cons_succ]
                  refine lexH_nil ?_
                  clear HD L0 cz c0
                  go_wp2_with (fail)
                  refine (ztake6_any HDR.out.zn (some ⟨b, o, none⟩) len cap z (by omega) (IntsIn.next HIN.out HDR.out.bel) (fl : Int) high).mono ?_
                  rintro e w4 ⟨rfl, hA4, ho4⟩
                  rw [zTake_bad hlt (.inr (by rw [HZX.out]; exact hxN))] at hA4 ⊢
                  have HZ4 := Lib.hid (HDR.out.turn hA4 ho4)
                  clear hA4 ho4
                  go_wp2_with (fail)
                  refine (zknown_any _).mono ?_
                  rintro e w5 ⟨rfl, hb⟩
                  have HB := Lib.hid (HZ4.out.ends hb)
                  clear hb
                  go_wp2_with (fail)
                  go_ret
                  exact ⟨rfl, HB.out⟩
                · obtain ⟨y, rfl⟩ : ∃ y : Nat, x = y := ⟨x.toNat, by omega⟩
                  have hyN : y < Z.N := by omega
                  have hy8 : (y : Int) < 8 := by omega
                  have hd2 : decide ((Z.N : Int) ≤ (y : Int)) = false := decide_eq_false hxN
                  go_wp2_with (fail)
                  refine wp_region_lex1 (fun V => V = wr.drew) [(0, false), (1, false), (2, false), (3, false), (4, false), (5, false), (6, false), (7, false), (8, false), (9, false), (10, false), (11, false), (12, false), (13, false)]
                    (by kernel_rfl) (by kernel_rfl) rfl (by kernel_rfl) rfl ?_
                  intro V0 hV0 hK0
                  clear hK0
                  subst hV0
                  refine lexH_yieldE rfl rfl ?_
                  apply Exists.intro
                  refine ⟨fun W hW => ?_, ?_⟩
                  focus (go_simp; exact rfl)
                  simp only [List.getElem_toArray, List.getElem_cons_zero, Act.put, List.setIfInBounds_toArray, List.set_cons_zero, List.set_cons_succ]
                  refine lexH_yieldE rfl rfl ?_
                  apply Exists.intro
                  refine ⟨fun W hW => ?_, ?_⟩
                  focus (go_simp; exact rfl)
                  simp only [List.getElem_toArray, List.getElem_cons_succ, List.getElem_cons_zero, Act.put, List.setIfInBounds_toArray, List.set_cons_zero, List.set_cons_succ]
                  refine lexH_yieldE rfl rfl ?_
                  apply Exists.intro
                  refine ⟨fun W hW => ?_, ?_⟩
                  focus (go_simp; exact rfl)
                  simp only [List.getElem_toArray, List.getElem_cons_succ, List.getElem_cons_zero, Act.put, List.setIfInBounds_toArray, List.set_cons_zero, List.set_cons_succ]
                  refine lexH_load rfl rfl _ _ rfl rfl HD.out ?_
                  simp only [List.getElem_toArray, List.getElem_cons_succ, List.getElem_cons_zero, Act.put, List.setIfInBounds_toArray, List.set_cons_zero, List.set_cons_succ]
                  refine lexH_yieldE rfl rfl ?_
                  apply Exists.intro
                  refine ⟨fun W hW => ?_, ?_⟩
                  focus (go_simp; exact rfl)
                  simp only [List.getElem_toArray, List.getElem_cons_succ, List.getElem_cons_zero, Act.put, List.setIfInBounds_toArray, List.set_cons_zero, List.set_cons_succ]
                  refine lexH_yieldE rfl rfl ?_
                  apply Exists.intro
                  refine ⟨fun W hW => ?_, ?_⟩
                  focus (go_simp; exact rfl)
                  simp only [List.getElem_toArray, List.getElem_cons_succ, List.getElem_cons_zero, Act.put, List.setIfInBounds_toArray, List.set_cons_zero, List.set_cons_succ]
                  refine lexH_yieldE rfl rfl ?_
                  apply Exists.intro
                  refine ⟨fun W hW => ?_, ?_⟩
                  focus (go_simp; exact rfl)
                  simp only [List.getElem_toArray, List.getElem_cons_succ, List.getElem_cons_zero, Act.put, List.setIfInBounds_toArray, List.set_cons_zero, List.set_cons_succ]
                  refine lexH_yieldE rfl rfl ?_
                  apply Exists.intro
                  refine ⟨fun W hW => ?_, ?_⟩
                  focus (go_simp; exact rfl)
                  simp only [List.getElem_toArray, List.getElem_cons_succ, List.getElem_cons_zero, Act.put, List.setIfInBounds_toArray, List.set_cons_zero, List.set_cons_succ]
                  refine lexH_yieldE rfl rfl ?_
                  apply Exists.intro
                  refine ⟨fun W hW => ?_, ?_⟩
                  focus (go_simp; exact rfl)
                  simp only [List.getElem_toArray, List.getElem_cons_succ, List.getElem_cons_zero, Act.put, List.setIfInBounds_toArray, List.set_cons_zero, List.set_cons_succ]
                  refine lexH_load rfl rfl _ _ rfl rfl HD.out ?_
                  simp only [List.getElem_toArray, List.getElem_cons_succ, List.getElem_cons_zero, Act.put, List.setIfInBounds_toArray, List.set_cons_zero, List.set_cons_succ]
                  refine lexH_yieldE rfl rfl ?_
                  apply Exists.intro
                  refine ⟨fun W hW => ?_, ?_⟩
                  focus (go_simp; exact rfl)
                  simp only [List.getElem_toArray, List.getElem_cons_succ, List.getElem_cons_zero, Act.put, List.setIfInBounds_toArray, List.set_cons_zero, List.set_cons_succ]
                  refine lexH_load rfl rfl _ _ rfl rfl L0.out ?_
                  simp only [List.getElem_toArray, List.getElem_cons_succ, List.getElem_cons_zero, Act.put, List.setIfInBounds_toArray, List.set_cons_zero, List.set_cons_succ]
                  refine lexH_yieldE rfl rfl ?_
                  apply Exists.intro
                  refine ⟨fun W hW => ?_, ?_⟩
                  focus (go_simp; exact rfl)
                  simp only [List.getElem_toArray, List.getElem_cons_succ, List.getElem_cons_zero, Act.put, List.setIfInBounds_toArray, List.set_cons_zero, List.set_cons_succ]
                  refine lexH_yieldE rfl rfl ?_
                  apply Exists.intro
                  refine ⟨fun W hW => ?_, ?_⟩
                  focus (go_simp; exact rfl)
                  simp only [List.getElem_toArray, List.getElem_cons_succ, List.getElem_cons_zero, Act.put, List.setIfInBounds_toArray, List.set_cons_zero, List.set_cons_succ]
                  refine lexH_nil ?_
                  clear HD L0 c0 cz
                  have cz : wr.drew.cell? ⟨b, o + j, none⟩ = some (.int .i64 y) := by
                    have := hcw.out wr.drew HDR.out.bel
                    exact this
                  have cr : wr.drew.cell? ⟨B, y, none⟩ = some (.bool (askd z j y)) := HRR.out.cell y (by omega)
                  have fr : wr.drew.frozen? ⟨B, y, none⟩ = false := HRR.out.frozen y
                  have HR5 := Lib.hid ((HRR.out.setCell y (.bool true)).ext (fun i _ => askd_succ HZX.out i))
                  have HZ5 := Lib.hid (HDR.out.only (Only.setCell (S := fun k => k = B) wr.drew ⟨B, y, none⟩ rfl (.bool true)) (fun k hk => by omega))
                  have HOK5 := Lib.hid (show ∀ i, i < j + 1 → 0 ≤ z i ∧ z i < (Z.N : Int) from fun i hi => by
                    by_cases e : i = j
                    · subst e
                      rw [HZX.out]
                      omega
                    · exact HOK.out i (by omega))
                  clear HDR HRR
                  go_wp2_with (fail)
                  go_roundw
                  case rel => exact ⟨j + 1, hlt, by go_num, HZ5, HR5, HOK5⟩
                  case measure => simp [intOf]; omega
            · obtain rfl : j = len := by omega
              have HAQ := Lib.hid (fun i => askd_iff (z := z) (j := j) i)
              generalize askd z j = aq at HAQ HR
              have HFR := Lib.hid (fun i (hi : i < Z.N) => HZ.out.fr hi)
              have c0 := HZ.out.c0
              go_wp2_with (fail)
              clear c0
              go_loop [92, 11, 12] (fun i s t => ∃ q : Nat, q ≤ Z.N ∧ i = .int .i64 q ∧ s = .int .i64 (sumFree (fun i => newL (frN g i)) q) ∧ t = .int .i64 (sumW aq fl (fun i => newL (frN g i)) q)) (fun i _ _ => Z.N - (intOf i).toNat)
              case atStart => exact ⟨0, Nat.zero_le _, rfl, rfl, rfl⟩
              case round =>
                obtain ⟨q, hq, rfl, rfl, rfl⟩ := hrel
                by_cases hlq : q < Z.N
                · have hlqI : (q : Int) < (Z.N : Int) := by omega
                  have hn := HFR.out q hlq
                  have hfree : freeT (newL (frN g q)) = frN g q := newL_free _ (by omega)
                  have hsb := sumFree_bd (L := fun i => newL (frN g i)) (k := q) (fun i hi => by have := HFR.out i (by omega); show freeT (newL (frN g i)) ≤ 128; rw [newL_free _ (by omega)]; omega)
                  have hwb := sumW_le (aq := aq) (floor := fl) (L := fun i => newL (frN g i)) (k := q)
                  have HS1 := Lib.hid (show sumFree (fun i => newL (frN g i)) (q + 1) = sumFree (fun i => newL (frN g i)) q + frN g q from by
                    show sumFree _ q + freeT (newL (frN g q)) = _
                    rw [hfree])
                  have HW1 := Lib.hid (show sumW aq fl (fun i => newL (frN g i)) (q + 1) = sumW aq fl (fun i => newL (frN g i)) q + (if aq q = true then frN g q - fl else 0) from by
                    show sumW aq fl _ q + (if aq q = true then freeT (newL (frN g q)) - fl else 0) = _
                    rw [hfree])
                  have HFQ := Lib.hid (show (zFree Z.N (fun i => newL (frN g i)) (q : Int)) = frN g q by rw [zFree_at hlq, hfree])
                  have cq : wr.cell? ⟨B, q, none⟩ = some (.bool (aq q)) := HR.out.cell q (by omega)
                  have hq8 : (q : Int) < 8 := by omega
                  clear hfree
                  generalize sumFree (fun i => newL (frN g i)) q = s at *
                  generalize sumW aq fl (fun i => newL (frN g i)) q = t at *
                  generalize frN g q = n at *
                  cases haq : aq q with
                  | true =>
                    rw [haq] at cq HW1
                    go_wp2_with (fail)
                    refine (zfree6_any HZ.out.zn q).mono ?_
                    rintro e w' ⟨rfl, rfl⟩
                    rw [HFQ.out]
                    go_wp2_with (fail)
                    refine (zfree6_any HZ.out.zn q).mono ?_
                    rintro e w' ⟨rfl, rfl⟩
                    rw [HFQ.out]
                    go_wp2_with (fail)
                    go_round
                    case rel => exact ⟨q + 1, hlq, by go_num, by rw [HS1.out]; go_num, by rw [HW1.out, if_pos trivial]; congr 1; omega⟩
                    case measure => simp [intOf]; omega
                  | false =>
                    rw [haq] at cq HW1
                    go_wp2_with (fail)
                    refine (zfree6_any HZ.out.zn q).mono ?_
                    rintro e w' ⟨rfl, rfl⟩
                    rw [HFQ.out]
                    go_wp2_with (fail)
                    go_round
                    case rel => exact ⟨q + 1, hlq, by go_num, by rw [HS1.out]; go_num, by rw [HW1.out]; simp⟩
                    case measure => simp [intOf]; omega
                · obtain rfl : q = Z.N := by omega
                  have HOK2 := Lib.hid HOK.out
                  obtain ⟨S0, hS0⟩ : ∃ S0, sumFree (fun i => newL (frN g i)) Z.N = S0 := ⟨_, rfl⟩
                  obtain ⟨W0, hW0⟩ : ∃ W0, sumW aq fl (fun i => newL (frN g i)) Z.N = W0 := ⟨_, rfl⟩
                  have hsb := sumFree_bd (L := fun i => newL (frN g i)) (k := Z.N) (fun i hi => by have := HFR.out i hi; show freeT (newL (frN g i)) ≤ 128; rw [newL_free _ (by omega)]; omega)
                  have hwb := sumW_le (aq := aq) (floor := fl) (L := fun i => newL (frN g i)) (k := Z.N)
                  rw [hS0, hW0] at hwb
                  rw [hS0] at hsb ⊢
                  rw [hW0]
                  have HS0 := Lib.hid hS0
                  have HW0 := Lib.hid hW0
                  have HAL0 := Lib.hid (show AlAt w Z g (fun i => newL (frN g i)) (fun _ => []) B wr.heap.size (fun _ => none) (wr.alloc (.map #[] 0)) from
                    ⟨HZ.out.later ((Below.refl _ _).alloc (Nat.le_refl _) _), fmap_made Try.prog 3 EI wr, fun f => ⟨fun h => absurd h (by simp), fun h => absurd h (frT_none f)⟩, HZ.out.za0, HZ.out.bw⟩)
                  clear hS0 hW0 HZ HR HOK
                  have hmk := make_map
                  go_wp2_with (fail)
                  clear hmk
                  generalize wr.alloc (.map #[] 0) = w4 at *
                  generalize wr.heap.size = mb at *
                  go_loopw [114] (fun i wr => ∃ (k : Nat) (L T : Nat → List (Int × Int)) (mf : Int → Option Int), k ≤ W0 ∧ i = .int .i64 k ∧ Hid (AlAt w Z g L T B mb mf wr) ∧ Hid (sumFree L Z.N + k = S0) ∧ Hid (sumW aq fl L Z.N + k = W0)) (fun i _ => W0 - (intOf i).toNat)
                  case atStart => exact ⟨0, _, _, _, Nat.zero_le _, rfl, HAL0, HS0, HW0⟩
                  case round =>
                    clear HAL0 HS0 HW0
                    obtain ⟨k, L, T, mf, hk, rfl, HAL, HS, HW⟩ := hrel
                    by_cases hlk : k < W0
                    · have hlkI : (k : Int) < (W0 : Int) := by omega
                      have hpos : 0 < sumW aq fl L Z.N := by have := HW.out; omega
                      obtain ⟨f, L', T', e1, hn, hfb, hfr, hza, hsf, hsw⟩ := za_take HAL.out.za HOK2.out HAQ.out high hpos
                      have HE1 := Lib.hid e1
                      have HNE := Lib.hid (show mf f = none by
                        cases h : mf f with
                        | none => rfl
                        | some c => exact absurd ((HAL.out.dom f).1 (by rw [h]; rfl)) hn)
                      have HFR2 := Lib.hid hfr
                      have HZA := Lib.hid hza
                      have HSS := Lib.hid (show sumFree L' Z.N + (k + 1) = S0 by have := HS.out; omega)
                      have HWW := Lib.hid (show sumW aq fl L' Z.N + (k + 1) = W0 by have := HW.out; omega)
                      have hf64 : -9223372036854775808 ≤ f ∧ f ≤ 9223372036854775807 := by
                        have h2 := frL_length g Z.N HAL.out.za.pos
                        have h3 := HAL.out.zs.zn.sum (Nat.le_refl Z.N)
                        omega
                      clear e1 hn hfb hfr hza hsf hsw hpos
                      go_wp2_with (fail)
                      refine (ztake6_any HAL.out.zs.zn a j cap z (by omega) (IntsIn.next HIN.out HAL.out.zs.bel) (fl : Int) high).mono ?_
                      rintro e w5 ⟨rfl, hA5, ho5⟩
                      rw [HE1.out] at hA5 ⊢
                      have HZ5 := Lib.hid (HAL.out.zs.turn hA5 ho5)
                      have HM5 := Lib.hid (HAL.out.map.only ho5 (HAL.out.zs.no_maps HAL.out.mB))
                      have hM5 := HM5.out
                      clear hA5 ho5
                      go_wp2_with (first | (at_lookup; refine wpList_look1_fmapG rfl _ _ _ rfl 3 3 Try.underlying3 Try.underlying58 EI 0 ok0 (zeroInt _) mb mf rfl hM5 f rfl (int_wf hf64) ?_; rw [HNE.out]; show wpList _ _ _ _ (Act.put _ _ (Value.int .i64 0)) _) | (at_mapUpdate; refine wpList_store_fmap rfl _ _ _ _ rfl 3 3 Try.underlying3 Try.underlying58 EI mb mf rfl hM5 f rfl (int_wf hf64) 1025 HAL.out.lim (by decide) 1 rfl (ok_int (by decide)) ?_; intro w6 hM6 ho6) | fail)
                      have HAL6 := Lib.hid (show AlAt w Z g L' T' B mb (fput mf f 1) w6 from
                        ⟨HZ5.out.only ho6 (fun q hq => by rw [hq]; exact HAL.out.mB), hM6, fun x => by
                          rw [HFR2.out x, ← HAL.out.dom x]
                          unfold fput
                          by_cases e : x = f
                          · rw [if_pos e]
                            exact ⟨fun _ => .inr e, fun _ => rfl⟩
                          · rw [if_neg e]
                            exact ⟨.inl, fun h => h.resolve_right e⟩, HZA.out, HAL.out.mB⟩)
                      clear hM6 ho6 hM5 HM5 HZ5 HAL HFR2 HZA HE1 HNE
                      go_wp2_with (fail)
                      go_roundw
                      case rel => exact ⟨k + 1, L', T', fput mf f 1, hlk, by go_num, HAL6, HSS, HWW⟩
                      case measure => simp [intOf]; omega
                    · obtain rfl : k = W0 := by omega
                      have HZN := Lib.hid (za_none (g := g) (N := Z.N) (L := L) (T := T) (floor := fl) HOK2.out HAQ.out high (by have := HW.out; omega))
                      go_wp2_with (fail)
                      refine (ztake6_any HAL.out.zs.zn a j cap z (by omega) (IntsIn.next HIN.out HAL.out.zs.bel) (fl : Int) high).mono ?_
                      rintro e w5 ⟨rfl, hA5, ho5⟩
                      rw [HZN.out] at hA5 ⊢
                      have HAL5 := Lib.hid (show AlAt w Z g L T B mb mf w5 from ⟨HAL.out.zs.turn hA5 ho5, HAL.out.map.only ho5 (HAL.out.zs.no_maps HAL.out.mB), HAL.out.dom, HAL.out.za, HAL.out.mB⟩)
                      have c0 := HAL5.out.zs.c0
                      have h8 := HAL5.out.zs.zn.n8
                      clear hA5 ho5 HAL HZN
                      go_wp2_with (fail)
                      clear c0
                      go_loop [147, 23] (fun i s => ∃ q : Nat, q ≤ Z.N ∧ i = .int .i64 q ∧ s = .int .i64 (sumFree L q)) (fun i _ => Z.N - (intOf i).toNat)
                      case atStart => exact ⟨0, Nat.zero_le _, rfl, rfl⟩
                      case round =>
                        obtain ⟨q, hq, rfl, rfl⟩ := hrel
                        by_cases hlq : q < Z.N
                        · have hlqI : (q : Int) < (Z.N : Int) := by omega
                          have HFQ := Lib.hid (show zFree Z.N L (q : Int) = freeT (L q) from zFree_at hlq)
                          have HS1 := Lib.hid (show sumFree L (q + 1) = sumFree L q + freeT (L q) from rfl)
                          have hsn : sumFree L q + freeT (L q) ≤ 1024 := by
                            have h1 := sumFree_mono (L := L) (k := q + 1) (N := Z.N) hlq
                            have h2 := HS.out
                            rw [HS1.out] at h1
                            omega
                          generalize sumFree L q = s at *
                          generalize freeT (L q) = n at *
                          go_wp2_with (fail)
                          refine (zfree6_any HAL5.out.zs.zn q).mono ?_
                          rintro e w' ⟨rfl, rfl⟩
                          rw [HFQ.out]
                          go_wp2_with (fail)
                          go_round
                          case rel => exact ⟨q + 1, hlq, by go_num, by rw [HS1.out]; go_num⟩
                          case measure => simp [intOf]; omega
                        · obtain rfl : q = Z.N := by omega
                          have hsk := HS.out
                          generalize sumFree L Z.N = s at *
                          have hsk2 : (s : Int) + (k : Int) = (S0 : Int) := by omega
                          have hM5 := HAL5.out.map
                          clear HS hsk
                          go_wp2_with (first | (at_range; refine wpList_range_fmap rfl _ _ rfl 3 3 Try.underlying3 Try.underlying58 EI mb mf rfl hM5 ?_; intro w6 hR hB6 hs6) | fail)
                          try go_frame
                          have HR6 := Lib.hid hR
                          have HZ6 := Lib.hid (HAL5.out.zs.later hB6)
                          have HZA6 := Lib.hid HAL5.out.za
                          have HLF := Lib.hid (show ∀ f, (mf f).isSome = true ↔ frT g Z.N T f from HAL5.out.dom)
                          have HMB := Lib.hid (show B ≤ mb ∧ B ≤ w5.heap.size from ⟨HAL5.out.mB, HAL5.out.zs.bw⟩)
                          clear hR hB6 hs6 hM5 hsk2 HAL5
                          generalize w5.heap.size = r at *
                          go_loopw [25] (fun i v => ∃ (L T : Nat → List (Int × Int)) (left : Int → Bool) (u : Value), i = u ∧ Hid (FRange Try.prog 3 EI v mb r mf left) ∧ Hid (ZsAt w Z g L T B v) ∧ Hid (ZaI g Z.N L T) ∧ Hid (∀ f, left f = true ↔ frT g Z.N T f)) (fun _ v => v.rangeLeft mb r)
                          case atStart => exact ⟨_, _, _, _, rfl, HR6, HZ6, HZA6, HLF⟩
                          case round =>
                            clear HR6 HZ6 HZA6 HLF
                            obtain ⟨L, T, left, u25, rfl, HR, HZ, HZA, HLF⟩ := hrel
                            have c0 := HZ.out.c0
                            go_wp2_with (first | (at_next; refine wpList_next_frange rfl _ rfl 3 Try.underlying3 EI mb r mf left rfl HR.out (fun hdone => ?_) (fun x c w6 hwx hleft hfx hR6 hlt6 hO6 hs6 hen => ?_)) | fail)
                            · clear c0
                              have HFREE := Lib.hid (fun (q : Nat) (hq : q < Z.N) => za_free HZA.out (fun f hf => by
                                have h1 := (HLF.out f).2 hf
                                rw [hdone f] at h1
                                cases h1) hq)
                              clear hdone HLF HR
                              go_loopw [173] (fun i v => ∃ q : Nat, q ≤ Z.N ∧ i = .int .i64 q ∧ Hid (ZsAt w Z g L T B v)) (fun i _ => Z.N - (intOf i).toNat)
                              case atStart => exact ⟨0, Nat.zero_le _, rfl, HZ⟩
                              case round =>
                                clear HZ
                                obtain ⟨q, hq, rfl, HZ⟩ := hrel
                                by_cases hlq : q < Z.N
                                · have hlqI : (q : Int) < (Z.N : Int) := by omega
                                  have hq8 : (q : Int) < 8 := by omega
                                  have cf := HZ.out.cf hlq
                                  have HFQ := Lib.hid (show zFree Z.N L (q : Int) = frN g q by rw [zFree_at hlq, HFREE.out q hlq])
                                  have L1 := Lib.hid (show ∀ U, U = wr.drew → (loadVar 3 ⟨w.heap.size, 18 + q, none⟩).run Try.prog U = .ok (.int .i64 (frN g q)) U from fun U hU => by rw [hU]; exact run_loadVar_cell (fun _ => by kernel_rfl) (by exact cf))
                                  have HDR := Lib.hid (HZ.out.later (Below.refl wr.heap.size wr).drew)
                                  generalize frN g q = n at *
                                  clear cf
                                  go_wp2_with (fail)
                                  refine wp_region_lex1 (fun V => V = wr.drew) [(0, false), (1, false), (3, false), (4, false), (5, false), (6, false), (2, true), (7, false)]
                                    (by kernel_rfl) (by kernel_rfl) rfl (by kernel_rfl) rfl ?_
                                  intro V0 hV0 hK0
                                  clear hK0
                                  subst hV0
                                  refine lexH_yieldE rfl rfl ?_
                                  apply Exists.intro
                                  refine ⟨fun W hW => ?_, ?_⟩
                                  focus (go_simp; exact rfl)
                                  simp only [List.getElem_toArray, List.getElem_cons_zero, Act.put, List.setIfInBounds_toArray, List.set_cons_zero, List.set_cons_succ]
                                  refine lexH_yieldE rfl rfl ?_
                                  apply Exists.intro
                                  refine ⟨fun W hW => ?_, ?_⟩
                                  focus (go_simp; exact rfl)
                                  simp only [List.getElem_toArray, List.getElem_cons_succ, List.getElem_cons_zero, Act.put, List.setIfInBounds_toArray, List.set_cons_zero, List.set_cons_succ]
                                  refine lexH_yieldE rfl rfl ?_
                                  apply Exists.intro
                                  refine ⟨fun W hW => ?_, ?_⟩
                                  focus (go_simp; exact rfl)
                                  simp only [List.getElem_toArray, List.getElem_cons_succ, List.getElem_cons_zero, Act.put, List.setIfInBounds_toArray, List.set_cons_zero, List.set_cons_succ]
                                  refine lexH_yieldE rfl rfl ?_
                                  apply Exists.intro
                                  refine ⟨fun W hW => ?_, ?_⟩
                                  focus (go_simp; exact rfl)
                                  simp only [List.getElem_toArray, List.getElem_cons_succ, List.getElem_cons_zero, Act.put, List.setIfInBounds_toArray, List.set_cons_zero, List.set_cons_succ]
                                  refine lexH_yieldE rfl rfl ?_
                                  apply Exists.intro
                                  refine ⟨fun W hW => ?_, ?_⟩
                                  focus (go_simp; exact rfl)
                                  simp only [List.getElem_toArray, List.getElem_cons_succ, List.getElem_cons_zero, Act.put, List.setIfInBounds_toArray, List.set_cons_zero, List.set_cons_succ]
                                  refine lexH_load rfl rfl _ _ rfl rfl L1.out ?_
                                  simp only [List.getElem_toArray, List.getElem_cons_succ, List.getElem_cons_zero, Act.put, List.setIfInBounds_toArray, List.set_cons_zero, List.set_cons_succ]
                                  refine lexH_call 21 #[.pointer (some ⟨Z.z, 0, none⟩), .int .i64 q] rfl rfl ?_ ?_
                                  focus (go_simp; done)
                                  refine (zfree6_any HDR.out.zn q).mono ?_
                                  rintro e w' ⟨rfl, hww⟩
                                  rw [HFQ.out]
                                  refine ⟨_, rfl, hww.symm, ?_⟩
                                  rw [← hww]
                                  clear hww L1
                                  simp only [List.getElem_toArray, List.getElem_cons_succ, List.getElem_cons_zero, Act.put, List.setIfInBounds_toArray, List.set_cons_zero, List.set_cons_succ]
                                  refine lexH_yieldE rfl rfl ?_
                                  apply Exists.intro
                                  refine ⟨fun W hW => ?_, ?_⟩
                                  focus (go_simp; exact rfl)
                                  simp only [List.getElem_toArray, List.getElem_cons_succ, List.getElem_cons_zero, Act.put, List.setIfInBounds_toArray, List.set_cons_zero, List.set_cons_succ]
                                  refine lexH_nil ?_
                                  go_wp2_with (fail)
                                  go_roundw
                                  case rel => exact ⟨q + 1, hlq, by go_num, HDR⟩
                                  case measure => simp [intOf]; omega
                                · obtain rfl : q = Z.N := by omega
                                  go_wp2_with (fail)
                                  refine (zknown_any _).mono ?_
                                  rintro e w7 ⟨rfl, hb⟩
                                  have HB := Lib.hid (HZ.out.ends hb)
                                  clear hb
                                  go_wp2_with (fail)
                                  go_ret
                                  exact ⟨rfl, HB.out⟩
                            · clear c0
                              have hx64 : x ≤ 9223372036854775807 := by
                                simp only [Lit.wf, Bool.and_eq_true, decide_eq_true_eq] at hwx
                                exact hwx.2
                              obtain ⟨L', T', e1, hI', hfr'⟩ := za_give HZA.out ((HLF.out x).1 hleft)
                              have HZ6 := Lib.hid (HZ.out.only hO6 (fun q hq => by rw [hq]; exact HMB.out.2))
                              have HE1 := Lib.hid e1
                              have HZA' := Lib.hid hI'
                              have HLF' := Lib.hid (show ∀ f, strike left x f = true ↔ frT g Z.N T' f from fun f => by
                                rw [hfr' f, ← HLF.out f]
                                unfold strike
                                simp)
                              have HR6 := Lib.hid hR6
                              have HLT := Lib.hid hlt6
                              clear hR6 hlt6 hO6 hs6 hen hwx hleft hfx e1 hI' hfr' HR HZ HZA HLF
                              refine (zgive6_any HZ6.out.zn x 0 hx64).mono ?_
                              rintro e w7 ⟨rfl, hA7, ho7⟩
                              rw [HE1.out] at hA7 ⊢
                              have hro := HR6.out.only ho7 (HZ6.out.no_maps HMB.out.1) (HZ6.out.no_maps HMB.out.2)
                              have HR7 := Lib.hid hro.1
                              have HLT7 := Lib.hid (show w7.rangeLeft mb r < wr.rangeLeft mb r by rw [hro.2]; exact HLT.out)
                              have HZ7 := Lib.hid (HZ6.out.turn hA7 ho7)
                              clear hA7 ho7 hro HR6 HLT HZ6
                              go_wp2_with (fail)
                              go_roundw
                              case rel => exact ⟨L', T', strike left x, _, rfl, HR7, HZ7, HZA', HLF'⟩
                              case measure => exact HLT7.out
    · have hl2 : 8 < (len : Int) := by omega
      go_wp2_with (fail)
      refine (zknown_any _).mono ?_
      rintro e w3 ⟨rfl, hb⟩
      have HB := Lib.hid (HZ.out.ends hb)
      clear hb
      go_wp2_with (fail)
      go_ret
      exact ⟨rfl, HB.out⟩
  · have HM := Lib.hid (show mayB g = false by simpa using hm)
    clear hm
    go_enter Try.func5, Try.ntmps5
    go_wp2_with (refine wpList_load_cfg rfl _ rfl _ rfl C0 ?_)
    have HC0 := Lib.hid C0
    clear C0
    generalize w.alloc (.cells (ofG g) 26) = w1 at *
    refine (znew6_no (ofG g) g w1 HA.out HM.out).mono ?_
    rintro e w2 ⟨rfl, hb⟩
    have HB := Lib.hid (HB0.out.trans (hb.mono HB0.out.size))
    clear hb
    go_wp2_with (fail)
    refine (zknown_any _).mono ?_
    rintro e w4 ⟨rfl, hb⟩
    have HB3 := Lib.hid (HB.out.trans (hb.mono HB.out.size))
    clear hb
    go_wp2_with (fail)
    go_ret
    exact ⟨rfl, HB3.out⟩
end Go.Proofs.Ytdpnmjlapgldgaa
