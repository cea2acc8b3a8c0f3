/-
  The walk of BuddyBack: it returns true, and below the old heap nothing has turned.
-/
import Derived.Test.YtilcdnkjfbkpnaaBuBack
import Derived.RangeFuncNested
import Derived.Deep.DeepCutAuto
import Derived.Deep.CutBlock
namespace Go.Proofs.Ytilcdnkjfbkpnaa
open Go.RowKit Go.Shelf Go
attribute [local go_sem] Oper.semAt_some

set_option maxRecDepth 100000 in
set_option maxHeartbeats 8000000 in
theorem lawBack_in (m : Nat) (hm : 3 ≤ m) (nn : Int) (a1 : Option Addr) (l1 c1 : Nat) (z1 : Nat → Int) (high : Bool) (a2 : Option Addr) (l2 c2 : Nat) (z2 : Nat → Int) (w : World) (hZ1 : IntsIn w a1 l1 z1) (hZ2 : IntsIn w a2 l2 z2) :
    CallsIn Fence.wide m Try.prog 6 #[.int .i64 nn, .slice a1 l1 c1, .bool high, .slice a2 l2 c2] w fun e w' => e = .returned (.bool true) ∧ Below w.heap.size w w' := by
  have HZ1 := Lib.hid hZ1
  have HZ2 := Lib.hid hZ2
  clear hZ1 hZ2
  have h1 : 1 ≤ m := by omega
  have hnil := blocks_nil
  refine callsIn_of_wp_marks Try.func6 rfl trivial ?_ rfl
  simp only [Try.ntmps6, List.size_toArray, List.length_cons, List.length_nil, Nat.reduceAdd, Nat.reduceSub, Array.replicate_succ, Array.replicate_zero, List.push_toArray, List.append_toArray, List.nil_append, List.cons_append]
  refine wpIn_wide.2 ?_
  by_cases hv : 1 ≤ nn ∧ nn ≤ 128
  · obtain ⟨n, rfl⟩ : ∃ n : Nat, nn = n := ⟨nn.toNat, by omega⟩
    have hn1 : 1 ≤ n := by omega
    have hn2 : n ≤ 128 := by omega
    clear hv
    by_cases hlen : l1 ≤ 100
    · have hlen2 : ¬ (100 < (l1 : Int)) := by omega
      obtain ⟨i0, hi, hz0, hz1, hz2⟩ := info_parts infoBlock
      go_wp2_with (fail)
      refine (new6_any hn1 hn2 w).mono ?_
      intro e w1 hN
      obtain ⟨d, mb, tb, rfl, hS⟩ := StAt.new hn1 hn2 hN
      have HS1 := Lib.hid hS
      clear hS hN
      go_wp2_with (fail)
      refine (new6_any hn1 hn2 w1).mono ?_
      intro e w2 hN
      obtain ⟨d2, mb2, tb2, rfl, hS⟩ := StAt.new hn1 hn2 hN
      have HP0 := Lib.hid (show BkAt w.heap.size d n mb tb w1.heap.size d2 mb2 tb2 w2.heap.size (newL n) [] [] (.slice none 0 0) w w2 from
        ⟨HS1.out.later (hS.bel), hS.node, fun k hk => by
          rcases hk with hk | rfl
          · exact HS1.out.node.own_lt hk
          · exact HS1.out.node.lt, fun k hk => by
          rcases hk with hk | rfl
          · exact ⟨hS.own k hk, hS.node.own_lt hk⟩
          · exact ⟨hS.d1, hS.node.lt⟩, List.nodup_nil, World.ownsRow_nil _ _ _ _, HS1.out.le, hS.le, Nat.le_refl _⟩)
      clear hS hN HS1
      generalize w1.heap.size = B2 at *
      generalize hB3 : w2.heap.size = B3 at *
      clear hB3
      go_wp2_with (fail)
      go_loopw [56, 13] (fun i l wr => ∃ (k : Nat) (L T : List (Int × Int)) (la : Option Addr) (lc : Nat), i = .int .i64 k ∧ l = .slice la T.length lc ∧ k ≤ l1 ∧ T.length ≤ k ∧ BkAt w.heap.size d n mb tb B2 d2 mb2 tb2 B3 L T T (.slice la T.length lc) w wr) (fun i _ _ => l1 - (intOf i).toNat)
      case atStart => exact ⟨0, _, [], none, 0, rfl, rfl, Nat.zero_le _, Nat.le_refl _, HP0.out⟩
      case round =>
        clear HP0
        obtain ⟨k, L, T, la, lc, rfl, rfl, hk, hTl, hP⟩ := hrel
        have HP := Lib.hid hP
        clear hP
        by_cases hlt : k < l1
        · obtain ⟨b, o, rfl, hbl, hzb, hc⟩ := HZ1.out.one k hlt
          have HC := Lib.hid hc
          have hltI : (k : Int) < (l1 : Int) := by omega
          clear hc
          generalize z1 k = y at *
          have cy := HC.out wr HP.out.st.bel
          go_wp2_with (fail)
          refine (HP.out.take y _).mono ?_
          rintro e w4 (⟨u, K, rfl, hP4⟩ | ⟨q, hq, rfl, hP4⟩)
          · have HP4 := Lib.hid hP4
            clear hP4 HP cy
            have cy := HC.out w4 HP4.out.st.bel
            go_wp2_with (at_builtin; refine wpList_append_one w4 rfl _ _ 38 rfl B3 42 i0 _ 2 16 Try.underlying38 hi hz0 hz1 hz2 rfl (by decide) _ _ _ #[.int .i64 u, .int .i64 y] HP4.out.lst HP4.out.b3 rfl rfl rfl (block_one _ _) (by omega) (by decide) ?_)
            intro v' w5 hown ho5 _
            have hP5 := HP4.out.more (x := (u, y)) hown ho5
            obtain ⟨a2', cap2, hv2⟩ := own_slice hP5.lst
            subst hv2
            have HP5 := Lib.hid hP5
            have HT5 := Lib.hid (show (T ++ [(u, y)]).length = T.length + 1 by simp)
            clear hown ho5 hP5 HP4 cy
            rw [HT5.out]
            go_wp2_with (fail)
            go_roundw
            case rel => exact ⟨k + 1, K, T ++ [(u, y)], a2', cap2, by go_num, by rw [HT5.out], hlt, by rw [HT5.out]; omega, HP5.out⟩
            case measure => simp [intOf]; omega
          · have HP4 := Lib.hid hP4
            clear hP4 HP cy
            go_wp2_with (fail)
            go_roundw
            case rel => exact ⟨k + 1, L, T, la, lc, by go_num, rfl, hlt, by omega, HP4.out⟩
            case measure => simp [intOf]; omega
        · obtain rfl : k = l1 := by omega
          have HTL := Lib.hid (show 0 + T.length ≤ 100 by omega)
          clear HZ1 hTl hlen hlt hk
          go_wp2_with (fail)
          go_loopw [17, 13] (fun i l wr => ∃ (j : Nat) (L T : List (Int × Int)) (la : Option Addr) (lc : Nat), i = .int .i64 j ∧ l = .slice la T.length lc ∧ Hid (j + T.length ≤ 100) ∧ BkAt w.heap.size d n mb tb B2 d2 mb2 tb2 B3 L T T (.slice la T.length lc) w wr) (fun _ l _ => match l with | .slice _ q _ => q | _ => 0)
          case atStart => exact ⟨0, L, T, la, lc, rfl, rfl, HTL, HP.out⟩
          case round =>
            clear HP HTL
            obtain ⟨j, L, T, la, lc, rfl, rfl, HTL, hP⟩ := hrel
            have HP := Lib.hid hP
            clear hP
            by_cases hlt : 0 < T.length
            -- [SCAN
            · have hltI : (0 : Int) < (T.length : Int) := by omega
              have hj100 : j + T.length ≤ 100 := HTL.out
              go_upto_if 93 with (fail)
              go_cut [18] from 85 to 141 (fun v wc => ∃ kk : Nat, v = .int .i64 kk ∧ kk < T.length ∧ wc = wr)
              case first =>
                by_cases hjl : j < l2
                · obtain ⟨b, o, rfl, hbl, hzb, hc⟩ := HZ2.out.one j hjl
                  have cy := hc wr HP.out.st.bel
                  have hjlI : (j : Int) < (l2 : Int) := by omega
                  obtain ⟨kk, hk1, hk2⟩ := u64_mod (z2 j) (T.length : Int) (by omega) (by omega)
                  have hkk : kk < T.length := by omega
                  generalize z2 j = y at *
                  clear hc hk1
                  go_wp2_with (fail)
                  go_meet
                  exact ⟨kk, by rw [hk2], hkk, rfl⟩
                · have hjlI : ¬ (j : Int) < (l2 : Int) := by omega
                  go_wp2_with (fail)
                  go_meet
                  exact ⟨0, rfl, hlt, rfl⟩
              case rest =>
                obtain ⟨kk, rfl, hkk, hwc⟩ := hcut
                have hwc := hwc.symm
                subst hwc
                obtain ⟨g, rfl, g0, g1⟩ := HP.out.at kk hkk
                obtain ⟨⟨x, o⟩, hxo⟩ : ∃ p, T[kk] = p := ⟨_, rfl⟩
                have HXO := Lib.hid hxo
                rw [hxo] at g0 g1
                dsimp only at g0 g1
                have hkkI : (kk : Int) < (T.length : Int) := by omega
                have HAT := Lib.hid (fun (W : World) (L' T' : List (Int × Int)) (P : BkAt w.heap.size d n mb tb B2 d2 mb2 tb2 B3 L' T' T (.slice (some ⟨g, 0, none⟩) T.length lc) w W) => P.at kk hkk)
                rw [hxo] at HAT
                dsimp only at HAT
                have L1 := Lib.hid (show ∀ W, W.cell? ⟨g, kk * 2, none⟩ = some (.int .i64 x) ∧ W.cell? ⟨g, kk * 2 + 1, none⟩ = some (.int .i64 o) → (loadVar 3 ⟨g, kk * 2, none⟩).run Try.prog W = .ok (.int .i64 x) W from
                  fun W hW => run_loadVar_cell (fun _ => by kernel_rfl) hW.1)
                have L2 := Lib.hid (show ∀ W, W.cell? ⟨g, kk * 2, none⟩ = some (.int .i64 x) ∧ W.cell? ⟨g, kk * 2 + 1, none⟩ = some (.int .i64 o) → (loadVar 3 ⟨g, kk * 2 + 1, none⟩).run Try.prog W = .ok (.int .i64 o) W from
                  fun W hW => run_loadVar_cell (fun _ => by kernel_rfl) hW.2)
                clear hxo
                go_wp2_with (fail)
                refine wp_region_lex1 (fun W => W.cell? ⟨g, kk * 2, none⟩ = some (.int .i64 x) ∧ W.cell? ⟨g, kk * 2 + 1, none⟩ = some (.int .i64 o)) [(0, false), (1, false), (2, false), (3, false), (4, false), (5, false), (6, false), (7, false), (8, false), (9, false), (10, false), (11, true), (12, false), (13, false), (14, false), (15, false), (16, false), (17, false), (18, false), (19, false), (20, false), (21, false), (22, false), (23, false), (24, false), (25, true), (26, false), (27, false)]
                  (by kernel_rfl) (by kernel_rfl) rfl (by kernel_rfl) ⟨g0, g1⟩ ?_
                intro W0 hW0 _
                have HP0 := Lib.hid (show BkAt w.heap.size d n mb tb B2 d2 mb2 tb2 B3 L T T (.slice (some ⟨g, 0, none⟩) T.length lc) w W0 by rw [hW0]; exact HP.out.later (Below.refl _ wr).drew)
                clear hW0 HP g0 g1
                refine lexH_yieldE rfl rfl ?_
                apply Exists.intro
                refine ⟨fun W hW => ?_, ?_⟩
                focus (go_simp; exact rfl)
                simp only [List.getElem_toArray, List.getElem_cons_zero, Act.put, List.setIfInBounds_toArray, List.set_cons_zero, List.set_cons_succ]
                refine lexH_yieldE rfl rfl ?_
                apply Exists.intro
                refine ⟨fun W hW => ?_, ?_⟩
                focus (go_simp; exact rfl)
                simp only [List.getElem_toArray, List.getElem_cons_succ, List.getElem_cons_zero, Act.put, List.setIfInBounds_toArray, List.set_cons_zero, List.set_cons_succ]
                refine lexH_yieldE rfl rfl ?_
                apply Exists.intro
                refine ⟨fun W hW => ?_, ?_⟩
                focus (go_simp; exact rfl)
                simp only [List.getElem_toArray, List.getElem_cons_succ, List.getElem_cons_zero, Act.put, List.setIfInBounds_toArray, List.set_cons_zero, List.set_cons_succ]
                refine lexH_yieldE rfl rfl ?_
                apply Exists.intro
                refine ⟨fun W hW => ?_, ?_⟩
                focus (go_simp; exact rfl)
                simp only [List.getElem_toArray, List.getElem_cons_succ, List.getElem_cons_zero, Act.put, List.setIfInBounds_toArray, List.set_cons_zero, List.set_cons_succ]
                refine lexH_yieldE rfl rfl ?_
                apply Exists.intro
                refine ⟨fun W hW => ?_, ?_⟩
                focus (go_simp; exact rfl)
                simp only [List.getElem_toArray, List.getElem_cons_succ, List.getElem_cons_zero, Act.put, List.setIfInBounds_toArray, List.set_cons_zero, List.set_cons_succ]
                refine lexH_load rfl rfl _ _ rfl rfl L1.out ?_
                simp only [List.getElem_toArray, List.getElem_cons_succ, List.getElem_cons_zero, Act.put, List.setIfInBounds_toArray, List.set_cons_zero, List.set_cons_succ]
                refine lexH_yieldE rfl rfl ?_
                apply Exists.intro
                refine ⟨fun W hW => ?_, ?_⟩
                focus (go_simp; exact rfl)
                simp only [List.getElem_toArray, List.getElem_cons_succ, List.getElem_cons_zero, Act.put, List.setIfInBounds_toArray, List.set_cons_zero, List.set_cons_succ]
                refine lexH_yieldE rfl rfl ?_
                apply Exists.intro
                refine ⟨fun W hW => ?_, ?_⟩
                focus (go_simp; exact rfl)
                simp only [List.getElem_toArray, List.getElem_cons_succ, List.getElem_cons_zero, Act.put, List.setIfInBounds_toArray, List.set_cons_zero, List.set_cons_succ]
                refine lexH_yieldE rfl rfl ?_
                apply Exists.intro
                refine ⟨fun W hW => ?_, ?_⟩
                focus (go_simp; exact rfl)
                simp only [List.getElem_toArray, List.getElem_cons_succ, List.getElem_cons_zero, Act.put, List.setIfInBounds_toArray, List.set_cons_zero, List.set_cons_succ]
                refine lexH_yieldE rfl rfl ?_
                apply Exists.intro
                refine ⟨fun W hW => ?_, ?_⟩
                focus (go_simp; exact rfl)
                simp only [List.getElem_toArray, List.getElem_cons_succ, List.getElem_cons_zero, Act.put, List.setIfInBounds_toArray, List.set_cons_zero, List.set_cons_succ]
                refine lexH_load rfl rfl _ _ rfl rfl L2.out ?_
                simp only [List.getElem_toArray, List.getElem_cons_succ, List.getElem_cons_zero, Act.put, List.setIfInBounds_toArray, List.set_cons_zero, List.set_cons_succ]
                refine lexH_call 15 #[.pointer (some ⟨d, 0, none⟩), .int .i64 x, .int .i64 o] rfl rfl ?_ ?_
                focus (go_simp; done)
                refine (HP0.out.give kk hkk HXO.out).mono ?_
                rintro e w4 ⟨rfl, hno, K, hP4⟩
                have HP4 := Lib.hid hP4
                have HNO := Lib.hid hno
                have HBD := Lib.hid (HP0.out.bound (List.getElem_mem hkk))
                rw [HXO.out] at HBD
                obtain ⟨g', eg, q0, q1⟩ := HAT.out _ _ _ HP4.out
                have eg : g = g' := by injection eg with eg; injection eg
                subst eg
                refine ⟨_, rfl, ⟨q0, q1⟩, ?_⟩
                clear hno hP4 HP0 q0 q1
                simp only [List.getElem_toArray, List.getElem_cons_succ, List.getElem_cons_zero, Act.put, List.setIfInBounds_toArray, List.set_cons_zero, List.set_cons_succ]
                refine lexH_yieldE rfl rfl ?_
                apply Exists.intro
                refine ⟨fun W hW => ?_, ?_⟩
                focus (go_simp; exact rfl)
                simp only [List.getElem_toArray, List.getElem_cons_succ, List.getElem_cons_zero, Act.put, List.setIfInBounds_toArray, List.set_cons_zero, List.set_cons_succ]
                refine lexH_yieldE rfl rfl ?_
                apply Exists.intro
                refine ⟨fun W hW => ?_, ?_⟩
                focus (go_simp; exact rfl)
                simp only [List.getElem_toArray, List.getElem_cons_succ, List.getElem_cons_zero, Act.put, List.setIfInBounds_toArray, List.set_cons_zero, List.set_cons_succ]
                refine lexH_yieldE rfl rfl ?_
                apply Exists.intro
                refine ⟨fun W hW => ?_, ?_⟩
                focus (go_simp; exact rfl)
                simp only [List.getElem_toArray, List.getElem_cons_succ, List.getElem_cons_zero, Act.put, List.setIfInBounds_toArray, List.set_cons_zero, List.set_cons_succ]
                refine lexH_yieldE rfl rfl ?_
                apply Exists.intro
                refine ⟨fun W hW => ?_, ?_⟩
                focus (go_simp; exact rfl)
                simp only [List.getElem_toArray, List.getElem_cons_succ, List.getElem_cons_zero, Act.put, List.setIfInBounds_toArray, List.set_cons_zero, List.set_cons_succ]
                refine lexH_yieldE rfl rfl ?_
                apply Exists.intro
                refine ⟨fun W hW => ?_, ?_⟩
                focus (go_simp; exact rfl)
                simp only [List.getElem_toArray, List.getElem_cons_succ, List.getElem_cons_zero, Act.put, List.setIfInBounds_toArray, List.set_cons_zero, List.set_cons_succ]
                refine lexH_yieldE rfl rfl ?_
                apply Exists.intro
                refine ⟨fun W hW => ?_, ?_⟩
                focus (go_simp; exact rfl)
                simp only [List.getElem_toArray, List.getElem_cons_succ, List.getElem_cons_zero, Act.put, List.setIfInBounds_toArray, List.set_cons_zero, List.set_cons_succ]
                refine lexH_yieldE rfl rfl ?_
                apply Exists.intro
                refine ⟨fun W hW => ?_, ?_⟩
                focus (go_simp; exact rfl)
                simp only [List.getElem_toArray, List.getElem_cons_succ, List.getElem_cons_zero, Act.put, List.setIfInBounds_toArray, List.set_cons_zero, List.set_cons_succ]
                refine lexH_load rfl rfl _ _ rfl rfl L1.out ?_
                simp only [List.getElem_toArray, List.getElem_cons_succ, List.getElem_cons_zero, Act.put, List.setIfInBounds_toArray, List.set_cons_zero, List.set_cons_succ]
                refine lexH_yieldE rfl rfl ?_
                apply Exists.intro
                refine ⟨fun W hW => ?_, ?_⟩
                focus (go_simp; exact rfl)
                simp only [List.getElem_toArray, List.getElem_cons_succ, List.getElem_cons_zero, Act.put, List.setIfInBounds_toArray, List.set_cons_zero, List.set_cons_succ]
                refine lexH_yieldE rfl rfl ?_
                apply Exists.intro
                refine ⟨fun W hW => ?_, ?_⟩
                focus (go_simp; exact rfl)
                simp only [List.getElem_toArray, List.getElem_cons_succ, List.getElem_cons_zero, Act.put, List.setIfInBounds_toArray, List.set_cons_zero, List.set_cons_succ]
                refine lexH_yieldE rfl rfl ?_
                apply Exists.intro
                refine ⟨fun W hW => ?_, ?_⟩
                focus (go_simp; exact rfl)
                simp only [List.getElem_toArray, List.getElem_cons_succ, List.getElem_cons_zero, Act.put, List.setIfInBounds_toArray, List.set_cons_zero, List.set_cons_succ]
                refine lexH_yieldE rfl rfl ?_
                apply Exists.intro
                refine ⟨fun W hW => ?_, ?_⟩
                focus (go_simp; exact rfl)
                simp only [List.getElem_toArray, List.getElem_cons_succ, List.getElem_cons_zero, Act.put, List.setIfInBounds_toArray, List.set_cons_zero, List.set_cons_succ]
                refine lexH_load rfl rfl _ _ rfl rfl L2.out ?_
                simp only [List.getElem_toArray, List.getElem_cons_succ, List.getElem_cons_zero, Act.put, List.setIfInBounds_toArray, List.set_cons_zero, List.set_cons_succ]
                refine lexH_call 15 #[.pointer (some ⟨d, 0, none⟩), .int .i64 x, .int .i64 o] rfl rfl ?_ ?_
                focus (go_simp; done)
                refine (HP4.out.giveNo HBD.out HNO.out).mono ?_
                rintro e w5 ⟨rfl, hP5⟩
                have HP5 := Lib.hid hP5
                obtain ⟨g', eg, q0, q1⟩ := HAT.out _ _ _ HP5.out
                have eg : g = g' := by injection eg with eg; injection eg
                subst eg
                refine ⟨_, rfl, ⟨q0, q1⟩, ?_⟩
                clear hP5 HP4 q0 q1 HAT L1 L2
                simp only [List.getElem_toArray, List.getElem_cons_succ, List.getElem_cons_zero, Act.put, List.setIfInBounds_toArray, List.set_cons_zero, List.set_cons_succ]
                refine lexH_yieldE rfl rfl ?_
                apply Exists.intro
                refine ⟨fun W hW => ?_, ?_⟩
                focus (go_simp; exact rfl)
                simp only [List.getElem_toArray, List.getElem_cons_succ, List.getElem_cons_zero, Act.put, List.setIfInBounds_toArray, List.set_cons_zero, List.set_cons_succ]
                refine lexH_yieldE rfl rfl ?_
                apply Exists.intro
                refine ⟨fun W hW => ?_, ?_⟩
                focus (go_simp; exact rfl)
                simp only [List.getElem_toArray, List.getElem_cons_succ, List.getElem_cons_zero, Act.put, List.setIfInBounds_toArray, List.set_cons_zero, List.set_cons_succ]
                refine lexH_nil ?_
                go_wp2_with (fail)
                clear hwc eg HBD HNO HXO
                obtain ⟨g', eg, hnc, hcell⟩ := HP5.out.part (by omega)
                have eg : g = g' := by injection eg with eg; injection eg
                subst eg
                have HCE := Lib.hid hcell
                have S1 := Lib.hid (fun W (_ : Kept w5.heap.size w5 W) => run_sub_to (P := Try.prog) Try.underlying38 sizeBlk g 0 T.length lc kk (by omega) W)
                obtain ⟨A2, hA2, hS2⟩ : ∃ A2 : Addr, (0 < T.length - (kk + 1) → A2 = ⟨g, (kk + 1) * 2, none⟩) ∧ ∀ W, Kept w5.heap.size w5 W → (Instr.sliceAt 38 (.slice (some ⟨g, 0, none⟩) T.length lc) (some (.int .i64 ((kk : Int) + 1))) none none).run Try.prog W = .ok (.slice (some A2) (T.length - (kk + 1)) (lc - (kk + 1))) W :=
                  ⟨_, fun h => by rw [if_neg (by omega), Nat.zero_add], fun W _ => run_sub_from (P := Try.prog) Try.underlying38 sizeBlk g 0 T.length lc (kk + 1) (by omega) W⟩
                have S2 := Lib.hid hS2
                have HA2 := Lib.hid hA2
                clear hS2 hA2 hcell
                refine wp_region_lex (Kept w5.heap.size w5) [(1, false), (2, false), (3, false), (5, false), (6, false), (7, false), (8, false), (0, true), (4, true), (9, true), (10, false)]
                  (by kernel_rfl) (by kernel_rfl) rfl (by kernel_rfl) ⟨rfl, rfl, rfl, Nat.le_refl _, fun _ _ => rfl⟩ ?_
                intro W0 hK0
                refine lexH_yieldE rfl rfl ?_
                apply Exists.intro
                refine ⟨fun W hW => ?_, ?_⟩
                focus (go_simp; exact rfl)
                simp only [List.getElem_toArray, List.getElem_cons_succ, List.getElem_cons_zero, Act.put, List.setIfInBounds_toArray, List.set_cons_zero, List.set_cons_succ]
                refine lexH_yieldE rfl rfl ?_
                apply Exists.intro
                refine ⟨fun W hW => ?_, ?_⟩
                focus (go_simp; exact rfl)
                simp only [List.getElem_toArray, List.getElem_cons_succ, List.getElem_cons_zero, Act.put, List.setIfInBounds_toArray, List.set_cons_zero, List.set_cons_succ]
                refine lexH_slice rfl rfl _ _ _ _ _ rfl S1.out ?_
                simp only [List.getElem_toArray, List.getElem_cons_succ, List.getElem_cons_zero, Act.put, List.setIfInBounds_toArray, List.set_cons_zero, List.set_cons_succ]
                refine lexH_yieldE rfl rfl ?_
                apply Exists.intro
                refine ⟨fun W hW => ?_, ?_⟩
                focus (go_simp; exact rfl)
                simp only [List.getElem_toArray, List.getElem_cons_succ, List.getElem_cons_zero, Act.put, List.setIfInBounds_toArray, List.set_cons_zero, List.set_cons_succ]
                refine lexH_yieldE rfl rfl ?_
                apply Exists.intro
                refine ⟨fun W hW => ?_, ?_⟩
                focus (go_simp; exact rfl)
                simp only [List.getElem_toArray, List.getElem_cons_succ, List.getElem_cons_zero, Act.put, List.setIfInBounds_toArray, List.set_cons_zero, List.set_cons_succ]
                refine lexH_yieldE rfl rfl ?_
                apply Exists.intro
                refine ⟨fun W hW => ?_, ?_⟩
                focus (go_simp; exact rfl)
                simp only [List.getElem_toArray, List.getElem_cons_succ, List.getElem_cons_zero, Act.put, List.setIfInBounds_toArray, List.set_cons_zero, List.set_cons_succ]
                rw [show IntKind.i64.wrap ((kk : Int) + 1) = (kk : Int) + 1 by rw [IntKind.wrap_i64]; omega]
                refine lexH_slice rfl rfl _ _ _ _ _ rfl S2.out ?_
                simp only [List.getElem_toArray, List.getElem_cons_succ, List.getElem_cons_zero, Act.put, List.setIfInBounds_toArray, List.set_cons_zero, List.set_cons_succ]
                refine lexH_eff rfl rfl ?_
                unfold Oper.wp
                go_simp
                have HK1 := Lib.hid (hK0.below.alloc hK0.below.size (.cells #[] 42))
                have HO1 := Lib.hid (World.ownsRow_made W0 (e := 42) (base := w5.heap.size) (size := 2) #[] 0 hK0.below.size (Nat.zero_le _) (by simp))
                refine ⟨HK1.out, ?_⟩
                clear hK0
                generalize W0.alloc (.cells #[] 42) = W1 at HK1 HO1 ⊢
                generalize W0.heap.size = b1 at HO1 ⊢
                refine lexH_append_src _ rfl rfl _ _ 38 rfl w5.heap.size 42 i0 _ 2 16 Try.underlying38 hi hz0 hz1 hz2 rfl (by decide) _ _ _ HO1.out HK1.out.size (some ⟨g, 0, none⟩) kk lc (recV encB (T.take kk)) rfl rfl ?q1 ?q2 (recV_one encB_one _) ?q3 (by decide) ?_
                case q1 => rw [recV_len encB_len, List.length_take, Nat.min_eq_left (by omega)]
                case q2 =>
                  refine fun _ => ⟨_, rfl, fun j u hj => ?_⟩
                  have hj2 : j < kk * 2 := by
                    have := (List.getElem?_eq_some_iff.1 hj).1
                    rw [recV_len encB_len, List.length_take, Nat.min_eq_left (by omega)] at this
                    exact this
                  rw [← recV_take encB_len, List.getElem?_take_of_lt hj2] at hj
                  have hc := HCE.out j u hj
                  rw [Addr.add_lit, Nat.zero_add, HK1.out.cell (World.block_lt_of_cell? _ _ hc)]
                  exact hc
                case q3 => omega
                intro v2 W2 hown2 ho2 _
                have HO2 := Lib.hid hown2
                have HK2 := Lib.hid (ho2.below HK1.out HK1.out.size (fun j hj => (HO1.out.lt j hj).1))
                refine ⟨HK2.out, ?_⟩
                clear hown2 ho2 HO1 HK1
                simp only [List.getElem_toArray, List.getElem_cons_succ, List.getElem_cons_zero, Act.put, List.setIfInBounds_toArray, List.set_cons_zero, List.set_cons_succ]
                refine lexH_append_src _ rfl rfl _ _ 38 rfl w5.heap.size 42 i0 _ 2 16 Try.underlying38 hi hz0 hz1 hz2 rfl (by decide) _ _ _ HO2.out HK2.out.size (some A2) (T.length - (kk + 1)) (lc - (kk + 1)) (recV encB (T.drop (kk + 1))) rfl rfl ?q4 ?q5 (recV_one encB_one _) ?q6 (by decide) ?_
                case q4 => rw [recV_len encB_len, List.length_drop]
                case q5 =>
                  refine fun hp => ⟨_, rfl, fun j u hj => ?_⟩
                  rw [← recV_drop encB_len, List.getElem?_drop] at hj
                  have hc := HCE.out _ u hj
                  rw [HA2.out hp, Addr.add_lit, HK2.out.cell (World.block_lt_of_cell? _ _ hc)]
                  exact hc
                case q6 => omega
                intro v3 W3 hown3 ho3 _
                have HK3 := Lib.hid (ho3.below HK2.out HK2.out.size (fun j hj => (HO2.out.lt j hj).1))
                have hlen : (T.take kk ++ T.drop (kk + 1)).length = 0 + kk + (T.length - (kk + 1)) := by
                  rw [List.length_append, List.length_take, Nat.min_eq_left (by omega), List.length_drop]; omega
                have hO3 : W3.ownsRow w5.heap.size 42 2 v3 (T.take kk ++ T.drop (kk + 1)).length (recV encB (T.take kk ++ T.drop (kk + 1))) := by
                  rw [hlen, recV_append]; simpa using hown3
                have HLN := Lib.hid (show (T.take kk ++ T.drop (kk + 1)).length + 1 = T.length by rw [hlen]; omega)
                clear hlen
                generalize T.take kk ++ T.drop (kk + 1) = U at *
                obtain ⟨a3, cap3, hv3⟩ := own_slice hO3
                subst hv3
                have HP6 := Lib.hid (HP5.out.anew hO3 HK3.out)
                refine ⟨HK3.out, ?_⟩
                clear hO3 hown3 ho3 HO2 HK2 HK3 HP5 S1 S2 HA2 HCE
                simp only [List.getElem_toArray, List.getElem_cons_succ, List.getElem_cons_zero, Act.put, List.setIfInBounds_toArray, List.set_cons_zero, List.set_cons_succ]
                refine lexH_yieldE rfl rfl ?_
                apply Exists.intro
                refine ⟨fun W hW => ?_, ?_⟩
                focus (go_simp; exact rfl)
                simp only [List.getElem_toArray, List.getElem_cons_succ, List.getElem_cons_zero, Act.put, List.setIfInBounds_toArray, List.set_cons_zero, List.set_cons_succ]
                refine lexH_nil ?_
                go_wp2_with (fail)
                go_roundw
                case rel => exact ⟨j + 1, K, U, a3, cap3, by go_num, rfl, (by have := HLN.out; show j + 1 + U.length ≤ 100; omega), HP6.out⟩
                case measure => have := HLN.out; simp; omega
            -- SCAN]
            · have hT0 : T = [] := List.length_eq_zero_iff.1 (by omega)
              subst hT0
              have hLn : L = newL n := HP.out.st.inv.unique (inv_new hn1 hn2) (fun o a => Iff.rfl)
              subst hLn
              clear hlt HTL
              go_wp2_with (fail)
              refine (blocks_any _ _).mono ?_
              rintro e w' ⟨rfl, rfl⟩
              go_wp2_with (fail)
              refine (blocks_any _ _).mono ?_
              rintro e w' ⟨rfl, rfl⟩
              go_wp2_with (fail)
              rw [show wr.heap.size + 1 + 1 + 1 = wr.heap.size + 3 from rfl]
              obtain ⟨W0, hW0⟩ : ∃ W0, ((((wr.alloc (.cells #[.slice none 0 0] 38)).alloc (.cells #[.slice none 0 0] 38)).alloc (.cells #[.pointer (some ⟨d, 0, none⟩)] 23)).alloc (.cells #[.pointer (some ⟨d, 0, none⟩)] 23)) = W0 := ⟨_, rfl⟩
              have hb0 : Below wr.heap.size wr W0 := by
                rw [← hW0]
                exact ((((Below.refl _ _).alloc (Nat.le_refl _) _).alloc (by simp) _).alloc (by simp; omega) _).alloc (by simp; omega) _
              have hx0 : Boxed W0 wr.heap.size 38 (.slice none 0 0) := by
                rw [← hW0]
                exact ((((Boxed.new wr _ _).alloc _).alloc _).alloc _)
              have hy0 : Boxed W0 (wr.heap.size + 1) 38 (.slice none 0 0) := by
                have h := Boxed.new (wr.alloc (.cells #[.slice none 0 0] 38)) 38 (.slice none 0 0)
                rw [World.size_alloc] at h
                rw [← hW0]
                exact (h.alloc _).alloc _
              have hs0 : W0.heap.size = wr.heap.size + 4 := by rw [← hW0]; simp
              have hc0 : W0.cell? ⟨wr.heap.size + 3, 0, none⟩ = some (.pointer (some ⟨d, 0, none⟩)) := by rw [← hW0]; simp [go_sem]
              rw [hW0]
              have HP0 := Lib.hid (HP.out.later hb0)
              have hwr := HP.out.b3
              have hdw := HP.out.st.node.lt
              have HOL := Lib.hid (fun k (hk : own6 mb tb k) => HP.out.st.node.own_lt hk)
              have HB0 := Lib.hid (show Below w.heap.size w W0 from HP0.out.st.bel)
              clear hW0 HP hb0
              generalize wr.heap.size = bx at *
              have hseq := blocks_grow (m - 1) (by omega) (bx + 3) bx HP0.out.st.inv HP0.out.st.node hc0 (by omega) (fun k hk => by have := HOL.out k hk; omega) (by omega) (by omega) (by rw [boxOwn_of hx0.cell]; rfl)
              have hbxW : bx < W0.heap.size := by omega
              refine (wpIn_wide (n := m)).1 ?_
              refine range_boxed rfl h1 (gf := 36) (lb := #[.pointer (some ⟨bx + 3, 0, none⟩)]) (by simp [go_sem]) trivial (enters_of Try.func36 (by kernel_rfl) rfl) hseq KpG.trans
                (fun W l o o' hl h hc _ => KpG.put l o' hbxW hl h hc) (fun x => rfl)
                (GrowAt W0 bx (newL n)) (fun _ _ _ => False) (grow_own _ hbxW) (fun _ _ _ _ _ h => h.elim) ⟨_, hx0, World.ownsRow_nil _ _ _ _, Only.refl _ _⟩
                21 (fun x zb W' => RowAt W' zb 2 (blkV ((newL n)[x.val]'x.isLt).1 ((newL n)[x.val]'x.isLt).2)) (fun x zb s X Y row R hg hr => row_grown R hg (fun r e => (hr r e).2)) ?assign ?body ?done (fun _ _ _ _ _ _ h => h.elim)
              -- [SCAN
              case assign =>
                intro l pre x W K hI hK
                have HK := Lib.hid hK
                have HI := Lib.hid hI
                have HR := Lib.hid (block_row W ((newL n)[x.val]'x.isLt).1 ((newL n)[x.val]'x.isLt).2)
                have HW := Lib.hid ((Below.refl _ W).alloc (Nat.le_refl _) (.cells #[.int .i64 ((newL n)[x.val]'x.isLt).1, .int .i64 ((newL n)[x.val]'x.isLt).2] 42))
                clear hK hI hnil
                simp only [blk]
                gi_wp2_with (fail)
                have h9 := HK.out W.heap.size _ ((KeepsOthers.alloc W _).from _) (KpG.of_below (by have := HI.out.le; omega) HW.out) (HI.out.later HW.out) HR.out
                simpa [blk] using h9
              -- SCAN]
              -- [SCAN
              case body =>
                rintro l pre x zb W ⟨v, hv, hr, ho⟩ hz hlen
                have hl128 := HP0.out.st.inv.len
                have hte : (38 : TypeId) ≠ 42 := by decide
                obtain ⟨va, vc, hve, _⟩ := owns_slice hr
                subst hve
                have HV := Lib.hid hv
                have HR := Lib.hid hr
                have HO := Lib.hid ho
                have hle := ho.size
                have hlp : pre.length ≤ 1000 := by omega
                have cv := hv.cell
                have fv := hv.frozen
                have z0 : W.cell? ⟨zb, 0, none⟩ = some (.int .i64 ((newL n)[x.val]'x.isLt).1) := hz.cell 0 (by decide)
                have z1 : W.cell? ⟨zb, 1, none⟩ = some (.int .i64 ((newL n)[x.val]'x.isLt).2) := hz.cell 1 (by decide)
                clear hv hr ho hz hnil hlen hl128 hseq hs0
                simp only [blk]
                gi_wp2_with (gi_at_builtin; refine wpListIn_append_one W rfl _ _ 38 rfl W0.heap.size 42 i0 _ 2 16 Try.underlying38 hi hz0 hz1 hz2 rfl (by decide) _ _ _ #[.int .i64 ((newL n)[x.val]'x.isLt).1, .int .i64 ((newL n)[x.val]'x.isLt).2] HR.out hle rfl rfl rfl (block_one _ _) hlp (by decide) ?_)
                intro v' w1 hown hg hat
                obtain ⟨hv1, ⟨hb2, hr2, ho2⟩, hkf, hkp⟩ := grow_step HV.out hte HR.out HO.out hown hg hat
                obtain ⟨va2, vc2, hve, _⟩ := owns_slice hown
                subst hve
                have HB2 := Lib.hid hb2
                have HR2 := Lib.hid hr2
                have HO2 := Lib.hid ho2
                have HKF := Lib.hid hkf
                have HKP := Lib.hid hkp
                have cv := hv1.cell
                have fv := hv1.frozen
                clear hv1 hb2 hr2 ho2 hkf hkp hown hg hat z0 z1
                gi_wp2_with (fail)
                exact ⟨HKF.out, HKP.out, _, HB2.out, by
                  rw [List.length_append, told_one, recV_append, recV_single]
                  exact HR2.out, HO2.out⟩
              -- SCAN]
              case done =>
                rintro D xs W hD hxs hI hK
                have hlx : xs.length = (newL n).length := by
                  have := congrArg List.length hxs
                  simpa using this
                obtain ⟨v, hv, hr, ho⟩ := hI
                rw [told_all hxs, hlx] at hr
                clear hlx hxs hseq
                have hdm : D ≠ bx + 1 := by omega
                obtain ⟨va, vc, hve⟩ := own_slice hr
                subst hve
                have hyW : Boxed W (bx + 1) 38 (.slice none 0 0) := (ho.block (bx + 1) (by omega) (by omega)).trans hy0
                have htw := HP0.out.two.only ho (fun h => by have := (HP0.out.up _ (.inr rfl)).2; omega) (fun k hk h => by have := (HP0.out.up _ (.inl hk)).2; omega)
                have hst := HP0.out.st.node.only ho (fun h => by omega) (fun k hk h => by have := HOL.out k hk; omega)
                have hB1 := HP0.out.b1
                have hB2 := HP0.out.b2
                have hbl := ho.below HB0.out HB0.out.size (fun k hk => by omega)
                have hsz := ho.size
                have HB1 := Lib.hid hbl
                have HV := Lib.hid hv
                have HR := Lib.hid hr
                have HY := Lib.hid hyW
                have HT := Lib.hid htw
                have HS := Lib.hid hst
                have HK := Lib.hid hK
                clear hv hr hyW htw hst hbl ho hx0 hy0 hc0 hK
                go_wp2_with (fail)
                refine (blocks_any _ _).mono ?_
                rintro e w' ⟨rfl, rfl⟩
                go_wp2_with (fail)
                refine (blocks_any _ _).mono ?_
                rintro e w' ⟨rfl, rfl⟩
                go_wp2_with (fail)
                obtain ⟨W1, hW1⟩ : ∃ W1, ((W.alloc (.cells #[.pointer (some ⟨d2, 0, none⟩)] 23)).alloc (.cells #[.pointer (some ⟨d2, 0, none⟩)] 23)) = W1 := ⟨_, rfl⟩
                have hb1 : Below W.heap.size W W1 := by
                  rw [← hW1]
                  exact ((Below.refl _ _).alloc (Nat.le_refl _) _).alloc (by simp) _
                have hs1 : W1.heap.size = W.heap.size + 2 := by rw [← hW1]; simp
                have hc1 : W1.cell? ⟨W.heap.size + 1, 0, none⟩ = some (.pointer (some ⟨d2, 0, none⟩)) := by rw [← hW1]; simp [go_sem]
                rw [hW1]
                have hx1 : Boxed W1 bx 38 (.slice va (newL n).length vc) := (hb1.block bx HV.out.lt).trans HV.out
                have hy1 : Boxed W1 (bx + 1) 38 (.slice none 0 0) := (hb1.block (bx + 1) HY.out.lt).trans HY.out
                have hDl : D < W.heap.size := (Array.getElem?_eq_some_iff.1 HK.out).1
                have hk1 : W1.heap[D]? = some (.deferred (some [])) := (hb1.block D hDl).trans HK.out
                have hr1 := owns_later HR.out hb1
                have HT1 := Lib.hid (HT.out.later hb1)
                have HS1 := Lib.hid (HS.out.later hb1)
                have HB1' := Lib.hid (HB1.out.trans (hb1.mono HB1.out.size))
                have I2 := inv_new hn1 hn2
                have hup := HP0.out.up
                have hseq2 := blocks_grow (m - 1) (by omega) (W.heap.size + 1) (bx + 1) I2 HT1.out hc1 (by have := (hup _ (.inr rfl)).2; omega) (fun k hk => by have := (hup _ (.inl hk)).2; omega) (by omega) (by omega) (by rw [boxOwn_of hy1.cell]; rfl)
                have hbxW1 : bx + 1 < W1.heap.size := by omega
                have HX1 := Lib.hid hx1
                have HR1 := Lib.hid hr1
                have HK1 := Lib.hid hk1
                clear hW1 hb1 HV HR HY HT HS HK HB1 hx1 hr1 hk1 hup hc1
                refine (wpIn_wide (n := m)).1 ?_
                refine range_boxed rfl h1 (gf := 36) (lb := #[.pointer (some ⟨W.heap.size + 1, 0, none⟩)]) (by simp [go_sem]) trivial (enters_of Try.func36 (by kernel_rfl) rfl) hseq2 KpG.trans
                  (fun W l o o' hl h hc _ => KpG.put l o' hbxW1 hl h hc) (fun x => rfl)
                  (GrowAt W1 (bx + 1) (newL n)) (fun _ _ _ => False) (grow_own _ hbxW1) (fun _ _ _ _ _ h => h.elim) ⟨_, hy1, World.ownsRow_nil _ _ _ _, Only.refl _ _⟩
                  22 (fun x zb W' => RowAt W' zb 2 (blkV ((newL n)[x.val]'x.isLt).1 ((newL n)[x.val]'x.isLt).2)) (fun x zb s X Y row R hg hr => row_grown R hg (fun r e => (hr r e).2)) ?assign2 ?body2 ?done2 (fun _ _ _ _ _ _ h => h.elim)
                -- [SCAN
                case assign2 =>
                  intro l pre x W K hI hK
                  have HK := Lib.hid hK
                  have HI := Lib.hid hI
                  have HR := Lib.hid (block_row W ((newL n)[x.val]'x.isLt).1 ((newL n)[x.val]'x.isLt).2)
                  have HW := Lib.hid ((Below.refl _ W).alloc (Nat.le_refl _) (.cells #[.int .i64 ((newL n)[x.val]'x.isLt).1, .int .i64 ((newL n)[x.val]'x.isLt).2] 42))
                  clear hK hI
                  simp only [blk]
                  gi_wp2_with (fail)
                  have h9 := HK.out W.heap.size _ ((KeepsOthers.alloc W _).from _) (KpG.of_below (by have := HI.out.le; omega) HW.out) (HI.out.later HW.out) HR.out
                  simpa [blk] using h9
                -- SCAN]
                -- [SCAN
                case body2 =>
                  rintro l pre x zb W ⟨v, hv, hr, ho⟩ hz hlen
                  have hl128 := (inv_new hn1 hn2).len
                  have hte : (38 : TypeId) ≠ 42 := by decide
                  obtain ⟨va, vc, hve, _⟩ := owns_slice hr
                  subst hve
                  have HV := Lib.hid hv
                  have HR := Lib.hid hr
                  have HO := Lib.hid ho
                  have hle := ho.size
                  have hlp : pre.length ≤ 1000 := by omega
                  have cv := hv.cell
                  have fv := hv.frozen
                  have z0 : W.cell? ⟨zb, 0, none⟩ = some (.int .i64 ((newL n)[x.val]'x.isLt).1) := hz.cell 0 (by decide)
                  have z1 : W.cell? ⟨zb, 1, none⟩ = some (.int .i64 ((newL n)[x.val]'x.isLt).2) := hz.cell 1 (by decide)
                  clear hv hr ho hz hlen hl128 hseq2 hs0 hs1
                  simp only [blk]
                  gi_wp2_with (gi_at_builtin; refine wpListIn_append_one W rfl _ _ 38 rfl W1.heap.size 42 i0 _ 2 16 Try.underlying38 hi hz0 hz1 hz2 rfl (by decide) _ _ _ #[.int .i64 ((newL n)[x.val]'x.isLt).1, .int .i64 ((newL n)[x.val]'x.isLt).2] HR.out hle rfl rfl rfl (block_one _ _) hlp (by decide) ?_)
                  intro v' w1 hown hg hat
                  obtain ⟨hv1, ⟨hb2, hr2, ho2⟩, hkf, hkp⟩ := grow_step HV.out hte HR.out HO.out hown hg hat
                  obtain ⟨va2, vc2, hve, _⟩ := owns_slice hown
                  subst hve
                  have HB2 := Lib.hid hb2
                  have HR2 := Lib.hid hr2
                  have HO2 := Lib.hid ho2
                  have HKF := Lib.hid hkf
                  have HKP := Lib.hid hkp
                  have cv := hv1.cell
                  have fv := hv1.frozen
                  clear hv1 hb2 hr2 ho2 hkf hkp hown hg hat z0 z1
                  gi_wp2_with (fail)
                  exact ⟨HKF.out, HKP.out, _, HB2.out, by
                    rw [List.length_append, told_one, recV_append, recV_single]
                    exact HR2.out, HO2.out⟩
                -- SCAN]
                case done2 =>
                  rintro D2 ys W2 hD2 hys hI hK
                  have hly : ys.length = (newL n).length := by
                    have := congrArg List.length hys
                    simpa using this
                  obtain ⟨v, hv, hr, ho⟩ := hI
                  rw [told_all hys, hly] at hr
                  clear hly hys hseq2
                  obtain ⟨vb, vd, hve⟩ := own_slice hr
                  subst hve
                  have hte : (38 : TypeId) ≠ 42 := by decide
                  have hDD : D2 ≠ D := by omega
                  have hx2 : Boxed W2 bx 38 (.slice va (newL n).length vc) := (ho.block bx (by omega) (by omega)).trans HX1.out
                  have hr2 := owns_only HR1.out ho (fun k hk e => hy1.not_row hte HR1.out (by rw [← e]; exact hk.symm))
                  have hk2 : W2.heap[D]? = some (.deferred (some [])) := (ho.block D (by omega) hdm).trans HK1.out
                  have hst2 := HS1.out.only ho (fun h => by omega) (fun k hk h => by have := HOL.out k hk; omega)
                  have hb2 := ho.below HB1'.out HB1'.out.size (fun k hk => by omega)
                  have hsz2 := ho.size
                  have HA2 := Lib.hid hr
                  have HR2 := Lib.hid hr2
                  have HK2 := Lib.hid hk2
                  have HK3 := Lib.hid hK
                  have HS2 := Lib.hid hst2
                  have HB2 := Lib.hid hb2
                  have cx := hx2.cell
                  have cy := hv.cell
                  clear hr hr2 hk2 hK hst2 hb2 hx2 hv ho HX1 HR1 HK1 HS1 HT1 hy1
                  go_wp2_with (fail)
                  refine (free_any HS2.out I2).mono ?_
                  rintro e w' ⟨rfl, rfl⟩
                  rw [freeT_new n hn2]
                  have HCX := Lib.hid cx
                  have HCY := Lib.hid cy
                  have HLN := Lib.hid I2.len
                  generalize newL n = N at *
                  go_wp2_with (fail)
                  clear cx cy
                  go_loopw [175] (fun i wr => ∃ k : Nat, i = .int .i64 k ∧ k ≤ N.length ∧ Hid (Below W2.heap.size W2 wr)) (fun i _ => N.length - (intOf i).toNat)
                  case atStart => exact ⟨0, rfl, Nat.zero_le _, Below.refl _ _⟩
                  case round =>
                    obtain ⟨q, rfl, hq, HBW⟩ := hrel
                    have hll : N.length ≤ 128 := HLN.out
                    have hdx := World.block_lt_of_cell? _ _ HCX.out
                    have hdy := World.block_lt_of_cell? _ _ HCY.out
                    have cx : wr.cell? ⟨bx, 0, none⟩ = some (.slice va N.length vc) := by rw [HBW.out.cell hdx]; exact HCX.out
                    have cy : wr.cell? ⟨bx + 1, 0, none⟩ = some (.slice vb N.length vd) := by rw [HBW.out.cell hdy]; exact HCY.out
                    by_cases hlt : q < N.length
                    · have hltI : (q : Int) < (N.length : Int) := by omega
                      obtain ⟨ga, ca, ea, a0, a1⟩ := own_at (owns_later HR2.out HBW.out) q hlt
                      obtain ⟨gb, cb, eb, b0, b1⟩ := own_at (owns_later HA2.out HBW.out) q hlt
                      injection ea with ea1 _ ea3
                      injection eb with eb1 _ eb3
                      subst ea1
                      subst eb1
                      clear ea3 eb3
                      generalize N[q] = p at *
                      obtain ⟨x, y⟩ := p
                      dsimp only at a0 a1 b0 b1
                      have L0 := Lib.hid (show ∀ W, W = wr.drew → (loadVar 38 ⟨bx, 0, none⟩).run Try.prog W = .ok (.slice (some ⟨ga, 0, none⟩) N.length vc) W from fun W hW => run_loadVar_cell (fun _ => by kernel_rfl) (by rw [hW]; exact cx))
                      have L1 := Lib.hid (show ∀ W, W = wr.drew → (loadVar 38 ⟨bx + 1, 0, none⟩).run Try.prog W = .ok (.slice (some ⟨gb, 0, none⟩) N.length vd) W from fun W hW => run_loadVar_cell (fun _ => by kernel_rfl) (by rw [hW]; exact cy))
                      have L2 := Lib.hid (show ∀ W, W = wr.drew → (loadVar 42 ⟨ga, q * 2, none⟩).run Try.prog W = .ok (.agg #[.int .i64 x, .int .i64 y]) W from fun W hW => load_block (by rw [hW]; exact a0) (by rw [hW]; exact a1))
                      have L3 := Lib.hid (show ∀ W, W = wr.drew → (loadVar 42 ⟨gb, q * 2, none⟩).run Try.prog W = .ok (.agg #[.int .i64 x, .int .i64 y]) W from fun W hW => load_block (by rw [hW]; exact b0) (by rw [hW]; exact b1))
                      have HBD := Lib.hid (HBW.out.trans ((Below.refl W2.heap.size wr).drew))
                      clear cx cy a0 a1 b0 b1
                      go_wp2_with (fail)
                      refine wp_region_lex1 (fun W => W = wr.drew) [(0, false), (1, false), (2, false), (3, false), (4, false), (5, false), (6, false), (7, false), (8, false)]
                        (by kernel_rfl) (by kernel_rfl) rfl (by kernel_rfl) rfl ?_
                      intro V0 hV0 _
                      refine lexH_load rfl rfl _ _ rfl rfl L0.out ?_
                      simp only [List.getElem_toArray, List.getElem_cons_zero, Act.put, List.setIfInBounds_toArray, List.set_cons_zero, List.set_cons_succ]
                      refine lexH_yieldE rfl rfl ?_
                      apply Exists.intro
                      refine ⟨fun W hW => ?_, ?_⟩
                      focus (go_simp; exact rfl)
                      simp only [List.getElem_toArray, List.getElem_cons_succ, List.getElem_cons_zero, Act.put, List.setIfInBounds_toArray, List.set_cons_zero, List.set_cons_succ]
                      refine lexH_yieldE rfl rfl ?_
                      apply Exists.intro
                      refine ⟨fun W hW => ?_, ?_⟩
                      focus (go_simp; exact rfl)
                      simp only [List.getElem_toArray, List.getElem_cons_succ, List.getElem_cons_zero, Act.put, List.setIfInBounds_toArray, List.set_cons_zero, List.set_cons_succ]
                      refine lexH_load rfl rfl _ _ rfl rfl L2.out ?_
                      simp only [List.getElem_toArray, List.getElem_cons_succ, List.getElem_cons_zero, Act.put, List.setIfInBounds_toArray, List.set_cons_zero, List.set_cons_succ]
                      refine lexH_load rfl rfl _ _ rfl rfl L1.out ?_
                      simp only [List.getElem_toArray, List.getElem_cons_succ, List.getElem_cons_zero, Act.put, List.setIfInBounds_toArray, List.set_cons_zero, List.set_cons_succ]
                      refine lexH_yieldE rfl rfl ?_
                      apply Exists.intro
                      refine ⟨fun W hW => ?_, ?_⟩
                      focus (go_simp; exact rfl)
                      simp only [List.getElem_toArray, List.getElem_cons_succ, List.getElem_cons_zero, Act.put, List.setIfInBounds_toArray, List.set_cons_zero, List.set_cons_succ]
                      refine lexH_yieldE rfl rfl ?_
                      apply Exists.intro
                      refine ⟨fun W hW => ?_, ?_⟩
                      focus (go_simp; exact rfl)
                      simp only [List.getElem_toArray, List.getElem_cons_succ, List.getElem_cons_zero, Act.put, List.setIfInBounds_toArray, List.set_cons_zero, List.set_cons_succ]
                      refine lexH_load rfl rfl _ _ rfl rfl L3.out ?_
                      simp only [List.getElem_toArray, List.getElem_cons_succ, List.getElem_cons_zero, Act.put, List.setIfInBounds_toArray, List.set_cons_zero, List.set_cons_succ]
                      refine lexH_yieldE rfl rfl ?_
                      apply Exists.intro
                      refine ⟨fun W hW => ?_, ?_⟩
                      focus (go_simp; exact rfl)
                      simp only [List.getElem_toArray, List.getElem_cons_succ, List.getElem_cons_zero, Act.put, List.setIfInBounds_toArray, List.set_cons_zero, List.set_cons_succ]
                      refine lexH_nil ?_
                      clear hV0 L0 L1 L2 L3
                      go_wp2_with (fail)
                      go_roundw
                      case rel => exact ⟨q + 1, by go_num, hlt, HBD.out⟩
                      case measure => simp [intOf]; omega
                    · obtain rfl : q = N.length := by omega
                      go_wp2_with (fail)
                      refine (known_any _).mono ?_
                      rintro e w9 ⟨rfl, hb⟩
                      have hb9 : Below W2.heap.size W2 w9 := HBW.out.trans (hb.mono HBW.out.size)
                      have HB9 := Lib.hid (HB2.out.trans (hb9.mono HB2.out.size))
                      have HD1 := Lib.hid (show w9.heap[D]? = some (.deferred (some [])) from (hb9.block D (Array.getElem?_eq_some_iff.1 HK2.out).1).trans HK2.out)
                      have HD2 := Lib.hid (show w9.heap[D2]? = some (.deferred (some [])) from (hb9.block D2 (Array.getElem?_eq_some_iff.1 HK3.out).1).trans HK3.out)
                      have HSZ := Lib.hid hb9.size
                      clear hb hb9 cx cy
                      go_wp2_with (fail)
                      refine leaves_many [D2, D] w9 ?_ (fun E hE => ?_) (fun W' ho2 hs2 => ⟨.bool true, ?_, rfl, ?_⟩)
                      · simp only [List.nodup_cons, List.mem_singleton, List.not_mem_nil, not_false_eq_true, List.nodup_nil, and_true]
                        exact hDD
                      · rcases List.mem_cons.1 hE with rfl | hE
                        · exact HD2.out
                        · rw [List.mem_singleton] at hE
                          subst hE
                          exact HD1.out
                      · simp [results, Try.f6, go_sem]
                      · refine ho2.below HB9.out HB9.out.size (fun k hk => ?_)
                        have hw0 := HB0.out.size
                        rcases List.mem_cons.1 hk with h | h
                        · omega
                        · rw [List.mem_singleton] at h
                          omega
    · have hlen2 : 100 < (l1 : Int) := by omega
      go_wp2_with (fail)
      refine (new6_any hn1 hn2 w).mono ?_
      intro e w1 hN
      obtain ⟨d, mb, tb, rfl, hS⟩ := StAt.new hn1 hn2 hN
      have HB1 := Lib.hid hS.bel
      clear hS hN
      go_wp2_with (fail)
      refine (new6_any hn1 hn2 w1).mono ?_
      intro e w2 hN
      obtain ⟨d2, mb2, tb2, rfl, hS⟩ := StAt.new hn1 hn2 hN
      have HB2 := Lib.hid (HB1.out.trans (hS.bel.mono HB1.out.size))
      clear hS hN HB1
      go_wp2_with (fail)
      refine (known_any _).mono ?_
      rintro e w3 ⟨rfl, hb⟩
      have HB3 := Lib.hid (HB2.out.trans (hb.mono HB2.out.size))
      clear hb
      go_wp2_with (fail)
      refine ⟨.bool true, ?_, rfl, HB3.out⟩
      simp [results, Try.f6, go_sem]
  · go_wp2_with (fail)
    refine (newW hv w).mono ?_
    rintro e w' ⟨rfl, rfl⟩
    go_wp2_with (fail)
    refine (newW hv w).mono ?_
    rintro e w' ⟨rfl, rfl⟩
    go_wp2_with (fail)
    refine (known_any _).mono ?_
    rintro e w3 ⟨rfl, hb⟩
    have HB3 := Lib.hid hb
    clear hb
    go_wp2_with (fail)
    refine ⟨.bool true, ?_, rfl, HB3.out⟩
    simp [results, Try.f6, go_sem]
theorem lawBack_any (nn : Int) (a1 : Option Addr) (l1 c1 : Nat) (z1 : Nat → Int) (high : Bool) (a2 : Option Addr) (l2 c2 : Nat) (z2 : Nat → Int) (w : World) (hZ1 : IntsIn w a1 l1 z1) (hZ2 : IntsIn w a2 l2 z2) :
    Calls Try.prog 6 #[.int .i64 nn, .slice a1 l1 c1, .bool high, .slice a2 l2 c2] w fun e w' => e = .returned (.bool true) ∧ Below w.heap.size w w' :=
  callsIn_wide.1 (lawBack_in 3 (Nat.le_refl _) nn a1 l1 c1 z1 high a2 l2 c2 z2 w hZ1 hZ2)
end Go.Proofs.Ytilcdnkjfbkpnaa
