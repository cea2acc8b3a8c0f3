/-
  The walk of BuddyPowers: it returns true, and below the old heap nothing has turned.
-/
import Derived.Test.YtilcdnkjfbkpnaaBuPw
namespace Go.Proofs.Ytilcdnkjfbkpnaa
open Go.RowKit Go

set_option maxRecDepth 100000 in
set_option maxHeartbeats 8000000 in
theorem lawPowers_any (nn : Int) (a : Option Addr) (len cap : Nat) (z : Nat → Int) (w : World) (hZ : IntsIn w a len z) :
    Calls Try.prog 8 #[.int .i64 nn, .slice a len cap] w fun e w' => e = .returned (.bool true) ∧ Below w.heap.size w w' := by
  have HZ := Lib.hid hZ
  clear hZ
  by_cases hv : 1 ≤ nn ∧ nn ≤ 128
  · obtain ⟨n, rfl⟩ : ∃ n : Nat, nn = n := ⟨nn.toNat, by omega⟩
    have hn1 : 1 ≤ n := by omega
    have hn2 : n ≤ 128 := by omega
    clear hv
    by_cases hlen : len ≤ 100
    · have hlen2 : ¬ (100 < (len : Int)) := by omega
      obtain ⟨i0, hi, hz0, hz1, hz2⟩ := info_parts infoBlock
      go_enter Try.func8, Try.ntmps8
      go_wp2_with (fail)
      refine (new6_any hn1 hn2 w).mono ?_
      intro e w1 hN
      obtain ⟨d, mb, tb, rfl, hS⟩ := StAt.new hn1 hn2 hN
      have ha : Below w1.heap.size w1 (w1.alloc (.cells #[.pointer (some ⟨d, 0, none⟩)] 23)) := (Below.refl _ w1).alloc (Nat.le_refl _) _
      have HP0 := Lib.hid (show PwAt w.heap.size d n mb tb w1.heap.size (newL n) [] [] (.slice none 0 0) w (w1.alloc (.cells #[.pointer (some ⟨d, 0, none⟩)] 23)) from
        ⟨hS.later ha, RowAt.new w1 _ _ 1 _ (fun i hi => by
          obtain rfl : i = 0 := by omega
          rfl), List.nodup_nil, World.ownsRow_nil _ _ _ _, hS.node.lt⟩)
      clear hS hN ha
      go_wp2_with (fail)
      generalize w1.heap.size = bb at *
      generalize w1.alloc (.cells #[.pointer (some ⟨d, 0, none⟩)] 23) = w2 at *
      have hbc := HP0.out.box.cell 0 (by decide)
      go_wp2_with (fail)
      clear hbc
      go_loop [7, 8] (fun s i => ∃ f k acc : Nat, s = .int .i64 acc ∧ i = .int .i64 k ∧ k ≤ 128 ∧ acc + f ≤ 8 ∧ Hid (k < 2 ^ f) ∧ Hid (acc + onesN f k = onesN 8 n)) (fun _ i => (intOf i).toNat)
      case atStart => exact ⟨8, n, 0, rfl, rfl, hn2, by decide, by show n < 256; omega, Nat.zero_add _⟩
      case round =>
        obtain ⟨f, k, acc, rfl, rfl, hk, hacc, HK, HE⟩ := hrel
        by_cases hk0 : 0 < k
        · obtain ⟨f', rfl⟩ : ∃ f', f = f' + 1 := ⟨f - 1, by
            by_cases e : f = 0
            · subst e
              have := HK.out
              simp at this
              omega
            · omega⟩
          obtain ⟨r, hr⟩ : ∃ r, k % 2 = r := ⟨_, rfl⟩
          obtain ⟨q, hq⟩ : ∃ q, k / 2 = q := ⟨_, rfl⟩
          have hm2 : ((k : Int) % 2) = (r : Int) := by omega
          have hq2 : ((k : Int) / 2) = (q : Int) := by omega
          have HK2 := Lib.hid (show q < 2 ^ f' by have := HK.out; rw [Nat.pow_succ] at this; omega)
          have HE2 := Lib.hid (show acc + r + onesN f' q = onesN 8 n by
            have h : acc + (if k = 0 then 0 else k % 2 + onesN f' (k / 2)) = onesN 8 n := HE.out
            rw [if_neg (by omega), hr, hq] at h
            rw [← h]; omega)
          have hr2 : r ≤ 1 := by omega
          have hqk : q < k := by omega
          clear hr hq HK HE
          go_wp2_with (fail)
          go_round
          case rel => exact ⟨f', q, acc + r, by go_num, by go_num, by omega, by omega, HK2, HE2⟩
          case measure => simp [intOf]; omega
        · obtain rfl : k = 0 := by omega
          have HEE := Lib.hid (show acc = onesN 8 n by
            have h := HE.out
            cases f with
            | zero => exact h
            | succ f => simpa [onesN] using h)
          clear HE HK hk hk0
          rw [show ((0 : Nat) : Int) = 0 from rfl]
          go_wp2_with (fail)
          refine (count_any bb HP0.out.st.node HP0.out.st.inv (HP0.out.box.cell 0 (by decide))).mono ?_
          rintro e w3 ⟨rfl, hb⟩
          rw [new_ones n hn2, ← HEE.out]
          have HP3 := Lib.hid (HP0.out.later hb)
          clear hb HP0
          go_wp2_with (fail)
          go_loopw [48, 10] (fun i l wr => ∃ (k : Nat) (L T : List (Int × Int)) (la : Option Addr) (lc : Nat), i = .int .i64 k ∧ l = .slice la T.length lc ∧ k ≤ len ∧ T.length ≤ k ∧ PwAt w.heap.size d n mb tb bb L T T (.slice la T.length lc) w wr) (fun i _ _ => len - (intOf i).toNat)
          case atStart => exact ⟨0, _, [], none, 0, rfl, rfl, Nat.zero_le _, Nat.le_refl _, HP3.out⟩
          case round =>
            clear HP3
            obtain ⟨k, L, T, la, lc, rfl, rfl, hk, hTl, hP⟩ := hrel
            have HP := Lib.hid hP
            clear hP
            by_cases hlt : k < len
            · obtain ⟨b, o, rfl, hbl, hzb, hc⟩ := HZ.out.one k hlt
              have HC := Lib.hid hc
              have hltI : (k : Int) < (len : Int) := by omega
              clear hc
              generalize z k = y at *
              obtain ⟨hg, hhg⟩ : ∃ hg, ((k : Int).tmod 2 == 0) = hg := ⟨_, rfl⟩
              have L0 := Lib.hid (show ∀ W, Kept w.heap.size w W ∧ RowAt W bb 1 (fun _ => .pointer (some ⟨d, 0, none⟩)) → (loadVar 23 ⟨bb, 0, none⟩).run Try.prog W = .ok (.pointer (some ⟨d, 0, none⟩)) W from
                fun W hW => run_loadVar_cell (fun _ => by kernel_rfl) (hW.2.cell 0 (by decide)))
              have L1 := Lib.hid (show ∀ W, Kept w.heap.size w W ∧ RowAt W bb 1 (fun _ => .pointer (some ⟨d, 0, none⟩)) → (loadVar 3 ⟨b, o + k, none⟩).run Try.prog W = .ok (.int .i64 y) W from
                fun W hW => run_loadVar_cell (fun _ => by kernel_rfl) (HC.out W hW.1.below))
              go_wp2_with (fail)
              refine wp_region_lex1 (fun W => Kept w.heap.size w W ∧ RowAt W bb 1 (fun _ => .pointer (some ⟨d, 0, none⟩))) [(0, false), (1, false), (2, false), (3, false), (4, false), (5, false), (6, false), (7, false), (8, true), (9, false), (10, false), (11, false), (12, false), (13, false)]
                (by kernel_rfl) (by kernel_rfl) rfl (by kernel_rfl) ⟨HP.out.st.bel.trans ((Below.refl _ wr).drew), HP.out.box.later (Below.refl _ wr).drew⟩ ?_
              intro W0 hW0 _
              have HP0 := Lib.hid (show PwAt w.heap.size d n mb tb bb L T T (.slice la T.length lc) w W0 by rw [hW0]; exact HP.out.later (Below.refl _ wr).drew)
              clear hW0 HP
              refine lexH_load rfl rfl _ _ rfl rfl L0.out ?_
              simp only [List.getElem_toArray, List.getElem_cons_zero, Act.put, List.setIfInBounds_toArray, List.set_cons_zero, List.set_cons_succ]
              refine lexH_yieldE rfl rfl ?_
              apply Exists.intro
              refine ⟨fun W hW => ?_, ?_⟩
              focus (go_simp; exact rfl)
              simp only [List.getElem_toArray, List.getElem_cons_succ, List.getElem_cons_zero, Act.put, List.setIfInBounds_toArray, List.set_cons_zero, List.set_cons_succ]
              refine lexH_yieldE rfl rfl ?_
              apply Exists.intro
              refine ⟨fun W hW => ?_, ?_⟩
              focus (go_simp; exact rfl)
              simp only [List.getElem_toArray, List.getElem_cons_succ, List.getElem_cons_zero, Act.put, List.setIfInBounds_toArray, List.set_cons_zero, List.set_cons_succ]
              refine lexH_yieldE rfl rfl ?_
              apply Exists.intro
              refine ⟨fun W hW => ?_, ?_⟩
              focus (go_simp; exact rfl)
              simp only [List.getElem_toArray, List.getElem_cons_succ, List.getElem_cons_zero, Act.put, List.setIfInBounds_toArray, List.set_cons_zero, List.set_cons_succ]
              refine lexH_load rfl rfl _ _ rfl rfl L1.out ?_
              simp only [List.getElem_toArray, List.getElem_cons_succ, List.getElem_cons_zero, Act.put, List.setIfInBounds_toArray, List.set_cons_zero, List.set_cons_succ]
              refine lexH_yieldE rfl rfl ?_
              apply Exists.intro
              refine ⟨fun W hW => ?_, ?_⟩
              focus (go_simp; exact rfl)
              simp only [List.getElem_toArray, List.getElem_cons_succ, List.getElem_cons_zero, Act.put, List.setIfInBounds_toArray, List.set_cons_zero, List.set_cons_succ]
              refine lexH_yieldE rfl rfl ?_
              apply Exists.intro
              refine ⟨fun W hW => ?_, ?_⟩
              focus (go_simp; exact rfl)
              simp only [List.getElem_toArray, List.getElem_cons_succ, List.getElem_cons_zero, Act.put, List.setIfInBounds_toArray, List.set_cons_zero, List.set_cons_succ]
              refine lexH_yieldE rfl rfl ?_
              apply Exists.intro
              refine ⟨fun W hW => ?_, ?_⟩
              focus (go_simp; exact rfl)
              simp only [List.getElem_toArray, List.getElem_cons_succ, List.getElem_cons_zero, Act.put, List.setIfInBounds_toArray, List.set_cons_zero, List.set_cons_succ]
              refine lexH_call 13 #[.pointer (some ⟨d, 0, none⟩), .int .i64 y, .bool hg] rfl rfl ?_ ?_
              focus (go_simp; done)
              refine (take6_any HP0.out.st.node HP0.out.st.inv y hg).mono ?_
              rintro e w4 ⟨rfl, hN, ho⟩
              have hI := HP0.out.st.inv.take y hg
              rcases take_cases HP0.out.st.inv y hg with ⟨u, M, e1, hnot, hu⟩ | ⟨q, hq, e1⟩
              · rw [e1] at hN hI ⊢
                have HP4 := Lib.hid (HP0.out.turn hN hI ho (by
                  rw [List.nodup_append]
                  exact ⟨HP0.out.nd, List.nodup_cons.2 ⟨List.not_mem_nil, List.nodup_nil⟩, fun p hp q hq e => by
                    rw [List.mem_singleton] at hq
                    subst e; subst hq
                    exact hnot hp⟩))
                refine ⟨_, rfl, ⟨HP4.out.st.bel, HP4.out.box⟩, ?_⟩
                clear hN hI ho HP0 L0 L1 e1
                simp only [List.getElem_toArray, List.getElem_cons_succ, List.getElem_cons_zero, Act.put, List.setIfInBounds_toArray, List.set_cons_zero, List.set_cons_succ]
                refine lexH_yieldE rfl rfl ?_
                apply Exists.intro
                refine ⟨fun W hW => ?_, ?_⟩
                focus (go_simp; exact rfl)
                simp only [List.getElem_toArray, List.getElem_cons_succ, List.getElem_cons_zero, Act.put, List.setIfInBounds_toArray, List.set_cons_zero, List.set_cons_succ]
                refine lexH_yieldE rfl rfl ?_
                apply Exists.intro
                refine ⟨fun W hW => ?_, ?_⟩
                focus (go_simp; exact rfl)
                simp only [List.getElem_toArray, List.getElem_cons_succ, List.getElem_cons_zero, Act.put, List.setIfInBounds_toArray, List.set_cons_zero, List.set_cons_succ]
                refine lexH_yieldE rfl rfl ?_
                apply Exists.intro
                refine ⟨fun W hW => ?_, ?_⟩
                focus (go_simp; exact rfl)
                simp only [List.getElem_toArray, List.getElem_cons_succ, List.getElem_cons_zero, Act.put, List.setIfInBounds_toArray, List.set_cons_zero, List.set_cons_succ]
                refine lexH_yieldE rfl rfl ?_
                apply Exists.intro
                refine ⟨fun W hW => ?_, ?_⟩
                focus (go_simp; exact rfl)
                simp only [List.getElem_toArray, List.getElem_cons_succ, List.getElem_cons_zero, Act.put, List.setIfInBounds_toArray, List.set_cons_zero, List.set_cons_succ]
                refine lexH_yieldE rfl rfl ?_
                apply Exists.intro
                refine ⟨fun W hW => ?_, ?_⟩
                focus (go_simp; exact rfl)
                simp only [List.getElem_toArray, List.getElem_cons_succ, List.getElem_cons_zero, Act.put, List.setIfInBounds_toArray, List.set_cons_zero, List.set_cons_succ]
                refine lexH_nil ?_
                have cy := HC.out w4 HP4.out.st.bel
                go_wp2_with (at_builtin; refine wpList_append_one w4 rfl _ _ 38 rfl (bb + 1) 42 i0 _ 2 16 Try.underlying38 hi hz0 hz1 hz2 rfl (by decide) _ _ _ #[.int .i64 u, .int .i64 y] HP4.out.lst HP4.out.box.lt rfl rfl rfl (block_one _ _) (by omega) (by decide) ?_)
                intro v' w5 hown ho5 _
                have hP5 := HP4.out.more (x := (u, y)) hown ho5
                obtain ⟨a2, cap2, hv2, _⟩ := owns_slice hP5.lst
                subst hv2
                have HP5 := Lib.hid hP5
                have HT5 := Lib.hid (show (T ++ [(u, y)]).length = T.length + 1 by simp)
                clear hown ho5 hP5 HP4 cy
                rw [HT5.out]
                go_wp2_with (fail)
                go_roundw
                case rel => exact ⟨k + 1, M, T ++ [(u, y)], a2, cap2, by go_num, by rw [HT5.out], hlt, by rw [HT5.out]; omega, HP5.out⟩
                case measure => simp [intOf]; omega
              · rw [e1] at hN hI ⊢
                have HP4 := Lib.hid (HP0.out.turn hN hI ho HP0.out.nd)
                have hq2 : (q == 0) = false := by simpa using hq
                refine ⟨_, rfl, ⟨HP4.out.st.bel, HP4.out.box⟩, ?_⟩
                clear hN hI ho HP0 L0 L1 e1 hq
                simp only [List.getElem_toArray, List.getElem_cons_succ, List.getElem_cons_zero, Act.put, List.setIfInBounds_toArray, List.set_cons_zero, List.set_cons_succ]
                refine lexH_yieldE rfl rfl ?_
                apply Exists.intro
                refine ⟨fun W hW => ?_, ?_⟩
                focus (go_simp; exact rfl)
                simp only [List.getElem_toArray, List.getElem_cons_succ, List.getElem_cons_zero, Act.put, List.setIfInBounds_toArray, List.set_cons_zero, List.set_cons_succ]
                refine lexH_yieldE rfl rfl ?_
                apply Exists.intro
                refine ⟨fun W hW => ?_, ?_⟩
                focus (go_simp; exact rfl)
                simp only [List.getElem_toArray, List.getElem_cons_succ, List.getElem_cons_zero, Act.put, List.setIfInBounds_toArray, List.set_cons_zero, List.set_cons_succ]
                refine lexH_yieldE rfl rfl ?_
                apply Exists.intro
                refine ⟨fun W hW => ?_, ?_⟩
                focus (go_simp; exact rfl)
                simp only [List.getElem_toArray, List.getElem_cons_succ, List.getElem_cons_zero, Act.put, List.setIfInBounds_toArray, List.set_cons_zero, List.set_cons_succ]
                refine lexH_yieldE rfl rfl ?_
                apply Exists.intro
                refine ⟨fun W hW => ?_, ?_⟩
                focus (go_simp; exact rfl)
                simp only [List.getElem_toArray, List.getElem_cons_succ, List.getElem_cons_zero, Act.put, List.setIfInBounds_toArray, List.set_cons_zero, List.set_cons_succ]
                refine lexH_yieldE rfl rfl ?_
                apply Exists.intro
                refine ⟨fun W hW => ?_, ?_⟩
                focus (go_simp; exact rfl)
                simp only [List.getElem_toArray, List.getElem_cons_succ, List.getElem_cons_zero, Act.put, List.setIfInBounds_toArray, List.set_cons_zero, List.set_cons_succ]
                refine lexH_nil ?_
                go_wp2_with (fail)
                go_roundw
                case rel => exact ⟨k + 1, L, T, la, lc, by go_num, rfl, hlt, by omega, HP4.out⟩
                case measure => simp [intOf]; omega
            · obtain rfl : k = len := by omega
              have HND := Lib.hid HP.out.nd
              have HPl := Lib.hid (show PwAt w.heap.size d n mb tb bb L (T.drop 0) T (.slice la T.length lc) w wr from HP.out)
              clear HP
              go_wp2_with (fail)
              go_loopw [77] (fun i wr => ∃ (j : Nat) (L : List (Int × Int)), i = .int .i64 j ∧ j ≤ T.length ∧ PwAt w.heap.size d n mb tb bb L (T.drop j) T (.slice la T.length lc) w wr) (fun i _ => T.length - (intOf i).toNat)
              case atStart => exact ⟨0, L, rfl, Nat.zero_le _, HPl.out⟩
              case round =>
                clear HPl
                obtain ⟨j, L, rfl, hj, hP⟩ := hrel
                have HP := Lib.hid hP
                clear hP
                by_cases hlj : j < T.length
                · obtain ⟨g, rfl, g0, g1⟩ := HP.out.at j hlj
                  obtain ⟨hin, hdr⟩ := drop_nodup HND.out j hlj
                  have HAT := Lib.hid (fun (W : World) (L' T' : List (Int × Int)) (P : PwAt w.heap.size d n mb tb bb L' T' T (.slice (some ⟨g, 0, none⟩) T.length lc) w W) => P.at j hlj)
                  generalize T[j] = x at *
                  obtain ⟨x1, x2⟩ := x
                  dsimp only at g0 g1 HAT
                  have hljI : (j : Int) < (T.length : Int) := by omega
                  obtain ⟨xa, xo, ex⟩ := HP.out.st.inv.natT _ hin
                  rw [Prod.mk.injEq] at ex
                  obtain ⟨rfl, rfl⟩ := ex
                  obtain ⟨J, hxo, hxa, e1⟩ := HP.out.st.inv.give hin
                  rw [hdr] at e1 J
                  have hn2' := hn2
                  have HE1 := Lib.hid e1
                  have HJ := Lib.hid J
                  clear e1 J hin hdr
                  have L0 := Lib.hid (show ∀ W, RowAt W bb 1 (fun _ => .pointer (some ⟨d, 0, none⟩)) ∧ W.cell? ⟨g, j * 2, none⟩ = some (.int .i64 xa) ∧ W.cell? ⟨g, j * 2 + 1, none⟩ = some (.int .i64 xo) → (loadVar 23 ⟨bb, 0, none⟩).run Try.prog W = .ok (.pointer (some ⟨d, 0, none⟩)) W from
                    fun W hW => run_loadVar_cell (fun _ => by kernel_rfl) (hW.1.cell 0 (by decide)))
                  have L1 := Lib.hid (show ∀ W, RowAt W bb 1 (fun _ => .pointer (some ⟨d, 0, none⟩)) ∧ W.cell? ⟨g, j * 2, none⟩ = some (.int .i64 xa) ∧ W.cell? ⟨g, j * 2 + 1, none⟩ = some (.int .i64 xo) → (loadVar 3 ⟨g, j * 2, none⟩).run Try.prog W = .ok (.int .i64 xa) W from
                    fun W hW => run_loadVar_cell (fun _ => by kernel_rfl) hW.2.1)
                  have L2 := Lib.hid (show ∀ W, RowAt W bb 1 (fun _ => .pointer (some ⟨d, 0, none⟩)) ∧ W.cell? ⟨g, j * 2, none⟩ = some (.int .i64 xa) ∧ W.cell? ⟨g, j * 2 + 1, none⟩ = some (.int .i64 xo) → (loadVar 3 ⟨g, j * 2 + 1, none⟩).run Try.prog W = .ok (.int .i64 xo) W from
                    fun W hW => run_loadVar_cell (fun _ => by kernel_rfl) hW.2.2)
                  go_wp2_with (fail)
                  refine wp_region_lex1 (fun W => RowAt W bb 1 (fun _ => .pointer (some ⟨d, 0, none⟩)) ∧ W.cell? ⟨g, j * 2, none⟩ = some (.int .i64 xa) ∧ W.cell? ⟨g, j * 2 + 1, none⟩ = some (.int .i64 xo)) [(0, false), (1, false), (2, false), (3, false), (4, false), (5, false), (6, false), (7, false), (8, false), (9, false), (10, false), (11, true), (12, false)]
                    (by kernel_rfl) (by kernel_rfl) rfl (by kernel_rfl) ⟨HP.out.box.later (Below.refl _ wr).drew, g0, g1⟩ ?_
                  intro W0 hW0 _
                  have HP0 := Lib.hid (show PwAt w.heap.size d n mb tb bb L (T.drop j) T (.slice (some ⟨g, 0, none⟩) T.length lc) w W0 by rw [hW0]; exact HP.out.later (Below.refl _ wr).drew)
                  clear hW0 HP g0 g1
                  refine lexH_load rfl rfl _ _ rfl rfl L0.out ?_
                  simp only [List.getElem_toArray, List.getElem_cons_zero, Act.put, List.setIfInBounds_toArray, List.set_cons_zero, List.set_cons_succ]
                  refine lexH_yieldE rfl rfl ?_
                  apply Exists.intro
                  refine ⟨fun W hW => ?_, ?_⟩
                  focus (go_simp; exact rfl)
                  simp only [List.getElem_toArray, List.getElem_cons_succ, List.getElem_cons_zero, Act.put, List.setIfInBounds_toArray, List.set_cons_zero, List.set_cons_succ]
                  refine lexH_yieldE rfl rfl ?_
                  apply Exists.intro
                  refine ⟨fun W hW => ?_, ?_⟩
                  focus (go_simp; exact rfl)
                  simp only [List.getElem_toArray, List.getElem_cons_succ, List.getElem_cons_zero, Act.put, List.setIfInBounds_toArray, List.set_cons_zero, List.set_cons_succ]
                  refine lexH_yieldE rfl rfl ?_
                  apply Exists.intro
                  refine ⟨fun W hW => ?_, ?_⟩
                  focus (go_simp; exact rfl)
                  simp only [List.getElem_toArray, List.getElem_cons_succ, List.getElem_cons_zero, Act.put, List.setIfInBounds_toArray, List.set_cons_zero, List.set_cons_succ]
                  refine lexH_yieldE rfl rfl ?_
                  apply Exists.intro
                  refine ⟨fun W hW => ?_, ?_⟩
                  focus (go_simp; exact rfl)
                  simp only [List.getElem_toArray, List.getElem_cons_succ, List.getElem_cons_zero, Act.put, List.setIfInBounds_toArray, List.set_cons_zero, List.set_cons_succ]
                  refine lexH_load rfl rfl _ _ rfl rfl L1.out ?_
                  simp only [List.getElem_toArray, List.getElem_cons_succ, List.getElem_cons_zero, Act.put, List.setIfInBounds_toArray, List.set_cons_zero, List.set_cons_succ]
                  refine lexH_yieldE rfl rfl ?_
                  apply Exists.intro
                  refine ⟨fun W hW => ?_, ?_⟩
                  focus (go_simp; exact rfl)
                  simp only [List.getElem_toArray, List.getElem_cons_succ, List.getElem_cons_zero, Act.put, List.setIfInBounds_toArray, List.set_cons_zero, List.set_cons_succ]
                  refine lexH_yieldE rfl rfl ?_
                  apply Exists.intro
                  refine ⟨fun W hW => ?_, ?_⟩
                  focus (go_simp; exact rfl)
                  simp only [List.getElem_toArray, List.getElem_cons_succ, List.getElem_cons_zero, Act.put, List.setIfInBounds_toArray, List.set_cons_zero, List.set_cons_succ]
                  refine lexH_yieldE rfl rfl ?_
                  apply Exists.intro
                  refine ⟨fun W hW => ?_, ?_⟩
                  focus (go_simp; exact rfl)
                  simp only [List.getElem_toArray, List.getElem_cons_succ, List.getElem_cons_zero, Act.put, List.setIfInBounds_toArray, List.set_cons_zero, List.set_cons_succ]
                  refine lexH_yieldE rfl rfl ?_
                  apply Exists.intro
                  refine ⟨fun W hW => ?_, ?_⟩
                  focus (go_simp; exact rfl)
                  simp only [List.getElem_toArray, List.getElem_cons_succ, List.getElem_cons_zero, Act.put, List.setIfInBounds_toArray, List.set_cons_zero, List.set_cons_succ]
                  refine lexH_load rfl rfl _ _ rfl rfl L2.out ?_
                  simp only [List.getElem_toArray, List.getElem_cons_succ, List.getElem_cons_zero, Act.put, List.setIfInBounds_toArray, List.set_cons_zero, List.set_cons_succ]
                  refine lexH_call 15 #[.pointer (some ⟨d, 0, none⟩), .int .i64 xa, .int .i64 xo] rfl rfl ?_ ?_
                  focus (go_simp; done)
                  refine (give6_any HP0.out.st.node HP0.out.st.inv xa xo (by omega)).mono ?_
                  rintro e w4 ⟨rfl, hN, ho⟩
                  rw [HE1.out] at hN ⊢
                  have HP4 := Lib.hid (HP0.out.turn hN HJ.out ho (HND.out.sublist (List.drop_sublist _ _)))
                  obtain ⟨g', eg, c0, c1⟩ := HAT.out _ _ _ HP4.out
                  have eg : g = g' := by injection eg with eg; injection eg
                  subst eg
                  refine ⟨_, rfl, ⟨HP4.out.box, c0, c1⟩, ?_⟩
                  clear hN ho HP0 L0 L1 L2 HE1 HJ c0 c1 HAT
                  simp only [List.getElem_toArray, List.getElem_cons_succ, List.getElem_cons_zero, Act.put, List.setIfInBounds_toArray, List.set_cons_zero, List.set_cons_succ]
                  refine lexH_yieldE rfl rfl ?_
                  apply Exists.intro
                  refine ⟨fun W hW => ?_, ?_⟩
                  focus (go_simp; exact rfl)
                  simp only [List.getElem_toArray, List.getElem_cons_succ, List.getElem_cons_zero, Act.put, List.setIfInBounds_toArray, List.set_cons_zero, List.set_cons_succ]
                  refine lexH_nil ?_
                  go_wp2_with (fail)
                  go_roundw
                  case rel => exact ⟨j + 1, _, by go_num, hlj, HP4.out⟩
                  case measure => simp [intOf]; omega
                · obtain rfl : j = T.length := by omega
                  have hLn : L = newL n := by
                    have hI := HP.out.st.inv
                    rw [List.drop_length] at hI
                    exact hI.unique (inv_new hn1 hn2) (fun o a => Iff.rfl)
                  subst hLn
                  go_wp2_with (fail)
                  refine (count_any bb HP.out.st.node HP.out.st.inv (HP.out.box.cell 0 (by decide))).mono ?_
                  rintro e w5 ⟨rfl, hb⟩
                  rw [new_ones n hn2, ← HEE.out]
                  have HP5 := Lib.hid (HP.out.later hb)
                  clear hb HP
                  go_wp2_with (fail)
                  refine (known_any _).mono ?_
                  rintro e w6 ⟨rfl, hb⟩
                  have HB6 := Lib.hid (HP5.out.st.bel.trans (hb.mono HP5.out.st.le))
                  clear hb
                  go_wp2_with (fail)
                  go_ret
                  exact ⟨rfl, HB6.out⟩
    · have hlen2 : 100 < (len : Int) := by omega
      go_enter Try.func8, Try.ntmps8
      go_wp2_with (fail)
      refine (new6_any hn1 hn2 w).mono ?_
      intro e w1 hN
      obtain ⟨d, mb, tb, rfl, hS⟩ := StAt.new hn1 hn2 hN
      have ha : Below w1.heap.size w1 (w1.alloc (.cells #[.pointer (some ⟨d, 0, none⟩)] 23)) := (Below.refl _ w1).alloc (Nat.le_refl _) _
      have HS := Lib.hid (hS.later ha)
      clear hS hN ha
      go_wp2_with (fail)
      refine (known_any _).mono ?_
      rintro e w2 ⟨rfl, hb⟩
      have HB2 := Lib.hid (HS.out.bel.trans (hb.mono HS.out.le))
      clear hb
      go_wp2_with (fail)
      go_ret
      exact ⟨rfl, HB2.out⟩
  · go_enter Try.func8, Try.ntmps8
    go_wp2_with (fail)
    refine (newW hv w).mono ?_
    rintro e w' ⟨rfl, rfl⟩
    have ha : Below w.heap.size w (w.alloc (.cells #[.pointer none] 23)) := (Below.refl _ w).alloc (Nat.le_refl _) _
    have HA := Lib.hid ha
    clear ha
    go_wp2_with (fail)
    refine (known_any _).mono ?_
    rintro e w2 ⟨rfl, hb⟩
    have HB2 := Lib.hid (HA.out.trans (hb.mono HA.out.size))
    clear hb
    go_wp2_with (fail)
    go_ret
    exact ⟨rfl, HB2.out⟩
end Go.Proofs.Ytilcdnkjfbkpnaa
