/-
  The walk of BuddyPlays: it returns true, and below the old heap nothing has turned.
-/
import Derived.Test.YtilcdnkjfbkpnaaBuPlay
import Derived.Deep.DeepCutAuto
import Derived.Deep.CutBlock
namespace Go.Proofs.Ytilcdnkjfbkpnaa
open Go.RowKit Go

theorem sizeOp : (Try.prog.info? 32).map (·.size) = some 4 := by kernel_rfl
theorem store_op (w : World) (Z : Array Value) (hz : Z.size = 4) (kind at1 order : Int) (high : Bool) :
    (storeVar 32 ⟨w.heap.size, 0, none⟩ (.agg #[.int .i64 kind, .int .i64 at1, .int .i64 order, .bool high])).run Try.prog (w.alloc (.cells Z 32)) = .ok () (w.alloc (.cells #[.int .i64 kind, .int .i64 at1, .int .i64 order, .bool high] 32)) :=
  run_storeVar_new (P := Try.prog) w 32 Z _ sizeOp hz (by simp [Value.oneCell'])
theorem op_row (w : World) (kind at1 order : Int) (high : Bool) : RowAt (w.alloc (.cells #[.int .i64 kind, .int .i64 at1, .int .i64 order, .bool high] 32)) w.heap.size 4 (opV ⟨kind, at1, order, high⟩) :=
  RowAt.new w _ _ 4 _ fun i hi => by
    rcases (show i = 0 ∨ i = 1 ∨ i = 2 ∨ i = 3 by omega) with rfl | rfl | rfl | rfl <;> rfl
theorem op_four {W : World} {ob : Nat} {o : Op6} (R : RowAt W ob 4 (opV o)) : W.cell? ⟨ob, 0, none⟩ = some (.int .i64 o.kind) ∧ W.cell? ⟨ob, 1, none⟩ = some (.int .i64 o.at1) ∧ W.cell? ⟨ob, 2, none⟩ = some (.int .i64 o.order) ∧ W.cell? ⟨ob, 3, none⟩ = some (.bool o.high) :=
  ⟨R.cell 0 (by decide), R.cell 1 (by decide), R.cell 2 (by decide), R.cell 3 (by decide)⟩
set_option maxRecDepth 100000 in
set_option maxHeartbeats 8000000 in
theorem lawPlays_any (nn : Int) (a : Option Addr) (len cap : Nat) (O : Nat → Op6) (w : World) (hO : OpsAt w a len O) :
    Calls Try.prog 3 #[.int .i64 nn, .slice a len cap] w fun e w' => e = .returned (.bool true) ∧ Below w.heap.size w w' := by
  have HO := Lib.hid hO
  clear hO
  by_cases hv : 1 ≤ nn ∧ nn ≤ 128
  · obtain ⟨n, rfl⟩ : ∃ n : Nat, nn = n := ⟨nn.toNat, by omega⟩
    have hn1 : 1 ≤ n := by omega
    have hn2 : n ≤ 128 := by omega
    have hv1 : ¬ (n : Int) < 1 := by omega
    have hv2 : ¬ 128 < (n : Int) := by omega
    clear hv
    by_cases hlen : len ≤ 200
    · have hlen2 : ¬ (200 < (len : Int)) := by omega
      go_enter Try.func3, Try.ntmps3
      go_wp2_with (fail)
      refine (new6_any hn1 hn2 w).mono ?_
      intro e w1 hN
      obtain ⟨d, mb, tb, rfl, hS⟩ := StAt.new hn1 hn2 hN
      have HS1 := Lib.hid hS
      clear hS hN
      go_wp2_with (fail)
      refine (bnew_any n hn1 hn2 w1).mono ?_
      rintro e w2 ⟨r, v, u, rfl, hR, hr1, hb⟩
      have HP2 := Lib.hid (show PyAt w.heap.size d n mb tb r (newL n) [] (newL n) [] v u w w2 from ⟨HS1.out.later hb, hR, Nat.le_trans HS1.out.le hr1⟩)
      clear hR hr1 hb HS1
      go_wp2_with (fail)
      refine (same_any HP2.out.st.node HP2.out.st.inv HP2.out.ref).mono ?_
      rintro e w3 ⟨rfl, hb⟩
      have HP3 := Lib.hid (HP2.out.later hb)
      clear hb HP2
      go_wp2_with (fail)
      go_loopw [5, 61] (fun t i wr => ∃ (k d : Nat) (mb : Nat → Nat) (tb : Nat) (L T : List (Int × Int)) (v u : Value), k ≤ len ∧ t = .pointer (some ⟨d, 0, none⟩) ∧ i = .int .i64 k ∧ T.length ≤ k ∧ PyAt w.heap.size d n mb tb r L T L T v u w wr) (fun _ i _ => len - (intOf i).toNat)
      case atStart => exact ⟨0, d, mb, tb, _, [], v, u, Nat.zero_le _, rfl, rfl, Nat.le_refl _, HP3.out⟩
      case round =>
        clear HP3
        obtain ⟨k, d, mb, tb, L, T, v, u, hk, rfl, rfl, hTl, hP⟩ := hrel
        have HP := Lib.hid hP
        clear hP
        by_cases hlt : k < len
        · obtain ⟨b, o, rfl, hbl, hok, hc⟩ := HO.out.one k hlt
          obtain ⟨c0, c1, c2, c3⟩ := hc wr HP.out.st.bel
          unfold Op6.ok at hok
          have HOK := Lib.hid hok
          have hltI : (k : Int) < (len : Int) := by omega
          clear hc hbl hok
          generalize (O k).kind = kind at c0
          generalize (O k).at1 = at1 at c1 HOK
          generalize (O k).order = order at c2
          generalize (O k).high = high at c3
          have HST := Lib.hid (store_op wr #[.int .i64 0, .int .i64 0, .int .i64 0, .bool false] rfl kind at1 order high)
          have hba : Below wr.heap.size wr (wr.alloc (.cells #[.int .i64 kind, .int .i64 at1, .int .i64 order, .bool high] 32)) := (Below.refl _ _).alloc (Nat.le_refl _) _
          have HR := Lib.hid (op_row wr kind at1 order high)
          have HP1 := Lib.hid (HP.out.later hba)
          have hrob := HP.out.ref.lt
          have hdob := HP.out.st.node.lt
          have HOW := Lib.hid (fun j (hj : own6 mb tb j) => HP.out.st.node.own_lt hj)
          clear hba HP
          go_upto_block 2 with (refine wpList_store_run rfl 32 _ _ rfl wr.heap.size _ _ rfl rfl HST.out ?_)
          clear c0 c1 c2 c3 HST HO
          generalize wr.heap.size = ob at HR hrob hdob HOW ⊢
          generalize wr.alloc (.cells #[.int .i64 kind, .int .i64 at1, .int .i64 order, .bool high] 32) = W at HR HP1 ⊢
          go_cut [5, 10] (fun t q wc => ∃ (d : Nat) (mb : Nat → Nat) (tb : Nat) (L T : List (Int × Int)) (v u : Value), t = .pointer (some ⟨d, 0, none⟩) ∧ q = .bool true ∧ T.length ≤ k + 1 ∧ PyAt w.heap.size d n mb tb r L T L T v u w wc)
          case first =>
            obtain ⟨c0, c1, c2, c3⟩ := op_four HR.out
            dsimp only at c0 c1 c2 c3
            by_cases hk1 : kind = 1
            · subst hk1
              go_wp2_with (fail)
              refine (take6_any HP1.out.st.node HP1.out.st.inv order high).mono ?_
              rintro e w3 ⟨rfl, hN, ho⟩
              have HR3 := Lib.hid (HP1.out.rowN HR.out ho)
              have HP3 := Lib.hid (HP1.out.turn hN (HP1.out.st.inv.take order high) ho)
              have HLE := Lib.hid (takeS_len HP1.out.st.inv order high)
              have hL := HP1.out.st.inv.len
              have hG := HP1.out.st.inv.good
              clear hN ho c0 c1 c2 c3 HP1 HR
              obtain ⟨c0, c1, c2, c3⟩ := op_four HR3.out
              dsimp only at c0 c1 c2 c3
              go_wp2_with (fail)
              refine (take_any HP3.out.ref (by omega) (by omega) hG order high).mono ?_
              rintro e w4 ⟨rfl, v', u', hR, ho⟩
              have HP4 := Lib.hid (HP3.out.turnR hR ho)
              clear hR ho c0 c1 c2 c3 HP3 HR3 hG
              generalize takeS L T order high = q at *
              obtain ⟨q1, q2, q3, q4⟩ := q
              dsimp only at HP4 HLE
              have hle := HLE.out
              go_wp2_with (fail)
              go_meet
              exact ⟨d, mb, tb, q3, q4, v', u', rfl, rfl, by omega, HP4.out⟩
            · by_cases hk2 : kind = 2
              · subst hk2
                have L1 := Lib.hid (show ∀ V, RowAt V ob 4 (opV ⟨2, at1, order, high⟩) → (loadVar 3 ⟨ob, 1, none⟩).run Try.prog V = .ok (.int .i64 at1) V from fun V hV => run_loadVar_cell (fun _ => by kernel_rfl) (op_four hV).2.1)
                have L2 := Lib.hid (show ∀ V, RowAt V ob 4 (opV ⟨2, at1, order, high⟩) → (loadVar 3 ⟨ob, 2, none⟩).run Try.prog V = .ok (.int .i64 order) V from fun V hV => run_loadVar_cell (fun _ => by kernel_rfl) (op_four hV).2.2.1)
                go_wp2_with (fail)
                refine wp_region_lex1 (fun V => RowAt V ob 4 (opV ⟨2, at1, order, high⟩)) [(0, false), (1, false), (2, false), (3, false), (4, false), (6, false), (7, false), (8, false), (9, false), (10, false), (5, true), (11, true), (12, false), (13, false)]
                  (by kernel_rfl) (by kernel_rfl) rfl (by kernel_rfl) (HR.out.later (Below.refl _ W).drew) ?_
                intro W0 hW0 _
                have HP0 := Lib.hid (show PyAt w.heap.size d n mb tb r L T L T v u w W0 by rw [hW0]; exact HP1.out.later (Below.refl _ W).drew)
                have HR0 := Lib.hid (show RowAt W0 ob 4 (opV ⟨2, at1, order, high⟩) by rw [hW0]; exact HR.out.later (Below.refl _ W).drew)
                clear hW0 HP1 HR c0 c1 c2 c3
                refine lexH_yieldE rfl rfl ?_
                apply Exists.intro
                refine ⟨fun W hW => ?_, ?_⟩
                focus (go_simp; exact rfl)
                simp only [List.getElem_toArray, List.getElem_cons_zero, Act.put, List.setIfInBounds_toArray, List.set_cons_zero, List.set_cons_succ]
                refine lexH_yieldE rfl rfl ?_
                apply Exists.intro
                refine ⟨fun W hW => ?_, ?_⟩
                focus (go_simp; exact rfl)
                simp only [List.getElem_toArray, List.getElem_cons_succ, List.getElem_cons_zero, Act.put, List.setIfInBounds_toArray, List.set_cons_zero, List.set_cons_succ]
                refine lexH_load rfl rfl _ _ rfl rfl L1.out ?_
                simp only [List.getElem_toArray, List.getElem_cons_succ, List.getElem_cons_zero, Act.put, List.setIfInBounds_toArray, List.set_cons_zero, List.set_cons_succ]
                refine lexH_yieldE rfl rfl ?_
                apply Exists.intro
                refine ⟨fun W hW => ?_, ?_⟩
                focus (go_simp; exact rfl)
                simp only [List.getElem_toArray, List.getElem_cons_succ, List.getElem_cons_zero, Act.put, List.setIfInBounds_toArray, List.set_cons_zero, List.set_cons_succ]
                refine lexH_load rfl rfl _ _ rfl rfl L2.out ?_
                simp only [List.getElem_toArray, List.getElem_cons_succ, List.getElem_cons_zero, Act.put, List.setIfInBounds_toArray, List.set_cons_zero, List.set_cons_succ]
                refine lexH_yieldE rfl rfl ?_
                apply Exists.intro
                refine ⟨fun W hW => ?_, ?_⟩
                focus (go_simp; exact rfl)
                simp only [List.getElem_toArray, List.getElem_cons_succ, List.getElem_cons_zero, Act.put, List.setIfInBounds_toArray, List.set_cons_zero, List.set_cons_succ]
                refine lexH_yieldE rfl rfl ?_
                apply Exists.intro
                refine ⟨fun W hW => ?_, ?_⟩
                focus (go_simp; exact rfl)
                simp only [List.getElem_toArray, List.getElem_cons_succ, List.getElem_cons_zero, Act.put, List.setIfInBounds_toArray, List.set_cons_zero, List.set_cons_succ]
                refine lexH_load rfl rfl _ _ rfl rfl L1.out ?_
                simp only [List.getElem_toArray, List.getElem_cons_succ, List.getElem_cons_zero, Act.put, List.setIfInBounds_toArray, List.set_cons_zero, List.set_cons_succ]
                refine lexH_yieldE rfl rfl ?_
                apply Exists.intro
                refine ⟨fun W hW => ?_, ?_⟩
                focus (go_simp; exact rfl)
                simp only [List.getElem_toArray, List.getElem_cons_succ, List.getElem_cons_zero, Act.put, List.setIfInBounds_toArray, List.set_cons_zero, List.set_cons_succ]
                refine lexH_load rfl rfl _ _ rfl rfl L2.out ?_
                simp only [List.getElem_toArray, List.getElem_cons_succ, List.getElem_cons_zero, Act.put, List.setIfInBounds_toArray, List.set_cons_zero, List.set_cons_succ]
                refine lexH_call 15 #[.pointer (some ⟨d, 0, none⟩), .int .i64 at1, .int .i64 order] rfl rfl ?_ ?_
                focus (go_simp; done)
                refine (give6_any HP0.out.st.node HP0.out.st.inv at1 order HOK.out).mono ?_
                rintro e w3 ⟨rfl, hN, ho⟩
                have HR3 := Lib.hid (HP0.out.rowN HR0.out ho)
                have HP3 := Lib.hid (HP0.out.turn hN (HP0.out.st.inv.giveAny at1 order) ho)
                have hL := HP0.out.st.inv.len
                have hG := HP0.out.st.inv.goodT
                refine ⟨_, rfl, HR3.out, ?_⟩
                clear hN ho HP0 HR0
                simp only [List.getElem_toArray, List.getElem_cons_succ, List.getElem_cons_zero, Act.put, List.setIfInBounds_toArray, List.set_cons_zero, List.set_cons_succ]
                refine lexH_call 16 #[.pointer (some ⟨r, 0, none⟩), .int .i64 at1, .int .i64 order] rfl rfl ?_ ?_
                focus (go_simp; done)
                refine (give_any HP3.out.ref (by omega) (by omega) hG at1 order).mono ?_
                rintro e w4 ⟨rfl, v', u', hR, ho⟩
                have HP4 := Lib.hid (HP3.out.turnR hR ho)
                refine ⟨_, rfl, HR3.out.only ho (by omega), ?_⟩
                have hle := giveS_len L T at1 order
                clear hR ho HP3 HR3 L1 L2 hG
                generalize giveS L T at1 order = q at *
                obtain ⟨q1, q3, q4⟩ := q
                dsimp only at HP4 hle
                simp only [List.getElem_toArray, List.getElem_cons_succ, List.getElem_cons_zero, Act.put, List.setIfInBounds_toArray, List.set_cons_zero, List.set_cons_succ]
                refine lexH_yieldE rfl rfl ?_
                apply Exists.intro
                refine ⟨fun W hW => ?_, ?_⟩
                focus (go_simp; exact rfl)
                simp only [List.getElem_toArray, List.getElem_cons_succ, List.getElem_cons_zero, Act.put, List.setIfInBounds_toArray, List.set_cons_zero, List.set_cons_succ]
                refine lexH_yieldE rfl rfl ?_
                apply Exists.intro
                refine ⟨fun W hW => ?_, ?_⟩
                focus (go_simp; exact rfl)
                simp only [List.getElem_toArray, List.getElem_cons_succ, List.getElem_cons_zero, Act.put, List.setIfInBounds_toArray, List.set_cons_zero, List.set_cons_succ]
                refine lexH_nil ?_
                go_wp2_with (fail)
                go_meet
                exact ⟨d, mb, tb, q3, q4, v', u', rfl, rfl, by omega, HP4.out⟩
              · by_cases hk3 : kind = 3
                · subst hk3
                  obtain ⟨ua, uc, hu, _⟩ := HP1.out.ref.tk
                  subst hu
                  have hc2 := HP1.out.ref.c2
                  go_wp2_with (fail)
                  refine (taken6_any HP1.out.st.node at1 HOK.out).mono ?_
                  rintro e w' ⟨rfl, rfl⟩
                  go_wp2_with (fail)
                  clear c0 c1 c2 c3 hc2
                  go_loopw [127, 17, 18] (fun i p q wr => ∃ (j : Nat) (pv : Int) (hb : Bool), i = .int .i64 j ∧ p = .int .i64 pv ∧ q = .bool hb ∧ j ≤ T.length ∧ Hid ((hb = false ∧ pv = 0 ∧ ∀ o, (at1, o) ∉ T.take j) ∨ (hb = true ∧ (at1, pv) ∈ T)) ∧ Hid (Below W.heap.size W wr)) (fun i _ _ _ => T.length - (intOf i).toNat)
                  case atStart => exact ⟨0, 0, false, rfl, rfl, rfl, Nat.zero_le _, .inl ⟨rfl, rfl, fun o h => absurd h (by simp)⟩, Below.refl _ _⟩
                  case round =>
                    obtain ⟨j, pv, hb, rfl, rfl, rfl, hj, HV, HB⟩ := hrel
                    by_cases hlj : j < T.length
                    · have hljI : (j : Int) < (T.length : Int) := by omega
                      have hP := HP1.out.later HB.out
                      have hR := HR.out.later HB.out
                      obtain ⟨g, rfl, g0, g1⟩ := hP.ref.atT j hlj
                      have hc2 := hP.ref.c2
                      have c1 := (op_four hR).2.1
                      dsimp only at c1
                      have HMEM := Lib.hid (List.getElem_mem hlj)
                      have HTK := Lib.hid (take_next hlj)
                      generalize T[j] = p at *
                      obtain ⟨x, y⟩ := p
                      dsimp only at g0 g1
                      have L0 := Lib.hid (show ∀ V, V = wr.drew → (loadVar 38 ⟨r, 2, none⟩).run Try.prog V = .ok (.slice (some ⟨g, 0, none⟩) T.length uc) V from fun V hV => run_loadVar_cell (fun _ => by kernel_rfl) (by rw [hV]; exact hc2))
                      have L1 := Lib.hid (show ∀ V, V = wr.drew → (loadVar 3 ⟨g, j * 2, none⟩).run Try.prog V = .ok (.int .i64 x) V from fun V hV => run_loadVar_cell (fun _ => by kernel_rfl) (by rw [hV]; exact g0))
                      have L2 := Lib.hid (show ∀ V, V = wr.drew → (loadVar 3 ⟨ob, 1, none⟩).run Try.prog V = .ok (.int .i64 at1) V from fun V hV => run_loadVar_cell (fun _ => by kernel_rfl) (by rw [hV]; exact c1))
                      have HBD := Lib.hid (HB.out.trans ((Below.refl W.heap.size wr).drew))
                      have hT200 : T.length ≤ 200 := by omega
                      clear hP hR
                      go_wp2_with (fail)
                      refine wp_region_lex1 (fun V => V = wr.drew) [(0, false), (1, false), (2, false), (3, false), (4, false), (5, false), (6, false), (7, false), (8, false), (9, false), (10, false)]
                        (by kernel_rfl) (by kernel_rfl) rfl (by kernel_rfl) rfl ?_
                      intro V0 hV0 _
                      refine lexH_yieldE rfl rfl ?_
                      apply Exists.intro
                      refine ⟨fun W hW => ?_, ?_⟩
                      focus (go_simp; exact rfl)
                      simp only [List.getElem_toArray, List.getElem_cons_zero, Act.put, List.setIfInBounds_toArray, List.set_cons_zero, List.set_cons_succ]
                      refine lexH_yieldE rfl rfl ?_
                      apply Exists.intro
                      refine ⟨fun W hW => ?_, ?_⟩
                      focus (go_simp; exact rfl)
                      simp only [List.getElem_toArray, List.getElem_cons_succ, List.getElem_cons_zero, Act.put, List.setIfInBounds_toArray, List.set_cons_zero, List.set_cons_succ]
                      refine lexH_yieldE rfl rfl ?_
                      apply Exists.intro
                      refine ⟨fun W hW => ?_, ?_⟩
                      focus (go_simp; exact rfl)
                      simp only [List.getElem_toArray, List.getElem_cons_succ, List.getElem_cons_zero, Act.put, List.setIfInBounds_toArray, List.set_cons_zero, List.set_cons_succ]
                      refine lexH_load rfl rfl _ _ rfl rfl L0.out ?_
                      simp only [List.getElem_toArray, List.getElem_cons_succ, List.getElem_cons_zero, Act.put, List.setIfInBounds_toArray, List.set_cons_zero, List.set_cons_succ]
                      refine lexH_yieldE rfl rfl ?_
                      apply Exists.intro
                      refine ⟨fun W hW => ?_, ?_⟩
                      focus (go_simp; exact rfl)
                      simp only [List.getElem_toArray, List.getElem_cons_succ, List.getElem_cons_zero, Act.put, List.setIfInBounds_toArray, List.set_cons_zero, List.set_cons_succ]
                      refine lexH_yieldE rfl rfl ?_
                      apply Exists.intro
                      refine ⟨fun W hW => ?_, ?_⟩
                      focus (go_simp; exact rfl)
                      simp only [List.getElem_toArray, List.getElem_cons_succ, List.getElem_cons_zero, Act.put, List.setIfInBounds_toArray, List.set_cons_zero, List.set_cons_succ]
                      refine lexH_yieldE rfl rfl ?_
                      apply Exists.intro
                      refine ⟨fun W hW => ?_, ?_⟩
                      focus (go_simp; exact rfl)
                      simp only [List.getElem_toArray, List.getElem_cons_succ, List.getElem_cons_zero, Act.put, List.setIfInBounds_toArray, List.set_cons_zero, List.set_cons_succ]
                      refine lexH_load rfl rfl _ _ rfl rfl L1.out ?_
                      simp only [List.getElem_toArray, List.getElem_cons_succ, List.getElem_cons_zero, Act.put, List.setIfInBounds_toArray, List.set_cons_zero, List.set_cons_succ]
                      refine lexH_yieldE rfl rfl ?_
                      apply Exists.intro
                      refine ⟨fun W hW => ?_, ?_⟩
                      focus (go_simp; exact rfl)
                      simp only [List.getElem_toArray, List.getElem_cons_succ, List.getElem_cons_zero, Act.put, List.setIfInBounds_toArray, List.set_cons_zero, List.set_cons_succ]
                      refine lexH_load rfl rfl _ _ rfl rfl L2.out ?_
                      simp only [List.getElem_toArray, List.getElem_cons_succ, List.getElem_cons_zero, Act.put, List.setIfInBounds_toArray, List.set_cons_zero, List.set_cons_succ]
                      refine lexH_yieldE rfl rfl ?_
                      apply Exists.intro
                      refine ⟨fun W hW => ?_, ?_⟩
                      focus (go_simp; exact rfl)
                      simp only [List.getElem_toArray, List.getElem_cons_succ, List.getElem_cons_zero, Act.put, List.setIfInBounds_toArray, List.set_cons_zero, List.set_cons_succ]
                      refine lexH_nil ?_
                      clear hV0 L0 L1 L2 c1 g0
                      by_cases hx : x = at1
                      · subst hx
                        have HV2 := Lib.hid HMEM.out
                        go_wp2_with (fail)
                        go_roundw
                        case rel => exact ⟨j + 1, y, true, by go_num, rfl, rfl, hlj, .inr ⟨rfl, HV2.out⟩, HBD.out⟩
                        case measure => simp [intOf]; omega
                      · have hxB : (x == at1) = false := by simpa using hx
                        have HV2 := Lib.hid (show (hb = false ∧ pv = 0 ∧ ∀ o, (at1, o) ∉ T.take (j + 1)) ∨ (hb = true ∧ (at1, pv) ∈ T) by
                          rcases HV.out with ⟨h1, h2, h3⟩ | h
                          · refine .inl ⟨h1, h2, fun o ho => ?_⟩
                            rw [HTK.out, List.mem_append, List.mem_singleton, Prod.mk.injEq] at ho
                            rcases ho with ho | ⟨ho, _⟩
                            · exact h3 o ho
                            · exact hx ho.symm
                          · exact .inr h)
                        clear hx g1 hc2
                        go_wp2_with (fail)
                        go_roundw
                        case rel => exact ⟨j + 1, pv, hb, by go_num, rfl, rfl, hlj, HV2.out, HBD.out⟩
                        case measure => simp [intOf]; omega
                    · obtain rfl : j = T.length := by omega
                      have HP9 := Lib.hid (HP1.out.later HB.out)
                      have hok : (tkL T at1).getD 0 = pv ∧ (tkL T at1).isSome = hb := by
                        rcases HV.out with ⟨rfl, rfl, h3⟩ | ⟨rfl, h⟩
                        · rw [List.take_length] at h3
                          rw [tkL_none.2 h3]
                          exact ⟨rfl, rfl⟩
                        · rw [HP1.out.st.inv.tk h]
                          exact ⟨rfl, rfl⟩
                      obtain ⟨h1, h2⟩ := hok
                      subst h1
                      subst h2
                      generalize (tkL T at1).getD 0 = q1 at *
                      generalize (tkL T at1).isSome = q2 at *
                      go_wp2_with (fail)
                      go_meet
                      exact ⟨d, mb, tb, L, T, v, _, rfl, rfl, by omega, HP9.out⟩
                · by_cases hk4 : kind = 4
                  · subst hk4
                    go_wp2_with (fail)
                    refine (copy6_any HP1.out.st.node hn1).mono ?_
                    rintro e w3 ⟨d2, mb2, tb2, rfl, hN2, hd2, ho2, hb⟩
                    have hI := HP1.out.st.inv
                    have hlB := HP1.out.st.le
                    have HR3 := Lib.hid (HR.out.later hb)
                    have HP3 := Lib.hid (HP1.out.later hb)
                    have hWl : ∀ k, own6 mb tb k → k < W.heap.size := fun k hk => HP1.out.st.node.own_lt hk
                    have HI := Lib.hid hI
                    have HN2 := Lib.hid hN2
                    have HD2 := Lib.hid (show (∀ k, own6 mb tb k → k < W.heap.size) ∧ w.heap.size ≤ W.heap.size ∧ W.heap.size ≤ d2 ∧ ∀ k, own6 mb2 tb2 k → W.heap.size ≤ k from ⟨hWl, hlB, hd2, ho2⟩)
                    clear hI hlB hWl hN2 hd2 ho2 hb c0 c1 c2 c3 HP1 HR
                    obtain ⟨c0, c1, c2, c3⟩ := op_four HR3.out
                    dsimp only at c0 c1 c2 c3
                    go_wp2_with (fail)
                    refine (take6_any HP3.out.st.node HP3.out.st.inv 0 high).mono ?_
                    rintro e w4 ⟨rfl, hN, ho⟩
                    have HR4 := Lib.hid (HP3.out.rowN HR3.out ho)
                    have HP4 := Lib.hid (HP3.out.turn hN (HP3.out.st.inv.take 0 high) ho)
                    have HN4 := Lib.hid (HN2.out.only ho (fun h => by have h1 := HD2.out.1 _ h; have h2 := HD2.out.2.2.1; omega) (fun j hj h => by have h1 := HD2.out.1 _ h; have h2 := HD2.out.2.2.2 j hj; omega))
                    clear hN ho c0 c1 c2 c3 HP3 HR3 HN2
                    obtain ⟨c0, c1, c2, c3⟩ := op_four HR4.out
                    dsimp only at c0 c1 c2 c3
                    go_wp2_with (fail)
                    refine (give6_any HP4.out.st.node HP4.out.st.inv at1 order HOK.out).mono ?_
                    rintro e w5 ⟨rfl, hN, ho⟩
                    have hP5 := HP4.out.turn hN (HP4.out.st.inv.giveAny at1 order) ho
                    have hN5 := HN4.out.only ho (fun h => by have h1 := HD2.out.1 _ h; have h2 := HD2.out.2.2.1; omega) (fun j hj h => by have h1 := HD2.out.1 _ h; have h2 := HD2.out.2.2.2 j hj; omega)
                    have HP5 := Lib.hid (hP5.swap hN5 HI.out (by have h1 := HD2.out.2.1; have h2 := HD2.out.2.2.1; omega) (fun j hj => by have h1 := HD2.out.2.1; have h2 := HD2.out.2.2.2 j hj; omega))
                    clear hN ho hP5 hN5 c0 c1 c2 c3 HP4 HR4 HN4
                    go_wp2_with (fail)
                    go_meet
                    exact ⟨d2, mb2, tb2, L, T, v, u, rfl, rfl, by omega, HP5.out⟩
                  · have e1 : (kind == 1) = false := by simpa using hk1
                    have e2 : (kind == 2) = false := by simpa using hk2
                    have e3 : (kind == 3) = false := by simpa using hk3
                    have e4 : (kind == 4) = false := by simpa using hk4
                    clear hk1 hk2 hk3 hk4
                    go_wp2_with (fail)
                    go_meet
                    exact ⟨d, mb, tb, L, T, v, u, rfl, rfl, by omega, HP1.out⟩
          case rest =>
            obtain ⟨d', mb', tb', L', T', v', u', rfl, rfl, hl', hP'⟩ := hcut
            have HP' := Lib.hid hP'
            clear hP' HP1 HR
            go_wp2_with (fail)
            refine (same_any HP'.out.st.node HP'.out.st.inv HP'.out.ref).mono ?_
            rintro e w5 ⟨rfl, hb⟩
            have HP5 := Lib.hid (HP'.out.later hb)
            clear hb HP'
            go_wp2_with (fail)
            go_roundw
            case rel => exact ⟨k + 1, d', mb', tb', L', T', v', u', by omega, rfl, by go_num, hl', HP5.out⟩
            case measure => simp [intOf]; omega
        · obtain rfl : k = len := by omega
          go_wp2_with (fail)
          refine (known_any _).mono ?_
          rintro e w6 ⟨rfl, hb⟩
          have HB6 := Lib.hid (HP.out.st.bel.trans (hb.mono HP.out.st.le))
          clear hb
          go_wp2_with (fail)
          go_ret
          exact ⟨rfl, HB6.out⟩
    · have hlen2 : 200 < (len : Int) := by omega
      go_enter Try.func3, Try.ntmps3
      go_wp2_with (fail)
      refine (new6_any hn1 hn2 w).mono ?_
      intro e w1 hN
      obtain ⟨d, mb, tb, rfl, hS⟩ := StAt.new hn1 hn2 hN
      have HS := Lib.hid hS
      clear hS hN
      go_wp2_with (fail)
      refine (known_any _).mono ?_
      rintro e w2 ⟨rfl, hb⟩
      have HB2 := Lib.hid (HS.out.bel.trans (hb.mono HS.out.le))
      clear hb
      go_wp2_with (fail)
      go_ret
      exact ⟨rfl, HB2.out⟩
  · by_cases hn0 : nn < 1
    · go_enter Try.func3, Try.ntmps3
      go_wp2_with (fail)
      refine (newW hv w).mono ?_
      rintro e w' ⟨rfl, rfl⟩
      go_wp2_with (fail)
      refine (known_any _).mono ?_
      rintro e w2 ⟨rfl, hb⟩
      have HB2 := Lib.hid hb
      clear hb
      go_wp2_with (fail)
      go_ret
      exact ⟨rfl, HB2.out⟩
    · have hn3 : 128 < nn := by omega
      go_enter Try.func3, Try.ntmps3
      go_wp2_with (fail)
      refine (newW hv w).mono ?_
      rintro e w' ⟨rfl, rfl⟩
      go_wp2_with (fail)
      refine (known_any _).mono ?_
      rintro e w2 ⟨rfl, hb⟩
      have HB2 := Lib.hid hb
      clear hb
      go_wp2_with (fail)
      go_ret
      exact ⟨rfl, HB2.out⟩
end Go.Proofs.Ytilcdnkjfbkpnaa
