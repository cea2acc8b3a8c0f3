/-
  The walk of BuddyApart: it returns true, and below the old heap nothing has turned.
-/
import Derived.Test.YtilcdnkjfbkpnaaBuAp
import Derived.Test.YtilcdnkjfbkpnaaBuOps
namespace Go.Proofs.Ytilcdnkjfbkpnaa
open Go.RowKit Go.Shelf Go
attribute [local go_sem] Oper.semAt_some

set_option maxRecDepth 100000 in
set_option maxHeartbeats 8000000 in
theorem lawApart_in (m : Nat) (hm : 3 ≤ m) (nn : Int) (a : Option Addr) (len cap : Nat) (O : Nat → Op6) (w : World) (hO : OpsAt w a len O) :
    CallsIn Fence.wide m Try.prog 5 #[.int .i64 nn, .slice a len cap] w fun e w' => e = .returned (.bool true) ∧ Below w.heap.size w w' := by
  have h1 : 1 ≤ m := by omega
  have hnil := blocks_nil
  have HO := Lib.hid hO
  clear hO
  refine callsIn_of_wp_marks Try.func5 rfl trivial ?_ rfl
  simp only [Try.ntmps5, List.size_toArray, List.length_cons, List.length_nil, Nat.reduceAdd, Nat.reduceSub, Array.replicate_succ, Array.replicate_zero, List.push_toArray, List.append_toArray, List.nil_append, List.cons_append]
  refine wpIn_wide.2 ?_
  by_cases hv : 1 ≤ nn ∧ nn ≤ 128
  · obtain ⟨n, rfl⟩ : ∃ n : Nat, nn = n := ⟨nn.toNat, by omega⟩
    have hn1 : 1 ≤ n := by omega
    have hn2 : n ≤ 128 := by omega
    clear hv
    have hb0 : Below w.heap.size w ((w.alloc (.cells #[.int .i64 n] 3)).alloc (.cells #[.bool false] 4)) := ((Below.refl _ w).alloc (Nat.le_refl _) _).alloc (by simp) _
    have c2 : ((w.alloc (.cells #[.int .i64 n] 3)).alloc (.cells #[.bool false] 4)).cell? ⟨w.heap.size, 0, none⟩ = some (.int .i64 n) := by simp [go_sem]
    have HRC := Lib.hid (show RowAt ((w.alloc (.cells #[.int .i64 n] 3)).alloc (.cells #[.bool false] 4)) (w.heap.size + 1) 1 (fun _ => .bool false) from by
      have h := RowAt.new (w.alloc (.cells #[.int .i64 n] 3)) #[.bool false] 4 1 (fun _ => .bool false) (fun i hi => by
        obtain rfl : i = 0 := by omega
        rfl)
      rw [World.size_alloc] at h
      exact h)
    have hs2 : ((w.alloc (.cells #[.int .i64 n] 3)).alloc (.cells #[.bool false] 4)).heap.size = w.heap.size + 2 := by simp
    have HB0 := Lib.hid hb0
    clear hb0
    by_cases hlen : len ≤ 200
    · have hlen2 : ¬ (200 < (len : Int)) := by omega
      go_wp2_with (fail)
      generalize (w.alloc (.cells #[.int .i64 n] 3)).alloc (.cells #[.bool false] 4) = w2 at *
      refine (new6_any hn1 hn2 w2).mono ?_
      intro e w1 hN
      obtain ⟨d, mb, tb, rfl, hS⟩ := StAt.new hn1 hn2 hN
      have HS1 := Lib.hid hS
      have c2' : w1.cell? ⟨w.heap.size, 0, none⟩ = some (.int .i64 n) := by rw [hS.bel.cell (p := ⟨w.heap.size, 0, none⟩) (by show w.heap.size < w2.heap.size; omega)]; exact c2
      clear hS hN
      go_wp2_with (fail)
      refine wp_loop_ghost (fun j a' W => ∃ (k : Nat) (L T : List (Int × Int)) (Ds : List Nat), j = len - k ∧ k ≤ len ∧ a'.tmps.size = 135 ∧ a'.tmps[0]? = some (.int .i64 n) ∧ a'.tmps[1]? = some (.slice a len cap) ∧ a'.tmps[2]? = some (.pointer (some ⟨w.heap.size, 0, none⟩)) ∧
        a'.tmps[4]? = some (.pointer (some ⟨w.heap.size + 1, 0, none⟩)) ∧ a'.tmps[5]? = some (.pointer (some ⟨d, 0, none⟩)) ∧ a'.tmps[34]? = some (.int .i64 len) ∧ a'.tmps[35]? = some (.int .i64 k) ∧ a'.defers = colls Ds ∧ ApAt w2 d n mb tb L T Ds W) len
        ⟨0, newL n, [], [], rfl, Nat.zero_le _, rfl, rfl, rfl, rfl, rfl, rfl, rfl, rfl, rfl, HS1.out, List.nodup_nil, fun D hD => absurd hD List.not_mem_nil⟩ ?_
      clear HS1
      rintro j ⟨tm, df⟩ wr ⟨k, L, T, Ds, rfl, hk, s0, t0, t1, t2, t4, t5, t34, t35, rfl, hA⟩
      dsimp only at s0 t0 t1 t2 t4 t5 t34 t35
      obtain ⟨u, rfl⟩ := ap_frame s0 t0 t1 t2 t4 t5 t34 t35
      have HA := Lib.hid hA
      clear s0 t0 t1 t2 t4 t5 t34 t35 hA
      unfold apF
      by_cases hlt : k < len
      · obtain ⟨b, o, rfl, hbl, hok, hc⟩ := HO.out.one k hlt
        obtain ⟨c0, c1, c2, c3⟩ := hc wr (HA.out.bel HB0.out)
        have HC := Lib.hid hc
        clear hc
        generalize (O k).kind = kind at *
        generalize (O k).order = order at *
        generalize (O k).high = high at *
        have hok2 : -9223372036854775808 ≤ (O k).at1 ∧ (O k).at1 ≤ 9223372036854775807 := hok
        generalize (O k).at1 = at1 at *
        clear hok
        have hltI : (k : Int) < (len : Int) := by omega
        have L1 := Lib.hid (show ∀ W, Kept w.heap.size w W → (loadVar 3 ⟨b, o + k * 4 + 1, none⟩).run Try.prog W = .ok (.int .i64 at1) W from
          fun W hW => run_loadVar_cell (fun _ => by kernel_rfl) (HC.out W hW.below).2.1)
        have L2 := Lib.hid (show ∀ W, Kept w.heap.size w W → (loadVar 3 ⟨b, o + k * 4 + 2, none⟩).run Try.prog W = .ok (.int .i64 order) W from
          fun W hW => run_loadVar_cell (fun _ => by kernel_rfl) (HC.out W hW.below).2.2.1)
        have L3 := Lib.hid (show ∀ W, Kept w.heap.size w W → (loadVar 4 ⟨b, o + k * 4 + 3, none⟩).run Try.prog W = .ok (.bool high) W from
          fun W hW => run_loadVar_cell (fun _ => by kernel_rfl) (HC.out W hW.below).2.2.2)
        clear HC c1 c2 c3
        go_upto_block 2 with (fail)
        clear c0
        go_cut [43] from 71 to 133 (fun _ wc => ∃ (L T : List (Int × Int)), ApAt w2 d n mb tb L T Ds wc)
        -- [SCAN
        case first =>
          by_cases hk1 : kind = 1
          · subst hk1
            go_wp2_with (fail)
            refine wp_region_lex1 (Kept w.heap.size w) [(0, false), (1, false), (2, false), (3, false), (4, false), (5, false), (6, false), (7, false), (8, false), (9, false), (10, false), (11, true)]
              (by kernel_rfl) (by kernel_rfl) rfl (by kernel_rfl) ((HA.out.bel HB0.out).trans ((Below.refl _ wr).drew)) ?_
            intro W0 hW0 hK0
            have HA0 := Lib.hid (show ApAt w2 d n mb tb L T Ds W0 by rw [hW0]; exact HA.out.later (Below.refl _ wr).drew)
            clear hW0 hK0 HA
            refine lexH_yieldE rfl rfl ?_
            apply Exists.intro
            refine ⟨fun W hW => ?_, ?_⟩
            focus (go_simp; exact rfl)
            simp only [List.getElem_toArray, List.getElem_cons_zero, Act.put, List.setIfInBounds_toArray, List.set_cons_zero, List.set_cons_succ]
            refine lexH_yieldE rfl rfl ?_
            apply Exists.intro
            refine ⟨fun W hW => ?_, ?_⟩
            focus (go_simp; exact rfl)
            simp only [List.getElem_toArray, List.getElem_cons_succ, List.getElem_cons_zero, Act.put, List.setIfInBounds_toArray, List.set_cons_zero, List.set_cons_succ]
            refine lexH_yieldE rfl rfl ?_
            apply Exists.intro
            refine ⟨fun W hW => ?_, ?_⟩
            focus (go_simp; exact rfl)
            simp only [List.getElem_toArray, List.getElem_cons_succ, List.getElem_cons_zero, Act.put, List.setIfInBounds_toArray, List.set_cons_zero, List.set_cons_succ]
            refine lexH_yieldE rfl rfl ?_
            apply Exists.intro
            refine ⟨fun W hW => ?_, ?_⟩
            focus (go_simp; exact rfl)
            simp only [List.getElem_toArray, List.getElem_cons_succ, List.getElem_cons_zero, Act.put, List.setIfInBounds_toArray, List.set_cons_zero, List.set_cons_succ]
            refine lexH_yieldE rfl rfl ?_
            apply Exists.intro
            refine ⟨fun W hW => ?_, ?_⟩
            focus (go_simp; exact rfl)
            simp only [List.getElem_toArray, List.getElem_cons_succ, List.getElem_cons_zero, Act.put, List.setIfInBounds_toArray, List.set_cons_zero, List.set_cons_succ]
            refine lexH_load rfl rfl _ _ rfl rfl L2.out ?_
            simp only [List.getElem_toArray, List.getElem_cons_succ, List.getElem_cons_zero, Act.put, List.setIfInBounds_toArray, List.set_cons_zero, List.set_cons_succ]
            refine lexH_yieldE rfl rfl ?_
            apply Exists.intro
            refine ⟨fun W hW => ?_, ?_⟩
            focus (go_simp; exact rfl)
            simp only [List.getElem_toArray, List.getElem_cons_succ, List.getElem_cons_zero, Act.put, List.setIfInBounds_toArray, List.set_cons_zero, List.set_cons_succ]
            refine lexH_yieldE rfl rfl ?_
            apply Exists.intro
            refine ⟨fun W hW => ?_, ?_⟩
            focus (go_simp; exact rfl)
            simp only [List.getElem_toArray, List.getElem_cons_succ, List.getElem_cons_zero, Act.put, List.setIfInBounds_toArray, List.set_cons_zero, List.set_cons_succ]
            refine lexH_yieldE rfl rfl ?_
            apply Exists.intro
            refine ⟨fun W hW => ?_, ?_⟩
            focus (go_simp; exact rfl)
            simp only [List.getElem_toArray, List.getElem_cons_succ, List.getElem_cons_zero, Act.put, List.setIfInBounds_toArray, List.set_cons_zero, List.set_cons_succ]
            refine lexH_yieldE rfl rfl ?_
            apply Exists.intro
            refine ⟨fun W hW => ?_, ?_⟩
            focus (go_simp; exact rfl)
            simp only [List.getElem_toArray, List.getElem_cons_succ, List.getElem_cons_zero, Act.put, List.setIfInBounds_toArray, List.set_cons_zero, List.set_cons_succ]
            refine lexH_load rfl rfl _ _ rfl rfl L3.out ?_
            simp only [List.getElem_toArray, List.getElem_cons_succ, List.getElem_cons_zero, Act.put, List.setIfInBounds_toArray, List.set_cons_zero, List.set_cons_succ]
            refine lexH_call 13 #[.pointer (some ⟨d, 0, none⟩), .int .i64 order, .bool high] rfl rfl ?_ ?_
            focus (go_simp; done)
            refine (take6_any HA0.out.st.node HA0.out.st.inv order high).mono ?_
            rintro e w3 ⟨rfl, hN, ho⟩
            have HA3 := Lib.hid (HA0.out.turn hN (HA0.out.st.inv.take order high) ho)
            refine ⟨_, rfl, HA3.out.bel HB0.out, ?_⟩
            clear hN ho HA0
            simp only [List.getElem_toArray, List.getElem_cons_succ, List.getElem_cons_zero, Act.put, List.setIfInBounds_toArray, List.set_cons_zero, List.set_cons_succ]
            refine lexH_nil ?_
            go_wp2_with (fail)
            go_meet
            exact ⟨_, _, HA3.out⟩
          · have e1 : (kind == 1) = false := by simpa using hk1
            clear hk1
            by_cases hk2 : kind = 2
            · subst hk2
              go_wp2_with (fail)
              clear e1
              refine wp_region_lex1 (Kept w.heap.size w) [(0, false), (1, false), (2, false), (3, false), (4, false), (5, false), (6, false), (7, false), (8, false), (9, false), (10, false), (11, true)]
                (by kernel_rfl) (by kernel_rfl) rfl (by kernel_rfl) ((HA.out.bel HB0.out).trans ((Below.refl _ wr).drew)) ?_
              intro W0 hW0 hK0
              have HA0 := Lib.hid (show ApAt w2 d n mb tb L T Ds W0 by rw [hW0]; exact HA.out.later (Below.refl _ wr).drew)
              clear hW0 hK0 HA
              refine lexH_yieldE rfl rfl ?_
              apply Exists.intro
              refine ⟨fun W hW => ?_, ?_⟩
              focus (go_simp; exact rfl)
              simp only [List.getElem_toArray, List.getElem_cons_zero, Act.put, List.setIfInBounds_toArray, List.set_cons_zero, List.set_cons_succ]
              refine lexH_yieldE rfl rfl ?_
              apply Exists.intro
              refine ⟨fun W hW => ?_, ?_⟩
              focus (go_simp; exact rfl)
              simp only [List.getElem_toArray, List.getElem_cons_succ, List.getElem_cons_zero, Act.put, List.setIfInBounds_toArray, List.set_cons_zero, List.set_cons_succ]
              refine lexH_yieldE rfl rfl ?_
              apply Exists.intro
              refine ⟨fun W hW => ?_, ?_⟩
              focus (go_simp; exact rfl)
              simp only [List.getElem_toArray, List.getElem_cons_succ, List.getElem_cons_zero, Act.put, List.setIfInBounds_toArray, List.set_cons_zero, List.set_cons_succ]
              refine lexH_yieldE rfl rfl ?_
              apply Exists.intro
              refine ⟨fun W hW => ?_, ?_⟩
              focus (go_simp; exact rfl)
              simp only [List.getElem_toArray, List.getElem_cons_succ, List.getElem_cons_zero, Act.put, List.setIfInBounds_toArray, List.set_cons_zero, List.set_cons_succ]
              refine lexH_yieldE rfl rfl ?_
              apply Exists.intro
              refine ⟨fun W hW => ?_, ?_⟩
              focus (go_simp; exact rfl)
              simp only [List.getElem_toArray, List.getElem_cons_succ, List.getElem_cons_zero, Act.put, List.setIfInBounds_toArray, List.set_cons_zero, List.set_cons_succ]
              refine lexH_load rfl rfl _ _ rfl rfl L1.out ?_
              simp only [List.getElem_toArray, List.getElem_cons_succ, List.getElem_cons_zero, Act.put, List.setIfInBounds_toArray, List.set_cons_zero, List.set_cons_succ]
              refine lexH_yieldE rfl rfl ?_
              apply Exists.intro
              refine ⟨fun W hW => ?_, ?_⟩
              focus (go_simp; exact rfl)
              simp only [List.getElem_toArray, List.getElem_cons_succ, List.getElem_cons_zero, Act.put, List.setIfInBounds_toArray, List.set_cons_zero, List.set_cons_succ]
              refine lexH_yieldE rfl rfl ?_
              apply Exists.intro
              refine ⟨fun W hW => ?_, ?_⟩
              focus (go_simp; exact rfl)
              simp only [List.getElem_toArray, List.getElem_cons_succ, List.getElem_cons_zero, Act.put, List.setIfInBounds_toArray, List.set_cons_zero, List.set_cons_succ]
              refine lexH_yieldE rfl rfl ?_
              apply Exists.intro
              refine ⟨fun W hW => ?_, ?_⟩
              focus (go_simp; exact rfl)
              simp only [List.getElem_toArray, List.getElem_cons_succ, List.getElem_cons_zero, Act.put, List.setIfInBounds_toArray, List.set_cons_zero, List.set_cons_succ]
              refine lexH_yieldE rfl rfl ?_
              apply Exists.intro
              refine ⟨fun W hW => ?_, ?_⟩
              focus (go_simp; exact rfl)
              simp only [List.getElem_toArray, List.getElem_cons_succ, List.getElem_cons_zero, Act.put, List.setIfInBounds_toArray, List.set_cons_zero, List.set_cons_succ]
              refine lexH_load rfl rfl _ _ rfl rfl L2.out ?_
              simp only [List.getElem_toArray, List.getElem_cons_succ, List.getElem_cons_zero, Act.put, List.setIfInBounds_toArray, List.set_cons_zero, List.set_cons_succ]
              refine lexH_call 15 #[.pointer (some ⟨d, 0, none⟩), .int .i64 at1, .int .i64 order] rfl rfl ?_ ?_
              focus (go_simp; done)
              refine (give6_any HA0.out.st.node HA0.out.st.inv at1 order hok2).mono ?_
              rintro e w3 ⟨rfl, hN, ho⟩
              have HA3 := Lib.hid (HA0.out.turn hN (HA0.out.st.inv.giveAny at1 order) ho)
              refine ⟨_, rfl, HA3.out.bel HB0.out, ?_⟩
              clear hN ho HA0
              simp only [List.getElem_toArray, List.getElem_cons_succ, List.getElem_cons_zero, Act.put, List.setIfInBounds_toArray, List.set_cons_zero, List.set_cons_succ]
              refine lexH_nil ?_
              go_wp2_with (fail)
              go_meet
              exact ⟨_, _, HA3.out⟩
            · have e2 : (kind == 2) = false := by simpa using hk2
              clear hk2
              go_wp2_with (fail)
              go_meet
              exact ⟨L, T, HA.out⟩
        -- SCAN]
        case rest =>
          obtain ⟨L, T, hA2⟩ := hcut
          have HA2 := Lib.hid hA2
          clear hA2 HA L1 L2 L3
          have hmk := make_map
          have cf : ((wc.alloc (.cells Try.zeroCells56 56)).alloc (.cells #[.nilFunc] 57)).cell? ⟨wc.heap.size + 1, 0, none⟩ = some .nilFunc := by simp [go_sem]
          have ff : ((wc.alloc (.cells Try.zeroCells56 56)).alloc (.cells #[.nilFunc] 57)).frozen? ⟨wc.heap.size + 1, 0, none⟩ = false := by simp [go_sem]
          go_wp2_with (fail)
          refine (blocks_any _ _).mono ?_
          rintro e w' ⟨rfl, rfl⟩
          go_wp2_with (fail)
          refine (blocks_any _ _).mono ?_
          rintro e w' ⟨rfl, rfl⟩
          go_wp2_with (fail)
          clear cf ff hmk
          rw [show wc.heap.size + 1 + 1 + 1 + 1 + 1 = wc.heap.size + 5 from rfl, show wc.heap.size + 1 + 1 + 1 + 1 = wc.heap.size + 4 from rfl, show wc.heap.size + 1 + 1 + 1 = wc.heap.size + 3 from rfl, show wc.heap.size + 1 + 1 = wc.heap.size + 2 from rfl]
          obtain ⟨W0, hW0⟩ : ∃ W0, ((((((wc.alloc (.cells Try.zeroCells56 56)).alloc (.cells #[.func (.func 23) #[] #[.pointer (some ⟨w.heap.size, 0, none⟩), .pointer (some ⟨wc.heap.size, 0, none⟩)]] 57)).alloc (.map #[] 0)).alloc (.cells #[.map (some (wc.heap.size + 2))] 58)).alloc (.cells #[.pointer (some ⟨d, 0, none⟩)] 23)).alloc (.cells #[.pointer (some ⟨d, 0, none⟩)] 23)) = W0 := ⟨_, rfl⟩
          have hb0 : Below wc.heap.size wc W0 := by
            rw [← hW0]
            exact ((((((Below.refl _ _).alloc (Nat.le_refl _) _).alloc (by simp) _).alloc (by simp; omega) _).alloc (by simp; omega) _).alloc (by simp; omega) _).alloc (by simp; omega) _
          have hs0 : W0.heap.size = wc.heap.size + 6 := by rw [← hW0]; simp
          have hc5 : W0.cell? ⟨wc.heap.size + 5, 0, none⟩ = some (.pointer (some ⟨d, 0, none⟩)) := by rw [← hW0]; simp [go_sem]
          have HC1 := Lib.hid (show W0.cell? ⟨wc.heap.size + 1, 0, none⟩ = some (.func (.func 23) #[] #[.pointer (some ⟨w.heap.size, 0, none⟩), .pointer (some ⟨wc.heap.size, 0, none⟩)]) by rw [← hW0]; simp [go_sem])
          have HC3 := Lib.hid (show W0.cell? ⟨wc.heap.size + 3, 0, none⟩ = some (.map (some (wc.heap.size + 2))) by rw [← hW0]; simp [go_sem])
          have hsn : SnAt W0 wc.heap.size (wc.heap.size + 2) L [] W0 := by
            refine ⟨Only.refl _ _, ?_, ?_⟩
            · rw [← hW0]
              exact (((((seen_new wc).alloc _).alloc _).alloc _).alloc _).alloc _
            · have hm := kmap_made Try.prog 42 KB EI ((wc.alloc (.cells Try.zeroCells56 56)).alloc (.cells #[.func (.func 23) #[] #[.pointer (some ⟨w.heap.size, 0, none⟩), .pointer (some ⟨wc.heap.size, 0, none⟩)]] 57))
              rw [World.size_alloc, World.size_alloc] at hm
              rw [← hW0]
              exact ((hm.later ((Below.refl _ _).alloc (Nat.le_refl _) _)).later ((Below.refl _ _).alloc (Nat.le_refl _) _)).later ((Below.refl _ _).alloc (Nat.le_refl _) _)
          rw [hW0]
          have HA0 := Lib.hid (HA2.out.later hb0)
          have hdl := HA2.out.st.node.lt
          have hw2l := HA2.out.st.le
          have HOW := Lib.hid (fun k (hk : own6 mb tb k) => HA2.out.st.node.own_lt hk)
          have HDW := Lib.hid (fun D (hD : D ∈ Ds) => HA2.out.lt hD)
          have HNB := Lib.hid (show W0.cell? ⟨w.heap.size, 0, none⟩ = some (.int .i64 n) by
            have h : wc.cell? ⟨w.heap.size, 0, none⟩ = some (.int .i64 n) := by rw [HA2.out.st.bel.cell (p := ⟨w.heap.size, 0, none⟩) (by show w.heap.size < w2.heap.size; omega)]; exact c2
            rw [hb0.cell (p := ⟨w.heap.size, 0, none⟩) (by show w.heap.size < wc.heap.size; omega)]
            exact h)
          clear hW0 hb0 HA2
          generalize wc.heap.size = B at *
          have hseq := blocks_stops (m - 1) (by omega) (B + 5) (fun k => k = B ∨ k = B + 2) HA0.out.st.inv HA0.out.st.node hc5 (by omega) (fun k hk => by have := HOW.out k hk; omega) (by omega) (fun k hk => by omega)
          refine (wpIn_wide (n := m)).1 ?_
          refine range_boxed rfl h1 (gf := 36) (lb := #[.pointer (some ⟨B + 5, 0, none⟩)]) (by simp [go_sem]) trivial (enters_of Try.func36 (by kernel_rfl) rfl) hseq KpC.trans
            (fun W l o o' hl h hc _ => KpC.put l o' hl h hc) (fun x => rfl)
            (SnAt W0 B (B + 2) L) (fun _ _ _ => False) (sn_own (by omega) (by omega)) (fun _ _ _ _ _ h => h.elim) hsn
            11 (fun x zb W' => RowAt W' zb 2 (blkV (L[x.val]'x.isLt).1 (L[x.val]'x.isLt).2) ∧ W0.heap.size ≤ zb) (fun x zb s X Y row R hg hr => ⟨row_grown R.1 hg (fun r e => (hr r e).2), R.2⟩) ?assign ?body ?done (fun _ _ _ _ _ _ h => h.elim)
          case assign =>
            intro l pre x W K hI hK
            have HK := Lib.hid hK
            have HI := Lib.hid hI
            have HR := Lib.hid (block_row W (L[x.val]'x.isLt).1 (L[x.val]'x.isLt).2)
            have HW := Lib.hid ((Below.refl _ W).alloc (Nat.le_refl _) (.cells #[.int .i64 (L[x.val]'x.isLt).1, .int .i64 (L[x.val]'x.isLt).2] 42))
            clear hK hI hseq hsn hnil c2 hc5
            simp only [blk]
            gi_wp2_with (fail)
            have h9 := HK.out W.heap.size _ ((KeepsOthers.alloc W _).from _) (KpC.of_below HW.out) (HI.out.later HW.out) ⟨HR.out, HI.out.only.size⟩
            simpa [blk] using h9
          case body =>
            rintro l pre x zb W hI ⟨hz, hzb⟩ hlen
            obtain ⟨xa, xo, ex, hmem, ho9, ho10, hal, hfit⟩ := HA0.out.st.inv.fr (List.getElem_mem x.isLt)
            rw [ex] at hz
            obtain ⟨p, hp⟩ : ∃ p, 2 ^ xo = p := ⟨_, rfl⟩
            have HP := Lib.hid hp
            have hxa : xa < 128 := by have := Nat.one_le_two_pow (n := xo); omega
            have hbud : bits .xor .i64 (xa : Int) (p : Int) = ((bud xo xa : Nat) : Int) := by rw [← hp]; exact xor_bud hxa ho10
            have hbs := (HA0.out.st.inv.stk.nb xo xa hmem ho9)
            have hbl : bud xo xa < 2000 := by
              unfold bud
              have := (two_pow_small ho10).2
              split <;> omega
            generalize bud xo xa = y at hbud hbs hbl
            have HHO := Lib.hid hI.only
            have HHS := Lib.hid hI.seen
            have HHM := Lib.hid hI.map
            have hlW := hI.only.size
            have HZ := Lib.hid hz
            have hsm : ∀ i, cnt (told L pre) i ≤ 1000 := fun i => by
              have h := cnt_le (told L pre) i
              rw [told_len] at h
              have := HA0.out.st.inv.len
              omega
            have HSM := Lib.hid hsm
            have e1 : W.cell? ⟨B + 1, 0, none⟩ = some (.func (.func 23) #[] #[.pointer (some ⟨w.heap.size, 0, none⟩), .pointer (some ⟨B, 0, none⟩)]) := hI.only.cell (by omega) HC1.out
            have e3 : W.cell? ⟨B + 3, 0, none⟩ = some (.map (some (B + 2))) := hI.only.cell (by omega) HC3.out
            have en : W.cell? ⟨w.heap.size, 0, none⟩ = some (.int .i64 n) := hI.only.cell (by omega) HNB.out
            have HEN := Lib.hid en
            have HE3 := Lib.hid e3
            have S1 := Lib.hid (show ∀ V, Only (fun k => k = B) W V → (loadVar 57 ⟨B + 1, 0, none⟩).run Try.prog V = .ok (.func (.func 23) #[] #[.pointer (some ⟨w.heap.size, 0, none⟩), .pointer (some ⟨B, 0, none⟩)]) V from
              fun V hV => run_loadVar_cell (fun _ => by kernel_rfl) (hV.cell (by omega) e1))
            have S3 := Lib.hid (show ∀ V, Only (fun k => k = B) W V → (loadVar 58 ⟨B + 3, 0, none⟩).run Try.prog V = .ok (.map (some (B + 2))) V from
              fun V hV => run_loadVar_cell (fun _ => by kernel_rfl) (hV.cell (by omega) e3))
            have Sz := Lib.hid (show ∀ V, Only (fun k => k = B) W V → (loadVar 42 ⟨zb, 0, none⟩).run Try.prog V = .ok (.agg #[.int .i64 xa, .int .i64 xo]) V from
              fun V hV => load_block (hV.cell (by omega) (hz.cell 0 (by decide))) (hV.cell (by omega) (hz.cell 1 (by decide))))
            have S0 := Lib.hid (show ∀ V, Only (fun k => k = B) W V → (loadVar 3 ⟨zb, 0, none⟩).run Try.prog V = .ok (.int .i64 xa) V from
              fun V hV => run_loadVar_cell (fun _ => by kernel_rfl) (hV.cell (by omega) (hz.cell 0 (by decide))))
            have So := Lib.hid (show ∀ V, Only (fun k => k = B) W V → (loadVar 3 ⟨zb, 1, none⟩).run Try.prog V = .ok (.int .i64 xo) V from
              fun V hV => run_loadVar_cell (fun _ => by kernel_rfl) (hV.cell (by omega) (hz.cell 1 (by decide))))
            have Sl := Lib.hid (show ∀ V, Only (fun k => k = B) W V → (Instr.lookup 58 (.map (some (B + 2))) (.agg #[.int .i64 y, .int .i64 xo]) false).run Try.prog V = .ok (.int .i64 0) V from fun V hV => by
              have hk := (HHM.out.only hV (by omega)).look Try.underlying58 0 ok0 (zeroInt V) (x := ((y : Int), (xo : Int))) ⟨int_wf (by omega), int_wf (by omega)⟩
              have hn : frM (told L pre) ((y : Int), (xo : Int)) = none := by
                unfold frM
                rw [if_neg (fun h => hbs (told_sub pre _ h))]
              rw [hn] at hk
              exact hk)
            have HIX := Lib.hid hI
            have HEX := Lib.hid ex
            have HBS := Lib.hid hbs
            have HFI := Lib.hid hfit
            have HAL := Lib.hid hal
            simp only [blk, ex]
            clear hseq hsn hnil c2 hc5 hI hz hsm e1 e3 en hp hbs ex hmem hfit hal
            gi_wp2_with (fail)
            go_simp
            refine wpIn_region_lex1 (fun V => Only (fun k => k = B) W V) [(0, false), (1, false), (2, true), (3, false), (4, false), (5, false), (6, false), (7, false), (8, false), (9, false), (10, false), (11, false), (12, false), (13, false), (14, false), (15, false), (16, false), (17, false), (18, false), (19, false), (20, false), (21, false), (22, false)]
              (by kernel_rfl) (by kernel_rfl) (by kernel_rfl) rfl (by kernel_rfl) (Only.of_below (Below.refl _ W).drew) ?_
            intro V0 hV0 hK0
            have HV0 := Lib.hid hK0
            have HS0 := Lib.hid (show RowAt V0 B 128 (seenV (cnt (told L pre))) by rw [hV0]; exact HHS.out.later (Below.refl _ W).drew)
            clear hV0 hK0
            refine lexH_load rfl rfl _ _ rfl rfl S1.out ?_
            simp only [List.getElem_toArray, List.getElem_cons_zero, Act.put, List.setIfInBounds_toArray, List.set_cons_zero, List.set_cons_succ]
            refine lexH_load rfl rfl _ _ rfl rfl Sz.out ?_
            simp only [List.getElem_toArray, List.getElem_cons_succ, List.getElem_cons_zero, Act.put, List.setIfInBounds_toArray, List.set_cons_zero, List.set_cons_succ]
            refine lexH_call 23 #[.agg #[.int .i64 xa, .int .i64 xo], .pointer (some ⟨w.heap.size, 0, none⟩), .pointer (some ⟨B, 0, none⟩)] rfl rfl ?_ ?_
            focus (go_simp; done)
            refine (mark_any ho10 HAL.out HFI.out hn2 (HV0.out.cell (by omega) HEN.out) HS0.out HSM.out).mono ?_
            rintro e V1 ⟨rfl, hR1, ho1⟩
            have HV1 := Lib.hid (HV0.out.trans ho1)
            have HR1 := Lib.hid hR1
            refine ⟨_, rfl, HV1.out, ?_⟩
            clear hR1 ho1 HV0 HS0
            simp only [List.getElem_toArray, List.getElem_cons_succ, List.getElem_cons_zero, Act.put, List.setIfInBounds_toArray, List.set_cons_zero, List.set_cons_succ]
            refine lexH_yieldE rfl rfl ?_
            apply Exists.intro
            refine ⟨fun W hW => ?_, ?_⟩
            focus (go_simp; exact rfl)
            simp only [List.getElem_toArray, List.getElem_cons_succ, List.getElem_cons_zero, Act.put, List.setIfInBounds_toArray, List.set_cons_zero, List.set_cons_succ]
            refine lexH_yieldE rfl rfl ?_
            apply Exists.intro
            refine ⟨fun W hW => ?_, ?_⟩
            focus (go_simp; exact rfl)
            simp only [List.getElem_toArray, List.getElem_cons_succ, List.getElem_cons_zero, Act.put, List.setIfInBounds_toArray, List.set_cons_zero, List.set_cons_succ]
            refine lexH_load rfl rfl _ _ rfl rfl S3.out ?_
            simp only [List.getElem_toArray, List.getElem_cons_succ, List.getElem_cons_zero, Act.put, List.setIfInBounds_toArray, List.set_cons_zero, List.set_cons_succ]
            refine lexH_yieldE rfl rfl ?_
            apply Exists.intro
            refine ⟨fun W hW => ?_, ?_⟩
            focus (go_simp; exact rfl)
            simp only [List.getElem_toArray, List.getElem_cons_succ, List.getElem_cons_zero, Act.put, List.setIfInBounds_toArray, List.set_cons_zero, List.set_cons_succ]
            refine lexH_load rfl rfl _ _ rfl rfl S0.out ?_
            simp only [List.getElem_toArray, List.getElem_cons_succ, List.getElem_cons_zero, Act.put, List.setIfInBounds_toArray, List.set_cons_zero, List.set_cons_succ]
            refine lexH_yieldE rfl rfl ?_
            apply Exists.intro
            refine ⟨fun W hW => ?_, ?_⟩
            focus (go_simp; exact rfl)
            simp only [List.getElem_toArray, List.getElem_cons_succ, List.getElem_cons_zero, Act.put, List.setIfInBounds_toArray, List.set_cons_zero, List.set_cons_succ]
            refine lexH_load rfl rfl _ _ rfl rfl So.out ?_
            simp only [List.getElem_toArray, List.getElem_cons_succ, List.getElem_cons_zero, Act.put, List.setIfInBounds_toArray, List.set_cons_zero, List.set_cons_succ]
            refine lexH_shlM rfl rfl _ _ _ _ rfl .i64 xo p ho10 HP.out rfl rfl ?_
            simp only [List.getElem_toArray, List.getElem_cons_succ, List.getElem_cons_zero, Act.put, List.setIfInBounds_toArray, List.set_cons_zero, List.set_cons_succ]
            refine lexH_yieldE rfl rfl ?_
            apply Exists.intro
            refine ⟨fun W hW => ?_, ?_⟩
            focus (go_simp; exact rfl)
            simp only [List.getElem_toArray, List.getElem_cons_succ, List.getElem_cons_zero, Act.put, List.setIfInBounds_toArray, List.set_cons_zero, List.set_cons_succ]
            refine lexH_yieldE rfl rfl ?_
            apply Exists.intro
            refine ⟨fun W hW => ?_, ?_⟩
            focus (go_simp; exact rfl)
            simp only [List.getElem_toArray, List.getElem_cons_succ, List.getElem_cons_zero, Act.put, List.setIfInBounds_toArray, List.set_cons_zero, List.set_cons_succ]
            refine lexH_load rfl rfl _ _ rfl rfl So.out ?_
            simp only [List.getElem_toArray, List.getElem_cons_succ, List.getElem_cons_zero, Act.put, List.setIfInBounds_toArray, List.set_cons_zero, List.set_cons_succ]
            refine lexH_yieldE rfl rfl ?_
            apply Exists.intro
            refine ⟨fun W hW => ?_, ?_⟩
            focus (go_simp; exact rfl)
            simp only [List.getElem_toArray, List.getElem_cons_succ, List.getElem_cons_zero, Act.put, List.setIfInBounds_toArray, List.set_cons_zero, List.set_cons_succ]
            refine lexH_look rfl rfl _ _ _ rfl _ _ rfl rfl Sl.out ?_
            simp only [List.getElem_toArray, List.getElem_cons_succ, List.getElem_cons_zero, Act.put, List.setIfInBounds_toArray, List.set_cons_zero, List.set_cons_succ]
            refine lexH_yieldE rfl rfl ?_
            apply Exists.intro
            refine ⟨fun W hW => ?_, ?_⟩
            focus (go_simp; exact rfl)
            simp only [List.getElem_toArray, List.getElem_cons_succ, List.getElem_cons_zero, Act.put, List.setIfInBounds_toArray, List.set_cons_zero, List.set_cons_succ]
            refine lexH_yieldE rfl rfl ?_
            apply Exists.intro
            refine ⟨fun W hW => ?_, ?_⟩
            focus (go_simp; exact rfl)
            simp only [List.getElem_toArray, List.getElem_cons_succ, List.getElem_cons_zero, Act.put, List.setIfInBounds_toArray, List.set_cons_zero, List.set_cons_succ]
            refine lexH_skip rfl rfl ?_
            simp only [List.getElem_toArray, List.getElem_cons_succ, List.getElem_cons_zero, Act.put, List.setIfInBounds_toArray, List.set_cons_zero, List.set_cons_succ]
            refine lexH_skip rfl rfl ?_
            simp only [List.getElem_toArray, List.getElem_cons_succ, List.getElem_cons_zero, Act.put, List.setIfInBounds_toArray, List.set_cons_zero, List.set_cons_succ]
            refine lexH_skip rfl rfl ?_
            simp only [List.getElem_toArray, List.getElem_cons_succ, List.getElem_cons_zero, Act.put, List.setIfInBounds_toArray, List.set_cons_zero, List.set_cons_succ]
            refine lexH_yieldE rfl rfl ?_
            apply Exists.intro
            refine ⟨fun W hW => ?_, ?_⟩
            focus (go_simp; exact rfl)
            simp only [List.getElem_toArray, List.getElem_cons_succ, List.getElem_cons_zero, Act.put, List.setIfInBounds_toArray, List.set_cons_zero, List.set_cons_succ]
            refine lexH_yieldE rfl rfl ?_
            apply Exists.intro
            refine ⟨fun W hW => ?_, ?_⟩
            focus (go_simp; exact rfl)
            simp only [List.getElem_toArray, List.getElem_cons_succ, List.getElem_cons_zero, Act.put, List.setIfInBounds_toArray, List.set_cons_zero, List.set_cons_succ]
            refine lexI_nil ?_
            have e3 : V1.cell? ⟨B + 3, 0, none⟩ = some (.map (some (B + 2))) := HV1.out.cell (by omega) HE3.out
            have z0 : V1.cell? ⟨zb, 0, none⟩ = some (.int .i64 xa) := HV1.out.cell (by omega) (HZ.out.cell 0 (by decide))
            have z1 : V1.cell? ⟨zb, 1, none⟩ = some (.int .i64 xo) := HV1.out.cell (by omega) (HZ.out.cell 1 (by decide))
            have HM1 := Lib.hid (HHM.out.only HV1.out (by omega))
            have hpre : pre.length < maxLen := by
              have := HA0.out.st.inv.len
              unfold maxLen
              omega
            clear S0 So S1 S3 Sz Sl hbud
            gi_wp2_with (first | (gi_at_mapUpdate; (refine wpListIn_store_kmap rfl _ _ _ _ rfl 42 3 Try.underlying58 KB EI (B + 2) pre.length (frM (told L pre)) rfl HM1.out ((xa : Int), (xo : Int)) rfl ⟨int_wf (by omega), int_wf (by omega)⟩ hpre 1 rfl (int_wf (by decide)) ?_; intro w' hM2 hO2 _)) | fail)
            have hO : Only (fun k => k = B ∨ k = B + 2) W w' := (HV1.out.mono (fun k h => .inl h)).trans (hO2.mono (fun k h => .inr h))
            have hte : told L (pre ++ [x]) = told L pre ++ [((xa : Int), (xo : Int))] := by rw [told_one, HEX.out]
            refine ⟨keeps_from hO (by omega) (by omega), KpC.of_only hO, HHO.out.trans hO, ?_, ?_⟩
            · rw [hte, ← cnt_mark]
              exact HR1.out.only hO2 (by omega)
            · rw [hte, ← frM_put, List.length_append]
              exact hM2
          case done =>
            rintro D xs W hD hxs hI hK
            have hse := hI.seen
            rw [told_all hxs] at hse
            have hdn : D ∉ Ds := fun h => by have := HDW.out D h; omega
            have hA1 := (HA0.out.only hI.only (by omega) (fun k hk h => by have := HOW.out k hk; omega) (fun E hE h => by have := HDW.out E hE; omega) (fun k hk => by omega)).more hdn hK (by omega)
            have HA1 := Lib.hid hA1
            have HSE := Lib.hid hse
            have e1 : W.cell? ⟨B + 1, 0, none⟩ = some (.func (.func 23) #[] #[.pointer (some ⟨w.heap.size, 0, none⟩), .pointer (some ⟨B, 0, none⟩)]) := hI.only.cell (by omega) HC1.out
            have en : W.cell? ⟨w.heap.size, 0, none⟩ = some (.int .i64 n) := hI.only.cell (by omega) HNB.out
            have HE1 := Lib.hid e1
            have HEN := Lib.hid en
            have hlW := hI.only.size
            have HLL := Lib.hid HA0.out.st.inv.len
            clear hsn hseq hnil c2 hc5 hI hxs hse hA1 e1 hK HA0 HC1 HC3 HNB
            go_wp2_with (fail)
            clear en
            go_loopw [105] (fun i wr => ∃ q : Nat, i = .int .i64 q ∧ q ≤ n ∧ RowAt wr B 128 (seenV (tkS (cnt L) T q)) ∧ Only (fun k => k = B) W wr) (fun i _ => n - (intOf i).toNat)
            case atStart => exact ⟨0, rfl, Nat.zero_le _, HSE.out, Only.refl _ _⟩
            case round =>
              clear HSE
              obtain ⟨q, rfl, hq, hS, hO⟩ := hrel
              have HSE := Lib.hid hS
              have HO1 := Lib.hid hO
              clear hS hO
              by_cases hlq : q < n
              · have hlqI : (q : Int) < (n : Int) := by omega
                have hN := HA1.out.st.node.only HO1.out (by omega) (fun k hk h => by have := HOW.out k hk; omega)
                go_wp2_with (fail)
                refine (taken6_any hN (q : Int) (by omega)).mono ?_
                rintro e w' ⟨rfl, rfl⟩
                have I := HA1.out.st.inv
                have hsm : ∀ i, tkS (cnt L) T q i ≤ 1000 := fun i => by
                  have h1 := tkS_le (cnt L) T i q
                  have h2 := cnt_le L i
                  have := HLL.out
                  omega
                have HSM := Lib.hid hsm
                have e1 : wr.cell? ⟨B + 1, 0, none⟩ = some (.func (.func 23) #[] #[.pointer (some ⟨w.heap.size, 0, none⟩), .pointer (some ⟨B, 0, none⟩)]) := HO1.out.cell (by omega) HE1.out
                clear hsm hN
                cases htk : tkL T (q : Int) with
                | none =>
                  have HS0 := Lib.hid (show RowAt wr B 128 (seenV (tkS (cnt L) T (q + 1))) by rw [tkS_none htk]; exact HSE.out)
                  clear htk I
                  rw [show ((none : Option Int).getD 0) = 0 from rfl, show (none : Option Int).isSome = false from rfl]
                  go_wp2_with (fail)
                  go_roundw
                  case rel => exact ⟨q + 1, by go_num, hlq, HS0.out, HO1.out⟩
                  case measure => simp [intOf]; omega
                | some z =>
                  obtain ⟨o, rfl, _, ho10, hal, hfit⟩ := I.tkAt htk
                  have HTK := Lib.hid htk
                  have HAL := Lib.hid hal
                  have HFI := Lib.hid hfit
                  clear htk hal hfit I
                  rw [show ((some (o : Int)).getD 0) = (o : Int) from rfl, show (some (o : Int)).isSome = true from rfl]
                  go_wp2_with (fail)
                  refine (mark_any ho10 HAL.out HFI.out hn2 (HO1.out.cell (by omega) HEN.out) HSE.out HSM.out).mono ?_
                  rintro e V1 ⟨rfl, hR1, ho1⟩
                  have HV1 := Lib.hid (HO1.out.trans ho1)
                  have HR1 := Lib.hid (show RowAt V1 B 128 (seenV (tkS (cnt L) T (q + 1))) by rw [tkS_some HTK.out]; exact hR1)
                  clear hR1 ho1 e1
                  go_wp2_with (fail)
                  go_roundw
                  case rel => exact ⟨q + 1, by go_num, hlq, HR1.out, HV1.out⟩
                  case measure => simp [intOf]; omega
              · obtain rfl : n = q := by omega
                have en : wr.cell? ⟨w.heap.size, 0, none⟩ = some (.int .i64 n) := HO1.out.cell (by omega) HEN.out
                have HA3 := Lib.hid (HA1.out.only HO1.out (by omega) (fun k hk h => by have := HOW.out k hk; omega) (fun E hE h => by
                  rcases List.mem_cons.1 hE with rfl | hE
                  · omega
                  · have := HDW.out E hE; omega) (fun k hk => by omega))
                clear c2'
                go_wp2_with (fail)
                clear en
                go_loop [125] (fun i => ∃ q : Nat, q ≤ n ∧ i = .int .i64 q) (fun i => n - (intOf i).toNat)
                case atStart => exact ⟨0, Nat.zero_le _, rfl⟩
                case round =>
                  obtain ⟨z, hz, rfl⟩ := hrel
                  by_cases hlz : z < n
                  · have hlzI : (z : Int) < (n : Int) := by omega
                    have hz128 : (z : Int) < 128 := by omega
                    have cz : wr.cell? ⟨B, z, none⟩ = some (.int .i64 1) := by
                      have h := HSE.out.cell z (by omega)
                      unfold seenV at h
                      rw [HA3.out.st.inv.once hlz] at h
                      exact h
                    go_wp2_with (fail)
                    go_round
                    case rel => exact ⟨z + 1, hlz, by go_num⟩
                    case measure => simp [intOf]; omega
                  · obtain rfl : n = z := by omega
                    go_wp2_with (fail)
                    exact ⟨len - (k + 1), by omega, k + 1, rfl, hlt, by omega, L, T, D :: Ds, rfl, HA3.out⟩
      · obtain rfl : k = len := by omega
        go_wp2_with (fail)
        refine (known_any _).mono ?_
        rintro e w3 ⟨rfl, hb⟩
        have HA3 := Lib.hid (HA.out.later hb)
        have HRC3 := Lib.hid (HRC.out.below HA3.out.st.bel (by omega))
        clear hb HA
        have cr : w3.cell? ⟨w.heap.size + 1, 0, none⟩ = some (.bool false) := HRC3.out.cell 0 (by decide)
        have fr : w3.frozen? ⟨w.heap.size + 1, 0, none⟩ = false := HRC3.out.frozen 0
        have HRC4 := Lib.hid (HRC3.out.setCell 0 (.bool true))
        have HB4 := Lib.hid ((HA3.out.bel HB0.out).setCell (p := ⟨w.heap.size + 1, 0, none⟩) (by show w.heap.size ≤ w.heap.size + 1; omega) (.bool true))
        go_wp2_with (fail)
        have hDs : ∀ D ∈ Ds, w.heap.size + 1 ≠ D := fun D hD e => by have := (HA3.out.ds D hD).2; omega
        refine leaves_many Ds _ HA3.out.nd (fun D hD => ?_) (fun W' ho2 hs2 => ⟨.bool true, ?_, rfl, ?_⟩)
        · rw [Below.heap_setCell _ _ _ _ (fun e => hDs D hD e.symm)]
          exact (HA3.out.ds D hD).1
        · have hc := ho2.cell (b := w.heap.size + 1) (o := 0) (v := .bool true) (fun hD => hDs _ hD rfl) (HRC4.out.cell 0 (by decide))
          simp [results, Try.f5, go_sem, hc]
        · exact ho2.below HB4.out HB4.out.size (fun D hD => by have := (HA3.out.ds D hD).2; omega)
    · have hlen2 : 200 < (len : Int) := by omega
      go_wp2_with (fail)
      generalize (w.alloc (.cells #[.int .i64 n] 3)).alloc (.cells #[.bool false] 4) = w2 at *
      refine (new6_any hn1 hn2 _).mono ?_
      intro e w1 hN
      obtain ⟨d, mb, tb, rfl, hS⟩ := StAt.new hn1 hn2 hN
      have HB1 := Lib.hid (HB0.out.trans (hS.bel.mono HB0.out.size))
      have HRC1 := Lib.hid (HRC.out.below hS.bel (by omega))
      clear hS hN HRC HB0 c2
      go_wp2_with (fail)
      refine (known_any _).mono ?_
      rintro e w3 ⟨rfl, hb⟩
      have HB3 := Lib.hid (HB1.out.trans (hb.mono HB1.out.size))
      have HRC3 := Lib.hid (HRC1.out.later hb)
      clear hb HB1 HRC1
      have cr : w3.cell? ⟨w.heap.size + 1, 0, none⟩ = some (.bool false) := HRC3.out.cell 0 (by decide)
      have fr : w3.frozen? ⟨w.heap.size + 1, 0, none⟩ = false := HRC3.out.frozen 0
      have hc := HRC3.out.setCell 0 (.bool true)
      have HB4 := Lib.hid (HB3.out.setCell (p := ⟨w.heap.size + 1, 0, none⟩) (by show w.heap.size ≤ w.heap.size + 1; omega) (.bool true))
      go_wp2_with (fail)
      refine ⟨.bool true, ?_, rfl, HB4.out⟩
      have hc2 := hc.cell 0 (by decide)
      simp only [updV, if_true] at hc2
      simp [results, Try.f5, go_sem, hc2]
  · have hb0 : Below w.heap.size w ((w.alloc (.cells #[.int .i64 nn] 3)).alloc (.cells #[.bool false] 4)) := ((Below.refl _ w).alloc (Nat.le_refl _) _).alloc (by simp) _
    have hr0 := RowAt.new (w.alloc (.cells #[.int .i64 nn] 3)) #[.bool false] 4 1 (fun _ => .bool false) (fun i hi => by
      obtain rfl : i = 0 := by omega
      rfl)
    rw [World.size_alloc] at hr0
    have c2 : ((w.alloc (.cells #[.int .i64 nn] 3)).alloc (.cells #[.bool false] 4)).cell? ⟨w.heap.size, 0, none⟩ = some (.int .i64 nn) := by simp [go_sem]
    have HB0 := Lib.hid hb0
    have HRC := Lib.hid hr0
    clear hb0 hr0
    go_wp2_with (fail)
    generalize (w.alloc (.cells #[.int .i64 nn] 3)).alloc (.cells #[.bool false] 4) = w2 at *
    refine (newW hv _).mono ?_
    rintro e w' ⟨rfl, rfl⟩
    go_wp2_with (fail)
    refine (known_any _).mono ?_
    rintro e w3 ⟨rfl, hb⟩
    have HB3 := Lib.hid (HB0.out.trans (hb.mono HB0.out.size))
    have HRC3 := Lib.hid (HRC.out.later hb)
    clear hb HB0 HRC c2
    have cr : w3.cell? ⟨w.heap.size + 1, 0, none⟩ = some (.bool false) := HRC3.out.cell 0 (by decide)
    have fr : w3.frozen? ⟨w.heap.size + 1, 0, none⟩ = false := HRC3.out.frozen 0
    have hc := HRC3.out.setCell 0 (.bool true)
    have HB4 := Lib.hid (HB3.out.setCell (p := ⟨w.heap.size + 1, 0, none⟩) (by show w.heap.size ≤ w.heap.size + 1; omega) (.bool true))
    go_wp2_with (fail)
    refine ⟨.bool true, ?_, rfl, HB4.out⟩
    have hc2 := hc.cell 0 (by decide)
    simp only [updV, if_true] at hc2
    simp [results, Try.f5, go_sem, hc2]
theorem lawApart_any (nn : Int) (a : Option Addr) (len cap : Nat) (O : Nat → Op6) (w : World) (hO : OpsAt w a len O) :
    Calls Try.prog 5 #[.int .i64 nn, .slice a len cap] w fun e w' => e = .returned (.bool true) ∧ Below w.heap.size w w' :=
  callsIn_wide.1 (lawApart_in 3 (Nat.le_refl _) nn a len cap O w hO)
end Go.Proofs.Ytilcdnkjfbkpnaa
