/-
  policy, the document's: Order.
-/
import Derived.Test.YtcbdmdalijhkoaaPoRef
import Derived.Test.YtcbdmdalijhkoaaLexH
namespace Go.Proofs.Ytcbdmdalijhkoaa
open Go.RowKit Go
attribute [local go_sem] Oper.semAt_some

theorem rot_mod {p q len : Nat} (h0 : 0 < len) (h8 : len ≤ 8) (hq : q < len) : (wrap64 ((p : Int) % (len : Int) + (q : Int))).tmod (len : Int) = (((p % len + q) % len : Nat) : Int) := by
  have e : (p : Int) % (len : Int) = ((p % len : Nat) : Int) := rfl
  have hr := Nat.mod_lt p h0
  rw [e]
  generalize p % len = r at *
  rw [IntWalk.wrap64_in _ ⟨by omega, by omega⟩, Int.tmod_eq_emod_of_nonneg (by omega)]
  rfl
theorem rotN_at {l : List Nat} {p q : Nat} (hq : q < l.length) : ∃ x, l[(p % l.length + q) % l.length]? = some x ∧ (rotN l p)[q]? = some x := by
  have hm : (p % l.length + q) % l.length < l.length := Nat.mod_lt _ (by omega)
  refine ⟨l[(p % l.length + q) % l.length], List.getElem?_eq_getElem hm, ?_⟩
  unfold rotN
  rw [List.getElem?_map, List.getElem?_range hq]
  simp only [Option.map_some]
  rw [getElem!_pos l _ hm]
/-- A list is told. -/
def LstP (w : World) (L : List Nat) (e : Ending) (w' : World) : Prop := ∃ v, e = .returned v ∧ LstAt w' v L ∧ Below w.heap.size w w'
set_option maxRecDepth 100000 in
set_option maxHeartbeats 8000000 in
theorem rorder_any (A : Array Value) (g : Nat → Int) (k m n loc page : Nat) (hm : m ≤ 255) (w : World) (hA : Cfg A g) (G : Good g) (hn : g 0 = n) (hl : loc < n) (hM : mayP g k m = true) (hpg : page ≤ 9223372036854775807) :
    Calls Try.prog 13 #[.agg A, polV k m, .int .i64 (loc : Int), .int .i64 (page : Int)] w (LstP w (polL g n k m loc page)) := by
  obtain ⟨i0, hi, hz0, hz1, hz2⟩ := info_parts infoIntF
  have hn8 : n ≤ 8 := by have := G.n2; omega
  have HC0 := Lib.hid (cpb_new w hA k m)
  have HA := Lib.hid hA
  have HG := Lib.hid G
  have HN := Lib.hid hn
  have HMM := Lib.hid hM
  obtain ⟨hall, hkb⟩ : (inN m 8).all (fun i => decide ((i : Int) < g 0)) = true ∧ kindB k m = true := by
    unfold mayP at hM
    simp only [Bool.and_eq_true] at hM
    exact hM.2
  have HIN := Lib.hid (inN_all hn hn8 hall)
  have HKB := Lib.hid (kindB_pos hkb)
  have hk3 := HKB.out.1
  clear hA G hn hM hall hkb
  have HP0 := Lib.hid (show PoAt w A g k m (.slice none 0 0) [] 0 0 (.slice none 0 0) (inN m 0) _ from ⟨HC0.out, LstB.nil _ _ _ _ _, World.ownsRow_nil _ _ _ _, fun q hq => (by cases hq), Nat.zero_le _⟩)
  clear HC0
  go_enter Try.func13, Try.ntmps13
  go_wp2_with (fail)
  generalize (w.alloc (.cells A 26)).alloc (.cells #[.int .u8 (k : Int), .int .u8 (m : Int)] 29) = wb at *
  generalize hpb : w.heap.size + 1 = pb at *
  go_loopw [9, 11] (fun v iv wr => ∃ i : Nat, iv = .int .i64 i ∧ i ≤ n ∧ Hid (PoAt w A g k m (.slice none 0 0) [] 0 0 v (inN m i) wr)) (fun _ iv _ => n - (intOf iv).toNat)
  case atStart => exact ⟨0, rfl, Nat.zero_le _, HP0⟩
  case round =>
    clear HP0
    obtain ⟨i, rfl, hi8, HP⟩ := hrel
    have c0 := HP.out.cp.cfg.cell 0 (by decide)
    rw [HN.out] at c0
    have p1 := HP.out.cp.k1
    rw [hpb] at p1
    by_cases hlt : i < n
    · have hltI : (i : Int) < n := by omega
      have HH := Lib.hid (rhas_nat m hm i (by omega) wr)
      cases hh : hasM m i with
      | false =>
        have HP2 := Lib.hid (show PoAt w A g k m (.slice none 0 0) [] 0 0 u9 (inN m (i + 1)) wr from by rw [inN_succ, hh]; exact HP.out)
        rw [hh] at HH
        clear hh
        go_wp2_with (fail)
        refine HH.out.mono ?_
        rintro e w2 ⟨rfl, rfl⟩
        clear c0 p1
        go_wp2_with (fail)
        go_roundw
        case rel => exact ⟨i + 1, by go_num, hlt, HP2⟩
        case measure => simp [intOf]; omega
      | true =>
        have HE := Lib.hid (show inN m (i + 1) = inN m i ++ [i] from by rw [inN_succ, if_pos hh])
        rw [hh] at HH
        clear hh
        have hln := inN_len m i
        go_wp2_with (fail)
        refine HH.out.mono ?_
        rintro e w2 ⟨rfl, rfl⟩
        clear c0 p1
        go_wp2_with (first | (at_builtin; refine wpList_append_whr wr rfl _ _ 31 rfl (w.heap.size + 2) TIn i0 _ 1 8 Try.underlying31 hi hz0 hz1 hz2 rfl (by decide) u9 (inN m i).length ((inN m i).map iV) #[.int .i64 (i : Int)] HP.out.ow HP.out.cp.size rfl rfl rfl (one_cell _ _) (by omega) (by decide) ?_; intro v2 w2 ho2 hon hwh; have HP2 := Lib.hid (HP.out.grow ho2 hon hwh); clear ho2 hon hwh) | fail)
        rw [← HE.out] at HP2
        clear HP hln
        go_wp2_with (fail)
        go_roundw
        case rel => exact ⟨i + 1, by go_num, hlt, HP2⟩
        case measure => simp [intOf]; omega
    · obtain rfl : i = n := by omega
      have p0 := HP.out.cp.k0
      rw [hpb] at p0
      rcases (show k = 0 ∨ k = 1 ∨ k = 2 ∨ k = 3 by omega) with rfl | rfl | rfl | rfl
      · have HPL := Lib.hid (show polL g i 0 m loc page = nearN g loc i from rfl)
        have C0 := HP.out.cp.cfg
        clear p1
        go_wp2_with (refine wpList_load_cfg rfl _ rfl _ rfl C0 ?_)
        refine (refo_near A g loc i _ HA.out HG.out HN.out hl).mono ?_
        rintro e w2 ⟨v2, rfl, hL, hb⟩
        have HR := Lib.hid (show LstP w (polL g i 0 m loc page) (.returned v2) w2 from ⟨v2, rfl, by rw [HPL.out]; exact hL.lst, HP.out.cp.bel.trans (hb.mono HP.out.cp.bel.size)⟩)
        obtain ⟨va, vc, rfl, _⟩ := hL
        clear hb C0 c0 p0
        go_wp2_with (fail)
        go_ret
        exact HR.out
      · obtain ⟨x, hx⟩ : ∃ x, inN m i = [x] := by
          have h1 := HKB.out.2.1 rfl
          rw [← HIN.out] at h1
          exact List.length_eq_one_iff.1 h1
        have hxi : x < i := (mem_inN.1 (show x ∈ inN m i from by rw [hx]; exact List.mem_singleton.2 rfl)).1
        have HPL := Lib.hid (show polL g i 1 m loc page = nearN g x i from by unfold polL; rw [if_neg (by decide), if_pos rfl, hx]; rfl)
        rw [hx] at HP
        obtain ⟨va, vc, hv, hcx⟩ := LstB.of_own HP.out.ow
        obtain ⟨b, o, rfl, _, _, hcx⟩ := hcx 0 x rfl
        subst hv
        have L0 := Lib.hid (show ∀ W, Kept wr.heap.size wr W → (loadVar 26 ⟨w.heap.size, 0, none⟩).run Try.prog W = .ok (.agg A) W from fun W hW => load_cfgP (HP.out.cp.later hW.below).cfg)
        have L1 := Lib.hid (show ∀ W, Kept wr.heap.size wr W → (loadVar 3 ⟨b, o, none⟩).run Try.prog W = .ok (.int .i64 (x : Int)) W from fun W hW => run_loadVar_cell (fun _ => by kernel_rfl) (by rw [hW.cell (World.block_lt_of_cell? _ _ hcx)]; exact hcx))
        clear hx hcx p1
        go_wp2_with (fail)
        refine wp_region_lex (Kept wr.heap.size wr) [(0, false), (1, false), (2, false), (3, false), (4, true), (5, false)] (by kernel_rfl) (by kernel_rfl) rfl (by kernel_rfl) (Below.refl _ wr).drew ?_
        intro W0 hK0
        have HK0 := Lib.hid hK0
        clear hK0
        refine lexH_load rfl rfl _ _ rfl rfl L0.out ?_
        simp only [List.getElem_toArray, List.getElem_cons_zero, Act.put, List.setIfInBounds_toArray, List.set_cons_zero, List.set_cons_succ]
        refine lexH_yieldE rfl rfl ?_
        apply Exists.intro
        refine ⟨fun W hW => ?_, ?_⟩
        focus (go_simp; exact rfl)
        simp only [List.getElem_toArray, List.getElem_cons_succ, List.getElem_cons_zero, Act.put, List.setIfInBounds_toArray, List.set_cons_zero, List.set_cons_succ]
        refine lexH_yieldE rfl rfl ?_
        apply Exists.intro
        refine ⟨fun W hW => ?_, ?_⟩
        focus (go_simp; exact rfl)
        simp only [List.getElem_toArray, List.getElem_cons_succ, List.getElem_cons_zero, Act.put, List.setIfInBounds_toArray, List.set_cons_zero, List.set_cons_succ]
        refine lexH_load rfl rfl _ _ rfl rfl L1.out ?_
        simp only [List.getElem_toArray, List.getElem_cons_succ, List.getElem_cons_zero, Act.put, List.setIfInBounds_toArray, List.set_cons_zero, List.set_cons_succ]
        refine lexH_call 26 #[.agg A, .int .i64 (x : Int)] rfl rfl ?_ ?_
        focus (go_simp; done)
        refine (refo_near A g x i _ HA.out HG.out HN.out hxi).mono ?_
        rintro e w2 ⟨v2, rfl, hL, hb⟩
        have HR := Lib.hid (show LstP w (polL g i 1 m loc page) (.returned v2) w2 from ⟨v2, rfl, by rw [HPL.out]; exact hL.lst, (HP.out.cp.later HK0.out.below).bel.trans (hb.mono (HP.out.cp.later HK0.out.below).bel.size)⟩)
        obtain ⟨va, vc, rfl, _⟩ := hL
        refine ⟨_, rfl, HK0.out.call (Nat.le_refl _) hb, ?_⟩
        clear hb c0 p0 L0 L1
        simp only [List.getElem_toArray, List.getElem_cons_succ, List.getElem_cons_zero, Act.put, List.setIfInBounds_toArray, List.set_cons_zero, List.set_cons_succ]
        refine lexH_yieldE rfl rfl ?_
        apply Exists.intro
        refine ⟨fun W hW => ?_, ?_⟩
        focus (go_simp; exact rfl)
        simp only [List.getElem_toArray, List.getElem_cons_succ, List.getElem_cons_zero, Act.put, List.setIfInBounds_toArray, List.set_cons_zero, List.set_cons_succ]
        refine lexH_nil ?_
        go_wp2_with (fail)
        go_ret
        exact HR.out
-- [KINDS23
      · clear p1
        have HP5 := Lib.hid (show PoAt w A g 2 m u9 (inN m i) (w.heap.size + 2) wr.heap.size (.slice none 0 0) [] wr from HP.out.fresh)
        have C0 := HP5.out.cp.cfg
        go_wp2_with (refine wpList_load_cfg rfl _ rfl _ rfl C0 ?_)
        refine (refo_near A g loc i _ HA.out HG.out HN.out hl).mono ?_
        rintro e w3 ⟨v3, rfl, hL, hb⟩
        obtain ⟨na, nc, hnv⟩ : ∃ na nc, v3 = .slice na i nc := by
          obtain ⟨na, nc, hnv, _⟩ := hL
          rw [nearN_len] at hnv
          exact ⟨na, nc, hnv⟩
        subst hnv
        have hPO := HP5.out.later hb
        obtain ⟨O0, HOE⟩ : ∃ O0, Hid (O0 = ([] : List Nat)) := ⟨_, rfl⟩
        have HP4 := Lib.hid (show PoAt w A g 2 m (.slice na i nc) (nearN g loc i) wr.heap.size w3.heap.size (.slice none 0 0) (O0 ++ ((nearN g loc i).take 0).filter (hasM m)) w3 from by
          rw [List.take_zero, List.filter_nil, List.append_nil, HOE.out]
          exact hPO.turn hL (fun q hq => .inl (HP5.out.ow.lt q hq).2) (Nat.le_refl _))
        have HNN := Lib.hid (nearN_len g loc i)
        have HNM := Lib.hid (fun x (hx : x ∈ (nearN g loc i)) => (mem_nearN (g := g) (k := loc) hn8).1 hx)
        have HO8 := Lib.hid (show O0.length ≤ 8 from by rw [HOE.out]; simp)
        have HPL := Lib.hid (show polL g i 2 m loc page = O0 ++ (nearN g loc i).filter (hasM m) from by rw [HOE.out]; rfl)
        clear hL hb hPO C0 c0 p0 HP HP5
        generalize wr.heap.size = lo3 at *
        generalize w3.heap.size = hi3 at *
        go_wp2_with (fail)
        go_loopw [10, 14] (fun ov jv wr => ∃ j : Nat, jv = .int .i64 j ∧ j ≤ i ∧ Hid (PoAt w A g 2 m (.slice na i nc) (nearN g loc i) lo3 hi3 ov (O0 ++ ((nearN g loc i).take j).filter (hasM m)) wr)) (fun _ jv _ => i - (intOf jv).toNat)
        case atStart => exact ⟨0, rfl, Nat.zero_le _, HP4⟩
        case round =>
          clear HP4
          obtain ⟨j, rfl, hj8, HPj⟩ := hrel
          by_cases hlj : j < i
          · have hljI : (j : Int) < i := by omega
            have hljN : j < (nearN g loc i).length := by rw [HNN.out]; exact hlj
            obtain ⟨x, hx⟩ : ∃ x, (nearN g loc i)[j]? = some x := ⟨_, List.getElem?_eq_getElem hljN⟩
            have hx8 : x < 8 := by
              have := HNM.out x (List.mem_of_getElem? hx)
              omega
            obtain ⟨a5, c5, e5, hc5⟩ := HPj.out.nr
            obtain ⟨b, o, e6, _, _, cx⟩ := hc5 j x hx
            rw [e6] at e5
            simp only [Value.slice.injEq] at e5
            obtain ⟨rfl, q1, q2⟩ := e5
            clear q1 q2
            have HH := Lib.hid (rhas_nat m hm x hx8)
            have L0 := Lib.hid (show ∀ W, W = wr.drew → (loadVar 5 ⟨pb, 1, none⟩).run Try.prog W = .ok (.int .u8 (m : Int)) W from fun W hW => run_loadVar_cell (fun _ => by kernel_rfl) (by rw [hW]; have h := HPj.out.cp.k1; rw [hpb] at h; exact h))
            have L1 := Lib.hid (show ∀ W, W = wr.drew → (loadVar 3 ⟨b, o + j, none⟩).run Try.prog W = .ok (.int .i64 (x : Int)) W from fun W hW => run_loadVar_cell (fun _ => by kernel_rfl) (by rw [hW]; exact cx))
            have L2 := Lib.hid (show ∀ W, W = wr.drew → (loadVar 27 ⟨pb, 0, none⟩).run Try.prog W = .ok (.int .u8 2) W from fun W hW => run_loadVar_cell (fun _ => by kernel_rfl) (by rw [hW]; have h := HPj.out.cp.k0; rw [hpb] at h; exact h))
            clear e6 hc5
            cases hh : hasM m x with
            | false =>
              rw [hh] at HH
              have HP2 := Lib.hid (show PoAt w A g 2 m (.slice (some ⟨b, o, none⟩) i nc) (nearN g loc i) lo3 hi3 u10 (O0 ++ (((nearN g loc i).take (j + 1)).filter (hasM m))) (wr) from by
                rw [List.take_add_one, hx, Option.toList_some, List.filter_append, List.filter_cons_of_neg (by simp [hh]), List.filter_nil, List.append_nil]
                exact HPj.out)
              clear hh hx
              go_wp2_with (fail)
              refine wp_region_lex1 (fun W => W = wr.drew) [(0, false), (1, false), (2, false), (3, false), (4, false), (5, false), (7, false), (8, false), (9, false), (6, true), (10, false)] (by kernel_rfl) (by kernel_rfl) rfl (by kernel_rfl) rfl ?_
              intro W0 hW0 hS0
              clear hS0
              have HPW := Lib.hid (show PoAt w A g 2 m (.slice (some ⟨b, o, none⟩) i nc) (nearN g loc i) lo3 hi3 u10 (O0 ++ (((nearN g loc i).take (j + 1)).filter (hasM m))) W0 from by rw [hW0]; exact HP2.out.later (Below.refl _ _).drew)
              have cxW : W0.cell? ⟨b, o + j, none⟩ = some (.int .i64 (x : Int)) := by rw [hW0]; exact cx
              refine lexH_yieldE rfl rfl ?_
              apply Exists.intro
              refine ⟨fun W hW => ?_, ?_⟩
              focus (go_simp; exact rfl)
              simp only [List.getElem_toArray, List.getElem_cons_zero, Act.put, List.setIfInBounds_toArray, List.set_cons_zero, List.set_cons_succ]
              refine lexH_load rfl rfl _ _ rfl rfl L0.out ?_
              simp only [List.getElem_toArray, List.getElem_cons_succ, List.getElem_cons_zero, Act.put, List.setIfInBounds_toArray, List.set_cons_zero, List.set_cons_succ]
              refine lexH_yieldE rfl rfl ?_
              apply Exists.intro
              refine ⟨fun W hW => ?_, ?_⟩
              focus (go_simp; exact rfl)
              simp only [List.getElem_toArray, List.getElem_cons_succ, List.getElem_cons_zero, Act.put, List.setIfInBounds_toArray, List.set_cons_zero, List.set_cons_succ]
              refine lexH_yieldE rfl rfl ?_
              apply Exists.intro
              refine ⟨fun W hW => ?_, ?_⟩
              focus (go_simp; exact rfl)
              simp only [List.getElem_toArray, List.getElem_cons_succ, List.getElem_cons_zero, Act.put, List.setIfInBounds_toArray, List.set_cons_zero, List.set_cons_succ]
              refine lexH_yieldE rfl rfl ?_
              apply Exists.intro
              refine ⟨fun W hW => ?_, ?_⟩
              focus (go_simp; exact rfl)
              simp only [List.getElem_toArray, List.getElem_cons_succ, List.getElem_cons_zero, Act.put, List.setIfInBounds_toArray, List.set_cons_zero, List.set_cons_succ]
              refine lexH_load rfl rfl _ _ rfl rfl L1.out ?_
              simp only [List.getElem_toArray, List.getElem_cons_succ, List.getElem_cons_zero, Act.put, List.setIfInBounds_toArray, List.set_cons_zero, List.set_cons_succ]
              refine lexH_yieldE rfl rfl ?_
              apply Exists.intro
              refine ⟨fun W hW => ?_, ?_⟩
              focus (go_simp; exact rfl)
              simp only [List.getElem_toArray, List.getElem_cons_succ, List.getElem_cons_zero, Act.put, List.setIfInBounds_toArray, List.set_cons_zero, List.set_cons_succ]
              refine lexH_load rfl rfl _ _ rfl rfl L2.out ?_
              simp only [List.getElem_toArray, List.getElem_cons_succ, List.getElem_cons_zero, Act.put, List.setIfInBounds_toArray, List.set_cons_zero, List.set_cons_succ]
              refine lexH_yieldE rfl rfl ?_
              apply Exists.intro
              refine ⟨fun W hW => ?_, ?_⟩
              focus (go_simp; exact rfl)
              simp only [List.getElem_toArray, List.getElem_cons_succ, List.getElem_cons_zero, Act.put, List.setIfInBounds_toArray, List.set_cons_zero, List.set_cons_succ]
              refine lexH_call 18 #[.int .u8 (m : Int), .int .i64 (x : Int)] rfl rfl ?_ ?_
              focus (go_simp; done)
              refine (HH.out _).mono ?_
              rintro e w5 ⟨rfl, rfl⟩
              refine ⟨_, rfl, hW0, ?_⟩
              clear hW0 L0 L1 L2 cx
              simp only [List.getElem_toArray, List.getElem_cons_succ, List.getElem_cons_zero, Act.put, List.setIfInBounds_toArray, List.set_cons_zero, List.set_cons_succ]
              refine lexH_yieldE rfl rfl ?_
              apply Exists.intro
              refine ⟨fun W hW => ?_, ?_⟩
              focus (go_simp; exact rfl)
              simp only [List.getElem_toArray, List.getElem_cons_succ, List.getElem_cons_zero, Act.put, List.setIfInBounds_toArray, List.set_cons_zero, List.set_cons_succ]
              refine lexH_nil ?_
              clear HP2 HPj cxW
              go_wp2_with (fail)
              go_roundw
              case rel => exact ⟨j + 1, by go_num, hlj, HPW⟩
              case measure => simp [intOf]; omega
            | true =>
              rw [hh] at HH
              have HE := Lib.hid (show O0 ++ (((nearN g loc i).take (j + 1)).filter (hasM m)) = (O0 ++ (((nearN g loc i).take j).filter (hasM m))) ++ [x] from by
                rw [List.take_add_one, hx, Option.toList_some, List.filter_append, List.filter_cons_of_pos (by simp [hh]), List.filter_nil, List.append_assoc])
              have hlq : (O0 ++ (((nearN g loc i).take j).filter (hasM m))).length ≤ 100 := by
                have h1 := List.length_filter_le (hasM m) ((nearN g loc i).take j)
                rw [List.length_append]
                rw [List.length_take] at h1
                have := HO8.out
                omega
              clear hh hx
              go_wp2_with (fail)
              refine wp_region_lex1 (fun W => W = wr.drew) [(0, false), (1, false), (2, false), (3, false), (4, false), (5, false), (7, false), (8, false), (9, false), (6, true), (10, false)] (by kernel_rfl) (by kernel_rfl) rfl (by kernel_rfl) rfl ?_
              intro W0 hW0 hS0
              clear hS0
              have HPW := Lib.hid (show PoAt w A g 2 m (.slice (some ⟨b, o, none⟩) i nc) (nearN g loc i) lo3 hi3 u10 (O0 ++ (((nearN g loc i).take j).filter (hasM m))) W0 from by rw [hW0]; exact HPj.out.later (Below.refl _ _).drew)
              have cxW : W0.cell? ⟨b, o + j, none⟩ = some (.int .i64 (x : Int)) := by rw [hW0]; exact cx
              refine lexH_yieldE rfl rfl ?_
              apply Exists.intro
              refine ⟨fun W hW => ?_, ?_⟩
              focus (go_simp; exact rfl)
              simp only [List.getElem_toArray, List.getElem_cons_zero, Act.put, List.setIfInBounds_toArray, List.set_cons_zero, List.set_cons_succ]
              refine lexH_load rfl rfl _ _ rfl rfl L0.out ?_
              simp only [List.getElem_toArray, List.getElem_cons_succ, List.getElem_cons_zero, Act.put, List.setIfInBounds_toArray, List.set_cons_zero, List.set_cons_succ]
              refine lexH_yieldE rfl rfl ?_
              apply Exists.intro
              refine ⟨fun W hW => ?_, ?_⟩
              focus (go_simp; exact rfl)
              simp only [List.getElem_toArray, List.getElem_cons_succ, List.getElem_cons_zero, Act.put, List.setIfInBounds_toArray, List.set_cons_zero, List.set_cons_succ]
              refine lexH_yieldE rfl rfl ?_
              apply Exists.intro
              refine ⟨fun W hW => ?_, ?_⟩
              focus (go_simp; exact rfl)
              simp only [List.getElem_toArray, List.getElem_cons_succ, List.getElem_cons_zero, Act.put, List.setIfInBounds_toArray, List.set_cons_zero, List.set_cons_succ]
              refine lexH_yieldE rfl rfl ?_
              apply Exists.intro
              refine ⟨fun W hW => ?_, ?_⟩
              focus (go_simp; exact rfl)
              simp only [List.getElem_toArray, List.getElem_cons_succ, List.getElem_cons_zero, Act.put, List.setIfInBounds_toArray, List.set_cons_zero, List.set_cons_succ]
              refine lexH_load rfl rfl _ _ rfl rfl L1.out ?_
              simp only [List.getElem_toArray, List.getElem_cons_succ, List.getElem_cons_zero, Act.put, List.setIfInBounds_toArray, List.set_cons_zero, List.set_cons_succ]
              refine lexH_yieldE rfl rfl ?_
              apply Exists.intro
              refine ⟨fun W hW => ?_, ?_⟩
              focus (go_simp; exact rfl)
              simp only [List.getElem_toArray, List.getElem_cons_succ, List.getElem_cons_zero, Act.put, List.setIfInBounds_toArray, List.set_cons_zero, List.set_cons_succ]
              refine lexH_load rfl rfl _ _ rfl rfl L2.out ?_
              simp only [List.getElem_toArray, List.getElem_cons_succ, List.getElem_cons_zero, Act.put, List.setIfInBounds_toArray, List.set_cons_zero, List.set_cons_succ]
              refine lexH_yieldE rfl rfl ?_
              apply Exists.intro
              refine ⟨fun W hW => ?_, ?_⟩
              focus (go_simp; exact rfl)
              simp only [List.getElem_toArray, List.getElem_cons_succ, List.getElem_cons_zero, Act.put, List.setIfInBounds_toArray, List.set_cons_zero, List.set_cons_succ]
              refine lexH_call 18 #[.int .u8 (m : Int), .int .i64 (x : Int)] rfl rfl ?_ ?_
              focus (go_simp; done)
              refine (HH.out _).mono ?_
              rintro e w5 ⟨rfl, rfl⟩
              refine ⟨_, rfl, hW0, ?_⟩
              clear hW0 L0 L1 L2 cx
              simp only [List.getElem_toArray, List.getElem_cons_succ, List.getElem_cons_zero, Act.put, List.setIfInBounds_toArray, List.set_cons_zero, List.set_cons_succ]
              refine lexH_yieldE rfl rfl ?_
              apply Exists.intro
              refine ⟨fun W hW => ?_, ?_⟩
              focus (go_simp; exact rfl)
              simp only [List.getElem_toArray, List.getElem_cons_succ, List.getElem_cons_zero, Act.put, List.setIfInBounds_toArray, List.set_cons_zero, List.set_cons_succ]
              refine lexH_nil ?_
              go_wp2_with (first | (at_builtin; refine wpList_append_whr W0 rfl _ _ 31 rfl (w.heap.size + 2) TIn i0 _ 1 8 Try.underlying31 hi hz0 hz1 hz2 rfl (by decide) u10 (O0 ++ (((nearN g loc i).take j).filter (hasM m))).length ((O0 ++ (((nearN g loc i).take j).filter (hasM m))).map iV) #[.int .i64 (x : Int)] HPW.out.ow HPW.out.cp.size rfl rfl rfl (one_cell _ _) (by omega) (by decide) ?_; intro v2 w2 ho2 hon hwh; have HP2 := Lib.hid (HPW.out.grow ho2 hon hwh); clear ho2 hon hwh) | fail)
              rw [← HE.out] at HP2
              clear HPW HPj hlq cxW
              go_wp2_with (fail)
              go_roundw
              case rel => exact ⟨j + 1, by go_num, hlj, HP2⟩
              case measure => simp [intOf]; omega
          · obtain rfl : j = i := by omega
            have HR := Lib.hid (show LstP w (polL g j 2 m loc page) (.returned u10) wr from ⟨u10, rfl, by
              rw [HPL.out]
              have h1 := (LstB.of_own HPj.out.ow).lst
              rw [List.take_of_length_le (by rw [HNN.out]; exact Nat.le_refl _)] at h1
              exact h1, HPj.out.cp.bel⟩)
            obtain ⟨ra, rc, hru⟩ := HPj.out.slice
            go_wp2_with (fail)
            go_ret
            exact HR.out
      · clear p1
        have HP5 := Lib.hid (show PoAt w A g 3 m u9 (inN m i) (w.heap.size + 2) wr.heap.size (.slice none 0 0) ((rotN (inN m i) page).take 0) wr from HP.out.fresh)
        obtain ⟨va, vc, hu9⟩ := HP.out.slice
        subst hu9
        have HLI := Lib.hid (show 0 < (inN m i).length ∧ (inN m i).length ≤ 8 from ⟨by rw [HIN.out]; exact HKB.out.2.2.1 (.inr rfl), by have := inN_len m i; omega⟩)
        have HRL := Lib.hid (rotN_len (inN m i) page)
        go_wp2_with (fail)
        generalize wr.heap.size = hi2 at *
        go_loopw [10, 12] (fun ov qv wr => ∃ q : Nat, qv = .int .i64 q ∧ q ≤ (inN m i).length ∧ Hid (PoAt w A g 3 m (.slice va (inN m i).length vc) (inN m i) (w.heap.size + 2) hi2 ov ((rotN (inN m i) page).take q) wr)) (fun _ qv _ => (inN m i).length - (intOf qv).toNat)
        case atStart => exact ⟨0, rfl, Nat.zero_le _, HP5⟩
        case round =>
          clear HP5
          obtain ⟨q, rfl, hq8, HPq⟩ := hrel
          have HEL := Lib.hid (show ∃ ln, (inN m i).length = ln from ⟨_, rfl⟩)
          obtain ⟨ln, hln⟩ := HEL.out
          have HLN := Lib.hid hln
          by_cases hlq : q < (inN m i).length
          · have hlqI : (q : Int) < ((inN m i).length : Int) := by omega
            have hl0 : ¬ ((inN m i).length : Int) = 0 := by have := HLI.out.1; omega
            clear hln
            obtain ⟨x, hx, hrx⟩ := rotN_at (p := page) hlq
            obtain ⟨a5, c5, e5, hc5⟩ := HPq.out.nr
            obtain ⟨b, o, e6, _, _, cx⟩ := hc5 _ x hx
            rw [e6] at e5
            simp only [Value.slice.injEq] at e5
            obtain ⟨rfl, q1, q2⟩ := e5
            clear q1 q2 e6 hc5
            have HE := Lib.hid (show (rotN (inN m i) page).take (q + 1) = (rotN (inN m i) page).take q ++ [x] from by rw [List.take_add_one, hrx]; rfl)
            have HRM := Lib.hid (rot_mod (p := page) HLI.out.1 HLI.out.2 hlq)
            have hsl : (page % (inN m i).length + q) % (inN m i).length < (inN m i).length := Nat.mod_lt _ HLI.out.1
            have hlt2 : ((rotN (inN m i) page).take q).length ≤ 100 := by
              rw [List.length_take]
              have := HLI.out.2
              omega
            have hraw : (wrap64 ((page : Int) % ((inN m i).length : Int) + (q : Int))).tmod ((inN m i).length : Int) < ((inN m i).length : Int) := by rw [HRM.out]; omega
            have hraw0 : 0 ≤ (wrap64 ((page : Int) % ((inN m i).length : Int) + (q : Int))).tmod ((inN m i).length : Int) := by rw [HRM.out]; omega
            have hraw1 : ¬ (wrap64 ((page : Int) % ((inN m i).length : Int) + (q : Int))).tmod ((inN m i).length : Int) < 0 := by rw [HRM.out]; omega
            have cx2 : wr.cell? ⟨b, o + ((wrap64 ((page : Int) % ((inN m i).length : Int) + (q : Int))).tmod ((inN m i).length : Int)).toNat, none⟩ = some (.int .i64 (x : Int)) := by rw [HRM.out, Int.toNat_natCast]; exact cx
            have hl8 := HLI.out.2
            clear hx hrx hsl cx
            go_wp2_with (first | (at_builtin; refine wpList_append_whr wr rfl _ _ 31 rfl (w.heap.size + 2) TIn i0 _ 1 8 Try.underlying31 hi hz0 hz1 hz2 rfl (by decide) u10 ((rotN (inN m i) page).take q).length (((rotN (inN m i) page).take q).map iV) #[.int .i64 (x : Int)] HPq.out.ow HPq.out.cp.size rfl rfl rfl (one_cell _ _) (by omega) (by decide) ?_; intro v2 w2 ho2 hon hwh; have HP2 := Lib.hid (HPq.out.grow ho2 hon hwh); clear ho2 hon hwh) | fail)
            rw [← HE.out] at HP2
            clear HPq hlt2 cx2 hraw hraw0 hraw1
            go_wp2_with (fail)
            go_roundw
            case rel => exact ⟨q + 1, by go_num, hlq, HP2⟩
            case measure => simp [intOf]; omega
          · obtain rfl : q = (inN m i).length := by omega
            have HP6 := Lib.hid (show PoAt w A g 3 m (.slice va (inN m i).length vc) (inN m i) (w.heap.size + 2) hi2 u10 (rotN (inN m i) page) wr from by
              have h := HPq.out
              rw [List.take_of_length_le (by rw [HRL.out]; exact Nat.le_refl _)] at h
              exact h)
            clear HPq hln
            have C0 := HP6.out.cp.cfg
            go_wp2_with (refine wpList_load_cfg rfl _ rfl _ rfl C0 ?_)
            refine (refo_near A g loc i _ HA.out HG.out HN.out hl).mono ?_
            rintro e w3 ⟨v3, rfl, hL, hb⟩
            obtain ⟨na, nc, hnv⟩ : ∃ na nc, v3 = .slice na i nc := by
              obtain ⟨na, nc, hnv, _⟩ := hL
              rw [nearN_len] at hnv
              exact ⟨na, nc, hnv⟩
            subst hnv
            have hPO := HP6.out.later hb
            obtain ⟨O0, HOE⟩ : ∃ O0, Hid (O0 = (rotN (inN m i) page)) := ⟨_, rfl⟩
            have HP4 := Lib.hid (show PoAt w A g 3 m (.slice na i nc) (nearN g loc i) wr.heap.size w3.heap.size u10 (O0 ++ ((nearN g loc i).take 0).filter (fun x => !hasM m x)) w3 from by
              rw [List.take_zero, List.filter_nil, List.append_nil, HOE.out]
              exact hPO.turn hL (fun q hq => .inl (HP6.out.ow.lt q hq).2) (Nat.le_refl _))
            have HNN := Lib.hid (nearN_len g loc i)
            have HNM := Lib.hid (fun x (hx : x ∈ (nearN g loc i)) => (mem_nearN (g := g) (k := loc) hn8).1 hx)
            have HO8 := Lib.hid (show O0.length ≤ 8 from by rw [HOE.out]; rw [rotN_len]; have := inN_len m i; omega)
            have HPL := Lib.hid (show polL g i 3 m loc page = O0 ++ (nearN g loc i).filter (fun x => !hasM m x) from by rw [HOE.out]; unfold polL; rw [if_neg (by decide), if_neg (by decide), if_pos rfl])
            clear hL hb hPO C0 c0 p0 HP HP6
            generalize wr.heap.size = lo3 at *
            generalize w3.heap.size = hi3 at *
            go_wp2_with (fail)
            go_loopw [10, 14] (fun ov jv wr => ∃ j : Nat, jv = .int .i64 j ∧ j ≤ i ∧ Hid (PoAt w A g 3 m (.slice na i nc) (nearN g loc i) lo3 hi3 ov (O0 ++ ((nearN g loc i).take j).filter (fun x => !hasM m x)) wr)) (fun _ jv _ => i - (intOf jv).toNat)
            case atStart => exact ⟨0, rfl, Nat.zero_le _, HP4⟩
            case round =>
              clear HP4
              obtain ⟨j, rfl, hj8, HPj⟩ := hrel
              by_cases hlj : j < i
              · have hljI : (j : Int) < i := by omega
                have hljN : j < (nearN g loc i).length := by rw [HNN.out]; exact hlj
                obtain ⟨x, hx⟩ : ∃ x, (nearN g loc i)[j]? = some x := ⟨_, List.getElem?_eq_getElem hljN⟩
                have hx8 : x < 8 := by
                  have := HNM.out x (List.mem_of_getElem? hx)
                  omega
                obtain ⟨a5, c5, e5, hc5⟩ := HPj.out.nr
                obtain ⟨b, o, e6, _, _, cx⟩ := hc5 j x hx
                rw [e6] at e5
                simp only [Value.slice.injEq] at e5
                obtain ⟨rfl, q1, q2⟩ := e5
                clear q1 q2
                have HH := Lib.hid (rhas_nat m hm x hx8)
                have L0 := Lib.hid (show ∀ W, W = wr.drew → (loadVar 5 ⟨pb, 1, none⟩).run Try.prog W = .ok (.int .u8 (m : Int)) W from fun W hW => run_loadVar_cell (fun _ => by kernel_rfl) (by rw [hW]; have h := HPj.out.cp.k1; rw [hpb] at h; exact h))
                have L1 := Lib.hid (show ∀ W, W = wr.drew → (loadVar 3 ⟨b, o + j, none⟩).run Try.prog W = .ok (.int .i64 (x : Int)) W from fun W hW => run_loadVar_cell (fun _ => by kernel_rfl) (by rw [hW]; exact cx))
                have L2 := Lib.hid (show ∀ W, W = wr.drew → (loadVar 27 ⟨pb, 0, none⟩).run Try.prog W = .ok (.int .u8 3) W from fun W hW => run_loadVar_cell (fun _ => by kernel_rfl) (by rw [hW]; have h := HPj.out.cp.k0; rw [hpb] at h; exact h))
                clear e6 hc5
                cases hh : hasM m x with
                | false =>
                  rw [hh] at HH
                  have HE := Lib.hid (show O0 ++ (((nearN g loc i).take (j + 1)).filter (fun x => !hasM m x)) = (O0 ++ (((nearN g loc i).take j).filter (fun x => !hasM m x))) ++ [x] from by
                    rw [List.take_add_one, hx, Option.toList_some, List.filter_append, List.filter_cons_of_pos (by simp [hh]), List.filter_nil, List.append_assoc])
                  have hlq : (O0 ++ (((nearN g loc i).take j).filter (fun x => !hasM m x))).length ≤ 100 := by
                    have h1 := List.length_filter_le (fun x => !hasM m x) ((nearN g loc i).take j)
                    rw [List.length_append]
                    rw [List.length_take] at h1
                    have := HO8.out
                    omega
                  clear hh hx
                  go_wp2_with (fail)
                  refine wp_region_lex1 (fun W => W = wr.drew) [(0, false), (1, false), (2, false), (3, false), (4, false), (5, false), (7, false), (8, false), (9, false), (6, true), (10, false)] (by kernel_rfl) (by kernel_rfl) rfl (by kernel_rfl) rfl ?_
                  intro W0 hW0 hS0
                  clear hS0
                  have HPW := Lib.hid (show PoAt w A g 3 m (.slice (some ⟨b, o, none⟩) i nc) (nearN g loc i) lo3 hi3 u10 (O0 ++ (((nearN g loc i).take j).filter (fun x => !hasM m x))) W0 from by rw [hW0]; exact HPj.out.later (Below.refl _ _).drew)
                  have cxW : W0.cell? ⟨b, o + j, none⟩ = some (.int .i64 (x : Int)) := by rw [hW0]; exact cx
                  refine lexH_yieldE rfl rfl ?_
                  apply Exists.intro
                  refine ⟨fun W hW => ?_, ?_⟩
                  focus (go_simp; exact rfl)
                  simp only [List.getElem_toArray, List.getElem_cons_zero, Act.put, List.setIfInBounds_toArray, List.set_cons_zero, List.set_cons_succ]
                  refine lexH_load rfl rfl _ _ rfl rfl L0.out ?_
                  simp only [List.getElem_toArray, List.getElem_cons_succ, List.getElem_cons_zero, Act.put, List.setIfInBounds_toArray, List.set_cons_zero, List.set_cons_succ]
                  refine lexH_yieldE rfl rfl ?_
                  apply Exists.intro
                  refine ⟨fun W hW => ?_, ?_⟩
                  focus (go_simp; exact rfl)
                  simp only [List.getElem_toArray, List.getElem_cons_succ, List.getElem_cons_zero, Act.put, List.setIfInBounds_toArray, List.set_cons_zero, List.set_cons_succ]
                  refine lexH_yieldE rfl rfl ?_
                  apply Exists.intro
                  refine ⟨fun W hW => ?_, ?_⟩
                  focus (go_simp; exact rfl)
                  simp only [List.getElem_toArray, List.getElem_cons_succ, List.getElem_cons_zero, Act.put, List.setIfInBounds_toArray, List.set_cons_zero, List.set_cons_succ]
                  refine lexH_yieldE rfl rfl ?_
                  apply Exists.intro
                  refine ⟨fun W hW => ?_, ?_⟩
                  focus (go_simp; exact rfl)
                  simp only [List.getElem_toArray, List.getElem_cons_succ, List.getElem_cons_zero, Act.put, List.setIfInBounds_toArray, List.set_cons_zero, List.set_cons_succ]
                  refine lexH_load rfl rfl _ _ rfl rfl L1.out ?_
                  simp only [List.getElem_toArray, List.getElem_cons_succ, List.getElem_cons_zero, Act.put, List.setIfInBounds_toArray, List.set_cons_zero, List.set_cons_succ]
                  refine lexH_yieldE rfl rfl ?_
                  apply Exists.intro
                  refine ⟨fun W hW => ?_, ?_⟩
                  focus (go_simp; exact rfl)
                  simp only [List.getElem_toArray, List.getElem_cons_succ, List.getElem_cons_zero, Act.put, List.setIfInBounds_toArray, List.set_cons_zero, List.set_cons_succ]
                  refine lexH_load rfl rfl _ _ rfl rfl L2.out ?_
                  simp only [List.getElem_toArray, List.getElem_cons_succ, List.getElem_cons_zero, Act.put, List.setIfInBounds_toArray, List.set_cons_zero, List.set_cons_succ]
                  refine lexH_yieldE rfl rfl ?_
                  apply Exists.intro
                  refine ⟨fun W hW => ?_, ?_⟩
                  focus (go_simp; exact rfl)
                  simp only [List.getElem_toArray, List.getElem_cons_succ, List.getElem_cons_zero, Act.put, List.setIfInBounds_toArray, List.set_cons_zero, List.set_cons_succ]
                  refine lexH_call 18 #[.int .u8 (m : Int), .int .i64 (x : Int)] rfl rfl ?_ ?_
                  focus (go_simp; done)
                  refine (HH.out _).mono ?_
                  rintro e w5 ⟨rfl, rfl⟩
                  refine ⟨_, rfl, hW0, ?_⟩
                  clear hW0 L0 L1 L2 cx
                  simp only [List.getElem_toArray, List.getElem_cons_succ, List.getElem_cons_zero, Act.put, List.setIfInBounds_toArray, List.set_cons_zero, List.set_cons_succ]
                  refine lexH_yieldE rfl rfl ?_
                  apply Exists.intro
                  refine ⟨fun W hW => ?_, ?_⟩
                  focus (go_simp; exact rfl)
                  simp only [List.getElem_toArray, List.getElem_cons_succ, List.getElem_cons_zero, Act.put, List.setIfInBounds_toArray, List.set_cons_zero, List.set_cons_succ]
                  refine lexH_nil ?_
                  go_wp2_with (first | (at_builtin; refine wpList_append_whr W0 rfl _ _ 31 rfl (w.heap.size + 2) TIn i0 _ 1 8 Try.underlying31 hi hz0 hz1 hz2 rfl (by decide) u10 (O0 ++ (((nearN g loc i).take j).filter (fun x => !hasM m x))).length ((O0 ++ (((nearN g loc i).take j).filter (fun x => !hasM m x))).map iV) #[.int .i64 (x : Int)] HPW.out.ow HPW.out.cp.size rfl rfl rfl (one_cell _ _) (by omega) (by decide) ?_; intro v2 w2 ho2 hon hwh; have HP2 := Lib.hid (HPW.out.grow ho2 hon hwh); clear ho2 hon hwh) | fail)
                  rw [← HE.out] at HP2
                  clear HPW HPj hlq cxW
                  go_wp2_with (fail)
                  go_roundw
                  case rel => exact ⟨j + 1, by go_num, hlj, HP2⟩
                  case measure => simp [intOf]; omega
                | true =>
                  rw [hh] at HH
                  have HP2 := Lib.hid (show PoAt w A g 3 m (.slice (some ⟨b, o, none⟩) i nc) (nearN g loc i) lo3 hi3 u10 (O0 ++ (((nearN g loc i).take (j + 1)).filter (fun x => !hasM m x))) (wr) from by
                    rw [List.take_add_one, hx, Option.toList_some, List.filter_append, List.filter_cons_of_neg (by simp [hh]), List.filter_nil, List.append_nil]
                    exact HPj.out)
                  clear hh hx
                  go_wp2_with (fail)
                  refine wp_region_lex1 (fun W => W = wr.drew) [(0, false), (1, false), (2, false), (3, false), (4, false), (5, false), (7, false), (8, false), (9, false), (6, true), (10, false)] (by kernel_rfl) (by kernel_rfl) rfl (by kernel_rfl) rfl ?_
                  intro W0 hW0 hS0
                  clear hS0
                  have HPW := Lib.hid (show PoAt w A g 3 m (.slice (some ⟨b, o, none⟩) i nc) (nearN g loc i) lo3 hi3 u10 (O0 ++ (((nearN g loc i).take (j + 1)).filter (fun x => !hasM m x))) W0 from by rw [hW0]; exact HP2.out.later (Below.refl _ _).drew)
                  have cxW : W0.cell? ⟨b, o + j, none⟩ = some (.int .i64 (x : Int)) := by rw [hW0]; exact cx
                  refine lexH_yieldE rfl rfl ?_
                  apply Exists.intro
                  refine ⟨fun W hW => ?_, ?_⟩
                  focus (go_simp; exact rfl)
                  simp only [List.getElem_toArray, List.getElem_cons_zero, Act.put, List.setIfInBounds_toArray, List.set_cons_zero, List.set_cons_succ]
                  refine lexH_load rfl rfl _ _ rfl rfl L0.out ?_
                  simp only [List.getElem_toArray, List.getElem_cons_succ, List.getElem_cons_zero, Act.put, List.setIfInBounds_toArray, List.set_cons_zero, List.set_cons_succ]
                  refine lexH_yieldE rfl rfl ?_
                  apply Exists.intro
                  refine ⟨fun W hW => ?_, ?_⟩
                  focus (go_simp; exact rfl)
                  simp only [List.getElem_toArray, List.getElem_cons_succ, List.getElem_cons_zero, Act.put, List.setIfInBounds_toArray, List.set_cons_zero, List.set_cons_succ]
                  refine lexH_yieldE rfl rfl ?_
                  apply Exists.intro
                  refine ⟨fun W hW => ?_, ?_⟩
                  focus (go_simp; exact rfl)
                  simp only [List.getElem_toArray, List.getElem_cons_succ, List.getElem_cons_zero, Act.put, List.setIfInBounds_toArray, List.set_cons_zero, List.set_cons_succ]
                  refine lexH_yieldE rfl rfl ?_
                  apply Exists.intro
                  refine ⟨fun W hW => ?_, ?_⟩
                  focus (go_simp; exact rfl)
                  simp only [List.getElem_toArray, List.getElem_cons_succ, List.getElem_cons_zero, Act.put, List.setIfInBounds_toArray, List.set_cons_zero, List.set_cons_succ]
                  refine lexH_load rfl rfl _ _ rfl rfl L1.out ?_
                  simp only [List.getElem_toArray, List.getElem_cons_succ, List.getElem_cons_zero, Act.put, List.setIfInBounds_toArray, List.set_cons_zero, List.set_cons_succ]
                  refine lexH_yieldE rfl rfl ?_
                  apply Exists.intro
                  refine ⟨fun W hW => ?_, ?_⟩
                  focus (go_simp; exact rfl)
                  simp only [List.getElem_toArray, List.getElem_cons_succ, List.getElem_cons_zero, Act.put, List.setIfInBounds_toArray, List.set_cons_zero, List.set_cons_succ]
                  refine lexH_load rfl rfl _ _ rfl rfl L2.out ?_
                  simp only [List.getElem_toArray, List.getElem_cons_succ, List.getElem_cons_zero, Act.put, List.setIfInBounds_toArray, List.set_cons_zero, List.set_cons_succ]
                  refine lexH_yieldE rfl rfl ?_
                  apply Exists.intro
                  refine ⟨fun W hW => ?_, ?_⟩
                  focus (go_simp; exact rfl)
                  simp only [List.getElem_toArray, List.getElem_cons_succ, List.getElem_cons_zero, Act.put, List.setIfInBounds_toArray, List.set_cons_zero, List.set_cons_succ]
                  refine lexH_call 18 #[.int .u8 (m : Int), .int .i64 (x : Int)] rfl rfl ?_ ?_
                  focus (go_simp; done)
                  refine (HH.out _).mono ?_
                  rintro e w5 ⟨rfl, rfl⟩
                  refine ⟨_, rfl, hW0, ?_⟩
                  clear hW0 L0 L1 L2 cx
                  simp only [List.getElem_toArray, List.getElem_cons_succ, List.getElem_cons_zero, Act.put, List.setIfInBounds_toArray, List.set_cons_zero, List.set_cons_succ]
                  refine lexH_yieldE rfl rfl ?_
                  apply Exists.intro
                  refine ⟨fun W hW => ?_, ?_⟩
                  focus (go_simp; exact rfl)
                  simp only [List.getElem_toArray, List.getElem_cons_succ, List.getElem_cons_zero, Act.put, List.setIfInBounds_toArray, List.set_cons_zero, List.set_cons_succ]
                  refine lexH_nil ?_
                  clear HP2 HPj cxW
                  go_wp2_with (fail)
                  go_roundw
                  case rel => exact ⟨j + 1, by go_num, hlj, HPW⟩
                  case measure => simp [intOf]; omega
              · obtain rfl : j = i := by omega
                have HR := Lib.hid (show LstP w (polL g j 3 m loc page) (.returned u10) wr from ⟨u10, rfl, by
                  rw [HPL.out]
                  have h1 := (LstB.of_own HPj.out.ow).lst
                  rw [List.take_of_length_le (by rw [HNN.out]; exact Nat.le_refl _)] at h1
                  exact h1, HPj.out.cp.bel⟩)
                obtain ⟨ra, rc, hru⟩ := HPj.out.slice
                go_wp2_with (fail)
                go_ret
                exact HR.out
-- KINDS23]
end Go.Proofs.Ytcbdmdalijhkoaa
