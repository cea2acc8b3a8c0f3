/-
  The walk of PolicyNear, for whatever policy.
-/
import Derived.Test.YtcbdmdalijhkoaaPoLawOrders
import Derived.Test.YtcbdmdalijhkoaaPoNearP
namespace Go.Proofs.Ytcbdmdalijhkoaa
open Go.RowKit Go
attribute [local go_sem] Oper.semAt_some

theorem ordE_zero {g : Nat → Int} {k m : Nat} {loc page : Int} (h : ordE g k m loc page = 0) : mayP g k m = true ∧ 0 ≤ page ∧ 0 ≤ loc ∧ loc < g 0 := by
  unfold ordE at h
  split at h
  · exact absurd h (by decide)
  · next h1 =>
    split at h
    · exact absurd h (by decide)
    · next h2 =>
      refine ⟨?_, by omega, by omega, by omega⟩
      cases hm : mayP g k m with
      | true => rfl
      | false => exact absurd (Or.inl hm) h1
theorem ordE_ways (g : Nat → Int) (k m : Nat) (loc page : Int) : ordE g k m loc page = 0 ∨ ordE g k m loc page ≠ 0 := by omega
theorem mayP_may {g : Nat → Int} {k m : Nat} (h : mayP g k m = true) : mayB g = true ∧ kindB k m = true := by
  unfold mayP at h
  simp only [Bool.and_eq_true] at h
  exact ⟨h.1, h.2.2⟩
section
variable (ok : PoOk)
include ok
set_option maxRecDepth 100000 in
set_option maxHeartbeats 8000000 in
theorem pnear_any (A : Array Value) (g : Nat → Int) (k m : Nat) (hk : k ≤ 255) (hm : m ≤ 255) (loc page : Int) (hloc : InZ loc) (hpage : InZ page) (w : World) (hA : Cfg A g) :
    Calls Try.prog 5 #[.agg A, polV k m, .int .i64 loc, .int .i64 page] w fun e w' => e = .returned (.bool true) ∧ Below w.heap.size w w' := by
  have HC0 := Lib.hid (cpb_new w hA k m)
  have HA := Lib.hid hA
  have HOR := Lib.hid (fun W => ok.order W A g k m loc page hA hk hm hloc hpage)
  clear hA
  have C0 := HC0.out.cfg
  have p0 := HC0.out.k0
  have p1 := HC0.out.k1
  by_cases he : ordE g k m loc page = 0
  · obtain ⟨hM, hp0, hl0, hlg⟩ := ordE_zero he
    obtain ⟨hmb, hkb⟩ := mayP_may hM
    have HG := Lib.hid ((good_iff g).1 hmb)
    have hg8 := HG.out.n2
    have hk3 := (kindB_pos hkb).1
    obtain ⟨N, hN⟩ : ∃ N : Nat, g 0 = N := ⟨(g 0).toNat, by omega⟩
    obtain ⟨lc, rfl⟩ : ∃ lc : Nat, loc = lc := ⟨loc.toNat, by omega⟩
    obtain ⟨pg, rfl⟩ : ∃ pg : Nat, page = pg := ⟨page.toNat, by omega⟩
    have hn8 : N ≤ 8 := by omega
    have hlc : lc < N := by omega
    have hQ : ordQ g k m lc pg = polL g N k m lc pg := by unfold ordQ; rw [if_pos he, hN, Int.toNat_natCast, Int.toNat_natCast, Int.toNat_natCast]
    rw [he, hQ] at HOR
    have HMB := Lib.hid (fun W => refmay_any A g W HA.out)
    rw [hmb] at HMB
    have HLT := Lib.hid (polL_lt (g := g) (n := N) (k := k) (m := m) (loc := lc) (page := pg) hn8)
    have HFL := Lib.hid (fromN_lt hM hN hn8 hlc)
    have HSO := Lib.hid (polL_sorted (g := g) (n := N) (k := k) (m := m) (loc := lc) (page := pg))
    have HHD := Lib.hid (fun (h : k = 1) => polL_head (loc := lc) (page := pg) hM HG.out hN h)
    have HN := Lib.hid hN
    have HDN := Lib.hid (fun (x : Nat) (hx : x < N) => dsN_nonneg HG.out hN (F := fromN k m N lc) (fromN_lt hM hN hn8 hlc) hx)
    have HQL := Lib.hid (show (polL g N k m lc pg).length ≤ 100 from by
      unfold polL
      split
      · rw [nearN_len]; omega
      · split
        · rw [nearN_len]; omega
        · split
          · rw [List.length_append, rotN_len]
            have h1 := inN_len m N
            have h2 := List.length_filter_le (fun x => !hasM m x) (nearN g lc N)
            rw [nearN_len] at h2
            omega
          · have h2 := List.length_filter_le (hasM m) (nearN g lc N)
            rw [nearN_len] at h2
            omega)
    have HFN := Lib.hid (show k ≠ 1 → fromN k m N lc = lc from fun h => if_neg h)
    generalize polL g N k m lc pg = Q at *
    generalize fromN k m N lc = F at *
    have hlI : ¬ (N : Int) ≤ lc := by omega
    have hl0I : ¬ (lc : Int) < 0 := by omega
    have hl4 : decide (N ≤ lc) = false := decide_eq_false (by omega)
    have hl5 : decide ((lc : Int) < 0) = false := decide_eq_false hl0I
    clear hM hmb hkb hN hQ he hp0 hl0 hlg hg8
    go_enter Try.func5, Try.ntmps5
    go_wp2_with (first | refine wpList_load_cfg rfl _ rfl _ rfl C0 ?_ | fail)
    generalize (w.alloc (.cells A 26)).alloc (.cells #[.int .u8 (k : Int), .int .u8 (m : Int)] 29) = wb at *
    generalize hpb : w.heap.size + 1 = pb at *
    refine (HOR.out _).mono ?_
    rintro e W1 ⟨v, rfl, hL, hb1⟩
    have HL1 := Lib.hid hL
    have HC1 := Lib.hid (HC0.out.later hb1)
    obtain ⟨va, vc, rfl, _⟩ := hL
    clear hb1 C0 p0 p1 HC0 HOR
    have C0 := HC1.out.cfg
    go_wp2_with (first | refine wpList_load_cfg rfl _ rfl _ rfl C0 ?_ | fail)
    refine (HMB.out _).mono ?_
    rintro e W2 ⟨rfl, hb2⟩
    have HL2 := Lib.hid (HL1.out.later hb2)
    have HC2 := Lib.hid (HC1.out.later hb2)
    clear hb2 C0 HL1 HC1 HMB
    have c0 := HC2.out.cfg.cell 0 (by decide)
    rw [HN.out] at c0
    have p0 := HC2.out.k0
    rw [hpb] at p0
    by_cases h1 : k = 1
    · have hkb : ((k : Int) == 1) = true := by simp; omega
      obtain ⟨R, hR⟩ := HHD.out h1
      have hF2 : F < N := HFL.out
      have hFNI : ¬ (N : Int) ≤ F := by omega
      have hd2 : decide ((N : Int) ≤ F) = false := decide_eq_false hFNI
      have hd4 : decide (N ≤ F) = false := decide_eq_false (by omega)
      have hq1 : (0 : Int) < (Q.length : Int) := by rw [hR]; simp
      have hqn : 0 < Q.length := by omega
      have hqd : decide (0 < Q.length) = true := decide_eq_true hqn
      obtain ⟨a5, c5, e5, hc5⟩ := HL2.out
      obtain ⟨b, o, e6, cx⟩ := hc5 0 F (by rw [hR]; rfl)
      rw [e6] at e5
      simp only [Value.slice.injEq] at e5
      obtain ⟨rfl, q1, q2⟩ := e5
      rw [Nat.add_zero] at cx
      clear q1 q2 e6 hc5 hR
      go_wp2_with (fail)
      clear c0 p0 cx
      generalize (some (⟨b, o, none⟩ : Addr)) = va at *
      clear h1 hkb
      go_loopw [12, 54] (fun lv iv wr => ∃ (i : Nat) (last : Int), iv = .int .i64 i ∧ i ≤ Q.length ∧ lv = .int .i64 last ∧ Hid (∀ x ∈ Q.drop i, Uk k m x → last ≤ dsN g F x) ∧ Hid (CpB w A g k m wr) ∧ Hid (LstAt wr (.slice va Q.length vc) Q)) (fun _ iv _ => Q.length - (intOf iv).toNat)
      case atStart => exact ⟨0, 0, rfl, Nat.zero_le _, rfl, Lib.hid (fun x hx _ => HDN.out x (HLT.out x (List.mem_of_mem_drop hx))), HC2, HL2⟩
      case round =>
        clear HC2 HL2
        obtain ⟨i, last, rfl, hi, rfl, HI, HC, HL⟩ := hrel
        have hql := HQL.out
        by_cases hlt : i < Q.length
        · have hltI : (i : Int) < Q.length := by omega
          obtain ⟨x, hx⟩ : ∃ x, Q[i]? = some x := ⟨_, List.getElem?_eq_getElem hlt⟩
          have hxN : x < N := HLT.out x (List.mem_of_getElem? hx)
          have HDR := Lib.hid (show Q.drop i = x :: Q.drop (i + 1) from by
            rw [List.drop_eq_getElem_cons hlt]
            congr 1
            exact Option.some.inj ((List.getElem?_eq_getElem hlt).symm.trans hx))
          have HPW := Lib.hid (show ∀ y ∈ Q.drop (i + 1), Uk k m x → Uk k m y → dsN g F x ≤ dsN g F y from by
            have h := HSO.out.sublist (List.drop_sublist i Q)
            rw [HDR.out] at h
            exact (List.pairwise_cons.1 h).1)
          obtain ⟨a5, c5, e5, hc5⟩ := HL.out
          obtain ⟨b, o, e6, cx⟩ := hc5 i x hx
          rw [e6] at e5
          simp only [Value.slice.injEq] at e5
          obtain ⟨rfl, q1, q2⟩ := e5
          clear q1 q2 e6 hc5 hx
          have cF := HC.out.cfg.cell (26 + F * 8 + x) (by omega)
          have HDE := Lib.hid (show g (26 + F * 8 + x) = dsN g F x from rfl)
          generalize g (26 + F * 8 + x) = D at *
          have c0 := HC.out.cfg.cell 0 (by decide)
          rw [HN.out] at c0
          have p0 := HC.out.k0
          have p1 := HC.out.k1
          rw [hpb] at p0 p1
          have HIn := Lib.hid (show Uk k m x → last ≤ D from fun hu => by rw [HDE.out]; exact HI.out x (by rw [HDR.out]; exact List.mem_cons_self) hu)
          have Lx := Lib.hid (show ∀ W, Kept wr.heap.size wr W → (loadVar 3 ⟨b, o + i, none⟩).run Try.prog W = .ok (.int .i64 (x : Int)) W from fun W hW => run_loadVar_cell (fun _ => by kernel_rfl) (by rw [hW.cell (World.block_lt_of_cell? _ _ cx)]; exact cx))
          have hF8 : (F : Int) < 8 := by omega
          have hx8 : (x : Int) < 8 := by omega
          have hxNI : ¬ (N : Int) ≤ x := by omega
          have hd1 : decide ((N : Int) ≤ x) = false := decide_eq_false hxNI
          have hd3 : decide (N ≤ x) = false := decide_eq_false (by omega)
          go_wp2_with (fail)
          go_quiet (fail)
          go_wp2_with (fail)
          have hbb := below_drewN (Below.refl wr.heap.size wr) nq
          have HC2 := Lib.hid (HC.out.later hbb)
          have HL2 := Lib.hid (HL.out.later hbb)
          rw [← hbb.cell (World.block_lt_of_cell? _ _ p0)] at p0
          rw [← hbb.cell (World.block_lt_of_cell? _ _ p1)] at p1
          rw [← hbb.cell (World.block_lt_of_cell? _ _ cx)] at cx
          rw [← hbb.cell (World.block_lt_of_cell? _ _ cF)] at cF
          clear hbb HC HL Lx c0
          generalize wr.drewN nq = w2 at *
          have Lk := Lib.hid (show ∀ W, W = w2.drew → (loadVar 27 ⟨pb, 0, none⟩).run Try.prog W = .ok (.int .u8 (k : Int)) W from fun W hW => by
            subst hW
            exact run_loadVar_cell (fun _ => by kernel_rfl) p0)
          have Lm := Lib.hid (show ∀ W, W = w2.drew → (loadVar 5 ⟨pb, 1, none⟩).run Try.prog W = .ok (.int .u8 (m : Int)) W from fun W hW => by
            subst hW
            exact run_loadVar_cell (fun _ => by kernel_rfl) p1)
          have Ly := Lib.hid (show ∀ W, W = w2.drew → (loadVar 3 ⟨b, o + i, none⟩).run Try.prog W = .ok (.int .i64 (x : Int)) W from fun W hW => by
            subst hW
            exact run_loadVar_cell (fun _ => by kernel_rfl) cx)
          have hm0 : (0 : Int) ≤ m := by omega
          have hm8 : (m : Int) ≤ 255 := by omega
          have LV := Lib.hid (show ∀ W, W = w2.drew → (convert 5 3 (.int .u8 (m : Int))).run Try.prog W = .ok (.int .i64 (m : Int)) W from fun W _ => by
            go_simp
            rw [IntKind.wrap_i64] <;> omega)
          obtain ⟨q, hq⟩ : ∃ q : Nat, m / 2 ^ x = q := ⟨_, rfl⟩
          have HqI := Lib.hid (show (m : Int) / 2 ^ x = q from by rw [← hq]; simp)
          have HqM := Lib.hid (show hasM m x = decide (q % 2 = 1) from by unfold hasM; rw [hq])
          clear hq
          clear p0 p1
          refine wp_region_lex1 (fun W => W = w2.drew) [(0, false), (1, false), (2, false), (3, false), (4, false), (5, false), (6, false), (7, false), (8, false), (9, false), (10, false), (11, false), (12, false), (13, false), (14, false)] (by kernel_rfl) (by kernel_rfl) rfl (by kernel_rfl) rfl ?_
          intro V0 hV0 hS0
          have HV0 := Lib.hid hV0
          clear hV0 hS0
          refine lexH_yieldE rfl rfl ?_
          apply Exists.intro
          refine ⟨fun W hW => ?_, ?_⟩
          focus (go_simp; exact rfl)
          simp only [List.getElem_toArray, List.getElem_cons_zero, Act.put, List.setIfInBounds_toArray, List.set_cons_zero, List.set_cons_succ]
          refine lexH_load rfl rfl _ _ rfl rfl Lk.out ?_
          simp only [List.getElem_toArray, List.getElem_cons_succ, List.getElem_cons_zero, Act.put, List.setIfInBounds_toArray, List.set_cons_zero, List.set_cons_succ]
          by_cases h3 : k = 3
          · have h3b : ((k : Int) == 3) = true := by simp; omega
            refine lexH_yieldE rfl rfl ?_
            apply Exists.intro
            refine ⟨fun W hW => ?_, ?_⟩
            focus (go_simp; exact rfl)
            simp only [List.getElem_toArray, List.getElem_cons_succ, List.getElem_cons_zero, Act.put, List.setIfInBounds_toArray, List.set_cons_zero, List.set_cons_succ]
            refine lexH_yieldE rfl rfl ?_
            apply Exists.intro
            refine ⟨fun W hW => ?_, ?_⟩
            focus (go_simp; exact rfl)
            simp only [List.getElem_toArray, List.getElem_cons_succ, List.getElem_cons_zero, Act.put, List.setIfInBounds_toArray, List.set_cons_zero, List.set_cons_succ]
            refine lexH_yieldE rfl rfl ?_
            apply Exists.intro
            refine ⟨fun W hW => ?_, ?_⟩
            focus (go_simp; exact rfl)
            simp only [List.getElem_toArray, List.getElem_cons_succ, List.getElem_cons_zero, Act.put, List.setIfInBounds_toArray, List.set_cons_zero, List.set_cons_succ]
            refine lexH_load rfl rfl _ _ rfl rfl Lm.out ?_
            simp only [List.getElem_toArray, List.getElem_cons_succ, List.getElem_cons_zero, Act.put, List.setIfInBounds_toArray, List.set_cons_zero, List.set_cons_succ]
            refine lexH_conv rfl rfl _ _ _ rfl rfl LV.out ?_
            simp only [List.getElem_toArray, List.getElem_cons_succ, List.getElem_cons_zero, Act.put, List.setIfInBounds_toArray, List.set_cons_zero, List.set_cons_succ]
            refine lexH_yieldE rfl rfl ?_
            apply Exists.intro
            refine ⟨fun W hW => ?_, ?_⟩
            focus (go_simp; exact rfl)
            simp only [List.getElem_toArray, List.getElem_cons_succ, List.getElem_cons_zero, Act.put, List.setIfInBounds_toArray, List.set_cons_zero, List.set_cons_succ]
            refine lexH_yieldE rfl rfl ?_
            apply Exists.intro
            refine ⟨fun W hW => ?_, ?_⟩
            focus (go_simp; exact rfl)
            simp only [List.getElem_toArray, List.getElem_cons_succ, List.getElem_cons_zero, Act.put, List.setIfInBounds_toArray, List.set_cons_zero, List.set_cons_succ]
            refine lexH_yieldE rfl rfl ?_
            apply Exists.intro
            refine ⟨fun W hW => ?_, ?_⟩
            focus (go_simp; exact rfl)
            simp only [List.getElem_toArray, List.getElem_cons_succ, List.getElem_cons_zero, Act.put, List.setIfInBounds_toArray, List.set_cons_zero, List.set_cons_succ]
            refine lexH_load rfl rfl _ _ rfl rfl Ly.out ?_
            simp only [List.getElem_toArray, List.getElem_cons_succ, List.getElem_cons_zero, Act.put, List.setIfInBounds_toArray, List.set_cons_zero, List.set_cons_succ]
            refine lexH_yield (v := .int .i64 (q : Int)) rfl rfl (fun W hW => ?_) ?_
            focus (go_simp; rw [HqI.out])
            simp only [List.getElem_toArray, List.getElem_cons_succ, List.getElem_cons_zero, Act.put, List.setIfInBounds_toArray, List.set_cons_zero, List.set_cons_succ]
            by_cases hq1 : q % 2 = 1
            · have hq2 : (q : Int) % 2 = 1 := by omega
              refine lexH_yield (v := .int .i64 1) rfl rfl (fun W hW => ?_) ?_
              focus (go_simp; rw [Int.tmod_eq_emod_of_nonneg (by omega), hq2])
              simp only [List.getElem_toArray, List.getElem_cons_succ, List.getElem_cons_zero, Act.put, List.setIfInBounds_toArray, List.set_cons_zero, List.set_cons_succ]
              refine lexH_yieldE rfl rfl ?_
              apply Exists.intro
              refine ⟨fun W hW => ?_, ?_⟩
              focus (go_simp; exact rfl)
              simp only [List.getElem_toArray, List.getElem_cons_succ, List.getElem_cons_zero, Act.put, List.setIfInBounds_toArray, List.set_cons_zero, List.set_cons_succ]
              refine lexH_yieldE rfl rfl ?_
              apply Exists.intro
              refine ⟨fun W hW => ?_, ?_⟩
              focus (go_simp; exact rfl)
              simp only [List.getElem_toArray, List.getElem_cons_succ, List.getElem_cons_zero, Act.put, List.setIfInBounds_toArray, List.set_cons_zero, List.set_cons_succ]
              refine lexH_nil ?_
              clear Lk Lm Ly LV
              have hV1 := HV0.out
              subst hV1
              go_wp2_with (fail)
              subst h3
              go_roundw
              case rel => exact ⟨i + 1, last, by go_num, hlt, rfl, Lib.hid (fun y hy hu => HI.out y (by rw [HDR.out]; exact List.mem_cons_of_mem _ hy) hu), Lib.hid (HC2.out.later (Below.refl _ _).drew), Lib.hid (HL2.out.later (Below.refl _ _).drew)⟩
              case measure => simp [intOf]; omega
            · have hq2 : (q : Int) % 2 = 0 := by omega
              refine lexH_yield (v := .int .i64 0) rfl rfl (fun W hW => ?_) ?_
              focus (go_simp; rw [Int.tmod_eq_emod_of_nonneg (by omega), hq2])
              simp only [List.getElem_toArray, List.getElem_cons_succ, List.getElem_cons_zero, Act.put, List.setIfInBounds_toArray, List.set_cons_zero, List.set_cons_succ]
              refine lexH_yieldE rfl rfl ?_
              apply Exists.intro
              refine ⟨fun W hW => ?_, ?_⟩
              focus (go_simp; exact rfl)
              simp only [List.getElem_toArray, List.getElem_cons_succ, List.getElem_cons_zero, Act.put, List.setIfInBounds_toArray, List.set_cons_zero, List.set_cons_succ]
              refine lexH_yieldE rfl rfl ?_
              apply Exists.intro
              refine ⟨fun W hW => ?_, ?_⟩
              focus (go_simp; exact rfl)
              simp only [List.getElem_toArray, List.getElem_cons_succ, List.getElem_cons_zero, Act.put, List.setIfInBounds_toArray, List.set_cons_zero, List.set_cons_succ]
              refine lexH_nil ?_
              clear Lk Lm Ly LV
              have hV1 := HV0.out
              subst hV1
              have hNM : ¬ hasM m x = true := by rw [HqM.out]; simp; omega
              have hDl : ¬ D < last := by have := HIn.out (fun h => hNM h.2); omega
              have hDd : decide (D < last) = false := decide_eq_false hDl
              clear h3 h3b
              go_wp2_with (fail)
              go_quiet (fail)
              go_wp2_with (fail)
              go_quiet (fail)
              go_wp2_with (fail)
              go_roundw
              case rel => exact ⟨i + 1, D, by go_num, hlt, rfl, Lib.hid (fun y hy hu => by rw [HDE.out]; exact HPW.out y hy (fun h => hNM h.2) hu), Lib.hid (HC2.out.later (below_drewN (Below.refl _ _) _)), Lib.hid (HL2.out.later (below_drewN (Below.refl _ _) _))⟩
              case measure => simp [intOf]; omega
          · have h3b : ((k : Int) == 3) = false := by simp; omega
            refine lexH_yieldE rfl rfl ?_
            apply Exists.intro
            refine ⟨fun W hW => ?_, ?_⟩
            focus (go_simp; exact rfl)
            simp only [List.getElem_toArray, List.getElem_cons_succ, List.getElem_cons_zero, Act.put, List.setIfInBounds_toArray, List.set_cons_zero, List.set_cons_succ]
            refine lexH_yieldE rfl rfl ?_
            apply Exists.intro
            refine ⟨fun W hW => ?_, ?_⟩
            focus (go_simp; exact rfl)
            simp only [List.getElem_toArray, List.getElem_cons_succ, List.getElem_cons_zero, Act.put, List.setIfInBounds_toArray, List.set_cons_zero, List.set_cons_succ]
            refine lexH_skip rfl rfl ?_
            simp only [List.getElem_toArray, List.getElem_cons_succ, List.getElem_cons_zero, Act.put, List.setIfInBounds_toArray, List.set_cons_zero, List.set_cons_succ]
            refine lexH_skip rfl rfl ?_
            simp only [List.getElem_toArray, List.getElem_cons_succ, List.getElem_cons_zero, Act.put, List.setIfInBounds_toArray, List.set_cons_zero, List.set_cons_succ]
            refine lexH_skip rfl rfl ?_
            simp only [List.getElem_toArray, List.getElem_cons_succ, List.getElem_cons_zero, Act.put, List.setIfInBounds_toArray, List.set_cons_zero, List.set_cons_succ]
            refine lexH_skip rfl rfl ?_
            simp only [List.getElem_toArray, List.getElem_cons_succ, List.getElem_cons_zero, Act.put, List.setIfInBounds_toArray, List.set_cons_zero, List.set_cons_succ]
            refine lexH_skip rfl rfl ?_
            simp only [List.getElem_toArray, List.getElem_cons_succ, List.getElem_cons_zero, Act.put, List.setIfInBounds_toArray, List.set_cons_zero, List.set_cons_succ]
            refine lexH_skip rfl rfl ?_
            simp only [List.getElem_toArray, List.getElem_cons_succ, List.getElem_cons_zero, Act.put, List.setIfInBounds_toArray, List.set_cons_zero, List.set_cons_succ]
            refine lexH_skip rfl rfl ?_
            simp only [List.getElem_toArray, List.getElem_cons_succ, List.getElem_cons_zero, Act.put, List.setIfInBounds_toArray, List.set_cons_zero, List.set_cons_succ]
            refine lexH_skip rfl rfl ?_
            simp only [List.getElem_toArray, List.getElem_cons_succ, List.getElem_cons_zero, Act.put, List.setIfInBounds_toArray, List.set_cons_zero, List.set_cons_succ]
            refine lexH_skip rfl rfl ?_
            simp only [List.getElem_toArray, List.getElem_cons_succ, List.getElem_cons_zero, Act.put, List.setIfInBounds_toArray, List.set_cons_zero, List.set_cons_succ]
            refine lexH_skip rfl rfl ?_
            simp only [List.getElem_toArray, List.getElem_cons_succ, List.getElem_cons_zero, Act.put, List.setIfInBounds_toArray, List.set_cons_zero, List.set_cons_succ]
            refine lexH_yieldE rfl rfl ?_
            apply Exists.intro
            refine ⟨fun W hW => ?_, ?_⟩
            focus (go_simp; exact rfl)
            simp only [List.getElem_toArray, List.getElem_cons_succ, List.getElem_cons_zero, Act.put, List.setIfInBounds_toArray, List.set_cons_zero, List.set_cons_succ]
            refine lexH_nil ?_
            clear Lk Lm Ly
            have hV1 := HV0.out
            subst hV1
            have hDl : ¬ D < last := by have := HIn.out (fun h => h3 h.1); omega
            have hDd : decide (D < last) = false := decide_eq_false hDl
            go_wp2_with (fail)
            go_quiet (fail)
            go_wp2_with (fail)
            go_quiet (fail)
            go_wp2_with (fail)
            go_roundw
            case rel => exact ⟨i + 1, D, by go_num, hlt, rfl, Lib.hid (fun y hy hu => by rw [HDE.out]; exact HPW.out y hy (fun h => h3 h.1) hu), Lib.hid (HC2.out.later (below_drewN (Below.refl _ _) _)), Lib.hid (HL2.out.later (below_drewN (Below.refl _ _) _))⟩
            case measure => simp [intOf]; omega
        · obtain rfl : i = Q.length := by omega
          go_wp2_with (fail)
          refine (pknown_any ok _).mono ?_
          rintro e W9 ⟨rfl, hb9⟩
          have HB9 := Lib.hid (HC.out.bel.trans (hb9.mono HC.out.bel.size))
          clear hb9
          go_wp2_with (fail)
          go_ret
          exact ⟨rfl, HB9.out⟩
    · have hkb : ((k : Int) == 1) = false := by simp; omega
      have hFe : F = lc := HFN.out h1
      have hF2 : F < N := HFL.out
      have hFNI : ¬ (N : Int) ≤ F := by omega
      have hd2 : decide ((N : Int) ≤ F) = false := decide_eq_false hFNI
      have hd4 : decide (N ≤ F) = false := decide_eq_false (by omega)
      subst hFe
      go_wp2_with (fail)
      clear c0 p0
      go_loopw [12, 54] (fun lv iv wr => ∃ (i : Nat) (last : Int), iv = .int .i64 i ∧ i ≤ Q.length ∧ lv = .int .i64 last ∧ Hid (∀ x ∈ Q.drop i, Uk k m x → last ≤ dsN g F x) ∧ Hid (CpB w A g k m wr) ∧ Hid (LstAt wr (.slice va Q.length vc) Q)) (fun _ iv _ => Q.length - (intOf iv).toNat)
      case atStart => exact ⟨0, 0, rfl, Nat.zero_le _, rfl, Lib.hid (fun x hx _ => HDN.out x (HLT.out x (List.mem_of_mem_drop hx))), HC2, HL2⟩
      case round =>
        clear HC2 HL2
        obtain ⟨i, last, rfl, hi, rfl, HI, HC, HL⟩ := hrel
        have hql := HQL.out
        by_cases hlt : i < Q.length
        · have hltI : (i : Int) < Q.length := by omega
          obtain ⟨x, hx⟩ : ∃ x, Q[i]? = some x := ⟨_, List.getElem?_eq_getElem hlt⟩
          have hxN : x < N := HLT.out x (List.mem_of_getElem? hx)
          have HDR := Lib.hid (show Q.drop i = x :: Q.drop (i + 1) from by
            rw [List.drop_eq_getElem_cons hlt]
            congr 1
            exact Option.some.inj ((List.getElem?_eq_getElem hlt).symm.trans hx))
          have HPW := Lib.hid (show ∀ y ∈ Q.drop (i + 1), Uk k m x → Uk k m y → dsN g F x ≤ dsN g F y from by
            have h := HSO.out.sublist (List.drop_sublist i Q)
            rw [HDR.out] at h
            exact (List.pairwise_cons.1 h).1)
          obtain ⟨a5, c5, e5, hc5⟩ := HL.out
          obtain ⟨b, o, e6, cx⟩ := hc5 i x hx
          rw [e6] at e5
          simp only [Value.slice.injEq] at e5
          obtain ⟨rfl, q1, q2⟩ := e5
          clear q1 q2 e6 hc5 hx
          have cF := HC.out.cfg.cell (26 + F * 8 + x) (by omega)
          have HDE := Lib.hid (show g (26 + F * 8 + x) = dsN g F x from rfl)
          generalize g (26 + F * 8 + x) = D at *
          have c0 := HC.out.cfg.cell 0 (by decide)
          rw [HN.out] at c0
          have p0 := HC.out.k0
          have p1 := HC.out.k1
          rw [hpb] at p0 p1
          have HIn := Lib.hid (show Uk k m x → last ≤ D from fun hu => by rw [HDE.out]; exact HI.out x (by rw [HDR.out]; exact List.mem_cons_self) hu)
          have Lx := Lib.hid (show ∀ W, Kept wr.heap.size wr W → (loadVar 3 ⟨b, o + i, none⟩).run Try.prog W = .ok (.int .i64 (x : Int)) W from fun W hW => run_loadVar_cell (fun _ => by kernel_rfl) (by rw [hW.cell (World.block_lt_of_cell? _ _ cx)]; exact cx))
          have hF8 : (F : Int) < 8 := by omega
          have hx8 : (x : Int) < 8 := by omega
          have hxNI : ¬ (N : Int) ≤ x := by omega
          have hd1 : decide ((N : Int) ≤ x) = false := decide_eq_false hxNI
          have hd3 : decide (N ≤ x) = false := decide_eq_false (by omega)
          go_wp2_with (fail)
          go_quiet (fail)
          go_wp2_with (fail)
          have hbb := below_drewN (Below.refl wr.heap.size wr) nq
          have HC2 := Lib.hid (HC.out.later hbb)
          have HL2 := Lib.hid (HL.out.later hbb)
          rw [← hbb.cell (World.block_lt_of_cell? _ _ p0)] at p0
          rw [← hbb.cell (World.block_lt_of_cell? _ _ p1)] at p1
          rw [← hbb.cell (World.block_lt_of_cell? _ _ cx)] at cx
          rw [← hbb.cell (World.block_lt_of_cell? _ _ cF)] at cF
          clear hbb HC HL Lx c0
          generalize wr.drewN nq = w2 at *
          have Lk := Lib.hid (show ∀ W, W = w2.drew → (loadVar 27 ⟨pb, 0, none⟩).run Try.prog W = .ok (.int .u8 (k : Int)) W from fun W hW => by
            subst hW
            exact run_loadVar_cell (fun _ => by kernel_rfl) p0)
          have Lm := Lib.hid (show ∀ W, W = w2.drew → (loadVar 5 ⟨pb, 1, none⟩).run Try.prog W = .ok (.int .u8 (m : Int)) W from fun W hW => by
            subst hW
            exact run_loadVar_cell (fun _ => by kernel_rfl) p1)
          have Ly := Lib.hid (show ∀ W, W = w2.drew → (loadVar 3 ⟨b, o + i, none⟩).run Try.prog W = .ok (.int .i64 (x : Int)) W from fun W hW => by
            subst hW
            exact run_loadVar_cell (fun _ => by kernel_rfl) cx)
          have hm0 : (0 : Int) ≤ m := by omega
          have hm8 : (m : Int) ≤ 255 := by omega
          have LV := Lib.hid (show ∀ W, W = w2.drew → (convert 5 3 (.int .u8 (m : Int))).run Try.prog W = .ok (.int .i64 (m : Int)) W from fun W _ => by
            go_simp
            rw [IntKind.wrap_i64] <;> omega)
          obtain ⟨q, hq⟩ : ∃ q : Nat, m / 2 ^ x = q := ⟨_, rfl⟩
          have HqI := Lib.hid (show (m : Int) / 2 ^ x = q from by rw [← hq]; simp)
          have HqM := Lib.hid (show hasM m x = decide (q % 2 = 1) from by unfold hasM; rw [hq])
          clear hq
          clear p0 p1
          refine wp_region_lex1 (fun W => W = w2.drew) [(0, false), (1, false), (2, false), (3, false), (4, false), (5, false), (6, false), (7, false), (8, false), (9, false), (10, false), (11, false), (12, false), (13, false), (14, false)] (by kernel_rfl) (by kernel_rfl) rfl (by kernel_rfl) rfl ?_
          intro V0 hV0 hS0
          have HV0 := Lib.hid hV0
          clear hV0 hS0
          refine lexH_yieldE rfl rfl ?_
          apply Exists.intro
          refine ⟨fun W hW => ?_, ?_⟩
          focus (go_simp; exact rfl)
          simp only [List.getElem_toArray, List.getElem_cons_zero, Act.put, List.setIfInBounds_toArray, List.set_cons_zero, List.set_cons_succ]
          refine lexH_load rfl rfl _ _ rfl rfl Lk.out ?_
          simp only [List.getElem_toArray, List.getElem_cons_succ, List.getElem_cons_zero, Act.put, List.setIfInBounds_toArray, List.set_cons_zero, List.set_cons_succ]
          by_cases h3 : k = 3
          · have h3b : ((k : Int) == 3) = true := by simp; omega
            refine lexH_yieldE rfl rfl ?_
            apply Exists.intro
            refine ⟨fun W hW => ?_, ?_⟩
            focus (go_simp; exact rfl)
            simp only [List.getElem_toArray, List.getElem_cons_succ, List.getElem_cons_zero, Act.put, List.setIfInBounds_toArray, List.set_cons_zero, List.set_cons_succ]
            refine lexH_yieldE rfl rfl ?_
            apply Exists.intro
            refine ⟨fun W hW => ?_, ?_⟩
            focus (go_simp; exact rfl)
            simp only [List.getElem_toArray, List.getElem_cons_succ, List.getElem_cons_zero, Act.put, List.setIfInBounds_toArray, List.set_cons_zero, List.set_cons_succ]
            refine lexH_yieldE rfl rfl ?_
            apply Exists.intro
            refine ⟨fun W hW => ?_, ?_⟩
            focus (go_simp; exact rfl)
            simp only [List.getElem_toArray, List.getElem_cons_succ, List.getElem_cons_zero, Act.put, List.setIfInBounds_toArray, List.set_cons_zero, List.set_cons_succ]
            refine lexH_load rfl rfl _ _ rfl rfl Lm.out ?_
            simp only [List.getElem_toArray, List.getElem_cons_succ, List.getElem_cons_zero, Act.put, List.setIfInBounds_toArray, List.set_cons_zero, List.set_cons_succ]
            refine lexH_conv rfl rfl _ _ _ rfl rfl LV.out ?_
            simp only [List.getElem_toArray, List.getElem_cons_succ, List.getElem_cons_zero, Act.put, List.setIfInBounds_toArray, List.set_cons_zero, List.set_cons_succ]
            refine lexH_yieldE rfl rfl ?_
            apply Exists.intro
            refine ⟨fun W hW => ?_, ?_⟩
            focus (go_simp; exact rfl)
            simp only [List.getElem_toArray, List.getElem_cons_succ, List.getElem_cons_zero, Act.put, List.setIfInBounds_toArray, List.set_cons_zero, List.set_cons_succ]
            refine lexH_yieldE rfl rfl ?_
            apply Exists.intro
            refine ⟨fun W hW => ?_, ?_⟩
            focus (go_simp; exact rfl)
            simp only [List.getElem_toArray, List.getElem_cons_succ, List.getElem_cons_zero, Act.put, List.setIfInBounds_toArray, List.set_cons_zero, List.set_cons_succ]
            refine lexH_yieldE rfl rfl ?_
            apply Exists.intro
            refine ⟨fun W hW => ?_, ?_⟩
            focus (go_simp; exact rfl)
            simp only [List.getElem_toArray, List.getElem_cons_succ, List.getElem_cons_zero, Act.put, List.setIfInBounds_toArray, List.set_cons_zero, List.set_cons_succ]
            refine lexH_load rfl rfl _ _ rfl rfl Ly.out ?_
            simp only [List.getElem_toArray, List.getElem_cons_succ, List.getElem_cons_zero, Act.put, List.setIfInBounds_toArray, List.set_cons_zero, List.set_cons_succ]
            refine lexH_yield (v := .int .i64 (q : Int)) rfl rfl (fun W hW => ?_) ?_
            focus (go_simp; rw [HqI.out])
            simp only [List.getElem_toArray, List.getElem_cons_succ, List.getElem_cons_zero, Act.put, List.setIfInBounds_toArray, List.set_cons_zero, List.set_cons_succ]
            by_cases hq1 : q % 2 = 1
            · have hq2 : (q : Int) % 2 = 1 := by omega
              refine lexH_yield (v := .int .i64 1) rfl rfl (fun W hW => ?_) ?_
              focus (go_simp; rw [Int.tmod_eq_emod_of_nonneg (by omega), hq2])
              simp only [List.getElem_toArray, List.getElem_cons_succ, List.getElem_cons_zero, Act.put, List.setIfInBounds_toArray, List.set_cons_zero, List.set_cons_succ]
              refine lexH_yieldE rfl rfl ?_
              apply Exists.intro
              refine ⟨fun W hW => ?_, ?_⟩
              focus (go_simp; exact rfl)
              simp only [List.getElem_toArray, List.getElem_cons_succ, List.getElem_cons_zero, Act.put, List.setIfInBounds_toArray, List.set_cons_zero, List.set_cons_succ]
              refine lexH_yieldE rfl rfl ?_
              apply Exists.intro
              refine ⟨fun W hW => ?_, ?_⟩
              focus (go_simp; exact rfl)
              simp only [List.getElem_toArray, List.getElem_cons_succ, List.getElem_cons_zero, Act.put, List.setIfInBounds_toArray, List.set_cons_zero, List.set_cons_succ]
              refine lexH_nil ?_
              clear Lk Lm Ly LV
              have hV1 := HV0.out
              subst hV1
              go_wp2_with (fail)
              subst h3
              go_roundw
              case rel => exact ⟨i + 1, last, by go_num, hlt, rfl, Lib.hid (fun y hy hu => HI.out y (by rw [HDR.out]; exact List.mem_cons_of_mem _ hy) hu), Lib.hid (HC2.out.later (Below.refl _ _).drew), Lib.hid (HL2.out.later (Below.refl _ _).drew)⟩
              case measure => simp [intOf]; omega
            · have hq2 : (q : Int) % 2 = 0 := by omega
              refine lexH_yield (v := .int .i64 0) rfl rfl (fun W hW => ?_) ?_
              focus (go_simp; rw [Int.tmod_eq_emod_of_nonneg (by omega), hq2])
              simp only [List.getElem_toArray, List.getElem_cons_succ, List.getElem_cons_zero, Act.put, List.setIfInBounds_toArray, List.set_cons_zero, List.set_cons_succ]
              refine lexH_yieldE rfl rfl ?_
              apply Exists.intro
              refine ⟨fun W hW => ?_, ?_⟩
              focus (go_simp; exact rfl)
              simp only [List.getElem_toArray, List.getElem_cons_succ, List.getElem_cons_zero, Act.put, List.setIfInBounds_toArray, List.set_cons_zero, List.set_cons_succ]
              refine lexH_yieldE rfl rfl ?_
              apply Exists.intro
              refine ⟨fun W hW => ?_, ?_⟩
              focus (go_simp; exact rfl)
              simp only [List.getElem_toArray, List.getElem_cons_succ, List.getElem_cons_zero, Act.put, List.setIfInBounds_toArray, List.set_cons_zero, List.set_cons_succ]
              refine lexH_nil ?_
              clear Lk Lm Ly LV
              have hV1 := HV0.out
              subst hV1
              have hNM : ¬ hasM m x = true := by rw [HqM.out]; simp; omega
              have hDl : ¬ D < last := by have := HIn.out (fun h => hNM h.2); omega
              have hDd : decide (D < last) = false := decide_eq_false hDl
              clear h3 h3b
              go_wp2_with (fail)
              go_quiet (fail)
              go_wp2_with (fail)
              go_quiet (fail)
              go_wp2_with (fail)
              go_roundw
              case rel => exact ⟨i + 1, D, by go_num, hlt, rfl, Lib.hid (fun y hy hu => by rw [HDE.out]; exact HPW.out y hy (fun h => hNM h.2) hu), Lib.hid (HC2.out.later (below_drewN (Below.refl _ _) _)), Lib.hid (HL2.out.later (below_drewN (Below.refl _ _) _))⟩
              case measure => simp [intOf]; omega
          · have h3b : ((k : Int) == 3) = false := by simp; omega
            refine lexH_yieldE rfl rfl ?_
            apply Exists.intro
            refine ⟨fun W hW => ?_, ?_⟩
            focus (go_simp; exact rfl)
            simp only [List.getElem_toArray, List.getElem_cons_succ, List.getElem_cons_zero, Act.put, List.setIfInBounds_toArray, List.set_cons_zero, List.set_cons_succ]
            refine lexH_yieldE rfl rfl ?_
            apply Exists.intro
            refine ⟨fun W hW => ?_, ?_⟩
            focus (go_simp; exact rfl)
            simp only [List.getElem_toArray, List.getElem_cons_succ, List.getElem_cons_zero, Act.put, List.setIfInBounds_toArray, List.set_cons_zero, List.set_cons_succ]
            refine lexH_skip rfl rfl ?_
            simp only [List.getElem_toArray, List.getElem_cons_succ, List.getElem_cons_zero, Act.put, List.setIfInBounds_toArray, List.set_cons_zero, List.set_cons_succ]
            refine lexH_skip rfl rfl ?_
            simp only [List.getElem_toArray, List.getElem_cons_succ, List.getElem_cons_zero, Act.put, List.setIfInBounds_toArray, List.set_cons_zero, List.set_cons_succ]
            refine lexH_skip rfl rfl ?_
            simp only [List.getElem_toArray, List.getElem_cons_succ, List.getElem_cons_zero, Act.put, List.setIfInBounds_toArray, List.set_cons_zero, List.set_cons_succ]
            refine lexH_skip rfl rfl ?_
            simp only [List.getElem_toArray, List.getElem_cons_succ, List.getElem_cons_zero, Act.put, List.setIfInBounds_toArray, List.set_cons_zero, List.set_cons_succ]
            refine lexH_skip rfl rfl ?_
            simp only [List.getElem_toArray, List.getElem_cons_succ, List.getElem_cons_zero, Act.put, List.setIfInBounds_toArray, List.set_cons_zero, List.set_cons_succ]
            refine lexH_skip rfl rfl ?_
            simp only [List.getElem_toArray, List.getElem_cons_succ, List.getElem_cons_zero, Act.put, List.setIfInBounds_toArray, List.set_cons_zero, List.set_cons_succ]
            refine lexH_skip rfl rfl ?_
            simp only [List.getElem_toArray, List.getElem_cons_succ, List.getElem_cons_zero, Act.put, List.setIfInBounds_toArray, List.set_cons_zero, List.set_cons_succ]
            refine lexH_skip rfl rfl ?_
            simp only [List.getElem_toArray, List.getElem_cons_succ, List.getElem_cons_zero, Act.put, List.setIfInBounds_toArray, List.set_cons_zero, List.set_cons_succ]
            refine lexH_skip rfl rfl ?_
            simp only [List.getElem_toArray, List.getElem_cons_succ, List.getElem_cons_zero, Act.put, List.setIfInBounds_toArray, List.set_cons_zero, List.set_cons_succ]
            refine lexH_skip rfl rfl ?_
            simp only [List.getElem_toArray, List.getElem_cons_succ, List.getElem_cons_zero, Act.put, List.setIfInBounds_toArray, List.set_cons_zero, List.set_cons_succ]
            refine lexH_yieldE rfl rfl ?_
            apply Exists.intro
            refine ⟨fun W hW => ?_, ?_⟩
            focus (go_simp; exact rfl)
            simp only [List.getElem_toArray, List.getElem_cons_succ, List.getElem_cons_zero, Act.put, List.setIfInBounds_toArray, List.set_cons_zero, List.set_cons_succ]
            refine lexH_nil ?_
            clear Lk Lm Ly
            have hV1 := HV0.out
            subst hV1
            have hDl : ¬ D < last := by have := HIn.out (fun h => h3 h.1); omega
            have hDd : decide (D < last) = false := decide_eq_false hDl
            go_wp2_with (fail)
            go_quiet (fail)
            go_wp2_with (fail)
            go_quiet (fail)
            go_wp2_with (fail)
            go_roundw
            case rel => exact ⟨i + 1, D, by go_num, hlt, rfl, Lib.hid (fun y hy hu => by rw [HDE.out]; exact HPW.out y hy (fun h => h3 h.1) hu), Lib.hid (HC2.out.later (below_drewN (Below.refl _ _) _)), Lib.hid (HL2.out.later (below_drewN (Below.refl _ _) _))⟩
            case measure => simp [intOf]; omega
        · obtain rfl : i = Q.length := by omega
          go_wp2_with (fail)
          refine (pknown_any ok _).mono ?_
          rintro e W9 ⟨rfl, hb9⟩
          have HB9 := Lib.hid (HC.out.bel.trans (hb9.mono HC.out.bel.size))
          clear hb9
          go_wp2_with (fail)
          go_ret
          exact ⟨rfl, HB9.out⟩
  · have hne : (ordE g k m loc page != 0) = true := by simp [he]
    generalize ordE g k m loc page = E at *
    go_enter Try.func5, Try.ntmps5
    go_wp2_with (first | refine wpList_load_cfg rfl _ rfl _ rfl C0 ?_ | fail)
    generalize (w.alloc (.cells A 26)).alloc (.cells #[.int .u8 (k : Int), .int .u8 (m : Int)] 29) = wb at *
    refine (HOR.out _).mono ?_
    rintro e W1 ⟨v, rfl, hL, hb1⟩
    have HB1 := Lib.hid (HC0.out.bel.trans (hb1.mono HC0.out.bel.size))
    clear hL hb1
    go_wp2_with (fail)
    refine (pknown_any ok _).mono ?_
    rintro e W9 ⟨rfl, hb9⟩
    have HB9 := Lib.hid (HB1.out.trans (hb9.mono HB1.out.size))
    clear hb9
    go_wp2_with (fail)
    go_ret
    exact ⟨rfl, HB9.out⟩
end
end Go.Proofs.Ytcbdmdalijhkoaa

