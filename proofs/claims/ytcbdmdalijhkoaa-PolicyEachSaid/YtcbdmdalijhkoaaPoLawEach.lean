/-
  The walk of PolicyEach, for whatever policy.
-/
import Derived.Test.YtcbdmdalijhkoaaPoLawNear
import Derived.Test.YtcbdmdalijhkoaaPoEachP
import Derived.Test.YtcbdmdalijhkoaaShl
namespace Go.Proofs.Ytcbdmdalijhkoaa
open Go.RowKit Go
attribute [local go_sem] Oper.semAt_some

theorem CfgAt.only {S : Nat → Prop} {w w' : World} {b : Nat} {A : Array Value} {g : Nat → Int} (C : CfgAt w b A g) (h : Only S w w') (hs : ¬ S b) : CfgAt w' b A g := ⟨C.cfg, (h.block b C.lt hs).trans C.block⟩
/-- The boxes, the order, and numbers that are counted. -/
structure EaAt (w : World) (A : Array Value) (g : Nat → Int) (k m : Nat) (va : Option Addr) (vc : Nat) (Q : List Nat) (sb : Nat) (f : Nat → Nat) (W : World) : Prop where
  cp : CpB w A g k m W
  l : LstAt W (.slice va Q.length vc) Q
  row : RowAt W sb 8 (fun x => .int .i64 ((f x : Nat) : Int))
  hs : w.heap.size + 1 < sb
  ls : 0 < Q.length → ∀ p, va = some p → p.block < sb
theorem EaAt.later {w W W' : World} {A : Array Value} {g : Nat → Int} {k m : Nat} {va : Option Addr} {vc : Nat} {Q : List Nat} {sb : Nat} {f : Nat → Nat} (h : EaAt w A g k m va vc Q sb f W) (hb : Below W.heap.size W W') : EaAt w A g k m va vc Q sb f W' :=
  ⟨h.cp.later hb, h.l.later hb, h.row.later hb, h.hs, h.ls⟩
theorem EaAt.ext {w W : World} {A : Array Value} {g : Nat → Int} {k m : Nat} {va : Option Addr} {vc : Nat} {Q : List Nat} {sb : Nat} {f f' : Nat → Nat} (h : EaAt w A g k m va vc Q sb f W) (e : ∀ x, x < 8 → f x = f' x) : EaAt w A g k m va vc Q sb f' W :=
  ⟨h.cp, h.l, h.row.ext (fun i hi => by simp only [e i hi]), h.hs, h.ls⟩
theorem EaAt.set {w W : World} {A : Array Value} {g : Nat → Int} {k m : Nat} {va : Option Addr} {vc : Nat} {Q : List Nat} {sb : Nat} {f : Nat → Nat} (h : EaAt w A g k m va vc Q sb f W) (x v : Nat) : EaAt w A g k m va vc Q sb (fun y => if y = x then v else f y) (W.setCell ⟨sb, x, none⟩ (.int .i64 (v : Int))) := by
  have ho : Only (fun b => b = sb) W (W.setCell ⟨sb, x, none⟩ (.int .i64 (v : Int))) := Only.setCell (S := fun b => b = sb) W ⟨sb, x, none⟩ rfl _
  have hs := h.hs
  have c0 := h.cp.k0
  have c1 := h.cp.k1
  refine ⟨⟨h.cp.cfg.only ho (by omega), ho.cell (by omega) c0, ho.cell (by omega) c1, ho.below h.cp.bel h.cp.bel.size (fun b hb => by omega)⟩, ?_, (h.row.setCell x _).ext (fun i hi => by unfold updV; split <;> rfl), hs, h.ls⟩
  obtain ⟨a, c, e, hc⟩ := h.l
  refine ⟨a, c, e, fun i y hi => ?_⟩
  obtain ⟨b, o, e2, h2⟩ := hc i y hi
  refine ⟨b, o, e2, ho.cell ?_ h2⟩
  simp only [Value.slice.injEq] at e
  have hl := List.getElem?_eq_some_iff.1 hi
  obtain ⟨hl, _⟩ := hl
  have := h.ls (by omega) ⟨b, o, none⟩ (e.1.trans e2)
  simp only at this
  omega
theorem EaAt.new {w W : World} {A : Array Value} {g : Nat → Int} {k m : Nat} {va : Option Addr} {vc : Nat} {Q : List Nat} (h : CpB w A g k m W) (hl : LstAt W (.slice va Q.length vc) Q) : EaAt w A g k m va vc Q W.heap.size (fun _ => 0) (W.alloc (.cells #[.int .i64 0, .int .i64 0, .int .i64 0, .int .i64 0, .int .i64 0, .int .i64 0, .int .i64 0, .int .i64 0] 23)) := by
  have hb : Below W.heap.size W (W.alloc (.cells #[.int .i64 0, .int .i64 0, .int .i64 0, .int .i64 0, .int .i64 0, .int .i64 0, .int .i64 0, .int .i64 0] 23)) := (Below.refl _ W).alloc (Nat.le_refl _) _
  have hlt := World.block_lt_of_cell? _ _ h.k1
  refine ⟨h.later hb, hl.later hb, RowAt.new W _ _ 8 _ (fun i hi => ?_), hlt, fun h0 p hp => ?_⟩
  · match i, hi with
    | 0, _ => rfl
    | 1, _ => rfl
    | 2, _ => rfl
    | 3, _ => rfl
    | 4, _ => rfl
    | 5, _ => rfl
    | 6, _ => rfl
    | 7, _ => rfl
    | i + 8, h => exact absurd h (by omega)
  · obtain ⟨a, c, e, hc⟩ := hl
    simp only [Value.slice.injEq] at e
    obtain ⟨b, o, e2, h2⟩ := hc 0 (Q[0]'h0) (List.getElem?_eq_getElem h0)
    have h3 := World.block_lt_of_cell? _ _ h2
    rw [e.1, e2] at hp
    simp only [Option.some.injEq] at hp
    subst hp
    exact h3
theorem bits_val {bl m n : Nat} (hbl : bl ≤ 8) : wrap64 ((bl : Int) + ((m : Int) / 2 ^ n).tmod 2) = ((bl + m / 2 ^ n % 2 : Nat) : Int) := by
  obtain ⟨q, hq⟩ : ∃ q : Nat, m / 2 ^ n = q := ⟨_, rfl⟩
  rw [show (m : Int) / 2 ^ n = (q : Int) from by rw [← hq]; simp, hq, Int.tmod_eq_emod_of_nonneg (by omega)]
  unfold wrap64
  omega
theorem shl_val {F m : Nat} (h : m = 2 ^ F) (hm : m ≤ 255) : IntKind.i64.wrap ((2 : Int) ^ F) = (m : Int) := by
  rw [show ((2 : Int) ^ F) = ((2 ^ F : Nat) : Int) by simp, ← h, IntKind.wrap_i64] <;> omega
section
variable (ok : PoOk)
include ok
set_option maxRecDepth 100000 in
set_option maxHeartbeats 16000000 in
theorem peach_any (A : Array Value) (g : Nat → Int) (k m : Nat) (hk : k ≤ 255) (hm : m ≤ 255) (loc page : Int) (hloc : InZ loc) (hpage : InZ page) (w : World) (hA : Cfg A g) :
    Calls Try.prog 4 #[.agg A, polV k m, .int .i64 loc, .int .i64 page] w fun e w' => e = .returned (.bool true) ∧ Below w.heap.size w w' := by
  have HC0 := Lib.hid (cpb_new w hA k m)
  have HA := Lib.hid hA
  have HOR := Lib.hid (fun W => ok.order W A g k m loc page hA hk hm hloc hpage)
  clear hA
  have C0 := HC0.out.cfg
  have p0 := HC0.out.k0
  have p1 := HC0.out.k1
  by_cases he : ordE g k m loc page = 0
  · obtain ⟨hM, hp0, hl0, hlg⟩ := ordE_zero he
    obtain ⟨hmb, hkb⟩ := mayP_may hM
    have HG := Lib.hid ((good_iff g).1 hmb)
    have hg8 := HG.out.n2
    have hk3 := (kindB_pos hkb).1
    obtain ⟨N, hN⟩ : ∃ N : Nat, g 0 = N := ⟨(g 0).toNat, by omega⟩
    obtain ⟨lc, rfl⟩ : ∃ lc : Nat, loc = lc := ⟨loc.toNat, by omega⟩
    obtain ⟨pg, rfl⟩ : ∃ pg : Nat, page = pg := ⟨page.toNat, by omega⟩
    have hn8 : N ≤ 8 := by omega
    have hlc : lc < N := by omega
    have hQs : ∀ p : Nat, ordE g k m lc p = 0 := fun p => by
      unfold ordE
      rw [if_neg (by rw [hM]; simp), if_neg (by omega)]
    have hQ : ∀ p : Nat, ordQ g k m lc p = polL g N k m lc p := fun p => by unfold ordQ; rw [if_pos (hQs p), hN, Int.toNat_natCast, Int.toNat_natCast, Int.toNat_natCast]
    rw [he, hQ] at HOR
    have HMB := Lib.hid (fun W => refmay_any A g W HA.out)
    rw [hmb] at HMB
    have HOS := Lib.hid (fun W (p : Nat) (hp : InZ p) => ok.order W A g k m lc p HA.out hk hm hloc hp)
    simp only [hQs, hQ] at HOS
    have HLT := Lib.hid (fun p : Nat => polL_lt (g := g) (n := N) (k := k) (m := m) (loc := lc) (page := p) hn8)
    have HFL := Lib.hid (fromN_lt hM hN hn8 hlc)
    have HHD := Lib.hid (fun (h : k = 1) => polL_head (loc := lc) (page := pg) hM HG.out hN h)
    have HCN := Lib.hid (fun (x : Nat) (hx : x < N) => polL_count (g := g) (n := N) (k := k) (m := m) (loc := lc) (page := pg) hk3 hn8 hx)
    have HPO := Lib.hid (fun p : Nat => polL_pos (page := p) hM hN hn8 hlc)
    have HIP := Lib.hid (fun (h : k = 3) => in_pos hM hN hn8 h)
    have HIA := Lib.hid (inN_len m N)
    have HN := Lib.hid hN
    have HQL := Lib.hid (show (polL g N k m lc pg).length ≤ 100 from by
      unfold polL
      split
      · rw [nearN_len]; omega
      · split
        · rw [nearN_len]; omega
        · split
          · rw [List.length_append, rotN_len]
            have h1 := inN_len m N
            have h2 := List.length_filter_le (fun x => !hasM m x) (nearN g lc N)
            rw [nearN_len] at h2
            omega
          · have h2 := List.length_filter_le (hasM m) (nearN g lc N)
            rw [nearN_len] at h2
            omega)
    have HMF := Lib.hid (show k = 1 → m = 2 ^ fromN k m N lc from fun h => by
      have h2 := hM
      unfold mayP at h2
      simp only [Bool.and_eq_true] at h2
      have hi := inN_all (mask := m) hN hn8 h2.2.1
      have h1 := (kindB_pos hkb).2.1 h
      unfold fromN
      rw [if_pos h, hi]
      exact one_bit ⟨m, by omega⟩ h1)
    by_cases hbig : (1099511627776 : Int) < pg
    · clear hM hmb hkb hN hQs hQ he hp0 hl0 hlg hg8
      go_enter Try.func4, Try.ntmps4
      go_wp2_with (first | refine wpList_load_cfg rfl _ rfl _ rfl C0 ?_ | fail)
      generalize (w.alloc (.cells A 26)).alloc (.cells #[.int .u8 (k : Int), .int .u8 (m : Int)] 29) = wb at *
      generalize hpb : w.heap.size + 1 = pb at *
      refine (HOR.out _).mono ?_
      rintro e W1 ⟨v, rfl, hL, hb1⟩
      have HL1 := Lib.hid hL
      have HC1 := Lib.hid (HC0.out.later hb1)
      obtain ⟨va, vc, rfl, _⟩ := hL
      clear hb1 C0 p0 p1 HC0 HOR
      have C0 := HC1.out.cfg
      go_wp2_with (first | refine wpList_load_cfg rfl _ rfl _ rfl C0 ?_ | fail)
      refine (HMB.out _).mono ?_
      rintro e W2 ⟨rfl, hb2⟩
      have HL2 := Lib.hid (HL1.out.later hb2)
      have HC2 := Lib.hid (HC1.out.later hb2)
      clear hb2 C0 HL1 HC1 HMB
      have HB2 := Lib.hid HC2.out.bel
      clear HL2 HC2
      go_wp2_with (fail)
      refine (pknown_any ok _).mono ?_
      rintro e W9 ⟨rfl, hb9⟩
      have HB9 := Lib.hid (HB2.out.trans (hb9.mono HB2.out.size))
      clear hb9
      go_wp2_with (fail)
      go_ret
      exact ⟨rfl, HB9.out⟩
    · clear hM hmb hkb hN hQs hQ he hp0 hl0 hlg hg8
      go_enter Try.func4, Try.ntmps4
      go_wp2_with (first | refine wpList_load_cfg rfl _ rfl _ rfl C0 ?_ | fail)
      generalize (w.alloc (.cells A 26)).alloc (.cells #[.int .u8 (k : Int), .int .u8 (m : Int)] 29) = wb at *
      generalize hpb : w.heap.size + 1 = pb at *
      refine (HOR.out _).mono ?_
      rintro e W1 ⟨v, rfl, hL, hb1⟩
      have HL1 := Lib.hid hL
      have HC1 := Lib.hid (HC0.out.later hb1)
      obtain ⟨va, vc, rfl, _⟩ := hL
      clear hb1 C0 p0 p1 HC0 HOR
      have C0 := HC1.out.cfg
      go_wp2_with (first | refine wpList_load_cfg rfl _ rfl _ rfl C0 ?_ | fail)
      refine (HMB.out _).mono ?_
      rintro e W2 ⟨rfl, hb2⟩
      have HL2 := Lib.hid (HL1.out.later hb2)
      have HC2 := Lib.hid (HC1.out.later hb2)
      clear hb2 C0 HL1 HC1 HMB
      have HE2 := Lib.hid (EaAt.new HC2.out HL2.out)
      clear HC2 HL2
      go_wp2_with (fail)
      generalize W2.alloc (.cells #[.int .i64 0, .int .i64 0, .int .i64 0, .int .i64 0, .int .i64 0, .int .i64 0, .int .i64 0, .int .i64 0] 23) = w3 at *
      generalize W2.heap.size = sb at *
      generalize hQe : polL g N k m lc pg = Q at *
      have HQe := Lib.hid hQe
      clear hQe
      go_loopw [45] (fun iv wr => ∃ i : Nat, iv = .int .i64 i ∧ i ≤ Q.length ∧ Hid (EaAt w A g k m va vc Q sb (fun y => (Q.take i).count y) wr)) (fun iv _ => Q.length - (intOf iv).toNat)
      case atStart => exact ⟨0, rfl, Nat.zero_le _, HE2⟩
      case round =>
        clear HE2
        obtain ⟨i, rfl, hi, HE⟩ := hrel
        have hql := HQL.out
        by_cases hlt : i < Q.length
        · have hltI : (i : Int) < Q.length := by omega
          obtain ⟨x, hx⟩ : ∃ x, Q[i]? = some x := ⟨_, List.getElem?_eq_getElem hlt⟩
          have hxN : x < N := HLT.out pg x (by rw [HQe.out]; exact List.mem_of_getElem? hx)
          have HCT := Lib.hid (fun y => count_take hx y)
          have hcl : (Q.take i).count x ≤ 100 := Nat.le_trans List.count_le_length (by rw [List.length_take]; omega)
          obtain ⟨a5, c5, e5, hc5⟩ := HE.out.l
          obtain ⟨b, o, e6, cx⟩ := hc5 i x hx
          rw [e6] at e5
          simp only [Value.slice.injEq] at e5
          obtain ⟨rfl, q1, q2⟩ := e5
          clear q1 q2 e6 hc5 hx
          have c0 := HE.out.cp.cfg.cell 0 (by decide)
          rw [HN.out] at c0
          have cs := HE.out.row.cell x (by omega)
          have fs := HE.out.row.frozen x
          generalize hcc : (Q.take i).count x = cc at *
          have HCC := Lib.hid hcc
          clear hcc
          have hcI : (cc : Int) ≤ 100 := by omega
          have hx8 : (x : Int) < 8 := by omega
          have hxNI : ¬ (N : Int) ≤ x := by omega
          have hd1 : decide ((N : Int) ≤ x) = false := decide_eq_false hxNI
          have hd3 : decide (N ≤ x) = false := decide_eq_false (by omega)
          go_wp2_with (fail)
          go_quiet (fail)
          go_wp2_with (fail)
          refine ⟨⟨i + 1, by go_num, hlt, Lib.hid ?_⟩, by simp [intOf]; omega⟩
          have h := ((HE.out.later (below_drewN (Below.refl _ wr) nq)).set x (cc + 1)).ext (f' := fun y => (Q.take (i + 1)).count y) (fun y hy => by
            rw [HCT.out y]
            by_cases e : y = x
            · subst e; rw [if_pos rfl, if_pos rfl, HCC.out]
            · rw [if_neg e, if_neg e]; rfl)
          rw [show ((cc : Int) + 1) = ((cc + 1 : Nat) : Int) by omega]
          exact h
        · obtain rfl : i = Q.length := by omega
          rw [List.take_length] at HE
          clear hlt hi
          have c0 := HE.out.cp.cfg.cell 0 (by decide)
          rw [HN.out] at c0
          go_wp2_with (fail)
          clear c0
          go_loopw [13, 73] (fun bv iv wr => ∃ n : Nat, iv = .int .i64 n ∧ n ≤ N ∧ bv = .int .i64 ((inN m n).length : Int) ∧ Hid (EaAt w A g k m va vc Q sb (fun y => Q.count y) wr)) (fun _ iv _ => N - (intOf iv).toNat)
          case atStart => exact ⟨0, rfl, Nat.zero_le _, rfl, HE⟩
          case round =>
            clear HE
            obtain ⟨n, rfl, hn, rfl, HE⟩ := hrel
            by_cases hlt : n < N
            · have hltI : (n : Int) < N := by omega
              have hn8 : (n : Int) < 8 := by omega
              have p0 := HE.out.cp.k0
              have p1 := HE.out.cp.k1
              rw [hpb] at p0 p1
              have HAL := Lib.hid (fun W => ok.allowed W k m n hk hm ⟨by omega, by omega⟩)
              have hcn := HCN.out n hlt
              have hbl := inN_len m n
              have HBT := Lib.hid (inN_bits m n)
              generalize (inN m n).length = bl at *
              have hblI : (bl : Int) ≤ 8 := by omega
              go_wp2_with (fail)
              refine (HAL.out _).mono ?_
              rintro e W4 ⟨rfl, hb4⟩
              have HE4 := Lib.hid (HE.out.later hb4)
              clear p0 p1 HE hb4
              have p1 := HE4.out.cp.k1
              rw [hpb] at p1
              have cs := HE4.out.row.cell n (by omega)
              have hm0 : (0 : Int) ≤ m := by omega
              have hm8 : (m : Int) ≤ 255 := by omega
              cases hal : allowP k m n with
              | true =>
                rw [hal] at hcn
                simp only [if_true] at hcn
                rw [hcn] at cs
                clear hcn hal
                go_wp2_with (fail)
                exact ⟨⟨n + 1, by go_num, hlt, by rw [HBT.out, bits_val (by omega)], HE4⟩, by simp [intOf]; omega⟩
              | false =>
                rw [hal, if_neg (by decide)] at hcn
                rw [hcn] at cs
                clear hcn hal
                go_wp2_with (fail)
                exact ⟨⟨n + 1, by go_num, hlt, by rw [HBT.out, bits_val (by omega)], HE4⟩, by simp [intOf]; omega⟩
            · obtain rfl : N = n := by omega
              clear hlt hn
              have hq0 := HPO.out pg
              rw [HQe.out] at hq0
              have hql := HQL.out
              have hqI : (0 : Int) < (Q.length : Int) := by omega
              have hqe : ¬ Q.length = 0 := by omega
              have hqb : ((Q.length : Int) == 0) = false := by rw [beq_eq_false_iff_ne]; omega
              have p0 := HE.out.cp.k0
              rw [hpb] at p0
              by_cases h1 : k = 1
              · have k1 : ((k : Int) == 1) = true := by simp; omega
                have p1 := HE.out.cp.k1
                rw [hpb] at p1
                obtain ⟨R, hR⟩ := HHD.out h1
                have HMF2 := Lib.hid (HMF.out h1)
                have hF2 := HFL.out
                generalize fromN k m N lc = F at *
                obtain ⟨a5, c5, e5, hc5⟩ := HE.out.l
                obtain ⟨b, o, e6, cx⟩ := hc5 0 F (by rw [hR]; rfl)
                rw [e6] at e5
                simp only [Value.slice.injEq] at e5
                obtain ⟨rfl, q1, q2⟩ := e5
                rw [Nat.add_zero] at cx
                clear q1 q2 e6 hc5 hR
                have hm0 : (0 : Int) ≤ m := by omega
                have hm8 : (m : Int) ≤ 255 := by omega
                have Lm := Lib.hid (show ∀ W, Kept wr.heap.size wr W → (loadVar 5 ⟨pb, 1, none⟩).run Try.prog W = .ok (.int .u8 (m : Int)) W from fun W hW => run_loadVar_cell (fun _ => by kernel_rfl) (by rw [hW.cell (World.block_lt_of_cell? _ _ p1)]; exact p1))
                have Ly := Lib.hid (show ∀ W, Kept wr.heap.size wr W → (loadVar 3 ⟨b, o, none⟩).run Try.prog W = .ok (.int .i64 (F : Int)) W from fun W hW => run_loadVar_cell (fun _ => by kernel_rfl) (by rw [hW.cell (World.block_lt_of_cell? _ _ cx)]; exact cx))
                have LV := Lib.hid (show ∀ W, Kept wr.heap.size wr W → (convert 5 3 (.int .u8 (m : Int))).run Try.prog W = .ok (.int .i64 (m : Int)) W from fun W _ => by
                  go_simp
                  rw [IntKind.wrap_i64] <;> omega)
                clear p1 cx h1
                have HB2 := Lib.hid HE.out.cp.bel
                have hF10 : F ≤ 10 := by omega
                go_wp2_with (fail)
                clear k1 p0
                refine wp_region_lex (Kept wr.heap.size wr) [(0, false), (1, false), (2, false), (3, false), (4, false), (5, false), (6, false), (7, false), (8, false), (9, true), (10, false), (11, false)] (by kernel_rfl) (by kernel_rfl) rfl (by kernel_rfl) (Below.refl _ wr).drew ?_
                intro W0 hK0
                have HK0 := Lib.hid hK0
                clear hK0
                refine lexH_yieldE rfl rfl ?_
                apply Exists.intro
                refine ⟨fun W hW => ?_, ?_⟩
                focus (go_simp; exact rfl)
                simp only [List.getElem_toArray, List.getElem_cons_zero, Act.put, List.setIfInBounds_toArray, List.set_cons_zero, List.set_cons_succ]
                refine lexH_load rfl rfl _ _ rfl rfl Lm.out ?_
                simp only [List.getElem_toArray, List.getElem_cons_succ, List.getElem_cons_zero, Act.put, List.setIfInBounds_toArray, List.set_cons_zero, List.set_cons_succ]
                refine lexH_conv rfl rfl _ _ _ rfl rfl LV.out ?_
                simp only [List.getElem_toArray, List.getElem_cons_succ, List.getElem_cons_zero, Act.put, List.setIfInBounds_toArray, List.set_cons_zero, List.set_cons_succ]
                refine lexH_yieldE rfl rfl ?_
                apply Exists.intro
                refine ⟨fun W hW => ?_, ?_⟩
                focus (go_simp; exact rfl)
                simp only [List.getElem_toArray, List.getElem_cons_succ, List.getElem_cons_zero, Act.put, List.setIfInBounds_toArray, List.set_cons_zero, List.set_cons_succ]
                refine lexH_yieldE rfl rfl ?_
                apply Exists.intro
                refine ⟨fun W hW => ?_, ?_⟩
                focus (go_simp; exact rfl)
                simp only [List.getElem_toArray, List.getElem_cons_succ, List.getElem_cons_zero, Act.put, List.setIfInBounds_toArray, List.set_cons_zero, List.set_cons_succ]
                refine lexH_load rfl rfl _ _ rfl rfl Ly.out ?_
                simp only [List.getElem_toArray, List.getElem_cons_succ, List.getElem_cons_zero, Act.put, List.setIfInBounds_toArray, List.set_cons_zero, List.set_cons_succ]
                refine lexH_yield (v := .int .i64 (m : Int)) rfl rfl (fun W hW => ?_) ?_
                focus (go_simp; rw [shl_val HMF2.out hm])
                simp only [List.getElem_toArray, List.getElem_cons_succ, List.getElem_cons_zero, Act.put, List.setIfInBounds_toArray, List.set_cons_zero, List.set_cons_succ]
                refine lexH_yieldE rfl rfl ?_
                apply Exists.intro
                refine ⟨fun W hW => ?_, ?_⟩
                focus (go_simp; exact rfl)
                simp only [List.getElem_toArray, List.getElem_cons_succ, List.getElem_cons_zero, Act.put, List.setIfInBounds_toArray, List.set_cons_zero, List.set_cons_succ]
                refine lexH_yieldE rfl rfl ?_
                apply Exists.intro
                refine ⟨fun W hW => ?_, ?_⟩
                focus (go_simp; exact rfl)
                simp only [List.getElem_toArray, List.getElem_cons_succ, List.getElem_cons_zero, Act.put, List.setIfInBounds_toArray, List.set_cons_zero, List.set_cons_succ]
                refine lexH_call 11 #[] rfl rfl ?_ ?_
                focus (go_simp; done)
                refine (pknown_any ok _).mono ?_
                rintro e W9 ⟨rfl, hb9⟩
                have HK9 := Lib.hid (HK0.out.call (Nat.le_refl _) hb9)
                refine ⟨_, rfl, HK9.out, ?_⟩
                clear hb9 HK0
                simp only [List.getElem_toArray, List.getElem_cons_succ, List.getElem_cons_zero, Act.put, List.setIfInBounds_toArray, List.set_cons_zero, List.set_cons_succ]
                refine lexH_yieldE rfl rfl ?_
                apply Exists.intro
                refine ⟨fun W hW => ?_, ?_⟩
                focus (go_simp; exact rfl)
                simp only [List.getElem_toArray, List.getElem_cons_succ, List.getElem_cons_zero, Act.put, List.setIfInBounds_toArray, List.set_cons_zero, List.set_cons_succ]
                refine lexH_yieldE rfl rfl ?_
                apply Exists.intro
                refine ⟨fun W hW => ?_, ?_⟩
                focus (go_simp; exact rfl)
                simp only [List.getElem_toArray, List.getElem_cons_succ, List.getElem_cons_zero, Act.put, List.setIfInBounds_toArray, List.set_cons_zero, List.set_cons_succ]
                refine lexH_nil ?_
                have HB9 := Lib.hid (HB2.out.trans (HK9.out.below.mono HB2.out.size))
                clear Lm Ly LV HK9
                go_wp2_with (fail)
                go_ret
                exact ⟨rfl, HB9.out⟩
              · have k1 : ((k : Int) == 1) = false := by simp; omega
                by_cases h3 : k = 3
                · have k3 : ((k : Int) == 3) = true := by simp; omega
                  have hI3 := HIP.out h3
                  have HF3 := Lib.hid (fun p : Nat => polL_first (g := g) (n := N) (m := m) (loc := lc) (page := p) h3 hI3)
                  have HT3 := Lib.hid (polL_turn (g := g) (n := N) (m := m) (loc := lc) (page := pg) h3)
                  have HH3 := Lib.hid (hdsN_succ m N pg)
                  have HC3 := Lib.hid (fun (x : Nat) (hx : x < N) => hdsN_count (m := m) (page := pg) hx)
                  have hbl8 := inN_len m N
                  have HE5 := Lib.hid (EaAt.new HE.out.cp HE.out.l)
                  have HD0 := Lib.hid (show hdsN m N pg 0 = [] from rfl)
                  clear HE h1 HIP
                  generalize (inN m N).length = bl at *
                  have hblI : (bl : Int) ≤ 8 := by omega
                  go_wp2_with (fail)
                  clear p0 k1 k3 h3
                  generalize wr.alloc (.cells #[.int .i64 0, .int .i64 0, .int .i64 0, .int .i64 0, .int .i64 0, .int .i64 0, .int .i64 0, .int .i64 0] 23) = w5 at *
                  generalize wr.heap.size = fb at *
                  go_loopw [114] (fun iv wr => ∃ i : Nat, iv = .int .i64 i ∧ i ≤ bl ∧ Hid (EaAt w A g k m va vc Q fb (fun y => (hdsN m N pg i).count y) wr)) (fun iv _ => bl - (intOf iv).toNat)
                  case atStart => exact ⟨0, rfl, Nat.zero_le _, HE5⟩
                  case round =>
                    clear HE5
                    obtain ⟨i, rfl, hi, HE⟩ := hrel
                    by_cases hlt : i < bl
                    · have hltI : (i : Int) < bl := by omega
                      have C0 := HE.out.cp.cfg
                      have p0 := HE.out.cp.k0
                      have p1 := HE.out.cp.k1
                      rw [hpb] at p0 p1
                      have hos := fun W => HOS.out W (pg + i) ⟨by omega, by omega⟩
                      have hpo := HPO.out (pg + i)
                      have hfi := HF3.out (pg + i)
                      have hlx := HLT.out (pg + i)
                      generalize polL g N k m lc (pg + i) = M at *
                      simp only [Int.natCast_add] at hos
                      have HOI := Lib.hid hos
                      clear hos
                      have hMI : ¬ M.length = 0 := by omega
                      have hMb : ((M.length : Int) == 0) = false := by rw [beq_eq_false_iff_ne]; omega
                      have hM0 : (0 : Int) < (M.length : Int) := by omega
                      generalize hxe : (inN m N)[(pg + i) % bl]! = x at *
                      have hxN : x < N := hlx x (List.mem_of_getElem? hfi)
                      have HHI := Lib.hid (show hdsN m N pg (i + 1) = hdsN m N pg i ++ [x] from by rw [HH3.out, hxe])
                      have hcl : (hdsN m N pg i).count x ≤ 8 := Nat.le_trans List.count_le_length (by rw [hdsN_len]; omega)
                      clear hlx hxe
                      go_wp2_with (first | refine wpList_load_cfg rfl _ rfl _ rfl C0 ?_ | fail)
                      refine (HOI.out _).mono ?_
                      rintro e W6 ⟨v, rfl, hL, hb6⟩
                      have HE6 := Lib.hid (HE.out.later hb6)
                      obtain ⟨v2, c2, rfl, hc5⟩ := hL
                      obtain ⟨b, o, e6, cx⟩ := hc5 0 x hfi
                      subst e6
                      rw [Nat.add_zero] at cx
                      clear hc5 hfi hb6 C0 p0 p1 HE HOI
                      have cs := HE6.out.row.cell x (by omega)
                      have fs := HE6.out.row.frozen x
                      generalize hcc : (hdsN m N pg i).count x = cc at *
                      have HCC := Lib.hid hcc
                      clear hcc
                      have hcI : (cc : Int) ≤ 8 := by omega
                      have hx8 : (x : Int) < 8 := by omega
                      go_wp2_with (fail)
                      refine ⟨⟨i + 1, by go_num, hlt, Lib.hid ?_⟩, by simp [intOf]; omega⟩
                      have h := (HE6.out.set x (cc + 1)).ext (f' := fun y => (hdsN m N pg (i + 1)).count y) (fun y hy => by
                        rw [HHI.out, count_snoc]
                        by_cases e : y = x
                        · subst e; rw [if_pos rfl, if_pos rfl, HCC.out]
                        · rw [if_neg e, if_neg e]; rfl)
                      rw [show ((cc : Int) + 1) = ((cc + 1 : Nat) : Int) by omega]
                      exact h
                    · obtain rfl : i = bl := by omega
                      clear hlt hi
                      have C0 := HE.out.cp.cfg
                      have p0 := HE.out.cp.k0
                      have p1 := HE.out.cp.k1
                      rw [hpb] at p0 p1
                      have hos := fun W => HOS.out W (pg + i) ⟨by omega, by omega⟩
                      rw [HT3.out, HQe.out] at hos
                      simp only [Int.natCast_add] at hos
                      have HOI := Lib.hid hos
                      clear hos
                      go_wp2_with (first | refine wpList_load_cfg rfl _ rfl _ rfl C0 ?_ | fail)
                      refine (HOI.out _).mono ?_
                      rintro e W6 ⟨v, rfl, hL, hb6⟩
                      have HE6 := Lib.hid (HE.out.later hb6)
                      have HL6 := Lib.hid hL
                      obtain ⟨v2, c2, rfl, _⟩ := hL
                      clear hb6 C0 p0 p1 HE HOI
                      have c0 := HE6.out.cp.cfg.cell 0 (by decide)
                      rw [HN.out] at c0
                      go_wp2_with (fail)
                      clear c0
                      go_loopw [154] (fun iv wr => ∃ n : Nat, iv = .int .i64 n ∧ n ≤ N ∧ Hid (EaAt w A g k m va vc Q fb (fun y => (hdsN m N pg i).count y) wr) ∧ Hid (LstAt wr (.slice v2 Q.length c2) Q)) (fun iv _ => N - (intOf iv).toNat)
                      case atStart => exact ⟨0, rfl, Nat.zero_le _, HE6, HL6⟩
                      case round =>
                        clear HE6 HL6
                        obtain ⟨n, rfl, hn, HE, HL⟩ := hrel
                        by_cases hlt : n < N
                        · have hltI : (n : Int) < N := by omega
                          have hn8 : (n : Int) < 8 := by omega
                          have cs := HE.out.row.cell n (by omega)
                          rw [HC3.out n hlt] at cs
                          have p1 := HE.out.cp.k1
                          rw [hpb] at p1
                          obtain ⟨q, hq⟩ : ∃ q : Nat, m / 2 ^ n = q := ⟨_, rfl⟩
                          have HqI := Lib.hid (show (m : Int) / 2 ^ n = q from by rw [← hq]; simp)
                          rw [hq] at cs
                          clear hq
                          have hm0 : (0 : Int) ≤ m := by omega
                          have hm8 : (m : Int) ≤ 255 := by omega
                          have Lc := Lib.hid (show ∀ W, W = wr.drew → (loadVar 3 ⟨fb, n, none⟩).run Try.prog W = .ok (.int .i64 ((q % 2 : Nat) : Int)) W from fun W hW => by
                            subst hW
                            exact run_loadVar_cell (fun _ => by kernel_rfl) cs)
                          have Lm := Lib.hid (show ∀ W, W = wr.drew → (loadVar 5 ⟨pb, 1, none⟩).run Try.prog W = .ok (.int .u8 (m : Int)) W from fun W hW => by
                            subst hW
                            exact run_loadVar_cell (fun _ => by kernel_rfl) p1)
                          have LV := Lib.hid (show ∀ W, W = wr.drew → (convert 5 3 (.int .u8 (m : Int))).run Try.prog W = .ok (.int .i64 (m : Int)) W from fun W _ => by
                            go_simp
                            rw [IntKind.wrap_i64] <;> omega)
                          clear cs p1
                          go_wp2_with (fail)
                          refine wp_region_lex1 (fun W => W = wr.drew) [(0, false), (1, false), (2, false), (3, false), (4, false), (5, false), (6, false), (7, false), (8, false), (9, false)] (by kernel_rfl) (by kernel_rfl) rfl (by kernel_rfl) rfl ?_
                          intro V0 hV0 hS0
                          have HV0 := Lib.hid hV0
                          clear hV0 hS0
                          refine lexH_yieldE rfl rfl ?_
                          apply Exists.intro
                          refine ⟨fun W hW => ?_, ?_⟩
                          focus (go_simp; exact rfl)
                          simp only [List.getElem_toArray, List.getElem_cons_zero, Act.put, List.setIfInBounds_toArray, List.set_cons_zero, List.set_cons_succ]
                          refine lexH_yieldE rfl rfl ?_
                          apply Exists.intro
                          refine ⟨fun W hW => ?_, ?_⟩
                          focus (go_simp; exact rfl)
                          simp only [List.getElem_toArray, List.getElem_cons_succ, List.getElem_cons_zero, Act.put, List.setIfInBounds_toArray, List.set_cons_zero, List.set_cons_succ]
                          refine lexH_load rfl rfl _ _ rfl rfl Lc.out ?_
                          simp only [List.getElem_toArray, List.getElem_cons_succ, List.getElem_cons_zero, Act.put, List.setIfInBounds_toArray, List.set_cons_zero, List.set_cons_succ]
                          refine lexH_yieldE rfl rfl ?_
                          apply Exists.intro
                          refine ⟨fun W hW => ?_, ?_⟩
                          focus (go_simp; exact rfl)
                          simp only [List.getElem_toArray, List.getElem_cons_succ, List.getElem_cons_zero, Act.put, List.setIfInBounds_toArray, List.set_cons_zero, List.set_cons_succ]
                          refine lexH_load rfl rfl _ _ rfl rfl Lm.out ?_
                          simp only [List.getElem_toArray, List.getElem_cons_succ, List.getElem_cons_zero, Act.put, List.setIfInBounds_toArray, List.set_cons_zero, List.set_cons_succ]
                          refine lexH_conv rfl rfl _ _ _ rfl rfl LV.out ?_
                          simp only [List.getElem_toArray, List.getElem_cons_succ, List.getElem_cons_zero, Act.put, List.setIfInBounds_toArray, List.set_cons_zero, List.set_cons_succ]
                          refine lexH_yieldE rfl rfl ?_
                          apply Exists.intro
                          refine ⟨fun W hW => ?_, ?_⟩
                          focus (go_simp; exact rfl)
                          simp only [List.getElem_toArray, List.getElem_cons_succ, List.getElem_cons_zero, Act.put, List.setIfInBounds_toArray, List.set_cons_zero, List.set_cons_succ]
                          refine lexH_yield (v := .int .i64 (q : Int)) rfl rfl (fun W hW => ?_) ?_
                          focus (go_simp; rw [HqI.out])
                          simp only [List.getElem_toArray, List.getElem_cons_succ, List.getElem_cons_zero, Act.put, List.setIfInBounds_toArray, List.set_cons_zero, List.set_cons_succ]
                          refine lexH_yield (v := .int .i64 ((q % 2 : Nat) : Int)) rfl rfl (fun W hW => ?_) ?_
                          focus (go_simp; rw [Int.tmod_eq_emod_of_nonneg (by omega)])
                          simp only [List.getElem_toArray, List.getElem_cons_succ, List.getElem_cons_zero, Act.put, List.setIfInBounds_toArray, List.set_cons_zero, List.set_cons_succ]
                          refine lexH_yield (v := .bool false) rfl rfl (fun W hW => ?_) ?_
                          focus (go_simp; done)
                          simp only [List.getElem_toArray, List.getElem_cons_succ, List.getElem_cons_zero, Act.put, List.setIfInBounds_toArray, List.set_cons_zero, List.set_cons_succ]
                          refine lexH_nil ?_
                          clear Lc Lm LV HqI
                          have hV1 := HV0.out
                          subst hV1
                          have HE7 := Lib.hid (HE.out.later (Below.refl _ wr).drew)
                          have HL7 := Lib.hid (HL.out.later (Below.refl _ wr).drew)
                          clear HE HL
                          go_wp2_with (fail)
                          go_roundw
                          case rel => exact ⟨n + 1, by go_num, hlt, HE7, HL7⟩
                          case measure => simp [intOf]; omega
                        · obtain rfl : N = n := by omega
                          clear hlt hn
                          have hql := HQL.out
                          go_wp2_with (fail)
                          refine (alike_any HE.out.l HL.out (by omega)).mono ?_
                          rintro e W7 ⟨rfl, hb7⟩
                          rw [show sameL Q Q = true from decide_eq_true rfl]
                          have HB7 := Lib.hid (HE.out.cp.bel.trans (hb7.mono HE.out.cp.bel.size))
                          clear hb7 HE HL
                          go_wp2_with (fail)
                          refine (pknown_any ok _).mono ?_
                          rintro e W9 ⟨rfl, hb9⟩
                          have HB9 := Lib.hid (HB7.out.trans (hb9.mono HB7.out.size))
                          clear hb9
                          go_wp2_with (fail)
                          go_ret
                          exact ⟨rfl, HB9.out⟩
                · have k3 : ((k : Int) == 3) = false := by simp; omega
                  have HB2 := Lib.hid HE.out.cp.bel
                  clear HE
                  go_wp2_with (fail)
                  refine (pknown_any ok _).mono ?_
                  rintro e W9 ⟨rfl, hb9⟩
                  have HB9 := Lib.hid (HB2.out.trans (hb9.mono HB2.out.size))
                  clear hb9
                  go_wp2_with (fail)
                  go_ret
                  exact ⟨rfl, HB9.out⟩
  · have hne : (ordE g k m loc page != 0) = true := by simp [he]
    generalize ordE g k m loc page = E at *
    go_enter Try.func4, Try.ntmps4
    go_wp2_with (first | refine wpList_load_cfg rfl _ rfl _ rfl C0 ?_ | fail)
    generalize (w.alloc (.cells A 26)).alloc (.cells #[.int .u8 (k : Int), .int .u8 (m : Int)] 29) = wb at *
    refine (HOR.out _).mono ?_
    rintro e W1 ⟨v, rfl, hL, hb1⟩
    have HB1 := Lib.hid (HC0.out.bel.trans (hb1.mono HC0.out.bel.size))
    clear hL hb1
    go_wp2_with (fail)
    refine (pknown_any ok _).mono ?_
    rintro e W9 ⟨rfl, hb9⟩
    have HB9 := Lib.hid (HB1.out.trans (hb9.mono HB1.out.size))
    clear hb9
    go_wp2_with (fail)
    go_ret
    exact ⟨rfl, HB9.out⟩
end
end Go.Proofs.Ytcbdmdalijhkoaa

