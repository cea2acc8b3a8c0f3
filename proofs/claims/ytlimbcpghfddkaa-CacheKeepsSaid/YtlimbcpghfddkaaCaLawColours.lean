/-
  The walk of CacheColours.
-/
import Derived.Test.YtlimbcpghfddkaaCaKnown
namespace Go.Proofs.Ytlimbcpghfddkaa
open Go.RowKit Go Go.Maps

/-- A cache with k slabs of noughts, of the frames 0 to k - 1. -/
def colA (sz : Nat) : Nat → Ca
  | 0 => ⟨sz, 0, []⟩
  | k + 1 => (colA sz k).added (k : Int) (fun _ => 0)
theorem colA_sz (sz : Nat) : ∀ k, (colA sz k).sz = sz
  | 0 => rfl
  | k + 1 => colA_sz sz k
theorem colA_len (sz : Nat) : ∀ k, (colA sz k).L.length = k
  | 0 => rfl
  | k + 1 => by
    show (insL _ _).length = _
    rw [insL_len, colA_len sz k]
theorem colA_fr (sz : Nat) : ∀ k, ∀ p ∈ (colA sz k).L, 0 ≤ p.fr ∧ p.fr < (k : Int)
  | 0, p, h => absurd h List.not_mem_nil
  | k + 1, p, h => by
    rcases mem_insL.1 (show p ∈ insL _ _ from h) with e | e
    · rw [e]
      show (0 : Int) ≤ (k : Int) ∧ (k : Int) < ((k + 1 : Nat) : Int)
      omega
    · have := colA_fr sz k p e
      omega
theorem colA_new (sz k : Nat) : findL (colA sz k).L (k : Int) = none := findL_no fun p hp e => by
  have := colA_fr sz k p hp
  omega
theorem colA_I {sz : Nat} (h : mayC sz (0 : Nat) = true) : ∀ k, CaI (colA sz k)
  | 0 => ⟨h, List.Pairwise.nil, fun _ h => absurd h List.not_mem_nil, fun _ h => absurd h List.not_mem_nil, fun _ h => absurd h List.not_mem_nil⟩
  | k + 1 => (colA_I h k).added (by omega) (colA_new sz k) _
theorem colA_last {sz : Nat} (h : mayC sz (0 : Nat) = true) (k : Nat) : findL (colA sz (k + 1)).L (k : Int) = some (Sl.new sz (colA sz k).co (fun _ => 0)) := by
  show findL (insL (colA sz k).L _) _ = _
  rw [findL_ins (colA_I h k).rise (findL_none (colA_new sz k)), if_pos rfl, colA_sz]
/-- How many colours there are. -/
def mCol (sz : Nat) : Nat := 256 % sz / 8 + 1
theorem left_8 {sz : Nat} (h : mayC sz (0 : Nat) = true) : 256 % sz = (mCol sz - 1) * 8 ∧ 256 % sz < sz ∧ 1 ≤ mCol sz ∧ mCol sz ≤ 16 := by
  obtain ⟨h1, h2, h3, _, _, _⟩ := may_parts h
  have h4 : 256 % sz % 8 = 0 := by
    obtain ⟨q, rfl⟩ : ∃ q, sz = 8 * q := ⟨sz / 8, by omega⟩
    rw [show 256 = 8 * 32 from rfl, Nat.mul_mod_mul_left, Nat.mul_mod_right]
  have h5 := Nat.mod_lt 256 (show 0 < sz by omega)
  unfold mCol
  omega
theorem may_col {sz c : Nat} (h : mayC sz (0 : Nat) = true) : mayC sz ((c * 8 : Nat) : Int) = decide (c < mCol sz) := by
  obtain ⟨h1, h2, h3, _, _, _⟩ := may_parts h
  obtain ⟨h4, h5, h6, h7⟩ := left_8 h
  unfold mayC
  have e : (256 : Int) % (sz : Int) = ((256 % sz : Nat) : Int) := by simp
  rw [e, Bool.eq_iff_iff, decide_eq_true_iff, decide_eq_true_iff]
  omega
theorem colA_co {sz : Nat} (h : mayC sz (0 : Nat) = true) : ∀ k, (colA sz k).co = k % mCol sz * 8
  | 0 => by rw [Nat.zero_mod]; rfl
  | k + 1 => by
    have ih := colA_co h k
    obtain ⟨h4, h5, h6, h7⟩ := left_8 h
    have hm := Nat.mod_lt k (show 0 < mCol sz by omega)
    show (if mayC (colA sz k).sz ((colA sz k).co + 8 : Nat) = true then (colA sz k).co + 8 else 0) = _
    rw [colA_sz, ih, show k % mCol sz * 8 + 8 = (k % mCol sz + 1) * 8 by omega, may_col h]
    have e : (k + 1) % mCol sz = (k % mCol sz + 1) % mCol sz := by rw [Nat.mod_add_mod]
    rw [e]
    by_cases hc : k % mCol sz + 1 < mCol sz
    · rw [if_pos (decide_eq_true hc), Nat.mod_eq_of_lt hc]
    · have e2 : k % mCol sz + 1 = mCol sz := by omega
      rw [if_neg (by rw [decide_eq_true_iff]; exact hc), e2, Nat.mod_self]
theorem count_col {sz c : Nat} (h : mayC sz (0 : Nat) = true) (hc : c ≤ 256 % sz) : (256 - c) / sz = 256 / sz := by
  obtain ⟨h1, _⟩ := may_parts h
  have e := Nat.div_add_mod 256 sz
  have h5 := Nat.mod_lt 256 (show 0 < sz by omega)
  refine Nat.div_eq_of_lt_le ?_ ?_
  · rw [Nat.mul_comm]
    omega
  · rw [Nat.add_mul, Nat.one_mul, Nat.mul_comm]
    omega
set_option maxRecDepth 100000 in
set_option maxHeartbeats 8000000 in
theorem lawColours_any (size n : Int) (w : World) : Calls Try.prog 4 #[.int .i64 size, .int .i64 n] w fun e w' => e = .returned (.bool true) ∧ Below w.heap.size w w' := by
  cases hm : mayC size 0 with
  | false =>
    have HM := Lib.hid (rmay_any size 0)
    rw [hm] at HM
    have HN := Lib.hid (knew_no size w hm)
    clear hm
    go_enter Try.func4, Try.ntmps4
    go_wp2_with (fail)
    refine HN.out.mono ?_
    rintro e w1 ⟨rfl, hb⟩
    have HB := Lib.hid hb
    clear hb HN
    go_wp2_with (fail)
    refine (HM.out w1).mono ?_
    rintro e w2 ⟨rfl, rfl⟩
    go_wp2_with (fail)
    refine (kknown_any w1).mono ?_
    rintro e w3 ⟨rfl, hb⟩
    have HB2 := Lib.hid (HB.out.trans (hb.mono HB.out.size))
    clear hb HB HM
    go_wp2_with (fail)
    go_ret
    exact ⟨rfl, HB2.out⟩
  | true =>
    have hm' := hm
    unfold mayC at hm'
    obtain ⟨m1, m2, m3, m4, m5, m6⟩ := of_decide_eq_true hm'
    obtain ⟨sz, rfl⟩ : ∃ sz : Nat, size = sz := ⟨size.toNat, by omega⟩
    have hmN : mayC sz (0 : Nat) = true := hm
    have HMN := Lib.hid hmN
    have HM := Lib.hid (rmay_any sz 0)
    rw [hm] at HM
    have HN := Lib.hid (knew_any sz w hm)
    obtain ⟨Z, hZ, hmk⟩ := make_bytesK
    have HZ := Lib.hid hZ
    have hszI : ¬ ((sz : Int) = 0) := by omega
    have hszN : ¬ (sz = 0) := by omega
    clear hm hm' m2 m3 m4 m5 m6 hZ
    by_cases hn : n < 0 ∨ 40 < n
    · rcases (show n < 0 ∨ (¬ n < 0 ∧ 40 < n) by omega) with h1 | ⟨h1, h2⟩
      all_goals
        clear hn
        go_enter Try.func4, Try.ntmps4
        go_wp2_with (fail)
        refine HN.out.mono ?_
        rintro e w1 ⟨K, rfl, _, hb, _⟩
        have HB := Lib.hid hb
        clear hb HN
        go_wp2_with (fail)
        refine (HM.out w1).mono ?_
        rintro e w2 ⟨rfl, rfl⟩
        go_wp2_with (fail)
        refine (kknown_any w1).mono ?_
        rintro e w3 ⟨rfl, hb⟩
        have HB2 := Lib.hid (HB.out.trans (hb.mono HB.out.size))
        clear hb HB HM
        go_wp2_with (fail)
        go_ret
        exact ⟨rfl, HB2.out⟩
    · obtain ⟨nn, rfl⟩ : ∃ nn : Nat, n = nn := ⟨n.toNat, by omega⟩
      have hn40 : ¬ 40 < (nn : Int) := by omega
      have hn40N : nn ≤ 40 := by omega
      clear hn
      have e : (256 : Int) % (sz : Int) = ((256 % sz : Nat) : Int) := by simp
      have hq : (256 : Int) / (sz : Int) = ((256 / sz : Nat) : Int) := by simp
      go_enter Try.func4, Try.ntmps4
      go_wp2_with (fail)
      refine HN.out.mono ?_
      intro e1 w1 h
      obtain ⟨K0, rfl, hK, _⟩ := KAt.of_new (Below.refl w.heap.size w) (Nat.le_refl _) h
      have H0 := Lib.hid (show KAt w.heap.size w K0 (colA sz 0) w1 from hK)
      clear hK h HN
      obtain ⟨lf, hlf⟩ : ∃ lf, 256 % sz = lf := ⟨_, rfl⟩
      rw [hlf] at e
      have HLF := Lib.hid hlf
      clear hlf
      go_wp2_with (fail)
      rw [e]
      clear e
      go_loopw [37] (fun i wr => ∃ (k : Nat) (K : KC), k ≤ nn ∧ i = .int .i64 k ∧ K.c = K0.c ∧ Hid (KAt w.heap.size w K (colA sz k) wr)) (fun i _ => nn - (intOf i).toNat)
      case atStart => exact ⟨0, _, Nat.zero_le _, rfl, rfl, H0⟩
      case round =>
        clear H0
        obtain ⟨k, K, hk, rfl, hKc, H⟩ := hrel
        by_cases hlt : k < nn
        · have hltI : (k : Int) < (nn : Int) := by omega
          have HA := Lib.hid (H.out.makes (x := (k : Int)) (by rw [colA_len]; omega) (int_wfK (by omega) (by omega)) (by omega) (colA_new sz k) HZ.out)
          rw [hKc] at HA
          go_wp2_with (fail)
          refine HA.out.mono ?_
          rintro e2 w2 ⟨rfl, K2, h1, h2, _⟩
          have H2 := Lib.hid (show KAt w.heap.size w K2 (colA sz (k + 1)) w2 from h1)
          rw [hKc] at h2
          clear h1 HA H
          have HS := kslab_any H2.out.at_ (k : Int) (int_wfK (by omega) (by omega))
          unfold KSlab at HS
          rw [h2, colA_last HMN.out k] at HS
          have hSl := H2.out.at_.fam.at_ _ (findL_mem (colA_last HMN.out k))
          have HSL := Lib.hid hSl
          have HSB := Lib.hid HS
          clear HS hSl
          unfold ptrF at HSB
          go_wp2_with (fail)
          refine HSB.out.mono ?_
          rintro e3 w3 ⟨rfl, rfl⟩
          clear HSB
          have hco : (Sl.new sz (colA sz k).co (fun _ => 0)).co = k % mCol sz * 8 := colA_co HMN.out k
          obtain ⟨q4, q5, q6, q7⟩ := left_8 HMN.out
          have hcn : (Sl.new sz (colA sz k).co (fun _ => 0)).n = 256 / sz := by
            show (256 - (colA sz k).co) / sz = _
            rw [colA_co HMN.out k]
            refine count_col HMN.out ?_
            have := Nat.mod_lt k (show 0 < mCol sz by omega)
            omega
          generalize Sl.new sz (colA sz k).co (fun _ => 0) = S at *
          obtain ⟨q, hq1⟩ : ∃ q, mCol sz = q + 1 := ⟨mCol sz - 1, by omega⟩
          rw [hq1] at hco q4
          rw [HLF.out] at q4
          obtain ⟨r, hr⟩ : ∃ r, k % (q + 1) = r := ⟨_, rfl⟩
          have hrm : (k : Int) % ((q : Int) + 1) = (r : Int) := by
            rw [← hr, Int.natCast_emod, Int.natCast_add]
            rfl
          rw [hr] at hco
          have hrl : r ≤ 40 := by
            have := Nat.mod_le k (q + 1)
            omega
          have hq16 : q ≤ 15 := by omega
          obtain ⟨cq, hcq⟩ : ∃ cq, 256 / sz = cq := ⟨_, rfl⟩
          rw [hcq] at hcn hq
          have HCC := Lib.hid (fun V (hV : SlAt V (K2.g (k : Int)) S) => chain_ok.colour hV)
          rw [hco, Int.natCast_mul, show ((8 : Nat) : Int) = 8 from rfl] at HCC
          have HCNT := Lib.hid (fun V (hV : SlAt V (K2.g (k : Int)) S) => chain_ok.count hV)
          rw [hcn] at HCNT
          have hlf8 : (lf : Int) / 8 = (q : Int) := by omega
          have hlf8t : (lf : Int).tdiv 8 = (q : Int) := by
            rw [Int.tdiv_eq_ediv_of_nonneg (by omega)]
            exact hlf8
          have hrt : (k : Int).tmod ((q : Int) + 1) = (r : Int) := by
            rw [Int.tmod_eq_emod_of_nonneg (by omega)]
            exact hrm
          clear hco hcn q4 q5 q6 q7 hr hq1 hcq
          generalize (K2.g (k : Int)).s = cs at *
          go_wp2_with (fail)
          refine wp_region_lex1 (fun V => Below w2.heap.size w2 V) [(0, false), (1, false), (2, false), (3, false), (5, false), (6, false), (7, false), (8, false), (9, false), (10, false), (4, true), (11, false), (12, false), (13, false), (14, false), (16, false), (17, false), (15, true), (18, false), (19, false)]
            (by kernel_rfl) (by kernel_rfl) rfl (by kernel_rfl) (Below.refl _ w2).drew ?_
          intro V0 hV0 hK0
          clear hK0
          have hwq : IntKind.i64.wrap (q : Int) = q := by rw [IntKind.wrap_i64]; omega
          have hwq1 : IntKind.i64.wrap ((q : Int) + 1) = (q : Int) + 1 := by rw [IntKind.wrap_i64]; omega
          have hwr : IntKind.i64.wrap (r : Int) = r := by rw [IntKind.wrap_i64]; omega
          have hwr8 : IntKind.i64.wrap ((r : Int) * 8) = (r : Int) * 8 := by rw [IntKind.wrap_i64]; omega
          have hcq9 : cq ≤ 256 := by
            have h := hq
            have h2 : (256 : Int) / (sz : Int) ≤ 256 := Int.ediv_le_self _ (by decide)
            omega
          have hwc : IntKind.i64.wrap (cq : Int) = cq := by rw [IntKind.wrap_i64]; omega
          have hqt : (256 : Int).tdiv (sz : Int) = (cq : Int) := by
            rw [Int.tdiv_eq_ediv_of_nonneg (by decide)]
            exact hq
          have hne : ¬ ((q : Int) + 1 = 0) := by omega
          have HB0 := Lib.hid (show Below w2.heap.size w2 V0 by rw [hV0]; exact (Below.refl _ w2).drew)
          clear hV0
          refine lexH_yieldE rfl rfl ?_
          apply Exists.intro
          refine ⟨fun W hW => ?_, ?_⟩
          focus (go_simp; exact rfl)
          simp only [List.getElem_toArray, List.getElem_cons_zero, Act.put, List.setIfInBounds_toArray, List.set_cons_zero, List.set_cons_succ]
          refine lexH_yieldE rfl rfl ?_
          apply Exists.intro
          refine ⟨fun W hW => ?_, ?_⟩
          focus (go_simp; exact rfl)
          simp only [List.getElem_toArray, List.getElem_cons_succ, List.getElem_cons_zero, Act.put, List.setIfInBounds_toArray, List.set_cons_zero, List.set_cons_succ]
          refine lexH_yieldE rfl rfl ?_
          apply Exists.intro
          refine ⟨fun W hW => ?_, ?_⟩
          focus (go_simp; exact rfl)
          simp only [List.getElem_toArray, List.getElem_cons_succ, List.getElem_cons_zero, Act.put, List.setIfInBounds_toArray, List.set_cons_zero, List.set_cons_succ]
          refine lexH_yieldE rfl rfl ?_
          apply Exists.intro
          refine ⟨fun W hW => ?_, ?_⟩
          focus (go_simp; exact rfl)
          simp only [List.getElem_toArray, List.getElem_cons_succ, List.getElem_cons_zero, Act.put, List.setIfInBounds_toArray, List.set_cons_zero, List.set_cons_succ]
          refine lexH_yieldE rfl rfl ?_
          apply Exists.intro
          refine ⟨fun W hW => ?_, ?_⟩
          focus (go_simp; exact rfl)
          simp only [List.getElem_toArray, List.getElem_cons_succ, List.getElem_cons_zero, Act.put, List.setIfInBounds_toArray, List.set_cons_zero, List.set_cons_succ]
          refine lexH_yieldE rfl rfl ?_
          apply Exists.intro
          refine ⟨fun W hW => ?_, ?_⟩
          focus (go_simp; exact rfl)
          simp only [List.getElem_toArray, List.getElem_cons_succ, List.getElem_cons_zero, Act.put, List.setIfInBounds_toArray, List.set_cons_zero, List.set_cons_succ]
          refine lexH_yieldE rfl rfl ?_
          apply Exists.intro
          refine ⟨fun W hW => ?_, ?_⟩
          focus (go_simp; exact rfl)
          simp only [List.getElem_toArray, List.getElem_cons_succ, List.getElem_cons_zero, Act.put, List.setIfInBounds_toArray, List.set_cons_zero, List.set_cons_succ]
          refine lexH_yieldE rfl rfl ?_
          apply Exists.intro
          refine ⟨fun W hW => ?_, ?_⟩
          focus (go_simp; exact rfl)
          simp only [List.getElem_toArray, List.getElem_cons_succ, List.getElem_cons_zero, Act.put, List.setIfInBounds_toArray, List.set_cons_zero, List.set_cons_succ]
          refine lexH_yieldE rfl rfl ?_
          apply Exists.intro
          refine ⟨fun W hW => ?_, ?_⟩
          focus (go_simp; exact rfl)
          simp only [List.getElem_toArray, List.getElem_cons_succ, List.getElem_cons_zero, Act.put, List.setIfInBounds_toArray, List.set_cons_zero, List.set_cons_succ]
          refine lexH_yieldE rfl rfl ?_
          apply Exists.intro
          refine ⟨fun W hW => ?_, ?_⟩
          focus (go_simp; exact rfl)
          simp only [List.getElem_toArray, List.getElem_cons_succ, List.getElem_cons_zero, Act.put, List.setIfInBounds_toArray, List.set_cons_zero, List.set_cons_succ]
          refine lexH_call 29 #[.pointer (some ⟨cs, 0, none⟩)] rfl rfl ?_ ?_
          focus (go_simp; done)
          have HSV := Lib.hid (chain_ok.later HSL.out HB0.out)
          clear hwq hwq1 hwr hwr8
          refine ((show Calls Try.prog 29 #[.pointer (some ⟨cs, 0, none⟩)] V0 (STold V0 (.int .i64 ((r : Int) * 8))) from HCC.out V0 HSV.out)).mono ?_
          rintro e4 w4 ⟨rfl, hb⟩
          have HB4 := Lib.hid (HB0.out.trans (hb.mono HB0.out.size))
          have HSV4 := Lib.hid (chain_ok.later HSV.out hb)
          refine ⟨_, rfl, HB4.out, ?_⟩
          clear hb HCC HSV
          simp only [List.getElem_toArray, List.getElem_cons_succ, List.getElem_cons_zero, Act.put, List.setIfInBounds_toArray, List.set_cons_zero, List.set_cons_succ]
          refine lexH_yieldE rfl rfl ?_
          apply Exists.intro
          refine ⟨fun W hW => ?_, ?_⟩
          focus (go_simp; exact rfl)
          simp only [List.getElem_toArray, List.getElem_cons_succ, List.getElem_cons_zero, Act.put, List.setIfInBounds_toArray, List.set_cons_zero, List.set_cons_succ]
          refine lexH_yieldE rfl rfl ?_
          apply Exists.intro
          refine ⟨fun W hW => ?_, ?_⟩
          focus (go_simp; exact rfl)
          simp only [List.getElem_toArray, List.getElem_cons_succ, List.getElem_cons_zero, Act.put, List.setIfInBounds_toArray, List.set_cons_zero, List.set_cons_succ]
          refine lexH_yieldE rfl rfl ?_
          apply Exists.intro
          refine ⟨fun W hW => ?_, ?_⟩
          focus (go_simp; exact rfl)
          simp only [List.getElem_toArray, List.getElem_cons_succ, List.getElem_cons_zero, Act.put, List.setIfInBounds_toArray, List.set_cons_zero, List.set_cons_succ]
          refine lexH_yieldE rfl rfl ?_
          apply Exists.intro
          refine ⟨fun W hW => ?_, ?_⟩
          focus (go_simp; exact rfl)
          simp only [List.getElem_toArray, List.getElem_cons_succ, List.getElem_cons_zero, Act.put, List.setIfInBounds_toArray, List.set_cons_zero, List.set_cons_succ]
          refine lexH_yieldE rfl rfl ?_
          apply Exists.intro
          refine ⟨fun W hW => ?_, ?_⟩
          focus (go_simp; exact rfl)
          simp only [List.getElem_toArray, List.getElem_cons_succ, List.getElem_cons_zero, Act.put, List.setIfInBounds_toArray, List.set_cons_zero, List.set_cons_succ]
          refine lexH_yieldE rfl rfl ?_
          apply Exists.intro
          refine ⟨fun W hW => ?_, ?_⟩
          focus (go_simp; exact rfl)
          simp only [List.getElem_toArray, List.getElem_cons_succ, List.getElem_cons_zero, Act.put, List.setIfInBounds_toArray, List.set_cons_zero, List.set_cons_succ]
          refine lexH_call 30 #[.pointer (some ⟨cs, 0, none⟩)] rfl rfl ?_ ?_
          focus (go_simp; done)
          refine (HCNT.out w4 HSV4.out).mono ?_
          rintro e5 w5 ⟨rfl, hb⟩
          have HB5 := Lib.hid (HB4.out.trans (hb.mono HB4.out.size))
          refine ⟨_, rfl, HB5.out, ?_⟩
          have H5 := Lib.hid (H2.out.later HB5.out)
          clear hb HCNT HSV4 HSL HB4 HB0
          simp only [List.getElem_toArray, List.getElem_cons_succ, List.getElem_cons_zero, Act.put, List.setIfInBounds_toArray, List.set_cons_zero, List.set_cons_succ]
          refine lexH_yieldE rfl rfl ?_
          apply Exists.intro
          refine ⟨fun W hW => ?_, ?_⟩
          focus (go_simp; exact rfl)
          simp only [List.getElem_toArray, List.getElem_cons_succ, List.getElem_cons_zero, Act.put, List.setIfInBounds_toArray, List.set_cons_zero, List.set_cons_succ]
          refine lexH_yieldE rfl rfl ?_
          apply Exists.intro
          refine ⟨fun W hW => ?_, ?_⟩
          focus (go_simp; exact rfl)
          simp only [List.getElem_toArray, List.getElem_cons_succ, List.getElem_cons_zero, Act.put, List.setIfInBounds_toArray, List.set_cons_zero, List.set_cons_succ]
          refine lexH_nil ?_
          clear hwc hqt hne hrt hrm hlf8 hlf8t hq H2
          go_wp2_with (fail)
          go_roundw
          case rel => exact ⟨k + 1, K2, hlt, by go_num, h2, H5⟩
          case measure => simp [intOf]; omega
        · obtain rfl : k = nn := by omega
          go_wp2_with (fail)
          refine (kknown_any wr).mono ?_
          rintro e3 w3 ⟨rfl, hb⟩
          have HB2 := Lib.hid (H.out.bel.trans (hb.mono H.out.le))
          clear hb
          go_wp2_with (fail)
          go_ret
          exact ⟨rfl, HB2.out⟩
end Go.Proofs.Ytlimbcpghfddkaa
