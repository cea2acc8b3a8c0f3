/-
  The walk of CacheKeeps.
-/
import Derived.Test.YtlimbcpghfddkaaCaKeep
import Derived.Test.YtlimbcpghfddkaaCaDr
import Derived.Test.YtlimbcpghfddkaaBuInts
import Derived.Deep.DeepCutAuto
import Derived.Deep.CutBlock
namespace Go.Proofs.Ytlimbcpghfddkaa
open Go.RowKit Go Go.Maps

set_option maxRecDepth 100000 in
set_option maxHeartbeats 16000000 in
theorem lawKeeps_any (size n : Int) (a1 : Option Addr) (l1 c1 : Nat) (z : Nat → Int) (w : World) (hZ : IntsIn w a1 l1 z) : Calls Try.prog 5 #[.int .i64 size, .int .i64 n, .slice a1 l1 c1] w fun e w' => e = .returned (.bool true) ∧ Below w.heap.size w w' := by
  cases hm : mayC size 0 with
  | false =>
    have HN := Lib.hid (knew_no size w hm)
    clear hm hZ
    go_enter Try.func5, Try.ntmps5
    go_wp2_with (fail)
    refine HN.out.mono ?_
    rintro e w1 ⟨rfl, hb⟩
    have HB := Lib.hid hb
    clear hb HN
    go_wp2_with (fail)
    refine (kknown_any w1).mono ?_
    rintro e w3 ⟨rfl, hb⟩
    have HB2 := Lib.hid (HB.out.trans (hb.mono HB.out.size))
    clear hb HB
    go_wp2_with (fail)
    go_ret
    exact ⟨rfl, HB2.out⟩
  | true =>
    have hm' := hm
    unfold mayC at hm'
    obtain ⟨m1, m2, m3, m4, m5, m6⟩ := of_decide_eq_true hm'
    obtain ⟨sz, rfl⟩ : ∃ sz : Nat, size = sz := ⟨size.toNat, by omega⟩
    have HMN := Lib.hid (show mayC sz (0 : Nat) = true from hm)
    have HN := Lib.hid (knew_any sz w hm)
    have hsz8 : 8 ≤ sz := by omega
    clear hm hm' m1 m2 m3 m4 m5 m6
    by_cases hok : 0 ≤ n ∧ n ≤ 20 ∧ l1 ≤ 200
    · obtain ⟨nn, rfl⟩ : ∃ nn : Nat, n = nn := ⟨n.toNat, by omega⟩
      obtain ⟨Z, hZb, hmk⟩ := make_bytesK
      have HZ := Lib.hid hZb
      have HL := Lib.hid hZ
      obtain ⟨i0, hi, hz0, hz1, hz2⟩ := info_parts infoPair
      have g2 : ¬ 20 < (nn : Int) := by omega
      have g3 : ¬ 200 < (l1 : Int) := by omega
      have g4 : nn ≤ 20 := by omega
      have g5 : l1 ≤ 200 := by omega
      clear hok hZb hZ
      go_enter Try.func5, Try.ntmps5
      go_wp2_with (fail)
      refine HN.out.mono ?_
      intro e1 w1 h
      obtain ⟨K0, rfl, hK, hlow⟩ := KAt.of_new (Below.refl w.heap.size w) (Nat.le_refl _) h
      have H0 := Lib.hid (show KAt w.heap.size w K0 (lnA 3 0 sz 0) w1 from hK)
      clear hK h HN hlow
      go_wp2_with (fail)
      go_loopw [45] (fun i wr => ∃ (k : Nat) (K : KC), k ≤ nn ∧ i = .int .i64 k ∧ K.c = K0.c ∧ Hid (KAt w.heap.size w K (lnA 3 0 sz k) wr)) (fun i _ => nn - (intOf i).toNat)
      case atStart => exact ⟨0, _, Nat.zero_le _, rfl, rfl, H0⟩
      case round =>
        clear H0
        obtain ⟨k, K, hk, rfl, hKc, H⟩ := hrel
        by_cases hlt : k < nn
        · have hltI : (k : Int) < (nn : Int) := by omega
          have HX := Lib.hid (show ((3 * k + 0 : Nat) : Int) = 3 * (k : Int) by omega)
          have HA := Lib.hid (H.out.makes (x := 3 * (k : Int)) (by rw [lnA_len]; omega) (int_wfK (by omega) (by omega)) (by omega) (by rw [← HX.out]; exact lnA_new (by decide) k) HZ.out)
          rw [hKc] at HA
          go_wp2_with (fail)
          refine HA.out.mono ?_
          rintro e2 w3 ⟨rfl, K2, h1, h2, h3, h4⟩
          rw [← HX.out, ← lnA_succ] at h1
          have H2 := Lib.hid h1
          rw [hKc] at h2
          clear h1 HA H h3 h4 HX
          go_wp2_with (fail)
          go_roundw
          case rel => exact ⟨k + 1, K2, hlt, by go_num, h2, H2⟩
          case measure => simp [intOf]; omega
        · obtain rfl : k = nn := by omega
          obtain ⟨q, hq⟩ : ∃ q, 256 / sz = q := ⟨_, rfl⟩
          have hq32 : q ≤ 32 := by
            rw [← hq]
            have := Nat.div_le_div_left (a := 256) hsz8 (by decide)
            omega
          have hqI : (256 : Int) / (sz : Int) = (q : Int) := by rw [← hq]; simp
          have hqt : (256 : Int).tdiv (sz : Int) = (q : Int) := by
            rw [Int.tdiv_eq_ediv_of_nonneg (by decide)]
            exact hqI
          have hszI : ¬ ((sz : Int) = 0) := by omega
          have HE0 := Lib.hid (show KeAt w.heap.size w k q wr.heap.size K (lnA 3 0 sz k) [] [] (.slice none 0 0) wr from
            ⟨H.out, by rw [← hq]; exact KpI.first (by decide) HMN.out k, fun j hj => H.out.at_.lt j hj, World.ownsRow_nil _ _ _ _, H.out.le, Nat.le_refl _⟩)
          clear hq H hmk HZ hlt
          obtain ⟨B3, hB3⟩ : ∃ B3, wr.heap.size = B3 := ⟨_, rfl⟩
          rw [hB3] at HE0
          clear hB3
          generalize lnA 3 0 sz k = A0 at *
          go_wp2_with (fail)
          go_loopw [57, 10] (fun i l wr => ∃ (j : Nat) (A : Ca) (out : List (Int × Nat)) (la : Option Addr) (lc : Nat), i = .int .i64 j ∧ l = .slice la out.length lc ∧ j ≤ l1 ∧ out.length ≤ j ∧ Hid (KeAt w.heap.size w k q B3 K A out out (.slice la out.length lc) wr)) (fun i _ _ => l1 - (intOf i).toNat)
          case atStart => exact ⟨0, A0, [], none, 0, rfl, rfl, Nat.zero_le _, Nat.le_refl _, HE0⟩
          case round =>
            clear HE0
            rename World => w4
            obtain ⟨j, A, out, la, lc, rfl, rfl, hj, hol, HE⟩ := hrel
            by_cases hlt : j < l1
            · obtain ⟨b, o, rfl, hbl, hzb, hc⟩ := HL.out.one j hlt
              have cy := hc w4 HE.out.k.bel
              have hltI : (j : Int) < (l1 : Int) := by omega
              have hout200 : out.length ≤ 200 := by omega
              clear hc
              obtain ⟨y, hy⟩ : ∃ y, z j = y := ⟨_, rfl⟩
              rw [hy] at cy
              clear hy
              by_cases hway : y.tmod 3 = 0 ∧ 0 < out.length
              · obtain ⟨hy3, hop⟩ := hway
                obtain ⟨h, hh1, hh2⟩ := u64_modC y (out.length : Int) (by omega) (by omega)
                have hhl : h < out.length := by omega
                have hlu : IntKind.u64.wrap (out.length : Int) = out.length := by rw [IntKind.wrap_u64]; omega
                have hl0 : ¬ (out.length : Int) = 0 := by omega
                have hlb : ((out.length : Int) == 0) = false := by rw [beq_eq_false_iff_ne]; omega
                have hyb : (y.tmod 3 == 0) = true := by rw [hy3]; rfl
                go_wp2_with (fail)
                rw [hh2]
                clear hh2 hlu hl0 hlb hyb hy3 cy
                obtain ⟨g, rfl, q0, q1⟩ := HE.out.at h hhl
                obtain ⟨⟨x, kk⟩, hxo⟩ : ∃ p, out[h] = p := ⟨_, rfl⟩
                have HXO := Lib.hid hxo
                rw [hxo] at q0 q1
                dsimp only at q0 q1
                have hhI : (h : Int) < (out.length : Int) := by omega
                have HWF := Lib.hid (show (Lit.int .i64 x).wf = true by have := HE.out.wf (List.getElem_mem hhl); rw [hxo] at this; exact this)
                have HAT := Lib.hid (fun (A' : Ca) (o' : List (Int × Nat)) (W : World) (hK : KeAt w.heap.size w k q B3 K A' o' out (.slice (some ⟨g, 0, none⟩) out.length lc) W) => hK.at h hhl)
                rw [hxo] at HAT
                have L1 := Lib.hid (show ∀ W, W.cell? ⟨g, h * 2, none⟩ = some (.int .i64 x) ∧ W.cell? ⟨g, h * 2 + 1, none⟩ = some (.int .i64 kk) → (loadVar 3 ⟨g, h * 2, none⟩).run Try.prog W = .ok (.int .i64 x) W from
                  fun W hW => run_loadVar_cell (fun _ => by kernel_rfl) hW.1)
                have L2 := Lib.hid (show ∀ W, W.cell? ⟨g, h * 2, none⟩ = some (.int .i64 x) ∧ W.cell? ⟨g, h * 2 + 1, none⟩ = some (.int .i64 kk) → (loadVar 3 ⟨g, h * 2 + 1, none⟩).run Try.prog W = .ok (.int .i64 kk) W from
                  fun W hW => run_loadVar_cell (fun _ => by kernel_rfl) hW.2)
                clear hxo
                refine wp_region_lex1 (fun W => W.cell? ⟨g, h * 2, none⟩ = some (.int .i64 x) ∧ W.cell? ⟨g, h * 2 + 1, none⟩ = some (.int .i64 kk)) [(0, false), (1, false), (2, false), (3, false), (4, false), (5, false), (6, false), (7, false), (8, false), (9, false), (10, false), (11, true), (12, false), (13, false), (14, false), (15, false), (16, false), (17, false), (18, false), (19, false), (20, false), (21, false), (22, false), (23, false), (24, false), (25, true), (26, false), (27, false)]
                  (by kernel_rfl) (by kernel_rfl) rfl (by kernel_rfl) ⟨q0, q1⟩ ?_
                intro W0 hW0 hK0
                have HE0 := Lib.hid (show KeAt w.heap.size w k q B3 K A out out (.slice (some ⟨g, 0, none⟩) out.length lc) W0 by rw [hW0]; exact HE.out.later (Below.refl _ w4).drew)
                clear hW0 hK0 HE q0 q1
                refine lexH_yieldE rfl rfl ?_
                apply Exists.intro
                refine ⟨fun W hW => ?_, ?_⟩
                focus (go_simp; exact rfl)
                simp only [List.getElem_toArray, List.getElem_cons_zero, Act.put, List.setIfInBounds_toArray, List.set_cons_zero, List.set_cons_succ]
                refine lexH_yieldE rfl rfl ?_
                apply Exists.intro
                refine ⟨fun W hW => ?_, ?_⟩
                focus (go_simp; exact rfl)
                simp only [List.getElem_toArray, List.getElem_cons_succ, List.getElem_cons_zero, Act.put, List.setIfInBounds_toArray, List.set_cons_zero, List.set_cons_succ]
                refine lexH_yieldE rfl rfl ?_
                apply Exists.intro
                refine ⟨fun W hW => ?_, ?_⟩
                focus (go_simp; exact rfl)
                simp only [List.getElem_toArray, List.getElem_cons_succ, List.getElem_cons_zero, Act.put, List.setIfInBounds_toArray, List.set_cons_zero, List.set_cons_succ]
                refine lexH_yieldE rfl rfl ?_
                apply Exists.intro
                refine ⟨fun W hW => ?_, ?_⟩
                focus (go_simp; exact rfl)
                simp only [List.getElem_toArray, List.getElem_cons_succ, List.getElem_cons_zero, Act.put, List.setIfInBounds_toArray, List.set_cons_zero, List.set_cons_succ]
                refine lexH_yieldE rfl rfl ?_
                apply Exists.intro
                refine ⟨fun W hW => ?_, ?_⟩
                focus (go_simp; exact rfl)
                simp only [List.getElem_toArray, List.getElem_cons_succ, List.getElem_cons_zero, Act.put, List.setIfInBounds_toArray, List.set_cons_zero, List.set_cons_succ]
                refine lexH_load rfl rfl _ _ rfl rfl L1.out ?_
                simp only [List.getElem_toArray, List.getElem_cons_succ, List.getElem_cons_zero, Act.put, List.setIfInBounds_toArray, List.set_cons_zero, List.set_cons_succ]
                refine lexH_yieldE rfl rfl ?_
                apply Exists.intro
                refine ⟨fun W hW => ?_, ?_⟩
                focus (go_simp; exact rfl)
                simp only [List.getElem_toArray, List.getElem_cons_succ, List.getElem_cons_zero, Act.put, List.setIfInBounds_toArray, List.set_cons_zero, List.set_cons_succ]
                refine lexH_yieldE rfl rfl ?_
                apply Exists.intro
                refine ⟨fun W hW => ?_, ?_⟩
                focus (go_simp; exact rfl)
                simp only [List.getElem_toArray, List.getElem_cons_succ, List.getElem_cons_zero, Act.put, List.setIfInBounds_toArray, List.set_cons_zero, List.set_cons_succ]
                refine lexH_yieldE rfl rfl ?_
                apply Exists.intro
                refine ⟨fun W hW => ?_, ?_⟩
                focus (go_simp; exact rfl)
                simp only [List.getElem_toArray, List.getElem_cons_succ, List.getElem_cons_zero, Act.put, List.setIfInBounds_toArray, List.set_cons_zero, List.set_cons_succ]
                refine lexH_yieldE rfl rfl ?_
                apply Exists.intro
                refine ⟨fun W hW => ?_, ?_⟩
                focus (go_simp; exact rfl)
                simp only [List.getElem_toArray, List.getElem_cons_succ, List.getElem_cons_zero, Act.put, List.setIfInBounds_toArray, List.set_cons_zero, List.set_cons_succ]
                refine lexH_load rfl rfl _ _ rfl rfl L2.out ?_
                simp only [List.getElem_toArray, List.getElem_cons_succ, List.getElem_cons_zero, Act.put, List.setIfInBounds_toArray, List.set_cons_zero, List.set_cons_succ]
                refine lexH_call 17 #[.pointer (some ⟨K0.c, 0, none⟩), .int .i64 x, .int .i64 kk] rfl rfl ?_ ?_
                focus (go_simp; done)
                rw [← hKc]
                refine (HE0.out.give hhl HXO.out).mono ?_
                rintro e w5 ⟨rfl, A5, hE5, hno⟩
                have HE5 := Lib.hid hE5
                have HNO := Lib.hid hno
                rw [hKc]
                obtain ⟨g', eg, q0, q1⟩ := HAT.out _ _ _ hE5
                have eg : g = g' := by injection eg with eg; injection eg
                subst eg
                refine ⟨_, rfl, ⟨q0, q1⟩, ?_⟩
                clear hno hE5 HE0 q0 q1
                simp only [List.getElem_toArray, List.getElem_cons_succ, List.getElem_cons_zero, Act.put, List.setIfInBounds_toArray, List.set_cons_zero, List.set_cons_succ]
                refine lexH_yieldE rfl rfl ?_
                apply Exists.intro
                refine ⟨fun W hW => ?_, ?_⟩
                focus (go_simp; exact rfl)
                simp only [List.getElem_toArray, List.getElem_cons_succ, List.getElem_cons_zero, Act.put, List.setIfInBounds_toArray, List.set_cons_zero, List.set_cons_succ]
                refine lexH_yieldE rfl rfl ?_
                apply Exists.intro
                refine ⟨fun W hW => ?_, ?_⟩
                focus (go_simp; exact rfl)
                simp only [List.getElem_toArray, List.getElem_cons_succ, List.getElem_cons_zero, Act.put, List.setIfInBounds_toArray, List.set_cons_zero, List.set_cons_succ]
                refine lexH_yieldE rfl rfl ?_
                apply Exists.intro
                refine ⟨fun W hW => ?_, ?_⟩
                focus (go_simp; exact rfl)
                simp only [List.getElem_toArray, List.getElem_cons_succ, List.getElem_cons_zero, Act.put, List.setIfInBounds_toArray, List.set_cons_zero, List.set_cons_succ]
                refine lexH_yieldE rfl rfl ?_
                apply Exists.intro
                refine ⟨fun W hW => ?_, ?_⟩
                focus (go_simp; exact rfl)
                simp only [List.getElem_toArray, List.getElem_cons_succ, List.getElem_cons_zero, Act.put, List.setIfInBounds_toArray, List.set_cons_zero, List.set_cons_succ]
                refine lexH_yieldE rfl rfl ?_
                apply Exists.intro
                refine ⟨fun W hW => ?_, ?_⟩
                focus (go_simp; exact rfl)
                simp only [List.getElem_toArray, List.getElem_cons_succ, List.getElem_cons_zero, Act.put, List.setIfInBounds_toArray, List.set_cons_zero, List.set_cons_succ]
                refine lexH_yieldE rfl rfl ?_
                apply Exists.intro
                refine ⟨fun W hW => ?_, ?_⟩
                focus (go_simp; exact rfl)
                simp only [List.getElem_toArray, List.getElem_cons_succ, List.getElem_cons_zero, Act.put, List.setIfInBounds_toArray, List.set_cons_zero, List.set_cons_succ]
                refine lexH_yieldE rfl rfl ?_
                apply Exists.intro
                refine ⟨fun W hW => ?_, ?_⟩
                focus (go_simp; exact rfl)
                simp only [List.getElem_toArray, List.getElem_cons_succ, List.getElem_cons_zero, Act.put, List.setIfInBounds_toArray, List.set_cons_zero, List.set_cons_succ]
                refine lexH_load rfl rfl _ _ rfl rfl L1.out ?_
                simp only [List.getElem_toArray, List.getElem_cons_succ, List.getElem_cons_zero, Act.put, List.setIfInBounds_toArray, List.set_cons_zero, List.set_cons_succ]
                refine lexH_yieldE rfl rfl ?_
                apply Exists.intro
                refine ⟨fun W hW => ?_, ?_⟩
                focus (go_simp; exact rfl)
                simp only [List.getElem_toArray, List.getElem_cons_succ, List.getElem_cons_zero, Act.put, List.setIfInBounds_toArray, List.set_cons_zero, List.set_cons_succ]
                refine lexH_yieldE rfl rfl ?_
                apply Exists.intro
                refine ⟨fun W hW => ?_, ?_⟩
                focus (go_simp; exact rfl)
                simp only [List.getElem_toArray, List.getElem_cons_succ, List.getElem_cons_zero, Act.put, List.setIfInBounds_toArray, List.set_cons_zero, List.set_cons_succ]
                refine lexH_yieldE rfl rfl ?_
                apply Exists.intro
                refine ⟨fun W hW => ?_, ?_⟩
                focus (go_simp; exact rfl)
                simp only [List.getElem_toArray, List.getElem_cons_succ, List.getElem_cons_zero, Act.put, List.setIfInBounds_toArray, List.set_cons_zero, List.set_cons_succ]
                refine lexH_yieldE rfl rfl ?_
                apply Exists.intro
                refine ⟨fun W hW => ?_, ?_⟩
                focus (go_simp; exact rfl)
                simp only [List.getElem_toArray, List.getElem_cons_succ, List.getElem_cons_zero, Act.put, List.setIfInBounds_toArray, List.set_cons_zero, List.set_cons_succ]
                refine lexH_load rfl rfl _ _ rfl rfl L2.out ?_
                simp only [List.getElem_toArray, List.getElem_cons_succ, List.getElem_cons_zero, Act.put, List.setIfInBounds_toArray, List.set_cons_zero, List.set_cons_succ]
                refine lexH_call 17 #[.pointer (some ⟨K0.c, 0, none⟩), .int .i64 x, .int .i64 kk] rfl rfl ?_ ?_
                focus (go_simp; done)
                rw [← hKc]
                refine (HE5.out.giveNo HWF.out HNO.out).mono ?_
                rintro e w6 ⟨rfl, hE6⟩
                have HE6 := Lib.hid hE6
                rw [hKc]
                obtain ⟨g', eg, q0, q1⟩ := HAT.out _ _ _ hE6
                have eg : g = g' := by injection eg with eg; injection eg
                subst eg
                refine ⟨_, rfl, ⟨q0, q1⟩, ?_⟩
                clear hE6 HE5 q0 q1 HAT L1 L2
                simp only [List.getElem_toArray, List.getElem_cons_succ, List.getElem_cons_zero, Act.put, List.setIfInBounds_toArray, List.set_cons_zero, List.set_cons_succ]
                refine lexH_yieldE rfl rfl ?_
                apply Exists.intro
                refine ⟨fun W hW => ?_, ?_⟩
                focus (go_simp; exact rfl)
                simp only [List.getElem_toArray, List.getElem_cons_succ, List.getElem_cons_zero, Act.put, List.setIfInBounds_toArray, List.set_cons_zero, List.set_cons_succ]
                refine lexH_yieldE rfl rfl ?_
                apply Exists.intro
                refine ⟨fun W hW => ?_, ?_⟩
                focus (go_simp; exact rfl)
                simp only [List.getElem_toArray, List.getElem_cons_succ, List.getElem_cons_zero, Act.put, List.setIfInBounds_toArray, List.set_cons_zero, List.set_cons_succ]
                refine lexH_nil ?_
                go_wp2_with (fail)
                clear eg HNO HXO HWF
                obtain ⟨g', eg, hnc, hcell⟩ := HE6.out.part (by omega)
                have eg : g = g' := by injection eg with eg; injection eg
                subst eg
                have HCE := Lib.hid hcell
                have S1 := Lib.hid (fun W (_ : Kept w6.heap.size w6 W) => run_sub_to (P := Try.prog) Try.underlying53 sizePair g 0 out.length lc h (by omega) W)
                obtain ⟨A2, hA2, hS2⟩ : ∃ A2 : Addr, (0 < out.length - (h + 1) → A2 = ⟨g, (h + 1) * 2, none⟩) ∧ ∀ W, Kept w6.heap.size w6 W → (Instr.sliceAt 53 (.slice (some ⟨g, 0, none⟩) out.length lc) (some (.int .i64 ((h : Int) + 1))) none none).run Try.prog W = .ok (.slice (some A2) (out.length - (h + 1)) (lc - (h + 1))) W :=
                  ⟨_, fun h => by rw [if_neg (by omega), Nat.zero_add], fun W _ => run_sub_from (P := Try.prog) Try.underlying53 sizePair g 0 out.length lc (h + 1) (by omega) W⟩
                have S2 := Lib.hid hS2
                have HA2 := Lib.hid hA2
                clear hS2 hA2 hcell eg
                refine wp_region_lex (Kept w6.heap.size w6) [(1, false), (2, false), (3, false), (5, false), (6, false), (7, false), (8, false), (0, true), (4, true), (9, true), (10, false)]
                  (by kernel_rfl) (by kernel_rfl) rfl (by kernel_rfl) ⟨rfl, rfl, rfl, Nat.le_refl _, fun _ _ => rfl⟩ ?_
                intro W0 hK0
                refine lexH_yieldE rfl rfl ?_
                apply Exists.intro
                refine ⟨fun W hW => ?_, ?_⟩
                focus (go_simp; exact rfl)
                simp only [List.getElem_toArray, List.getElem_cons_succ, List.getElem_cons_zero, Act.put, List.setIfInBounds_toArray, List.set_cons_zero, List.set_cons_succ]
                refine lexH_yieldE rfl rfl ?_
                apply Exists.intro
                refine ⟨fun W hW => ?_, ?_⟩
                focus (go_simp; exact rfl)
                simp only [List.getElem_toArray, List.getElem_cons_succ, List.getElem_cons_zero, Act.put, List.setIfInBounds_toArray, List.set_cons_zero, List.set_cons_succ]
                refine lexH_slice rfl rfl _ _ _ _ _ rfl S1.out ?_
                simp only [List.getElem_toArray, List.getElem_cons_succ, List.getElem_cons_zero, Act.put, List.setIfInBounds_toArray, List.set_cons_zero, List.set_cons_succ]
                refine lexH_yieldE rfl rfl ?_
                apply Exists.intro
                refine ⟨fun W hW => ?_, ?_⟩
                focus (go_simp; exact rfl)
                simp only [List.getElem_toArray, List.getElem_cons_succ, List.getElem_cons_zero, Act.put, List.setIfInBounds_toArray, List.set_cons_zero, List.set_cons_succ]
                refine lexH_yieldE rfl rfl ?_
                apply Exists.intro
                refine ⟨fun W hW => ?_, ?_⟩
                focus (go_simp; exact rfl)
                simp only [List.getElem_toArray, List.getElem_cons_succ, List.getElem_cons_zero, Act.put, List.setIfInBounds_toArray, List.set_cons_zero, List.set_cons_succ]
                refine lexH_yieldE rfl rfl ?_
                apply Exists.intro
                refine ⟨fun W hW => ?_, ?_⟩
                focus (go_simp; exact rfl)
                simp only [List.getElem_toArray, List.getElem_cons_succ, List.getElem_cons_zero, Act.put, List.setIfInBounds_toArray, List.set_cons_zero, List.set_cons_succ]
                rw [show IntKind.i64.wrap ((h : Int) + 1) = (h : Int) + 1 by rw [IntKind.wrap_i64]; omega]
                refine lexH_slice rfl rfl _ _ _ _ _ rfl S2.out ?_
                simp only [List.getElem_toArray, List.getElem_cons_succ, List.getElem_cons_zero, Act.put, List.setIfInBounds_toArray, List.set_cons_zero, List.set_cons_succ]
                refine lexH_eff rfl rfl ?_
                unfold Oper.wp
                go_simp
                have HK1 := Lib.hid (hK0.below.alloc hK0.below.size (.cells #[] 54))
                have HO1 := Lib.hid (World.ownsRow_made W0 (e := 54) (base := w6.heap.size) (size := 2) #[] 0 hK0.below.size (Nat.zero_le _) (by simp))
                refine ⟨HK1.out, ?_⟩
                clear hK0
                generalize W0.alloc (.cells #[] 54) = W1 at HK1 HO1 ⊢
                generalize W0.heap.size = b1 at HO1 ⊢
                refine lexH_append_src _ rfl rfl _ _ 53 rfl w6.heap.size 54 i0 _ 2 16 Try.underlying53 hi hz0 hz1 hz2 rfl (by decide) _ _ _ HO1.out HK1.out.size (some ⟨g, 0, none⟩) h lc (recV encK (out.take h)) rfl rfl ?q1 ?q2 (recV_one encK_one _) ?q3 (by decide) ?_
                case q1 => rw [recV_len encK_len, List.length_take, Nat.min_eq_left (by omega)]
                case q2 =>
                  refine fun _ => ⟨_, rfl, fun j u hj => ?_⟩
                  have hj2 : j < h * 2 := by
                    have := (List.getElem?_eq_some_iff.1 hj).1
                    rw [recV_len encK_len, List.length_take, Nat.min_eq_left (by omega)] at this
                    exact this
                  rw [← recV_take encK_len, List.getElem?_take_of_lt hj2] at hj
                  have hc := HCE.out j u hj
                  rw [Addr.add_lit, Nat.zero_add, HK1.out.cell (World.block_lt_of_cell? _ _ hc)]
                  exact hc
                case q3 => omega
                intro v2 W2 hown2 ho2 _
                have HO2 := Lib.hid hown2
                have HK2 := Lib.hid (ho2.below HK1.out HK1.out.size (fun j hj => (HO1.out.lt j hj).1))
                refine ⟨HK2.out, ?_⟩
                clear hown2 ho2 HO1 HK1
                simp only [List.getElem_toArray, List.getElem_cons_succ, List.getElem_cons_zero, Act.put, List.setIfInBounds_toArray, List.set_cons_zero, List.set_cons_succ]
                refine lexH_append_src _ rfl rfl _ _ 53 rfl w6.heap.size 54 i0 _ 2 16 Try.underlying53 hi hz0 hz1 hz2 rfl (by decide) _ _ _ HO2.out HK2.out.size (some A2) (out.length - (h + 1)) (lc - (h + 1)) (recV encK (out.drop (h + 1))) rfl rfl ?q4 ?q5 (recV_one encK_one _) ?q6 (by decide) ?_
                case q4 => rw [recV_len encK_len, List.length_drop]
                case q5 =>
                  refine fun hp => ⟨_, rfl, fun j u hj => ?_⟩
                  rw [← recV_drop encK_len, List.getElem?_drop] at hj
                  have hc := HCE.out _ u hj
                  rw [HA2.out hp, Addr.add_lit, HK2.out.cell (World.block_lt_of_cell? _ _ hc)]
                  exact hc
                case q6 => omega
                intro v3 W3 hown3 ho3 _
                have HK3 := Lib.hid (ho3.below HK2.out HK2.out.size (fun j hj => (HO2.out.lt j hj).1))
                have hlen : (out.eraseIdx h).length = 0 + h + (out.length - (h + 1)) := by
                  rw [List.length_eraseIdx_of_lt hhl]; omega
                have hO3 : W3.ownsRow w6.heap.size 54 2 v3 (out.eraseIdx h).length (recV encK (out.eraseIdx h)) := by
                  rw [hlen, List.eraseIdx_eq_take_drop_succ, recV_append]; simpa using hown3
                have HLN := Lib.hid (show (out.eraseIdx h).length + 1 = out.length by rw [hlen]; omega)
                clear hlen
                generalize out.eraseIdx h = U at *
                obtain ⟨a3, cap3, hv3⟩ := own_sliceK hO3
                subst hv3
                have HP6 := Lib.hid (HE6.out.anew hO3 HK3.out)
                refine ⟨HK3.out, ?_⟩
                clear hO3 hown3 ho3 HO2 HK2 HK3 HE6 S1 S2 HA2 HCE
                simp only [List.getElem_toArray, List.getElem_cons_succ, List.getElem_cons_zero, Act.put, List.setIfInBounds_toArray, List.set_cons_zero, List.set_cons_succ]
                refine lexH_yieldE rfl rfl ?_
                apply Exists.intro
                refine ⟨fun W hW => ?_, ?_⟩
                focus (go_simp; exact rfl)
                simp only [List.getElem_toArray, List.getElem_cons_succ, List.getElem_cons_zero, Act.put, List.setIfInBounds_toArray]
                refine lexH_nil ?_
                go_wp2_with (fail)
                go_roundw
                case rel => exact ⟨j + 1, A5, U, a3, cap3, by go_num, rfl, hlt, (by have := HLN.out; omega), HP6⟩
                case measure => simp [intOf]; omega
              · skip
                rcases (show ¬ y.tmod 3 = 0 ∨ (y.tmod 3 = 0 ∧ out.length = 0) by omega) with hy3 | ⟨hy3, ho0⟩
                all_goals
                  have hyb : (y.tmod 3 == 0) = decide (y.tmod 3 = 0) := by rw [Bool.eq_iff_iff]; simp
                  clear hway
                  go_wp2_with (fail)
                  clear cy hy3 hyb
                  have hT := HE.out.take (by omega)
                  rw [hKc] at hT
                  refine hT.mono ?_
                  clear hT
                  try clear ho0
                  rintro e w5 (⟨x, kk, A', rfl, hni, hE⟩ | ⟨hfull, rfl, hE⟩)
                  · have HE5 := Lib.hid hE
                    have HNI := Lib.hid hni
                    clear hE hni HE
                    go_wp2_with (fail)
                    go_loop [92] (fun i => ∃ h : Nat, h ≤ out.length ∧ i = .int .i64 h) (fun i => out.length - (intOf i).toNat)
                    case atStart => exact ⟨0, Nat.zero_le _, rfl⟩
                    case round =>
                      obtain ⟨h, hh, rfl⟩ := hrel
                      by_cases hlh : h < out.length
                      · have hlhI : (h : Int) < (out.length : Int) := by omega
                        obtain ⟨g, rfl, d0, d1⟩ := HE5.out.at h hlh
                        have hne : ¬ (out[h].1 = x ∧ (out[h].2 : Int) = (kk : Int)) := fun e => HNI.out (by
                          have : out[h] = (x, kk) := Prod.ext e.1 (by have := e.2; dsimp only; omega)
                          rw [← this]
                          exact List.getElem_mem hlh)
                        have heq := equal_pair out[h].1 out[h].2 x kk
                        rw [decide_eq_false hne] at heq
                        clear hne
                        generalize out[h].1 = x2 at *
                        generalize out[h].2 = k2 at *
                        go_wp2_with (fail)
                        go_round
                        case rel => exact ⟨h + 1, hlh, by go_num⟩
                        case measure => simp [intOf]; omega
                      · obtain rfl : h = out.length := by omega
                        go_wp2_with (first | (at_builtin; refine wpList_append_one w5 rfl _ _ 53 rfl B3 54 i0 _ 2 16 Try.underlying53 hi hz0 hz1 hz2 rfl (by decide) _ _ _ #[.int .i64 x, .int .i64 kk] HE5.out.lst HE5.out.b3 rfl rfl rfl (pairK_one _ _) (by omega) (by decide) ?_; intro v' w6 hown ho6 _) | fail)
                        have hE6 := HE5.out.more (x := (x, kk)) hown ho6
                        obtain ⟨a6, c6, hv6⟩ := own_sliceK hE6.lst
                        subst hv6
                        have HE6 := Lib.hid hE6
                        have HT6 := Lib.hid (show (out ++ [(x, kk)]).length = out.length + 1 by simp)
                        clear hown ho6 hE6 HE5 HNI
                        go_wp2_with (fail)
                        go_roundw
                        case rel => exact ⟨j + 1, A', out ++ [(x, kk)], a6, c6, by go_num, rfl, hlt, by rw [HT6.out]; omega, HE6⟩
                        case measure => simp [intOf]; omega
                  · have HE5 := Lib.hid hE
                    have hkq : (k : Int) * (q : Int) = (out.length : Int) := by rw [hfull, Int.natCast_mul]
                    clear hE HE hfull
                    go_wp2_with (fail)
                    clear hkq
                    go_roundw
                    case rel => exact ⟨j + 1, A, out, la, lc, by go_num, rfl, hlt, by omega, HE5⟩
                    case measure => simp [intOf]; omega
            · obtain rfl : j = l1 := by omega
              clear hlt
              go_wp2_with (fail)
              go_loopw [161] (fun i wr => ∃ (h : Nat) (A : Ca), h ≤ out.length ∧ i = .int .i64 h ∧ Hid (KeAt w.heap.size w k q B3 K A (out.drop h) out (.slice la out.length lc) wr)) (fun i _ => out.length - (intOf i).toNat)
              case atStart => exact ⟨0, A, Nat.zero_le _, rfl, HE⟩
              case round =>
                clear HE A
                rename World => w4
                obtain ⟨h, A, hh, rfl, HE⟩ := hrel
                by_cases hlh : h < out.length
                · have hlhI : (h : Int) < (out.length : Int) := by omega
                  obtain ⟨g, rfl, q0, q1⟩ := HE.out.at h hlh
                  obtain ⟨⟨x, kk⟩, hxo⟩ : ∃ p, out[h] = p := ⟨_, rfl⟩
                  have HD := Lib.hid (show out.drop h = (x, kk) :: out.drop (h + 1) by rw [List.drop_eq_getElem_cons hlh, hxo])
                  rw [hxo] at q0 q1
                  dsimp only at q0 q1
                  have L1 := Lib.hid (show ∀ W, W.cell? ⟨g, h * 2, none⟩ = some (.int .i64 x) ∧ W.cell? ⟨g, h * 2 + 1, none⟩ = some (.int .i64 kk) → (loadVar 3 ⟨g, h * 2, none⟩).run Try.prog W = .ok (.int .i64 x) W from
                    fun W hW => run_loadVar_cell (fun _ => by kernel_rfl) hW.1)
                  have L2 := Lib.hid (show ∀ W, W.cell? ⟨g, h * 2, none⟩ = some (.int .i64 x) ∧ W.cell? ⟨g, h * 2 + 1, none⟩ = some (.int .i64 kk) → (loadVar 3 ⟨g, h * 2 + 1, none⟩).run Try.prog W = .ok (.int .i64 kk) W from
                    fun W hW => run_loadVar_cell (fun _ => by kernel_rfl) hW.2)
                  have HAT := Lib.hid (fun (A' : Ca) (o' : List (Int × Nat)) (W : World) (hK : KeAt w.heap.size w k q B3 K A' o' out (.slice (some ⟨g, 0, none⟩) out.length lc) W) => hK.at h hlh)
                  rw [hxo] at HAT
                  clear hxo
                  go_wp2_with (fail)
                  refine wp_region_lex1 (fun W => W.cell? ⟨g, h * 2, none⟩ = some (.int .i64 x) ∧ W.cell? ⟨g, h * 2 + 1, none⟩ = some (.int .i64 kk)) [(0, false), (1, false), (2, false), (3, false), (4, false), (5, false), (6, false), (7, false), (8, false), (9, false), (10, false), (11, true), (12, false)]
                    (by kernel_rfl) (by kernel_rfl) rfl (by kernel_rfl) ⟨q0, q1⟩ ?_
                  intro W0 hW0 hK0
                  have HE0 := Lib.hid (show KeAt w.heap.size w k q B3 K A (out.drop h) out (.slice (some ⟨g, 0, none⟩) out.length lc) W0 by rw [hW0]; exact HE.out.later (Below.refl _ w4).drew)
                  rw [HD.out] at HE0
                  clear hW0 hK0 HE q0 q1
                  refine lexH_yieldE rfl rfl ?_
                  apply Exists.intro
                  refine ⟨fun W hW => ?_, ?_⟩
                  focus (go_simp; exact rfl)
                  simp only [List.getElem_toArray, List.getElem_cons_zero, Act.put, List.setIfInBounds_toArray, List.set_cons_zero, List.set_cons_succ]
                  refine lexH_yieldE rfl rfl ?_
                  apply Exists.intro
                  refine ⟨fun W hW => ?_, ?_⟩
                  focus (go_simp; exact rfl)
                  simp only [List.getElem_toArray, List.getElem_cons_succ, List.getElem_cons_zero, Act.put, List.setIfInBounds_toArray, List.set_cons_zero, List.set_cons_succ]
                  refine lexH_yieldE rfl rfl ?_
                  apply Exists.intro
                  refine ⟨fun W hW => ?_, ?_⟩
                  focus (go_simp; exact rfl)
                  simp only [List.getElem_toArray, List.getElem_cons_succ, List.getElem_cons_zero, Act.put, List.setIfInBounds_toArray, List.set_cons_zero, List.set_cons_succ]
                  refine lexH_yieldE rfl rfl ?_
                  apply Exists.intro
                  refine ⟨fun W hW => ?_, ?_⟩
                  focus (go_simp; exact rfl)
                  simp only [List.getElem_toArray, List.getElem_cons_succ, List.getElem_cons_zero, Act.put, List.setIfInBounds_toArray, List.set_cons_zero, List.set_cons_succ]
                  refine lexH_yieldE rfl rfl ?_
                  apply Exists.intro
                  refine ⟨fun W hW => ?_, ?_⟩
                  focus (go_simp; exact rfl)
                  simp only [List.getElem_toArray, List.getElem_cons_succ, List.getElem_cons_zero, Act.put, List.setIfInBounds_toArray, List.set_cons_zero, List.set_cons_succ]
                  refine lexH_load rfl rfl _ _ rfl rfl L1.out ?_
                  simp only [List.getElem_toArray, List.getElem_cons_succ, List.getElem_cons_zero, Act.put, List.setIfInBounds_toArray, List.set_cons_zero, List.set_cons_succ]
                  refine lexH_yieldE rfl rfl ?_
                  apply Exists.intro
                  refine ⟨fun W hW => ?_, ?_⟩
                  focus (go_simp; exact rfl)
                  simp only [List.getElem_toArray, List.getElem_cons_succ, List.getElem_cons_zero, Act.put, List.setIfInBounds_toArray, List.set_cons_zero, List.set_cons_succ]
                  refine lexH_yieldE rfl rfl ?_
                  apply Exists.intro
                  refine ⟨fun W hW => ?_, ?_⟩
                  focus (go_simp; exact rfl)
                  simp only [List.getElem_toArray, List.getElem_cons_succ, List.getElem_cons_zero, Act.put, List.setIfInBounds_toArray, List.set_cons_zero, List.set_cons_succ]
                  refine lexH_yieldE rfl rfl ?_
                  apply Exists.intro
                  refine ⟨fun W hW => ?_, ?_⟩
                  focus (go_simp; exact rfl)
                  simp only [List.getElem_toArray, List.getElem_cons_succ, List.getElem_cons_zero, Act.put, List.setIfInBounds_toArray, List.set_cons_zero, List.set_cons_succ]
                  refine lexH_yieldE rfl rfl ?_
                  apply Exists.intro
                  refine ⟨fun W hW => ?_, ?_⟩
                  focus (go_simp; exact rfl)
                  simp only [List.getElem_toArray, List.getElem_cons_succ, List.getElem_cons_zero, Act.put, List.setIfInBounds_toArray, List.set_cons_zero, List.set_cons_succ]
                  refine lexH_load rfl rfl _ _ rfl rfl L2.out ?_
                  simp only [List.getElem_toArray, List.getElem_cons_succ, List.getElem_cons_zero, Act.put, List.setIfInBounds_toArray, List.set_cons_zero, List.set_cons_succ]
                  refine lexH_call 17 #[.pointer (some ⟨K0.c, 0, none⟩), .int .i64 x, .int .i64 kk] rfl rfl ?_ ?_
                  focus (go_simp; done)
                  rw [← hKc]
                  refine (HE0.out.give (h := 0) (Nat.zero_lt_succ _) rfl).mono ?_
                  rintro e w5 ⟨rfl, A5, hE5, hno⟩
                  have HE5 := Lib.hid (show KeAt w.heap.size w k q B3 K A5 (out.drop (h + 1)) out (.slice (some ⟨g, 0, none⟩) out.length lc) w5 from hE5)
                  rw [hKc]
                  obtain ⟨g', eg, q0, q1⟩ := HAT.out _ _ _ hE5
                  have eg : g = g' := by injection eg with eg; injection eg
                  subst eg
                  refine ⟨_, rfl, ⟨q0, q1⟩, ?_⟩
                  clear hno hE5 HE0 q0 q1 HAT L1 L2 HD eg
                  simp only [List.getElem_toArray, List.getElem_cons_succ, List.getElem_cons_zero, Act.put, List.setIfInBounds_toArray, List.set_cons_zero, List.set_cons_succ]
                  refine lexH_yieldE rfl rfl ?_
                  apply Exists.intro
                  refine ⟨fun W hW => ?_, ?_⟩
                  focus (go_simp; exact rfl)
                  simp only [List.getElem_toArray, List.getElem_cons_succ, List.getElem_cons_zero, Act.put, List.setIfInBounds_toArray, List.set_cons_zero, List.set_cons_succ]
                  refine lexH_nil ?_
                  go_wp2_with (fail)
                  go_roundw
                  case rel => exact ⟨h + 1, A5, hlh, by go_num, HE5⟩
                  case measure => simp [intOf]; omega
                · obtain rfl : h = out.length := by omega
                  have hE := HE.out
                  rw [List.drop_length] at hE
                  have HALL := Lib.hid (hE.p.empty hE.k.at_.inv)
                  have hln : (A.L.map Pl.fr).length = k := by rw [List.length_map]; exact hE.p.len
                  have HLN := Lib.hid hln
                  have hEM := kempty_any hE.k.at_ (by rw [hE.p.len]; omega)
                  rw [frs_all HALL.out, hKc] at hEM
                  have HEM := Lib.hid hEM
                  have HKA := Lib.hid hE.k
                  have HUP := Lib.hid hE.up
                  have HB3 := Lib.hid (show B3 ≤ w4.heap.size from hE.b3)
                  clear hE hEM HE hln
                  go_wp2_with (fail)
                  refine HEM.out.mono ?_
                  rintro e w5 ⟨v, rfl, hown, hb⟩
                  rw [HLN.out] at hown
                  obtain ⟨ea, ec, hv, _⟩ := owns_slice hown
                  subst hv
                  have HKA5 := Lib.hid (HKA.out.later hb)
                  have HOW := Lib.hid hown
                  clear hown hb HEM HKA
                  have HUB := Lib.hid (show ∀ j, K.all A.L j → j < w4.heap.size from fun j hj => Nat.lt_of_lt_of_le (HUP.out j hj) HB3.out)
                  clear HUP HB3
                  generalize w4.heap.size = B4 at *
                  go_wp2_with (fail)
                  go_loopw [186] (fun i wr => ∃ (h : Nat) (A' : Ca), h ≤ k ∧ i = .int .i64 h ∧ Hid (A'.L = A.L.drop h) ∧ Hid (KAt w.heap.size w K A' wr) ∧ Hid (∀ j, K.all A'.L j → j < B4) ∧ Hid (wr.ownsRow B4 3 1 (.slice ea k ec) k (intV (A.L.map Pl.fr)))) (fun i _ => k - (intOf i).toNat)
                  case atStart => exact ⟨0, A, Nat.zero_le _, rfl, Lib.hid rfl, HKA5, HUB, HOW⟩
                  case round =>
                    clear HKA5 HUB HOW
                    rename World => w6
                    obtain ⟨h, A', hh, rfl, HL, HKA, HUB, HOW⟩ := hrel
                    have hln2 : A.L.length = k := by rw [← HLN.out, List.length_map]
                    by_cases hlh : h < k
                    · have hlhI : (h : Int) < (k : Int) := by omega
                      have hlA : h < A.L.length := by omega
                      obtain ⟨g, hg, cg⟩ := rowK_at HOW.out hlh
                      subst hg
                      rw [intV_fr hlA] at cg
                      obtain ⟨z1, z2⟩ := drop_first HKA.out.at_.inv HL.out hlA HALL.out
                      have hDR := kdrop_any HKA.out.at_ A.L[h].fr (HKA.out.at_.wf A.L[h] (by rw [HL.out, List.drop_eq_getElem_cons hlA]; exact List.mem_cons_self))
                      unfold KPost1 at hDR
                      rw [z1, hKc] at hDR
                      have HDR := Lib.hid hDR
                      have HZ2 := Lib.hid z2
                      clear hDR z1 z2
                      generalize A.L[h].fr = x at *
                      go_wp2_with (fail)
                      clear cg
                      refine HDR.out.mono ?_
                      rintro e w7 ⟨rfl, K2, T⟩
                      have e2 := T.keep rfl
                      subst e2
                      have HK7 := Lib.hid (HKA.out.same T)
                      have HU7 := Lib.hid (show ∀ j, K2.all (A'.drop x).2.L j → j < B4 from fun j hj => HUB.out j (T.sub rfl j hj))
                      have HO7 := Lib.hid (owns_only HOW.out T.only (fun j hj h => by
                        rcases h with h | h
                        · have := HUB.out j h
                          have := (HOW.out.lt j hj).1
                          omega
                        · exact h))
                      clear T HDR HKA HUB HOW HL
                      generalize (A'.drop x).2 = A7 at *
                      go_wp2_with (fail)
                      go_roundw
                      case rel => exact ⟨h + 1, A7, hlh, by go_num, HZ2, HK7, HU7, HO7⟩
                      case measure => simp [intOf]; omega
                    · obtain rfl : h = k := by omega
                      have hL0 : A'.L = [] := by rw [HL.out, List.drop_eq_nil_of_le (by omega)]
                      have hz : A'.take = (0, 0, 7, A') := by unfold Ca.take; rw [hL0]; rfl
                      have hT := ktake_any HKA.out.at_ (by rw [hL0]; exact Nat.zero_le _)
                      rw [hz, hKc] at hT
                      have HT := Lib.hid hT
                      have HL0 := Lib.hid hL0
                      clear hT hz hL0 HOW HL hln2 HALL HLN
                      go_wp2_with (fail)
                      refine HT.out.mono ?_
                      rintro e w7 ⟨rfl, K2, T⟩
                      have hc7 := T.c.trans hKc
                      have HK7 := Lib.hid (HKA.out.same T)
                      have hFR := kframes_any HK7.out.at_ (by rw [HL0.out]; exact Nat.zero_le _)
                      rw [HL0.out, hc7] at hFR
                      have HFR := Lib.hid hFR
                      clear hFR T HT HKA
                      go_wp2_with (fail)
                      refine HFR.out.mono ?_
                      rintro e w8 ⟨v, rfl, hown, hb⟩
                      obtain ⟨fa, fc, hv, _⟩ := owns_slice hown
                      subst hv
                      have HB8 := Lib.hid (HK7.out.bel.trans (hb.mono HK7.out.le))
                      have HS8 := Lib.hid (Nat.le_trans HK7.out.le hb.size)
                      clear hown hb HFR HK7
                      go_wp2_with (fail)
                      refine (kknown_any w8).mono ?_
                      rintro e w9 ⟨rfl, hb⟩
                      have HB2 := Lib.hid (HB8.out.trans (hb.mono HS8.out))
                      clear hb HB8
                      go_wp2_with (fail)
                      go_ret
                      exact ⟨rfl, HB2.out⟩
    · rcases (show n < 0 ∨ (¬ n < 0 ∧ 20 < n) ∨ (¬ n < 0 ∧ ¬ 20 < n ∧ 200 < (l1 : Int)) by omega) with h1 | ⟨h1, h2⟩ | ⟨h1, h2, h3⟩
      all_goals
        clear hok hZ
        go_enter Try.func5, Try.ntmps5
        go_wp2_with (fail)
        refine HN.out.mono ?_
        rintro e w1 ⟨K, rfl, _, hb, _⟩
        have HB := Lib.hid hb
        clear hb HN
        go_wp2_with (fail)
        refine (kknown_any w1).mono ?_
        rintro e w3 ⟨rfl, hb⟩
        have HB2 := Lib.hid (HB.out.trans (hb.mono HB.out.size))
        clear hb HB
        go_wp2_with (fail)
        go_ret
        exact ⟨rfl, HB2.out⟩
end Go.Proofs.Ytlimbcpghfddkaa
