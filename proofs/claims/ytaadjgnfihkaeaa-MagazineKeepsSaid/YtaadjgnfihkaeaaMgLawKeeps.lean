/-
  The walk of MagazineKeeps: it returns true, and below the old heap nothing has turned.
-/
import Derived.Test.YtaadjgnfihkaeaaMgKi
import Derived.Deep.DeepCutAuto
import Derived.Deep.CutBlock
namespace Go.Proofs.Ytaadjgnfihkaeaa
open Go.RowKit Go
set_option maxRecDepth 100000 in
set_option maxHeartbeats 8000000 in
theorem lawMKeeps_any (nn : Int) (a : Option Addr) (len cap : Nat) (O : Nat → OpM) (w : World) (hO : OpsM w a len O) :
    Calls Try.prog 4 #[.int .i64 nn, .slice a len cap] w fun e w' => e = .returned (.bool true) ∧ Below w.heap.size w w' := by
  have HO := Lib.hid hO
  clear hO
  by_cases hlen : len ≤ 200
  · have hlenI : ¬ (200 < (len : Int)) := by omega
    go_enter Try.func4, Try.ntmps4
    go_wp2_with (fail)
    refine (new_kp nn w).mono ?_
    rintro e w1 ⟨p, rfl, hP⟩
    have h32 := hP.1.ps.n2
    have HP := Lib.hid hP.nilI.nilI
    clear hP
    generalize clN nn = N at *
    go_wp2_with (fail)
    go_loopw [6, 7, 8, 32] (fun nx vi vt i wr => ∃ (k n : Nat) (ui ut : Value) (I T : List Int) (S : Obs), k ≤ len ∧ i = .int .i64 k ∧ nx = .int .i64 n ∧ vi = ui ∧ vt = ut ∧ n ≤ 40 * k ∧ Hid (KP w p N S [rI ui I, rI ut T] wr) ∧ Hid (KI n I T S)) (fun _ _ _ i _ => len - (intOf i).toNat)
    case atStart => exact ⟨0, 0, _, _, [], [], [], Nat.zero_le _, rfl, rfl, rfl, rfl, Nat.le_refl _, HP, Lib.hid KI.zero⟩
    case round =>
      clear HP
      obtain ⟨k, n, vi, vt, I, T, S, hk, rfl, rfl, hv9, ht9, hn, HP, HI⟩ := hrel
      have hv9 := hv9.symm
      subst hv9
      have ht9 := ht9.symm
      subst ht9
      by_cases hlt : k < len
      · skip
        have hltI : (k : Int) < (len : Int) := by omega
        obtain ⟨b, o, rfl, _, hok, hc⟩ := HO.out.one k hlt
        have HLT := Lib.hid hlt
        have HCC := Lib.hid hc
        obtain ⟨c0, c1, c2, c3⟩ := hc wr HP.out.bel
        clear hc hlt c1 c2 c3 hok
        generalize O k = op at c0 HCC
        obtain ⟨kind, x, y, la, ln, cp, z⟩ := op
        dsimp only at c0 HCC
        have hn8 : n ≤ 8000 := by omega
        go_upto_block 2 with (fail)
        clear c0 HO
        go_cut [6, 7, 8] (fun nx vi vt wc => ∃ (n' : Nat) (ui ut : Value) (I' T' : List Int) (S' : Obs), nx = .int .i64 n' ∧ vi = ui ∧ vt = ut ∧ n' ≤ 40 * (k + 1) ∧ Hid (KP w p N S' [rI ui I', rI ut T'] wc) ∧ Hid (KI n' I' T' S'))
        case first =>
          have HN40 := Lib.hid hn
          by_cases hk0 : kind = 0
          · as_aux_lemma =>
              subst hk0
              have HST := Lib.hid (show (n : Int) + 1 = ((n + 1 : Nat) : Int) by omega)
              by_cases hl : S.length < 2 * N
              · go_wp2_with (fail)
                refine (put_kpy HP.out ((n : Int) + 1) 0 hl).mono ?_
                rintro e w2 ⟨rfl, hP2⟩
                have HP2 := Lib.hid hP2
                have HIL := Lib.hid (show I.length ≤ 100000 by have := HI.out.2.2; omega)
                clear hP2 HP hl
                go_wp2_with (first
                  | (at_builtin; refine wpList_kpI rfl _ _ rfl HP2.out HIL.out ((n : Int) + 1) rfl rfl ?_
                     intro v3 w3 hP3
                     have HP3 := Lib.hid hP3
                     clear hP3 HP2)
                  | fail)
                rw [HST.out] at HP3
                go_meet
                exact ⟨n + 1, _, _, _, _, _, by rw [← HST.out], rfl, rfl, by have := HN40.out; omega, HP3, Lib.hid HI.out.put⟩
              · go_wp2_with (fail)
                refine (put_kpn HP.out ((n : Int) + 1) 0 hl).mono ?_
                rintro e w2 ⟨rfl, hP2⟩
                have HP2 := Lib.hid hP2
                clear hP2 HP hl
                go_wp2_with (fail)
                go_meet
                exact ⟨n + 1, _, _, _, _, _, by rw [← HST.out], rfl, rfl, by have := HN40.out; omega, HP2, Lib.hid (HI.out.more 1)⟩
          · by_cases hk1 : kind = 1
            · as_aux_lemma =>
                subst hk1
                rcases nil_or_snoc S with rfl | ⟨S2, x1, y1, rfl⟩
                · go_wp2_with (fail)
                  refine (get_kpn HP.out).mono ?_
                  rintro e w2 ⟨rfl, hP2⟩
                  have HST := Lib.hid (store_obj w2 #[.int .i64 0, .int .i64 0] rfl 0 0)
                  have hba : Below w2.heap.size w2 (w2.alloc (.cells #[.int .i64 0, .int .i64 0] 33)) := (Below.refl _ _).alloc (Nat.le_refl _) _
                  have HP3 := Lib.hid (hP2.later hba)
                  clear hP2 hba HP
                  go_wp2_with (first | (refine wpList_store_run rfl TO _ _ rfl _ _ _ rfl rfl HST.out ?_) | fail)
                  go_meet
                  exact ⟨n, _, _, _, _, _, rfl, rfl, rfl, by have := HN40.out; omega, HP3, HI⟩
                · go_wp2_with (fail)
                  refine (get_kpy HP.out).mono ?_
                  rintro e w2 ⟨rfl, hP2⟩
                  have HST := Lib.hid (store_obj w2 #[.int .i64 0, .int .i64 0] rfl x1 y1)
                  have hba : Below w2.heap.size w2 (w2.alloc (.cells #[.int .i64 x1, .int .i64 y1] 33)) := (Below.refl _ _).alloc (Nat.le_refl _) _
                  have HP3 := Lib.hid (hP2.later hba).swap
                  have d0 := (obj_row w2 x1 y1).cell 0 (by decide)
                  have e0 : obV x1 y1 0 = .int .i64 x1 := rfl
                  rw [e0] at d0
                  have HIL := Lib.hid (show T.length ≤ 100000 by have := HI.out.2.2; have := HI.out.len; omega)
                  clear hP2 hba HP e0
                  go_wp2_with (first
                    | (refine wpList_store_run rfl TO _ _ rfl _ _ _ rfl rfl HST.out ?_
                       clear HST
                       generalize w2.alloc (.cells #[.int .i64 x1, .int .i64 y1] 33) = w9 at *)
                    | (at_builtin; refine wpList_kpI rfl _ _ rfl HP3.out HIL.out x1 rfl rfl ?_
                       intro v3 w3 hP3
                       have HP4 := Lib.hid hP3.swap
                       clear hP3 HP3 d0)
                    | fail)
                  go_meet
                  exact ⟨n, _, _, _, _, _, rfl, rfl, rfl, by have := HN40.out; omega, HP4, Lib.hid HI.out.get⟩
            · by_cases hk2 : kind = 2
              · as_aux_lemma =>
                  subst hk2
                  clear hk0 hk1
                  go_wp2_with (fail)
                  go_loopw [6, 12, 13, 14] (fun nx vm vo i wz => ∃ (c : Nat) (um uo : Value), c ≤ 40 ∧ nx = .int .i64 ((n : Int) + (c : Int)) ∧ vm = um ∧ vo = uo ∧ i = .int .i64 c ∧ Hid (KP w p N S [rO um (obM n c), rI uo (owM n c), rI vi I, rI vt T] wz)) (fun _ _ _ i _ => 40 - (intOf i).toNat)
                  case atStart => exact ⟨0, _, _, by omega, by simp, rfl, rfl, rfl, Lib.hid ((HP.out.nilI).nilO)⟩
                  case round =>
                    clear HP
                    obtain ⟨c, vm, vo, hc, rfl, hm9, ho9, rfl, HP⟩ := hrel
                    have hm9 := hm9.symm
                    subst hm9
                    have ho9 := ho9.symm
                    subst ho9
                    obtain ⟨c0, c1, c2, c3⟩ := HCC.out wr HP.out.bel
                    clear c0 c1 c2
                    by_cases h1 : c < ln
                    · by_cases h2 : c < 40
                      · have h1I : (c : Int) < (ln : Int) := by omega
                        have h2I : (c : Int) < 40 := by omega
                        have HC := Lib.hid h2
                        have HST := Lib.hid (show (n : Int) + (c : Int) + 1 = ((n + c + 1 : Nat) : Int) by omega)
                        have HL1 := Lib.hid (show (obM n c).length ≤ 100000 by rw [obM_len]; omega)
                        have HL2 := Lib.hid (show (owM n c).length ≤ 100000 by rw [owM_len]; omega)
                        clear h1 h2 hc
                        go_wp2_with (first
                          | (at_builtin; refine wpList_kpO rfl _ _ rfl HP.out HL1.out ((n : Int) + (c : Int) + 1) 0 rfl rfl ?_
                             intro v3 w3 hP3
                             have HP3 := Lib.hid hP3.swap
                             clear hP3 HP c3)
                          | (at_builtin; refine wpList_kpI rfl _ _ rfl HP3.out HL2.out ((n : Int) + (c : Int) + 1) rfl rfl ?_
                             intro v4 w4 hP4
                             have HP4 := Lib.hid hP4.swap
                             clear hP4 HP3)
                          | fail)
                        rw [HST.out, ← obM_succ, ← owM_succ] at HP4
                        go_roundw
                        case rel => exact ⟨c + 1, _, _, HC.out, by rw [show (n : Int) + ((c + 1 : Nat) : Int) = (n : Int) + (c : Int) + 1 by omega], rfl, rfl, by go_num, HP4⟩
                        case measure => have := HC.out; simp [intOf]; omega
                      · have h1I : (c : Int) < (ln : Int) := by omega
                        obtain rfl : c = 40 := by omega
                        clear h1 h2 hc
                        rw [show ((40 : Nat) : Int) = 40 from rfl]
                        have HNC := Lib.hid (show n + 40 ≤ 40 * (k + 1) by have := HN40.out; omega)
                        have HI2 := Lib.hid (HI.out.more 40)
                        have HCL := Lib.hid (show (obM n 40).length = 40 from obM_len)
                        have HIL := Lib.hid (show I.length + (owM n 40).length ≤ 100000 by rw [owM_len]; have := HI.out.2.2; omega)
                        go_wp2_with (fail)
                        clear c3
                        refine (load_kp HP.out HP.out.srcO).mono ?_
                        rintro e w2 ⟨rfl, hP2⟩
                        rcases ldM_cases N (obM n 40) S with h | h | ⟨hS, h3, h4, h⟩
                        · rw [h] at hP2 ⊢
                          have HP2 := Lib.hid hP2.drop.drop
                          clear hP2 h HP
                          go_wp2_with (fail)
                          go_meet
                          exact ⟨n + 40, _, _, _, _, _, by simp, rfl, rfl, HNC.out, HP2, HI2⟩
                        · rw [h] at hP2 ⊢
                          have HP2 := Lib.hid hP2.drop.drop
                          clear hP2 h HP
                          go_wp2_with (fail)
                          go_meet
                          exact ⟨n + 40, _, _, _, _, _, by simp, rfl, rfl, HNC.out, HP2, HI2⟩
                        · rw [h] at hP2 ⊢
                          have HP2 := Lib.hid hP2.drop.swap
                          have HJ := Lib.hid (show 0 < (owM n 40).length by rw [owM_len]; rw [obM_len] at h3; exact h3)
                          subst hS
                          clear hP2 h HP h3 h4
                          go_wp2_with (first
                            | (at_builtin; refine wpList_kpII rfl _ _ rfl HP2.out HIL.out HJ.out rfl rfl ?_
                               intro v5 w5 hP5
                               have HP5 := Lib.hid hP5.swap.drop
                               clear hP5 HP2)
                            | fail)
                          go_meet
                          exact ⟨n + 40, _, _, _, _, _, by simp, rfl, rfl, HNC.out, HP5, Lib.hid HI.out.load⟩
                    · have h1I : ¬ ((c : Int) < (ln : Int)) := by omega
                      clear h1
                      have HNC := Lib.hid (show n + c ≤ 40 * (k + 1) by have := HN40.out; omega)
                      have HI2 := Lib.hid (HI.out.more c)
                      have HCL := Lib.hid (show (obM n c).length = c from obM_len)
                      have HIL := Lib.hid (show I.length + (owM n c).length ≤ 100000 by rw [owM_len]; have := HI.out.2.2; omega)
                      go_wp2_with (fail)
                      clear c3
                      refine (load_kp HP.out HP.out.srcO).mono ?_
                      rintro e w2 ⟨rfl, hP2⟩
                      rcases ldM_cases N (obM n c) S with h | h | ⟨hS, h3, h4, h⟩
                      · rw [h] at hP2 ⊢
                        have HP2 := Lib.hid hP2.drop.drop
                        clear hP2 h HP
                        go_wp2_with (fail)
                        go_meet
                        exact ⟨n + c, _, _, _, _, _, by simp, rfl, rfl, HNC.out, HP2, HI2⟩
                      · rw [h] at hP2 ⊢
                        have HP2 := Lib.hid hP2.drop.drop
                        clear hP2 h HP
                        go_wp2_with (fail)
                        go_meet
                        exact ⟨n + c, _, _, _, _, _, by simp, rfl, rfl, HNC.out, HP2, HI2⟩
                      · rw [h] at hP2 ⊢
                        have HP2 := Lib.hid hP2.drop.swap
                        have HJ := Lib.hid (show 0 < (owM n c).length by rw [owM_len]; rw [obM_len] at h3; exact h3)
                        subst hS
                        clear hP2 h HP h3 h4
                        go_wp2_with (first
                          | (at_builtin; refine wpList_kpII rfl _ _ rfl HP2.out HIL.out HJ.out rfl rfl ?_
                             intro v5 w5 hP5
                             have HP5 := Lib.hid hP5.swap.drop
                             clear hP5 HP2)
                          | fail)
                        go_meet
                        exact ⟨n + c, _, _, _, _, _, by simp, rfl, rfl, HNC.out, HP5, Lib.hid HI.out.load⟩
              · by_cases hk3 : kind = 3
                · as_aux_lemma =>
                    subst hk3
                    clear hk0 hk1 hk2 HCC
                    go_wp2_with (fail)
                    refine (unl_kp HP.out).mono ?_
                    rintro e w2 ⟨v, rfl, hP2⟩
                    have HI2 := Lib.hid (HI.out.un (N := N))
                    have HTL := Lib.hid (show T.length + (unS N S).2.1.length ≤ 100000 by
                      have h1 := HI2.out.len
                      have h2 := HI2.out.2.2
                      rw [List.length_append, List.length_map] at h1
                      omega)
                    have hP3 := hP2.perm (l2 := [rO v (unS N S).2.1, rI vt T, rI vi I]) (List.Perm.cons _ (List.Perm.swap _ _ _))
                    obtain ⟨a3, q3, e3⟩ := hP3.lenO
                    subst e3
                    have HQ := Lib.hid hP3
                    clear hP2 hP3 HP HI
                    by_cases hl : S.length < 2 * N
                    · have hu : unS N S = (80, [], S) := by unfold unS; rw [if_pos hl]
                      rw [hu] at HQ HI2 HTL ⊢
                      dsimp only at HQ HI2 HTL ⊢
                      clear hu hl
                      obtain ⟨T1, hT1⟩ : ∃ T1 : Obs, T1 = [] := ⟨_, rfl⟩
                      rw [← hT1] at HQ HI2 HTL ⊢
                      clear hT1
                      have hT9 : T1.length ≤ 100000 := by have := HTL.out; omega
                      go_wp2_with (fail)
                      go_loopw [8, 117] (fun vo i wz => ∃ (j : Nat) (uo : Value), j ≤ T1.length ∧ vo = uo ∧ i = .int .i64 j ∧ Hid (KP w p N S [rO (.slice a3 T1.length q3) T1, rI uo (T ++ (T1.take j).map Prod.fst), rI vi I] wz)) (fun _ i _ => T1.length - (intOf i).toNat)
                      case atStart => exact ⟨0, _, Nat.zero_le _, rfl, rfl, by rw [List.take_zero, List.map_nil, List.append_nil]; exact HQ⟩
                      case round =>
                        clear HQ
                        obtain ⟨j, vo, hj, ho9, rfl, HQ⟩ := hrel
                        have ho9 := ho9.symm
                        subst ho9
                        by_cases hjl : j < T1.length
                        · have hjI : (j : Int) < (T1.length : Int) := by omega
                          obtain ⟨g, gc, hgv, d0, d1⟩ := HQ.out.atO hjl
                          injection hgv with hgv _ hgc
                          subst hgv
                          subst hgc
                          have HTK := Lib.hid (show (T ++ (T1.take j).map Prod.fst) ++ [(T1[j]).1] = T ++ (T1.take (j + 1)).map Prod.fst by rw [takeN_next hjl, List.map_append, List.append_assoc]; rfl)
                          have HQL := Lib.hid (show (T ++ (T1.take j).map Prod.fst).length ≤ 100000 by rw [List.length_append, List.length_map, List.length_take]; have := HTL.out; omega)
                          have HQ2 := Lib.hid HQ.out.swap
                          have HJ := Lib.hid hjl
                          generalize T1[j] = q at *
                          obtain ⟨x1, y1⟩ := q
                          dsimp only at d0 d1 HTK
                          clear hj hjl HQ
                          go_wp2_with (first
                            | (at_builtin; refine wpList_kpI rfl _ _ rfl HQ2.out HQL.out x1 rfl rfl ?_
                               intro v3 w3 hP3
                               rw [HTK.out] at hP3
                               have HQ3 := Lib.hid hP3.swap
                               clear hP3 HQ2 d0 d1)
                            | fail)
                          go_roundw
                          case rel => first | exact ⟨j + 1, _, HJ.out, rfl, by go_num, HQ3⟩ | exact ⟨_, _, _, ⟨j + 1, HJ.out, by go_num, by rw [← List.map_take]; exact HQ3⟩, rfl, rfl, rfl⟩
                          case measure => have := HJ.out; simp [intOf]; omega
                        · obtain rfl : j = T1.length := by omega
                          rw [List.take_length] at HQ
                          clear hj hjl
                          have HP3 := Lib.hid HQ.out.drop.swap
                          clear HQ
                          go_wp2_with (fail)
                          go_meet
                          exact ⟨n, _, _, _, _, _, rfl, rfl, rfl, by have := HN40.out; omega, HP3, HI2⟩
                    · have hu : unS N S = (0, S.take N, S.drop N) := by unfold unS; rw [if_neg hl]
                      have hln : (S.take N).length = N := by rw [List.length_take]; omega
                      rw [hu] at HQ HI2 HTL ⊢
                      dsimp only at HQ HI2 HTL ⊢
                      clear hu hl
                      obtain ⟨T1, hT1⟩ : ∃ T1 : Obs, S.take N = T1 := ⟨_, rfl⟩
                      obtain ⟨S1, hS1⟩ : ∃ S1 : Obs, S.drop N = S1 := ⟨_, rfl⟩
                      rw [hT1] at HQ HI2 HTL hln ⊢
                      rw [hS1] at HQ HI2
                      clear hT1 hS1
                      have hT9 : T1.length ≤ 100000 := by have := HTL.out; omega
                      have hlI := len_t hln
                      have HLN := Lib.hid hln
                      clear hln
                      go_wp2_with (fail)
                      refine (rounds_kp HQ.out).mono ?_
                      rintro e w3 ⟨rfl, rfl⟩
                      go_wp2_with (fail)
                      clear hlI
                      go_loopw [8, 117] (fun vo i wz => ∃ (j : Nat) (uo : Value), j ≤ T1.length ∧ vo = uo ∧ i = .int .i64 j ∧ Hid (KP w p N S1 [rO (.slice a3 T1.length q3) T1, rI uo (T ++ (T1.take j).map Prod.fst), rI vi I] wz)) (fun _ i _ => T1.length - (intOf i).toNat)
                      case atStart => exact ⟨0, _, Nat.zero_le _, rfl, rfl, by rw [List.take_zero, List.map_nil, List.append_nil]; exact HQ⟩
                      case round =>
                        clear HQ
                        obtain ⟨j, vo, hj, ho9, rfl, HQ⟩ := hrel
                        have ho9 := ho9.symm
                        subst ho9
                        by_cases hjl : j < T1.length
                        · have hjI : (j : Int) < (T1.length : Int) := by omega
                          obtain ⟨g, gc, hgv, d0, d1⟩ := HQ.out.atO hjl
                          injection hgv with hgv _ hgc
                          subst hgv
                          subst hgc
                          have HTK := Lib.hid (show (T ++ (T1.take j).map Prod.fst) ++ [(T1[j]).1] = T ++ (T1.take (j + 1)).map Prod.fst by rw [takeN_next hjl, List.map_append, List.append_assoc]; rfl)
                          have HQL := Lib.hid (show (T ++ (T1.take j).map Prod.fst).length ≤ 100000 by rw [List.length_append, List.length_map, List.length_take]; have := HTL.out; omega)
                          have HQ2 := Lib.hid HQ.out.swap
                          have HJ := Lib.hid hjl
                          generalize T1[j] = q at *
                          obtain ⟨x1, y1⟩ := q
                          dsimp only at d0 d1 HTK
                          clear hj hjl HQ
                          go_wp2_with (first
                            | (at_builtin; refine wpList_kpI rfl _ _ rfl HQ2.out HQL.out x1 rfl rfl ?_
                               intro v3 w3 hP3
                               rw [HTK.out] at hP3
                               have HQ3 := Lib.hid hP3.swap
                               clear hP3 HQ2 d0 d1)
                            | fail)
                          go_roundw
                          case rel => first | exact ⟨j + 1, _, HJ.out, rfl, by go_num, HQ3⟩ | exact ⟨_, _, _, ⟨j + 1, HJ.out, by go_num, by rw [← List.map_take]; exact HQ3⟩, rfl, rfl, rfl⟩
                          case measure => have := HJ.out; simp [intOf]; omega
                        · obtain rfl : j = T1.length := by omega
                          rw [List.take_length] at HQ
                          clear hj hjl
                          have HP3 := Lib.hid HQ.out.drop.swap
                          clear HQ
                          go_wp2_with (fail)
                          go_meet
                          exact ⟨n, _, _, _, _, _, rfl, rfl, rfl, by have := HN40.out; omega, HP3, HI2⟩
                · have e1 : (kind == 0) = false := by simpa using hk0
                  have e2 : (kind == 1) = false := by simpa using hk1
                  have e3 : (kind == 2) = false := by simpa using hk2
                  have e4 : (kind == 3) = false := by simpa using hk3
                  clear hk0 hk1 hk2 hk3
                  go_wp2_with (fail)
                  go_meet
                  exact ⟨n, _, _, I, T, S, rfl, rfl, rfl, by omega, HP, HI⟩
        case rest =>
          obtain ⟨n', vi', vt', I', T', S', rfl, hv9, ht9, hn', HP', HI'⟩ := hcut
          have hv9 := hv9.symm
          subst hv9
          have ht9 := ht9.symm
          subst ht9
          clear HP HI hn
          obtain ⟨ai, ci, e3⟩ := HP'.out.lenI
          obtain ⟨at', ct, e4⟩ := HP'.out.swap.lenI
          subst e3
          subst e4
          have hlen' := HI'.out.len
          have hle' := HI'.out.2.2
          have hS2 := HP'.out.1.ps.ln
          have HN' := Lib.hid hn'
          have hn8' : n' ≤ 8000 := by have := HLT.out; omega
          have HV := Lib.hid (show ∃ ni nt ns : Nat, I'.length = ni ∧ T'.length = nt ∧ S'.length = ns from ⟨_, _, _, rfl, rfl, rfl⟩)
          generalize hni : I'.length = ni at *
          generalize hnt : T'.length = nt at *
          generalize hns : S'.length = ns at *
          have hsub : (ni : Int) - (nt : Int) = (ns : Int) := by omega
          have hni8 : ni ≤ 8000 := by omega
          have hnt8 : nt ≤ 8000 := by omega
          have hns8 : (ns : Int) ≤ 2 * (N : Int) := by omega
          have HNS := Lib.hid hns
          clear hni hnt hns HV hlen' hle' hS2
          clear hn'
          go_wp2_with (fail)
          refine (len_kp HP'.out).mono ?_
          rintro e w5 ⟨rfl, hP5⟩
          rw [HNS.out]
          have HP5 := Lib.hid hP5
          clear hP5 HP'
          go_wp2_with (fail)
          refine (len_kp HP5.out).mono ?_
          rintro e w6 ⟨rfl, hP6⟩
          rw [HNS.out]
          have HP6 := Lib.hid hP6
          clear hP6 HP5
          go_wp2_with (fail)
          refine (rounds_kp HP6.out).mono ?_
          rintro e w7 ⟨rfl, rfl⟩
          go_wp2_with (fail)
          go_roundw
          case rel => exact ⟨k + 1, n', _, _, I', T', S', HLT.out, by go_num, rfl, rfl, rfl, HN'.out, HP6, HI'⟩
          case measure => have := HLT.out; simp [intOf]; omega
      · obtain rfl : k = len := by omega
        clear hlt hk HO
        have hn8 := Lib.hid (show n ≤ 8000 by omega)
        clear hn
        go_wp2_with (fail)
        refine (all_kp HP.out).mono ?_
        rintro e w2 ⟨va, rfl, hP2⟩
        have hP3 := hP2.perm (l2 := [rO va S, rI vt T, rI vi I]) (List.Perm.cons _ (List.Perm.swap _ _ _))
        obtain ⟨a3, q3, e3⟩ := hP3.lenO
        subst e3
        have HQ := Lib.hid hP3
        have HTL := Lib.hid (show T.length + S.length ≤ 100000 by
          have h1 := HI.out.len
          have h2 := HI.out.2.2
          have h3 := hn8.out
          omega)
        have hT9 : S.length ≤ 100000 := by have := HTL.out; omega
        clear hP2 hP3 HP
        go_wp2_with (fail)
        go_loopw [8, 150] (fun vo i wz => ∃ (j : Nat) (uo : Value), j ≤ S.length ∧ vo = uo ∧ i = .int .i64 j ∧ Hid (KP w p N S [rO (.slice a3 S.length q3) S, rI uo (T ++ (S.take j).map Prod.fst), rI vi I] wz)) (fun _ i _ => S.length - (intOf i).toNat)
        case atStart => exact ⟨0, _, Nat.zero_le _, rfl, rfl, by rw [List.take_zero, List.map_nil, List.append_nil]; exact HQ⟩
        case round =>
          clear HQ
          obtain ⟨j, vo, hj, ho9, rfl, HQ⟩ := hrel
          have ho9 := ho9.symm
          subst ho9
          by_cases hjl : j < S.length
          · have hjI : (j : Int) < (S.length : Int) := by omega
            obtain ⟨g, gc, hgv, d0, d1⟩ := HQ.out.atO hjl
            injection hgv with hgv _ hgc
            subst hgv
            subst hgc
            have HTK := Lib.hid (show (T ++ (S.take j).map Prod.fst) ++ [(S[j]).1] = T ++ (S.take (j + 1)).map Prod.fst by rw [takeN_next hjl, List.map_append, List.append_assoc]; rfl)
            have HQL := Lib.hid (show (T ++ (S.take j).map Prod.fst).length ≤ 100000 by rw [List.length_append, List.length_map, List.length_take]; have := HTL.out; omega)
            have HQ2 := Lib.hid HQ.out.swap
            have HJ := Lib.hid hjl
            generalize S[j] = q at *
            obtain ⟨x1, y1⟩ := q
            dsimp only at d0 d1 HTK
            clear hj hjl HQ
            go_wp2_with (first
              | (at_builtin; refine wpList_kpI rfl _ _ rfl HQ2.out HQL.out x1 rfl rfl ?_
                 intro v3 w3 hP3
                 rw [HTK.out] at hP3
                 have HQ3 := Lib.hid hP3.swap
                 clear hP3 HQ2 d0 d1)
              | fail)
            go_roundw
            case rel => first | exact ⟨j + 1, _, HJ.out, rfl, by go_num, HQ3⟩ | exact ⟨_, _, _, ⟨j + 1, HJ.out, by go_num, by rw [← List.map_take]; exact HQ3⟩, rfl, rfl, rfl⟩
            case measure => have := HJ.out; simp [intOf]; omega
          · obtain rfl : j = S.length := by omega
            rw [List.take_length] at HQ
            clear hj hjl
            have HE := Lib.hid (show KP w p N S [rI vo (T ++ S.map Prod.fst), rI vi I] wr from HQ.out.drop)
            have HI3 := Lib.hid HI.out.end
            have HL8 := Lib.hid (show I.length ≤ 8000 ∧ (T ++ S.map Prod.fst).length ≤ 8000 by
              have h1 := HI3.out.len
              have h2 := HI3.out.2.2
              rw [List.length_nil] at h1
              have h3 := hn8.out
              omega)
            clear HQ HI
            obtain ⟨T2, hT2⟩ : ∃ T2 : List Int, T ++ S.map Prod.fst = T2 := ⟨_, rfl⟩
            rw [hT2] at HE HI3 HL8
            clear hT2
            obtain ⟨ai, ci, e3⟩ := HE.out.swap.lenI
            obtain ⟨at', ct, e4⟩ := HE.out.lenI
            subst e3
            subst e4
            have hn9 : n ≤ 8000 := hn8.out
            have hI8 : I.length ≤ 8000 := HL8.out.1
            have hT8 : T2.length ≤ 8000 := HL8.out.2
            obtain ⟨Z, hZ, hmk⟩ := make_ints n (by omega)
            have hba : Below wr.heap.size wr (wr.alloc (.cells Z 3)) := (Below.refl _ _).alloc (Nat.le_refl _) _
            have HR := Lib.hid (show RowAt (wr.alloc (.cells Z 3)) wr.heap.size (n + 1) (cntV (I.take 0) []) from RowAt.new wr Z _ (n + 1) _ hZ)
            have HB8 := Lib.hid hba
            clear hba hZ
            go_wp2_with (fail)
            clear hmk
            have HBW := Lib.hid HE.out.bel
            generalize wr.alloc (.cells Z 3) = w9 at *
            obtain ⟨w8, hw8⟩ : ∃ w8, wr = w8 := ⟨_, rfl⟩
            rw [hw8] at HE HR HB8 HBW ⊢
            clear hw8
            obtain ⟨sb, hsb⟩ : ∃ sb, w8.heap.size = sb := ⟨_, rfl⟩
            rw [hsb] at HR ⊢
            have HSB := Lib.hid hsb
            clear hsb
            go_loopw [167] (fun i wz => ∃ j : Nat, j ≤ I.length ∧ i = .int .i64 j ∧ Hid (Below w8.heap.size w8 wz) ∧ Hid (RowAt wz sb (n + 1) (cntV (I.take j) []))) (fun i _ => I.length - (intOf i).toNat)
            case atStart => exact ⟨0, Nat.zero_le _, rfl, HB8, HR⟩
            case round =>
              clear HB8 HR
              obtain ⟨j, hj, rfl, HB8, HR⟩ := hrel
              by_cases hjl : j < I.length
              · have hjI : (j : Int) < (I.length : Int) := by omega
                obtain ⟨g, gc, hgv, hcc⟩ := HE.out.swap.atI' hjl
                injection hgv with hgv _ hgc
                subst hgv
                subst hgc
                have ci := hcc wr HB8.out
                obtain ⟨m, hm, hm1, hm2⟩ := HI3.out.memI (List.getElem_mem hjl)
                rw [hm] at ci
                have hmn : (m : Int) < (n : Int) + 1 := by omega
                have cs := HR.out.cell m (by omega)
                have fs := HR.out.frozen m
                have HSET := Lib.hid (cnt_in (m := m) HR.out)
                rw [← hm, ← takeN_next hjl] at HSET
                have HBS := Lib.hid (show ∀ u, Below w8.heap.size w8 (wr.setCell ⟨sb, m, none⟩ u) from fun u => HB8.out.setCell (p := ⟨sb, m, none⟩) (Nat.le_of_eq HSB.out) u)
                have hcb := cntD_le (A := I.take j) (B := []) (i := m) (m := 8000) (by rw [List.length_take]; have := HL8.out.1; omega) (Nat.zero_le _)
                obtain ⟨hb1, hb2⟩ := hcb
                have HJ := Lib.hid hjl
                unfold cntV at cs
                clear hm hm1 hcc hjl hj HR HB8
                generalize cntD (I.take j) [] m = d at *
                go_wp2_with (fail)
                go_roundw
                case rel => exact ⟨j + 1, HJ.out, by go_num, Lib.hid (HBS.out _), HSET⟩
                case measure => have := HJ.out; simp [intOf]; omega
              · obtain rfl : j = I.length := by omega
                rw [List.take_length] at HR
                clear hj hjl
                go_wp2_with (fail)
                go_loopw [182] (fun i wz => ∃ j : Nat, j ≤ T2.length ∧ i = .int .i64 j ∧ Hid (Below w8.heap.size w8 wz) ∧ Hid (RowAt wz sb (n + 1) (cntV I (T2.take j)))) (fun i _ => T2.length - (intOf i).toNat)
                case atStart => exact ⟨0, Nat.zero_le _, rfl, HB8, HR⟩
                case round =>
                  clear HB8 HR
                  obtain ⟨j, hj, rfl, HB8, HR⟩ := hrel
                  by_cases hjl : j < T2.length
                  · have hjI : (j : Int) < (T2.length : Int) := by omega
                    obtain ⟨g, gc, hgv, hcc⟩ := HE.out.atI' hjl
                    injection hgv with hgv _ hgc
                    subst hgv
                    subst hgc
                    have ci := hcc wr HB8.out
                    obtain ⟨m, hm, hm1, hm2⟩ := HI3.out.mem (List.getElem_mem hjl)
                    rw [hm] at ci
                    have hmn : (m : Int) < (n : Int) + 1 := by omega
                    have hmo : ¬ ((m : Int) < 1) := by omega
                    have hmp : ¬ ((n : Int) < (m : Int)) := by omega
                    have cs := HR.out.cell m (by omega)
                    have fs := HR.out.frozen m
                    have HSET := Lib.hid (cnt_out (m := m) HR.out)
                    rw [← hm, ← takeN_next hjl] at HSET
                    have HBS := Lib.hid (show ∀ u, Below w8.heap.size w8 (wr.setCell ⟨sb, m, none⟩ u) from fun u => HB8.out.setCell (p := ⟨sb, m, none⟩) (Nat.le_of_eq HSB.out) u)
                    have hcb := cntD_le (A := I) (B := T2.take j) (i := m) (m := 8000) HL8.out.1 (by rw [List.length_take]; have := HL8.out.2; omega)
                    obtain ⟨hb1, hb2⟩ := hcb
                    have HJ := Lib.hid hjl
                    unfold cntV at cs
                    clear hm hm1 hcc hjl hj HR HB8
                    generalize cntD I (T2.take j) m = d at *
                    go_wp2_with (fail)
                    go_roundw
                    case rel => exact ⟨j + 1, HJ.out, by go_num, Lib.hid (HBS.out _), HSET⟩
                    case measure => have := HJ.out; simp [intOf]; omega
                  · obtain rfl : j = T2.length := by omega
                    rw [List.take_length] at HR
                    clear hj hjl
                    have HZ := Lib.hid (show ∀ i, cntD I T2 i = 0 from fun i => by unfold cntD; rw [HI3.out.cnt]; omega)
                    go_wp2_with (fail)
                    go_loopw [210] (fun i wz => ∃ j : Nat, j ≤ n + 1 ∧ i = .int .i64 j ∧ Hid (Below w8.heap.size w8 wz) ∧ Hid (RowAt wz sb (n + 1) (cntV I T2))) (fun i _ => n + 1 - (intOf i).toNat)
                    case atStart => exact ⟨0, Nat.zero_le _, rfl, HB8, HR⟩
                    case round =>
                      clear HB8 HR
                      obtain ⟨j, hj, rfl, HB8, HR⟩ := hrel
                      by_cases hjl : j < n + 1
                      · have hjI : (j : Int) < (n : Int) + 1 := by omega
                        have cs := HR.out.cell j hjl
                        unfold cntV at cs
                        rw [HZ.out] at cs
                        have HJ := Lib.hid hjl
                        clear hj hjl
                        go_wp2_with (fail)
                        go_roundw
                        case rel => exact ⟨j + 1, HJ.out, by go_num, HB8, HR⟩
                        case measure => have := HJ.out; simp [intOf]; omega
                      · obtain rfl : j = n + 1 := by omega
                        have hjN : ¬ (((n + 1 : Nat) : Int) < (n : Int) + 1) := by omega
                        clear hj hjl
                        go_wp2_with (fail)
                        refine (known_any _).mono ?_
                        rintro e w10 ⟨rfl, hb⟩
                        have HF := Lib.hid ((HBW.out.trans (HB8.out.mono HBW.out.size)).trans (hb.mono (Nat.le_trans HBW.out.size HB8.out.size)))
                        clear hb
                        go_wp2_with (fail)
                        go_ret
                        exact ⟨rfl, HF.out⟩
  · have hlenI : 200 < (len : Int) := by omega
    go_enter Try.func4, Try.ntmps4
    go_wp2_with (fail)
    refine (known_any _).mono ?_
    rintro e w5 ⟨rfl, hb⟩
    have HB := Lib.hid hb
    clear hb
    go_wp2_with (fail)
    go_ret
    exact ⟨rfl, HB.out⟩
end Go.Proofs.Ytaadjgnfihkaeaa
