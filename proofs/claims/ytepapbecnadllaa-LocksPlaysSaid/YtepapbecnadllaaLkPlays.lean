/-
  The walk of LocksPlays: it returns true, and below the old heap nothing has turned.
-/
import Derived.Test.YtepapbecnadllaaLkBoth
import Derived.Deep.DeepCutAuto
import Derived.Deep.CutBlock
namespace Go.Proofs.Ytepapbecnadllaa
open Go.RowKit Go

set_option maxRecDepth 100000 in
set_option maxHeartbeats 8000000 in
theorem lawPlays_any (nn : Int) (a : Option Addr) (len cap : Nat) (O : Nat → Op3) (w : World) (hO : OpsAt w a len O) :
    Calls Try.prog 3 #[.int .i64 nn, .slice a len cap] w fun e w' => e = .returned (.bool true) ∧ Below w.heap.size w w' := by
  have HO := Lib.hid hO
  clear hO
  by_cases hlen : len ≤ 200
  · go_enter Try.func3, Try.ntmps3
    go_wp2_with (fail)
    refine (new_any nn w).mono ?_
    rintro e w1 ⟨d0, rfl, L, d1, hb⟩
    have HB1 := Lib.hid hb
    have H1 := Lib.hid L
    clear hb L
    go_wp2_with (fail)
    refine (refnew_any nn w1).mono ?_
    rintro e w2 ⟨r, v0, rfl, R, r1, hb⟩
    have HP := Lib.hid (show PlAt w (clampL nn) w2.heap.size r d0 (fun _ => -1) [] v0 w2 from
      ⟨H1.out.later hb, R, Rel.start _ (clampL_le nn), HB1.out.trans (hb.mono HB1.out.size), d1, by have := HB1.out.size; omega, by have := H1.out.lt; omega, fun k hk => by have h1 := (R.own.lt k hk).1; have h2 := (R.own.lt k hk).2; omega⟩)
    clear hb R H1 HB1 d1 r1
    generalize clampL nn = n at HP
    generalize hBB : w2.heap.size = B at HP
    clear hBB
    have L1 := Lib.hid (show ∀ W, Kept w2.heap.size w2 W → (loadVar 3 ⟨r, 0, none⟩).run Try.prog W = .ok (.int .i64 n) W from
      fun W hW => run_loadVar_cell (fun _ => by kernel_rfl) (HP.out.ref.later hW.below).c0)
    go_wp2_with (fail)
    refine wp_region_lex (Kept w2.heap.size w2) [(0, false), (2, false), (3, false), (4, false), (5, false), (1, true), (6, false)]
      (by kernel_rfl) (by kernel_rfl) rfl (by kernel_rfl) ⟨rfl, rfl, rfl, Nat.le_refl _, fun _ _ => rfl⟩ ?_
    intro W0 hK0
    refine lexH_yieldE rfl rfl ?_
    apply Exists.intro
    refine ⟨fun W hW => ?_, ?_⟩
    focus (go_simp; exact rfl)
    simp only [List.getElem_toArray, List.getElem_cons_zero, Act.put, List.setIfInBounds_toArray, List.set_cons_zero, List.set_cons_succ]
    refine lexH_yieldE rfl rfl ?_
    apply Exists.intro
    refine ⟨fun W hW => ?_, ?_⟩
    focus (go_simp; exact rfl)
    simp only [List.getElem_toArray, List.getElem_cons_succ, List.getElem_cons_zero, Act.put, List.setIfInBounds_toArray, List.set_cons_zero, List.set_cons_succ]
    refine lexH_yieldE rfl rfl ?_
    apply Exists.intro
    refine ⟨fun W hW => ?_, ?_⟩
    focus (go_simp; exact rfl)
    simp only [List.getElem_toArray, List.getElem_cons_succ, List.getElem_cons_zero, Act.put, List.setIfInBounds_toArray, List.set_cons_zero, List.set_cons_succ]
    refine lexH_yieldE rfl rfl ?_
    apply Exists.intro
    refine ⟨fun W hW => ?_, ?_⟩
    focus (go_simp; exact rfl)
    simp only [List.getElem_toArray, List.getElem_cons_succ, List.getElem_cons_zero, Act.put, List.setIfInBounds_toArray, List.set_cons_zero, List.set_cons_succ]
    refine lexH_load rfl rfl _ _ rfl rfl L1.out ?_
    simp only [List.getElem_toArray, List.getElem_cons_succ, List.getElem_cons_zero, Act.put, List.setIfInBounds_toArray, List.set_cons_zero, List.set_cons_succ]
    refine lexH_call 12 #[.pointer (some ⟨d0, 0, none⟩)] rfl rfl ?_ ?_
    focus (go_simp; done)
    refine (locks_at (HP.out.tab.later hK0.below)).mono ?_
    rintro e w' ⟨rfl, rfl⟩
    refine ⟨_, rfl, hK0, ?_⟩
    simp only [List.getElem_toArray, List.getElem_cons_succ, List.getElem_cons_zero, Act.put, List.setIfInBounds_toArray, List.set_cons_zero, List.set_cons_succ]
    refine lexH_yieldE rfl rfl ?_
    apply Exists.intro
    refine ⟨fun W hW => ?_, ?_⟩
    focus (go_simp; exact rfl)
    simp only [List.getElem_toArray, List.getElem_cons_succ, List.getElem_cons_zero, Act.put, List.setIfInBounds_toArray, List.set_cons_zero, List.set_cons_succ]
    refine lexH_nil ?_
    have HP0 := Lib.hid (HP.out.later hK0.below)
    clear hK0 HP L1
    go_wp2_with (fail)
    go_loopw [5, 36] (fun t i wr => ∃ (k d : Nat) (H : Nat → Int) (M : List (Int × Nat)) (v : Value), k ≤ len ∧ t = .pointer (some ⟨d, 0, none⟩) ∧ i = .int .i64 k ∧ M.length ≤ k ∧ PlAt w n B r d H M v wr) (fun _ i _ => len - (intOf i).toNat)
    case atStart => exact ⟨0, d0, _, _, _, Nat.zero_le _, rfl, rfl, Nat.le_refl _, HP0.out⟩
    case round =>
      clear HP0
      obtain ⟨k, d, H, M, v, hk, rfl, rfl, hML, hP⟩ := hrel
      have HP := Lib.hid hP
      clear hP
      have hn64 := HP.out.rel.n1
      by_cases hlt : k < len
      · obtain ⟨b, o, rfl, hbl, hc⟩ := HO.out.one k hlt
        obtain ⟨c0, c1, c2⟩ := hc wr HP.out.bel
        clear hc hbl
        generalize (O k).kind = kind at c0
        generalize (O k).who = who at c1
        generalize (O k).lock = lock at c2
        have HST := Lib.hid (store_op wr #[.int .i64 0, .int .i64 0, .int .i64 0] rfl kind who lock)
        have hba : Below wr.heap.size wr (wr.alloc (.cells #[.int .i64 kind, .int .i64 who, .int .i64 lock] 33)) := (Below.refl _ _).alloc (Nat.le_refl _) _
        have HR := Lib.hid (op_row wr kind who lock)
        have HP1 := Lib.hid (HP.out.later hba)
        have HOF := Lib.hid (HP.out.off wr.heap.size (Nat.le_refl _))
        clear hba HP
        go_upto_block 2 with (refine wpList_store_run rfl 33 _ _ rfl wr.heap.size _ _ rfl rfl HST.out ?_)
        clear c0 c1 c2 HST HO
        generalize wr.heap.size = ob at HR HOF ⊢
        generalize wr.alloc (.cells #[.int .i64 kind, .int .i64 who, .int .i64 lock] 33) = W at HR HP1 ⊢
        go_cut [5] (fun t wc => ∃ (d : Nat) (H : Nat → Int) (M : List (Int × Nat)) (v : Value), t = .pointer (some ⟨d, 0, none⟩) ∧ M.length ≤ k + 1 ∧ PlAt w n B r d H M v wc ∧ RowAt wc ob 3 (opV ⟨kind, who, lock⟩))
        case first =>
          obtain ⟨c0, c1, c2⟩ := op_three HR.out
          dsimp only at c0 c1 c2
          by_cases hk0 : kind = 0
          · as_aux_lemma =>
              subst hk0
              go_wp2_with (fail)
              clear c0 c1 c2
              refine (try_at HP1.out.tab who lock).mono ?_
              rintro e w3 ⟨rfl, L, ho⟩
              have HT := Lib.hid L
              have HO3 := Lib.hid ho
              have HR3 := Lib.hid (HR.out.only ho (fun e => HOF.out.2.1 e.symm))
              have HF3 := Lib.hid (HP1.out.refAt ho)
              have HQ := Lib.hid HP1.out.rel
              obtain ⟨c0, c1, c2⟩ := op_three HR3.out
              dsimp only at c0 c1 c2
              clear L ho
              go_wp2_with (fail)
              clear c0 c1 c2
              refine (reftry_any HF3.out HQ.out (by omega) who lock).mono ?_
              rintro e w4 ⟨rfl, hT⟩
              obtain ⟨M', v', hP4, hl4⟩ := HP1.out.turn HT.out HO3.out hT
              have HP4 := Lib.hid hP4
              have HR4 := Lib.hid (show RowAt w4 ob 3 (opV ⟨0, who, lock⟩) from by
                obtain ⟨_, _, _, _, _, ho, _⟩ := hT
                exact HR3.out.only ho (by
                  rintro (e | e)
                  · exact HOF.out.2.2.1 e
                  · exact HOF.out.2.2.2 ob e rfl))
              clear hT hP4
              generalize tryH n H who lock = H4 at HP4
              generalize tryB n H who lock = q1
              generalize tryE n H who lock = q2
              go_wp2_with (fail)
              go_meet
              exact ⟨d, H4, M', v', rfl, by omega, HP4.out, HR4.out⟩
          · have e0 : (kind == 0) = false := by simpa using hk0
            clear hk0
            by_cases hk1 : kind = 1
            · as_aux_lemma =>
                subst hk1
                go_wp2_with (fail)
                clear c0 c1 c2
                have L1 := Lib.hid (show ∀ W, RowAt W ob 3 (opV ⟨1, who, lock⟩) → (loadVar 3 ⟨ob, 1, none⟩).run Try.prog W = .ok (.int .i64 who) W from
                  fun W hW => run_loadVar_cell (fun _ => by kernel_rfl) (op_three hW).2.1)
                have L2 := Lib.hid (show ∀ W, RowAt W ob 3 (opV ⟨1, who, lock⟩) → (loadVar 3 ⟨ob, 2, none⟩).run Try.prog W = .ok (.int .i64 lock) W from
                  fun W hW => run_loadVar_cell (fun _ => by kernel_rfl) (op_three hW).2.2)
                refine wp_region_lex1 (fun W => RowAt W ob 3 (opV ⟨1, who, lock⟩)) [(0, false), (1, false), (2, false), (3, false), (4, false), (6, false), (7, false), (8, false), (9, false), (10, false), (5, true), (11, true), (12, false)]
                  (by kernel_rfl) (by kernel_rfl) rfl (by kernel_rfl) (HR.out.later (Below.refl _ W).drew) ?_
                intro W0 hW0 hK0
                have HP2 := Lib.hid (show PlAt w n B r d H M v W0 by rw [hW0]; exact HP1.out.later (Below.refl _ W).drew)
                have HR2 := Lib.hid hK0
                clear hW0 hK0 HR HP1
                refine lexH_yieldE rfl rfl ?_
                apply Exists.intro
                refine ⟨fun W hW => ?_, ?_⟩
                focus (go_simp; exact rfl)
                simp only [List.getElem_toArray, List.getElem_cons_zero, Act.put, List.setIfInBounds_toArray, List.set_cons_zero, List.set_cons_succ]
                refine lexH_yieldE rfl rfl ?_
                apply Exists.intro
                refine ⟨fun W hW => ?_, ?_⟩
                focus (go_simp; exact rfl)
                simp only [List.getElem_toArray, List.getElem_cons_succ, List.getElem_cons_zero, Act.put, List.setIfInBounds_toArray, List.set_cons_zero, List.set_cons_succ]
                refine lexH_load rfl rfl _ _ rfl rfl L1.out ?_
                simp only [List.getElem_toArray, List.getElem_cons_succ, List.getElem_cons_zero, Act.put, List.setIfInBounds_toArray, List.set_cons_zero, List.set_cons_succ]
                refine lexH_yieldE rfl rfl ?_
                apply Exists.intro
                refine ⟨fun W hW => ?_, ?_⟩
                focus (go_simp; exact rfl)
                simp only [List.getElem_toArray, List.getElem_cons_succ, List.getElem_cons_zero, Act.put, List.setIfInBounds_toArray, List.set_cons_zero, List.set_cons_succ]
                refine lexH_load rfl rfl _ _ rfl rfl L2.out ?_
                simp only [List.getElem_toArray, List.getElem_cons_succ, List.getElem_cons_zero, Act.put, List.setIfInBounds_toArray, List.set_cons_zero, List.set_cons_succ]
                refine lexH_yieldE rfl rfl ?_
                apply Exists.intro
                refine ⟨fun W hW => ?_, ?_⟩
                focus (go_simp; exact rfl)
                simp only [List.getElem_toArray, List.getElem_cons_succ, List.getElem_cons_zero, Act.put, List.setIfInBounds_toArray, List.set_cons_zero, List.set_cons_succ]
                refine lexH_yieldE rfl rfl ?_
                apply Exists.intro
                refine ⟨fun W hW => ?_, ?_⟩
                focus (go_simp; exact rfl)
                simp only [List.getElem_toArray, List.getElem_cons_succ, List.getElem_cons_zero, Act.put, List.setIfInBounds_toArray, List.set_cons_zero, List.set_cons_succ]
                refine lexH_load rfl rfl _ _ rfl rfl L1.out ?_
                simp only [List.getElem_toArray, List.getElem_cons_succ, List.getElem_cons_zero, Act.put, List.setIfInBounds_toArray, List.set_cons_zero, List.set_cons_succ]
                refine lexH_yieldE rfl rfl ?_
                apply Exists.intro
                refine ⟨fun W hW => ?_, ?_⟩
                focus (go_simp; exact rfl)
                simp only [List.getElem_toArray, List.getElem_cons_succ, List.getElem_cons_zero, Act.put, List.setIfInBounds_toArray, List.set_cons_zero, List.set_cons_succ]
                refine lexH_load rfl rfl _ _ rfl rfl L2.out ?_
                simp only [List.getElem_toArray, List.getElem_cons_succ, List.getElem_cons_zero, Act.put, List.setIfInBounds_toArray, List.set_cons_zero, List.set_cons_succ]
                refine lexH_call 15 #[.pointer (some ⟨d, 0, none⟩), .int .i64 who, .int .i64 lock] rfl rfl ?_ ?_
                focus (go_simp; done)
                refine (free_at HP2.out.tab who lock).mono ?_
                rintro e w3 ⟨rfl, L, ho⟩
                have HT := Lib.hid L
                have HO3 := Lib.hid ho
                have HR3 := Lib.hid (HR2.out.only ho (fun e => HOF.out.2.1 e.symm))
                have HF3 := Lib.hid (HP2.out.refAt ho)
                have HQ := Lib.hid HP2.out.rel
                refine ⟨_, rfl, HR3.out, ?_⟩
                clear L ho
                simp only [List.getElem_toArray, List.getElem_cons_succ, List.getElem_cons_zero, Act.put, List.setIfInBounds_toArray, List.set_cons_zero, List.set_cons_succ]
                refine lexH_call 16 #[.pointer (some ⟨r, 0, none⟩), .int .i64 who, .int .i64 lock] rfl rfl ?_ ?_
                focus (go_simp; done)
                refine (reffree_any HF3.out HQ.out (by omega) who lock).mono ?_
                rintro e w4 ⟨rfl, hT⟩
                obtain ⟨M', v', hP4, hl4⟩ := HP2.out.turn HT.out HO3.out hT
                have HP4 := Lib.hid hP4
                have HR4 := Lib.hid (show RowAt w4 ob 3 (opV ⟨1, who, lock⟩) from by
                  obtain ⟨_, _, _, _, _, ho, _⟩ := hT
                  exact HR3.out.only ho (by
                    rintro (e | e)
                    · exact HOF.out.2.2.1 e
                    · exact HOF.out.2.2.2 ob e rfl))
                refine ⟨_, rfl, HR4.out, ?_⟩
                clear hT hP4 HT HO3 HF3 HQ HR3 HP2 HR2
                generalize freeH n H who lock = H4 at HP4
                generalize freeE n H who lock = q2
                simp only [List.getElem_toArray, List.getElem_cons_succ, List.getElem_cons_zero, Act.put, List.setIfInBounds_toArray, List.set_cons_zero, List.set_cons_succ]
                refine lexH_yieldE rfl rfl ?_
                apply Exists.intro
                refine ⟨fun W hW => ?_, ?_⟩
                focus (go_simp; exact rfl)
                simp only [List.getElem_toArray, List.getElem_cons_succ, List.getElem_cons_zero, Act.put, List.setIfInBounds_toArray, List.set_cons_zero, List.set_cons_succ]
                refine lexH_nil ?_
                go_wp2_with (fail)
                go_meet
                exact ⟨d, H4, M', v', rfl, by omega, HP4.out, HR4.out⟩
            · have e1 : (kind == 1) = false := by simpa using hk1
              clear hk1
              by_cases hk2 : kind = 2
              · as_aux_lemma =>
                  subst hk2
                  go_wp2_with (fail)
                  clear c0 c1 c2
                  refine (copy_at HP1.out.tab).mono ?_
                  rintro e w3 ⟨d3, rfl, L, hd3, hb⟩
                  have HC := Lib.hid (show CpAt w n B r d d3 ob H M v ⟨2, who, lock⟩ w3 from
                    ⟨⟨H, HP1.out.tab.later hb⟩, L, HP1.out.ref.later hb, HR.out.later hb, (HP1.out.later hb).bel, HP1.out.d1, by have := HP1.out.tab.lt; omega, HP1.out.ne, HOF.out.2.1, HP1.out.sep⟩)
                  have HSZ := Lib.hid hd3
                  have c0 := HC.out.ref.c0
                  clear L hb hd3
                  go_wp2_with (fail)
                  clear c0
                  go_loopw [96] (fun i wr => ∃ j : Nat, j ≤ n ∧ i = .int .i64 j ∧ CpAt w n B r d d3 ob H M v ⟨2, who, lock⟩ wr) (fun i _ => n - (intOf i).toNat)
                  case atStart => exact ⟨0, Nat.zero_le _, rfl, HC.out⟩
                  case round =>
                    clear HC
                    obtain ⟨j, hj, rfl, hC⟩ := hrel
                    have HC := Lib.hid hC
                    clear hC
                    by_cases hjn : j < n
                    · obtain ⟨G, hG⟩ := HC.out.old
                      have HG := Lib.hid hG
                      clear hG
                      go_wp2_with (fail)
                      refine (holder_at HG.out j).mono ?_
                      rintro e w' ⟨rfl, rfl⟩
                      go_wp2_with (fail)
                      refine (free_at HG.out (holdV n G j) j).mono ?_
                      rintro e w4 ⟨rfl, L, ho⟩
                      have HC4 := Lib.hid (HC.out.turn L ho)
                      clear L ho HC HG
                      go_wp2_with (fail)
                      go_roundw
                      case rel => exact ⟨j + 1, hjn, by go_num, HC4.out⟩
                      case measure => simp [intOf]; omega
                    · have HP4 := Lib.hid (HP1.out.swap HC.out.cop HC.out.ref HC.out.bel HSZ.out)
                      have HR4 := Lib.hid HC.out.box
                      clear HC HP1 HR
                      go_wp2_with (fail)
                      go_meet
                      exact ⟨d3, H, M, v, rfl, by omega, HP4.out, HR4.out⟩
              · as_aux_lemma =>
                  have e2 : (kind == 2) = false := by simpa using hk2
                  clear hk2
                  go_wp2_with (fail)
                  clear c0 c1 c2
                  go_meet
                  exact ⟨d, H, M, v, rfl, by omega, HP1.out, HR.out⟩
        case rest =>
          clear HP1 HR HOF
          obtain ⟨d, H, M, v, rfl, hML, hP, hR⟩ := hcut
          have HP := Lib.hid hP
          have HR := Lib.hid hR
          clear hP hR
          have L1 := Lib.hid (show ∀ W, Kept wc.heap.size wc W → (loadVar 3 ⟨ob, 1, none⟩).run Try.prog W = .ok (.int .i64 who) W from
            fun W hW => run_loadVar_cell (fun _ => by kernel_rfl) (op_three (HR.out.later hW.below)).2.1)
          have HOFF := Lib.hid HP.out.off
          go_wp2_with (fail)
          refine wp_region_lex1 (Kept wc.heap.size wc) [(0, false), (1, false), (2, false), (4, false), (5, false), (6, false), (3, true), (7, true), (8, false), (9, false)]
            (by kernel_rfl) (by kernel_rfl) rfl (by kernel_rfl) (Below.refl _ wc).drew ?_
          intro W0 hW0 hK0
          clear hW0
          refine lexH_yieldE rfl rfl ?_
          apply Exists.intro
          refine ⟨fun W hW => ?_, ?_⟩
          focus (go_simp; exact rfl)
          simp only [List.getElem_toArray, List.getElem_cons_zero, Act.put, List.setIfInBounds_toArray, List.set_cons_zero, List.set_cons_succ]
          refine lexH_yieldE rfl rfl ?_
          apply Exists.intro
          refine ⟨fun W hW => ?_, ?_⟩
          focus (go_simp; exact rfl)
          simp only [List.getElem_toArray, List.getElem_cons_succ, List.getElem_cons_zero, Act.put, List.setIfInBounds_toArray, List.set_cons_zero, List.set_cons_succ]
          refine lexH_load rfl rfl _ _ rfl rfl L1.out ?_
          simp only [List.getElem_toArray, List.getElem_cons_succ, List.getElem_cons_zero, Act.put, List.setIfInBounds_toArray, List.set_cons_zero, List.set_cons_succ]
          refine lexH_yieldE rfl rfl ?_
          apply Exists.intro
          refine ⟨fun W hW => ?_, ?_⟩
          focus (go_simp; exact rfl)
          simp only [List.getElem_toArray, List.getElem_cons_succ, List.getElem_cons_zero, Act.put, List.setIfInBounds_toArray, List.set_cons_zero, List.set_cons_succ]
          refine lexH_yieldE rfl rfl ?_
          apply Exists.intro
          refine ⟨fun W hW => ?_, ?_⟩
          focus (go_simp; exact rfl)
          simp only [List.getElem_toArray, List.getElem_cons_succ, List.getElem_cons_zero, Act.put, List.setIfInBounds_toArray, List.set_cons_zero, List.set_cons_succ]
          refine lexH_load rfl rfl _ _ rfl rfl L1.out ?_
          simp only [List.getElem_toArray, List.getElem_cons_succ, List.getElem_cons_zero, Act.put, List.setIfInBounds_toArray, List.set_cons_zero, List.set_cons_succ]
          refine lexH_call 19 #[.pointer (some ⟨d, 0, none⟩), .int .i64 who] rfl rfl ?_ ?_
          focus (go_simp; done)
          refine (held_at (HP.out.tab.later hK0.below) who).mono ?_
          intro e w3 hh
          obtain ⟨a1, cap1, rfl, hb, hr⟩ := hh.slice
          have HK3 := Lib.hid (show Kept wc.heap.size wc w3 from hK0.below.trans (hb.mono hK0.below.size))
          have HA3 := Lib.hid (show IntsAt w3 wc.heap.size a1 (heldW n H who) from fun hp => by
            obtain ⟨g, e, hg, R⟩ := hr hp
            exact ⟨g, e, Nat.le_trans hK0.below.size hg, R⟩)
          refine ⟨_, rfl, HK3.out, ?_⟩
          clear hh hb hr hK0
          simp only [List.getElem_toArray, List.getElem_cons_succ, List.getElem_cons_zero, Act.put, List.setIfInBounds_toArray, List.set_cons_zero, List.set_cons_succ]
          refine lexH_call 20 #[.pointer (some ⟨r, 0, none⟩), .int .i64 who] rfl rfl ?_ ?_
          focus (go_simp; done)
          refine (refheld_any (HP.out.ref.later HK3.out.below) HP.out.rel (by omega) who).mono ?_
          intro e w4 hh
          obtain ⟨a2, cap2, rfl, hb, hr⟩ := hh.slice
          have HK4 := Lib.hid (show Kept wc.heap.size wc w4 from HK3.out.below.trans (hb.mono HK3.out.below.size))
          have HA4 := Lib.hid (show 0 < (heldW n H who).length → ∃ g, a1 = some ⟨g, 0, none⟩ ∧ wc.heap.size ≤ g ∧ g < w3.heap.size ∧ RowAt w4 g (heldW n H who).length (fun i => .int .i64 ((heldW n H who).getD i 0)) from fun hp => by
            obtain ⟨g, e, hg, R⟩ := HA3.out hp
            exact ⟨g, e, hg, R.lt, R.later hb⟩)
          have HB4 := Lib.hid (show IntsAt w4 w3.heap.size a2 (heldW n H who) from hr)
          have HP4 := Lib.hid (HP.out.later HK4.out.below)
          have HR4 := Lib.hid (HR.out.later HK4.out.below)
          have hll : (heldW n H who).length ≤ n := by
            unfold heldW
            split
            · exact Nat.zero_le _
            · exact heldL_len H who n
          refine ⟨_, rfl, HK4.out, ?_⟩
          clear hh hb hr HP HR HK3 HK4 HA3 L1
          generalize heldW n H who = l at *
          generalize w3.heap.size = mid at *
          generalize wc.heap.size = lo at *
          simp only [List.getElem_toArray, List.getElem_cons_succ, List.getElem_cons_zero, Act.put, List.setIfInBounds_toArray, List.set_cons_zero, List.set_cons_succ]
          refine lexH_yieldE rfl rfl ?_
          apply Exists.intro
          refine ⟨fun W hW => ?_, ?_⟩
          focus (go_simp; exact rfl)
          simp only [List.getElem_toArray, List.getElem_cons_succ, List.getElem_cons_zero, Act.put, List.setIfInBounds_toArray, List.set_cons_zero, List.set_cons_succ]
          refine lexH_yieldE rfl rfl ?_
          apply Exists.intro
          refine ⟨fun W hW => ?_, ?_⟩
          focus (go_simp; exact rfl)
          simp only [List.getElem_toArray, List.getElem_cons_succ, List.getElem_cons_zero, Act.put, List.setIfInBounds_toArray, List.set_cons_zero, List.set_cons_succ]
          refine lexH_nil ?_
          have L2 := Lib.hid (show ∀ W, Kept w4.heap.size w4 W → (loadVar 3 ⟨ob, 2, none⟩).run Try.prog W = .ok (.int .i64 lock) W from
            fun W hW => run_loadVar_cell (fun _ => by kernel_rfl) (op_three (HR4.out.later hW.below)).2.2)
          go_wp2_with (fail)
          refine wp_region_lex1 (Kept w4.heap.size w4) [(0, false), (1, false), (2, false), (3, false), (4, false), (5, false), (6, false), (7, false), (8, false), (10, false), (11, false), (12, false), (9, true), (13, true), (14, false), (15, false)]
            (by kernel_rfl) (by kernel_rfl) rfl (by kernel_rfl) (Below.refl _ w4).drew ?_
          intro W0 hW0 hK0
          clear hW0
          refine lexH_yieldE rfl rfl ?_
          apply Exists.intro
          refine ⟨fun W hW => ?_, ?_⟩
          focus (go_simp; exact rfl)
          simp only [List.getElem_toArray, List.getElem_cons_zero, Act.put, List.setIfInBounds_toArray, List.set_cons_zero, List.set_cons_succ]
          refine lexH_yieldE rfl rfl ?_
          apply Exists.intro
          refine ⟨fun W hW => ?_, ?_⟩
          focus (go_simp; exact rfl)
          simp only [List.getElem_toArray, List.getElem_cons_succ, List.getElem_cons_zero, Act.put, List.setIfInBounds_toArray, List.set_cons_zero, List.set_cons_succ]
          refine lexH_yieldE rfl rfl ?_
          apply Exists.intro
          refine ⟨fun W hW => ?_, ?_⟩
          focus (go_simp; exact rfl)
          simp only [List.getElem_toArray, List.getElem_cons_succ, List.getElem_cons_zero, Act.put, List.setIfInBounds_toArray, List.set_cons_zero, List.set_cons_succ]
          refine lexH_yieldE rfl rfl ?_
          apply Exists.intro
          refine ⟨fun W hW => ?_, ?_⟩
          focus (go_simp; exact rfl)
          simp only [List.getElem_toArray, List.getElem_cons_succ, List.getElem_cons_zero, Act.put, List.setIfInBounds_toArray, List.set_cons_zero, List.set_cons_succ]
          refine lexH_yieldE rfl rfl ?_
          apply Exists.intro
          refine ⟨fun W hW => ?_, ?_⟩
          focus (go_simp; exact rfl)
          simp only [List.getElem_toArray, List.getElem_cons_succ, List.getElem_cons_zero, Act.put, List.setIfInBounds_toArray, List.set_cons_zero, List.set_cons_succ]
          refine lexH_yieldE rfl rfl ?_
          apply Exists.intro
          refine ⟨fun W hW => ?_, ?_⟩
          focus (go_simp; exact rfl)
          simp only [List.getElem_toArray, List.getElem_cons_succ, List.getElem_cons_zero, Act.put, List.setIfInBounds_toArray, List.set_cons_zero, List.set_cons_succ]
          refine lexH_yieldE rfl rfl ?_
          apply Exists.intro
          refine ⟨fun W hW => ?_, ?_⟩
          focus (go_simp; exact rfl)
          simp only [List.getElem_toArray, List.getElem_cons_succ, List.getElem_cons_zero, Act.put, List.setIfInBounds_toArray, List.set_cons_zero, List.set_cons_succ]
          refine lexH_yieldE rfl rfl ?_
          apply Exists.intro
          refine ⟨fun W hW => ?_, ?_⟩
          focus (go_simp; exact rfl)
          simp only [List.getElem_toArray, List.getElem_cons_succ, List.getElem_cons_zero, Act.put, List.setIfInBounds_toArray, List.set_cons_zero, List.set_cons_succ]
          refine lexH_load rfl rfl _ _ rfl rfl L2.out ?_
          simp only [List.getElem_toArray, List.getElem_cons_succ, List.getElem_cons_zero, Act.put, List.setIfInBounds_toArray, List.set_cons_zero, List.set_cons_succ]
          refine lexH_yieldE rfl rfl ?_
          apply Exists.intro
          refine ⟨fun W hW => ?_, ?_⟩
          focus (go_simp; exact rfl)
          simp only [List.getElem_toArray, List.getElem_cons_succ, List.getElem_cons_zero, Act.put, List.setIfInBounds_toArray, List.set_cons_zero, List.set_cons_succ]
          refine lexH_yieldE rfl rfl ?_
          apply Exists.intro
          refine ⟨fun W hW => ?_, ?_⟩
          focus (go_simp; exact rfl)
          simp only [List.getElem_toArray, List.getElem_cons_succ, List.getElem_cons_zero, Act.put, List.setIfInBounds_toArray, List.set_cons_zero, List.set_cons_succ]
          refine lexH_load rfl rfl _ _ rfl rfl L2.out ?_
          simp only [List.getElem_toArray, List.getElem_cons_succ, List.getElem_cons_zero, Act.put, List.setIfInBounds_toArray, List.set_cons_zero, List.set_cons_succ]
          refine lexH_call 18 #[.pointer (some ⟨d, 0, none⟩), .int .i64 lock] rfl rfl ?_ ?_
          focus (go_simp; done)
          refine (holder_at (HP4.out.tab.later hK0.below) lock).mono ?_
          rintro e w' ⟨rfl, rfl⟩
          refine ⟨_, rfl, hK0, ?_⟩
          simp only [List.getElem_toArray, List.getElem_cons_succ, List.getElem_cons_zero, Act.put, List.setIfInBounds_toArray, List.set_cons_zero, List.set_cons_succ]
          refine lexH_call 21 #[.pointer (some ⟨r, 0, none⟩), .int .i64 lock] rfl rfl ?_ ?_
          focus (go_simp; done)
          refine (refholder_any (HP4.out.ref.later hK0.below) HP4.out.rel (by omega) lock).mono ?_
          rintro e w' ⟨rfl, rfl⟩
          refine ⟨_, rfl, hK0, ?_⟩
          simp only [List.getElem_toArray, List.getElem_cons_succ, List.getElem_cons_zero, Act.put, List.setIfInBounds_toArray, List.set_cons_zero, List.set_cons_succ]
          refine lexH_yieldE rfl rfl ?_
          apply Exists.intro
          refine ⟨fun W hW => ?_, ?_⟩
          focus (go_simp; exact rfl)
          simp only [List.getElem_toArray, List.getElem_cons_succ, List.getElem_cons_zero, Act.put, List.setIfInBounds_toArray, List.set_cons_zero, List.set_cons_succ]
          refine lexH_yieldE rfl rfl ?_
          apply Exists.intro
          refine ⟨fun W hW => ?_, ?_⟩
          focus (go_simp; exact rfl)
          simp only [List.getElem_toArray, List.getElem_cons_succ, List.getElem_cons_zero, Act.put, List.setIfInBounds_toArray, List.set_cons_zero, List.set_cons_succ]
          refine lexH_nil ?_
          have HP5 := Lib.hid (HP4.out.later hK0.below)
          have HA5 := Lib.hid (show 0 < l.length → ∃ g, a1 = some ⟨g, 0, none⟩ ∧ lo ≤ g ∧ g < mid ∧ RowAt W0 g l.length (fun i => if i < 0 then .int .i64 99 else .int .i64 (l.getD i 0)) from fun hp => by
            obtain ⟨g, e, h1, h2, R⟩ := HA4.out hp
            exact ⟨g, e, h1, h2, (R.later hK0.below).ext (fun i _ => by rw [if_neg (Nat.not_lt_zero _)])⟩)
          have HB5 := Lib.hid (HB4.out.later hK0.below)
          clear hK0 HP4 HA4 HB4 HR4 L2
          go_wp2_with (fail)
          go_loopw [133] (fun i wr => ∃ j : Nat, j ≤ l.length ∧ i = .int .i64 j ∧ PlAt w n B r d H M v wr ∧ IntsAt wr mid a2 l ∧
            (0 < l.length → ∃ g, a1 = some ⟨g, 0, none⟩ ∧ lo ≤ g ∧ g < mid ∧ RowAt wr g l.length (fun i => if i < j then .int .i64 99 else .int .i64 (l.getD i 0)))) (fun i _ => l.length - (intOf i).toNat)
          case atStart => exact ⟨0, Nat.zero_le _, rfl, HP5.out, HB5.out, HA5.out⟩
          case round =>
            clear HP5 HA5 HB5
            obtain ⟨j, hj, rfl, hP, hI, hA⟩ := hrel
            have HP := Lib.hid hP
            have HI := Lib.hid hI
            clear hP hI
            by_cases hjl : j < l.length
            · obtain ⟨g, rfl, h1, h2, R1⟩ := hA (by omega)
              obtain ⟨g2, rfl, h3, R2⟩ := HI.out (by omega)
              have d1 : wr.cell? ⟨g, j, none⟩ = some (.int .i64 (l.getD j 0)) := by rw [R1.cell j hjl, if_neg (Nat.lt_irrefl _)]
              have d2 := R2.cell j hjl
              have HRW := Lib.hid R1
              have HB := Lib.hid (fun m => below_drewN (Below.refl wr.heap.size wr) m)
              clear R1 R2
              go_wp2_with (fail)
              go_quiet (fail)
              have hb := HB.out nq
              have R3 := HRW.out.later hb
              have e1 : (wr.drewN nq).cell? ⟨g, j, none⟩ = some (.int .i64 (l.getD j 0)) := by rw [R3.cell j hjl, if_neg (Nat.lt_irrefl _)]
              have f1 := R3.frozen j
              obtain ⟨o1, o2, o3, o4⟩ := HOFF.out g h1
              have HN1 := Lib.hid ((HP.out.later hb).other (Only.setCell (S := Eq g) (wr.drewN nq) ⟨g, j, none⟩ rfl (.int .i64 99)) o2 o3 (fun k hk e => o4 k hk e.symm) (fun k hk => by omega))
              have HN2 := Lib.hid ((HI.out.later hb).only (Only.setCell (S := Eq g) (wr.drewN nq) ⟨g, j, none⟩ rfl (.int .i64 99)) (fun k hk => by omega))
              have HN3 := Lib.hid ((R3.setCell j (.int .i64 99)).ext (g := fun i => if i < j + 1 then .int .i64 99 else .int .i64 (l.getD i 0)) (fun i _ => by
                unfold updV
                by_cases e : i = j
                · subst e; rw [if_pos rfl, if_pos (Nat.lt_succ_self _)]
                · rw [if_neg e]
                  dsimp only
                  by_cases h : i < j
                  · rw [if_pos h, if_pos (by omega)]
                  · rw [if_neg h, if_neg (by omega)]))
              clear hb R3 HB d1 d2 o1 o2 o3 o4 HP HI HRW
              go_wp2_with (fail)
              go_roundw
              case rel => exact ⟨j + 1, hjl, by go_num, HN1.out, HN2.out, fun _ => ⟨g, rfl, h1, h2, HN3.out⟩⟩
              case measure => simp [intOf]; omega
            · clear hA HI
              go_wp2_with (fail)
              go_roundw
              case rel => exact ⟨k + 1, d, H, M, v, hlt, rfl, by go_num, hML, HP.out⟩
              case measure => simp [intOf]; omega
      · clear HO
        go_wp2_with (fail)
        go_loop [18] (fun i => ∃ q : Int, i = .int .i64 q ∧ -1 ≤ q ∧ q ≤ n + 1) (fun i => (n + 1 - intOf i).toNat)
        case atStart => exact ⟨-1, rfl, by omega, by omega⟩
        case round =>
          obtain ⟨q, rfl, hq1, hq2⟩ := hrel
          have c0 := HP.out.ref.c0
          by_cases hqn : q ≤ n
          · go_wp2_with (fail)
            clear c0
            refine (holder_at HP.out.tab q).mono ?_
            rintro e w' ⟨rfl, rfl⟩
            go_wp2_with (fail)
            refine (refholder_any HP.out.ref HP.out.rel (by omega) q).mono ?_
            rintro e w' ⟨rfl, rfl⟩
            go_wp2_with (fail)
            go_round
            case rel => exact ⟨q + 1, by go_num, by omega, by omega⟩
            case measure => simp [intOf]; omega
          · have hB := Lib.hid HP.out.bel
            go_wp2_with (fail)
            refine (known_any wr).mono ?_
            rintro e w9 ⟨rfl, hb⟩
            have HB2 := Lib.hid (hB.out.trans (hb.mono hB.out.size))
            clear hb
            go_wp2_with (fail)
            go_ret
            exact ⟨rfl, HB2.out⟩
  · go_enter Try.func3, Try.ntmps3
    go_wp2_with (fail)
    refine (known_any w).mono ?_
    rintro e w9 ⟨rfl, hb⟩
    have HB2 := Lib.hid hb
    clear hb
    go_wp2_with (fail)
    go_ret
    exact ⟨rfl, HB2.out⟩
end Go.Proofs.Ytepapbecnadllaa
