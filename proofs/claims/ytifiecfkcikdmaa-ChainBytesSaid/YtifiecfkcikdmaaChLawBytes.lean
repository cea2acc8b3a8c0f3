/-
  The walk of ChainBytes: it returns true, and below the old heap nothing has turned.
-/
import Derived.Test.YtifiecfkcikdmaaChSm
import Derived.Test.YtifiecfkcikdmaaLexApp
import Derived.Deep.DeepCutAuto
import Derived.Deep.CutBlock
namespace Go.Proofs.Ytifiecfkcikdmaa
open Go.RowKit Go

section
variable {SlAt : World → SC → Sl → Prop}
set_option maxRecDepth 100000 in
set_option maxHeartbeats 16000000 in
theorem lawCBytes_any (K : ChainOk SlAt) (size colour : Int) (la : Option Addr) (len cap : Nat) (O : Nat → OpC) (w : World) (hO : OpsC w la len O) :
    Calls Try.prog 7 #[.int .i64 size, .int .i64 colour, .slice la len cap] w fun e w' => e = .returned (.bool true) ∧ Below w.heap.size w w' := by
  obtain ⟨Z, hZ, hmk⟩ := make_bytes
  have HK := Lib.hid K
  have HO := Lib.hid hO
  have HZR := Lib.hid (RowAt.new w Z 5 256 _ hZ)
  have HB1 := Lib.hid ((Below.refl w.heap.size w).alloc (Nat.le_refl _) (.cells Z 5))
  clear K hZ hO
  by_cases hm : mayC size colour = true
  · have hm' := hm
    unfold mayC at hm'
    obtain ⟨m1, m2, m3, m4, m5, m6⟩ := of_decide_eq_true hm'
    obtain ⟨sz, rfl⟩ : ∃ sz : Nat, size = sz := ⟨size.toNat, by omega⟩
    obtain ⟨co, rfl⟩ : ∃ co : Nat, colour = co := ⟨colour.toNat, by omega⟩
    have HM := Lib.hid hm
    clear hm hm' m1 m2 m3 m4 m5 m6
    go_enter Try.func7, Try.ntmps7
    go_wp2_with (fail)
    clear hmk
    generalize w.alloc (.cells Z 5) = w1 at *
    refine (HK.out.new sz co w.heap.size 256 _ w1 HM.out (Nat.le_refl _) HZR.out).mono ?_
    intro e w2 hN
    obtain ⟨C, rfl, hCb, _, hL, _, _⟩ := LAt.new HB1.out HB1.out.size (Nat.le_refl _) hN
    have HL := Lib.hid hL
    have HCb := Lib.hid hCb
    clear hN hL hCb
    by_cases hl : len ≤ 60
    · have hlI : ¬ 60 < (len : Int) := by omega
      have HCL := Lib.hid (HK.out.lt HL.out.at_)
      have HOR := Lib.hid (RowAt.new w2 #[.bool false, .bool false, .bool false, .bool false, .bool false, .bool false, .bool false, .bool false, .bool false, .bool false, .bool false, .bool false, .bool false, .bool false, .bool false, .bool false, .bool false, .bool false, .bool false, .bool false, .bool false, .bool false, .bool false, .bool false, .bool false, .bool false, .bool false, .bool false, .bool false, .bool false, .bool false, .bool false] 41 32 (fun i => .bool ((Sl.new sz co (fun _ => 0)).out i)) (fun i hi => by
        rw [show (#[.bool false, .bool false, .bool false, .bool false, .bool false, .bool false, .bool false, .bool false, .bool false, .bool false, .bool false, .bool false, .bool false, .bool false, .bool false, .bool false, .bool false, .bool false, .bool false, .bool false, .bool false, .bool false, .bool false, .bool false, .bool false, .bool false, .bool false, .bool false, .bool false, .bool false, .bool false, .bool false] : Array Value) = Array.replicate 32 (.bool false) from rfl, Array.getElem?_replicate, if_pos hi]
        rfl))
      have HL3 := Lib.hid (HL.out.later HK.out ((Below.refl w2.heap.size w2).alloc (Nat.le_refl _) (.cells #[.bool false, .bool false, .bool false, .bool false, .bool false, .bool false, .bool false, .bool false, .bool false, .bool false, .bool false, .bool false, .bool false, .bool false, .bool false, .bool false, .bool false, .bool false, .bool false, .bool false, .bool false, .bool false, .bool false, .bool false, .bool false, .bool false, .bool false, .bool false, .bool false, .bool false, .bool false, .bool false] 41)))
      have HLE := Lib.hid (show w.heap.size ≤ w2.heap.size from HL.out.le)
      clear HL
      go_wp2_with (fail)
      generalize w2.alloc (.cells #[.bool false, .bool false, .bool false, .bool false, .bool false, .bool false, .bool false, .bool false, .bool false, .bool false, .bool false, .bool false, .bool false, .bool false, .bool false, .bool false, .bool false, .bool false, .bool false, .bool false, .bool false, .bool false, .bool false, .bool false, .bool false, .bool false, .bool false, .bool false, .bool false, .bool false, .bool false, .bool false] 41) = w3 at *
      generalize w2.heap.size = o1 at *
      go_loopw [44] (fun q wr => ∃ (k : Nat) (S : Sl), k ≤ len ∧ q = .int .i64 k ∧ Hid (LAt SlAt w.heap.size w C S wr) ∧ Hid (RowAt wr o1 32 (fun i => .bool (S.out i)))) (fun q _ => len - (intOf q).toNat)
      case atStart => exact ⟨0, _, Nat.zero_le _, rfl, HL3, HOR⟩
      case round =>
        clear HL3 HOR
        obtain ⟨k, S, hk, rfl, HL, HQ⟩ := hrel
        have HI := Lib.hid (HK.out.inv HL.out.at_)
        by_cases hlt : k < len
        · obtain ⟨b, o, rfl, hbl, hsrc, hbl2, hc⟩ := HO.out.one k hlt
          obtain ⟨q0, q1, q2, q3⟩ := hc wr HL.out.bel
          have HSR := Lib.hid hsrc
          have hltI : (k : Int) < (len : Int) := by omega
          clear hc hbl hsrc
          generalize O k = op at q0 q1 q2 q3 HSR hbl2
          obtain ⟨kind, at1, tn, bp, bl, bcp, ox⟩ := op
          dsimp only at q0 q1 q2 q3 HSR hbl2
          have HST := Lib.hid (store_opc wr #[.int .i64 0, .int .i64 0, .int .u64 0, .slice none 0 0] rfl ⟨kind, at1, tn, bp, bl, bcp, ox⟩)
          have hba : Below wr.heap.size wr (wr.alloc (.cells (OpC.arr ⟨kind, at1, tn, bp, bl, bcp, ox⟩) 35)) := (Below.refl _ _).alloc (Nat.le_refl _) _
          have HR := Lib.hid (opc_row wr ⟨kind, at1, tn, bp, bl, bcp, ox⟩)
          have HL1 := Lib.hid (HL.out.later HK.out hba)
          have HQ1 := Lib.hid (HQ.out.later hba)
          have ho1 : o1 < wr.heap.size := HQ.out.lt
          have hcv : (convert 22 9 (.slice (some ⟨w.heap.size, 0, none⟩) 256 256)).run Try.prog (wr.alloc (.cells (OpC.arr ⟨kind, at1, tn, bp, bl, bcp, ox⟩) 35)) = .ok (.string (strB 256 S.bt)) (wr.alloc (.cells (OpC.arr ⟨kind, at1, tn, bp, bl, bcp, ox⟩) 35)) := by
            have hrow := HK.out.byt HL1.out.at_
            rw [HCb.out] at hrow
            exact run_string hrow
          clear hba HL HQ
          unfold OpC.arr at HST HR HL1 HQ1 hcv
          dsimp only at HST HR HL1 HQ1 hcv
          go_upto_block 2 with (refine wpList_store_run rfl 35 _ _ rfl wr.heap.size _ _ rfl rfl HST.out ?_)
          clear q0 q1 q2 q3 HST hcv
          generalize wr.heap.size = ob at HR ho1 ⊢
          generalize wr.alloc (.cells #[.int .i64 kind, .int .i64 at1, .int .u64 tn, .slice bp bl bcp] 35) = W at HR HL1 HQ1 ⊢
          try go_frame
          go_cut [14] (fun q wc => ∃ (kk : Int) (S' : Sl), q = .int .i64 kk ∧ Hid (LAt SlAt w.heap.size w C S' wc) ∧ Hid (RowAt wc o1 32 (fun i => .bool (S'.out i))) ∧ Hid (SmB S S' kk))
          case first =>
            obtain ⟨q0, q1, q2, q3⟩ := opc_four HR.out
            dsimp only at q0 q1 q2 q3
            have HOC := Lib.hid (show ¬ C.all o1 from fun h => by have := HCL.out _ h; omega)
            by_cases hk0 : kind = 0
            -- [SCAN
            · as_aux_lemma =>
                subst hk0
                cases hS : S.ch with
                | nil =>
                  have HT := Lib.hid (take_nil hS)
                  go_wp2_with (fail)
                  refine (HK.out.take HL1.out.at_).mono ?_
                  rintro e w3 ⟨rfl, hA, ho⟩
                  rw [HT.out] at hA ⊢
                  have HL3 := Lib.hid (HL1.out.turn hA ho)
                  have HQ3 := Lib.hid (HQ1.out.only ho HOC.out)
                  clear hA ho q0 q1 q2 q3 HL1 HR HQ1
                  go_wp2_with (fail)
                  go_meet
                  exact ⟨-1, S, rfl, HL3, HQ3, sm_refl S _⟩
                | cons i l =>
                  have hi := HI.out.lt i (by rw [hS]; simp)
                  have hn32 := HI.out.parts.2.2.2.1
                  have hi32 : (i : Int) < 32 := by omega
                  have HSM := Lib.hid (sm_take HI.out hS)
                  have HT := Lib.hid (take_cons hS)
                  have HT2 := Lib.hid (show S.take.2.2.out = updC S.out i true by rw [take_cons hS])
                  obtain ⟨S2, hS2⟩ : ∃ S2, S.take.2.2 = S2 := ⟨_, rfl⟩
                  have HT3 := Lib.hid (show S.take = ((i : Int), 0, S2) by rw [← hS2, take_cons hS])
                  rw [hS2] at HSM HT2
                  clear hS2 HT
                  go_wp2_with (fail)
                  refine (HK.out.take HL1.out.at_).mono ?_
                  rintro e w3 ⟨rfl, hA, ho⟩
                  rw [HT3.out] at hA ⊢
                  have HL3 := Lib.hid (HL1.out.turn hA ho)
                  have hQ3 := HQ1.out.only ho HOC.out
                  have c3 : w3.cell? ⟨o1, i, none⟩ = some (.bool (S.out i)) := hQ3.cell i (by omega)
                  have f3 : w3.frozen? ⟨o1, i, none⟩ = false := hQ3.frozen i
                  have hor : Only (fun q => q = o1) w3 (w3.setCell ⟨o1, i, none⟩ (.bool true)) := Only.setCell (S := fun q => q = o1) _ ⟨o1, i, none⟩ rfl _
                  have HL4 := Lib.hid (HL3.out.only HK.out hor (fun q hq h => HOC.out (by rw [← h]; exact hq)) (fun q h => by rw [h]; exact HLE.out))
                  have HQ4 := Lib.hid (show RowAt (w3.setCell ⟨o1, i, none⟩ (.bool true)) o1 32 (fun q => .bool (S2.out q)) from (hQ3.setCell i (.bool true)).ext fun q _ => by
                    rw [HT2.out]
                    unfold updV updC
                    split <;> rfl)
                  clear hA ho hor hQ3 q0 q1 q2 q3 HL1 HL3 HR HQ1
                  go_wp2_with (fail)
                  go_meet
                  exact ⟨i, S2, rfl, HL4, HQ4, HSM⟩
            -- SCAN]
            by_cases hk1 : kind = 1
            -- [SCAN
            · as_aux_lemma =>
                subst hk1
                rcases give_or S at1 with ⟨i, rfl, hi, he⟩ | ⟨e', hne, he⟩
                · have hn32 := HI.out.parts.2.2.2.1
                  have hi32 : (i : Int) < 32 := by omega
                  have HSM := Lib.hid (sm_given HI.out hi)
                  have HE := Lib.hid he
                  clear he
                  go_wp2_with (fail)
                  refine (HK.out.give (i : Int) HL1.out.at_).mono ?_
                  rintro e w3 ⟨rfl, hA, ho⟩
                  rw [HE.out] at hA ⊢
                  have HL3 := Lib.hid (HL1.out.turn hA ho)
                  have hQ3 := HQ1.out.only ho HOC.out
                  have hR3 : RowAt w3 ob 4 (ocV ⟨1, (i : Int), tn, bp, bl, bcp, ox⟩) := HR.out.only ho (fun h => by have := HCL.out _ h; omega)
                  have c3 : w3.cell? ⟨o1, i, none⟩ = some (.bool (S.out i)) := hQ3.cell i (by omega)
                  have f3 : w3.frozen? ⟨o1, i, none⟩ = false := hQ3.frozen i
                  have hor : Only (fun q => q = o1) w3 (w3.setCell ⟨o1, i, none⟩ (.bool false)) := Only.setCell (S := fun q => q = o1) _ ⟨o1, i, none⟩ rfl _
                  have HL4 := Lib.hid (HL3.out.only HK.out hor (fun q hq h => HOC.out (by rw [← h]; exact hq)) (fun q h => by rw [h]; exact HLE.out))
                  have HQ4 := Lib.hid (show RowAt (w3.setCell ⟨o1, i, none⟩ (.bool false)) o1 32 (fun q => .bool ((S.given i).out q)) from (hQ3.setCell i (.bool false)).ext fun q _ => by
                    show updV (fun i => Value.bool (S.out i)) i (.bool false) q = Value.bool (updC S.out i false q)
                    unfold updV updC
                    split <;> rfl)
                  clear q0 q1 q2 q3
                  obtain ⟨q0, q1, q2, q3⟩ := opc_four hR3
                  dsimp only at q0 q1 q2 q3
                  clear hA ho hor hQ3 hR3 HL1 HL3 HR HQ1
                  go_wp2_with (fail)
                  go_meet
                  exact ⟨i, _, rfl, HL4, HQ4, HSM⟩
                · have HE := Lib.hid he
                  have hne2 : (e' == 0) = false := by simpa using hne
                  clear he hne
                  go_wp2_with (fail)
                  refine (HK.out.give at1 HL1.out.at_).mono ?_
                  rintro e w3 ⟨rfl, hA, ho⟩
                  rw [HE.out] at hA ⊢
                  have HL3 := Lib.hid (HL1.out.turn hA ho)
                  have HQ3 := Lib.hid (HQ1.out.only ho HOC.out)
                  clear hA ho q0 q1 q2 q3 HL1 HR HQ1
                  go_wp2_with (fail)
                  go_meet
                  exact ⟨-1, S, rfl, HL3, HQ3, sm_refl S _⟩
            -- SCAN]
            by_cases hk4 : kind = 4
            · as_aux_lemma =>
                subst hk4
                have HW1 := Lib.hid (show ∀ V, Below W.heap.size W.drew V → Below W.heap.size W V from fun V hV => (Below.refl W.heap.size W).drew.trans hV)
                have L1 := Lib.hid (show ∀ V, Below W.heap.size W.drew V → (loadVar 3 ⟨ob, 1, none⟩).run Try.prog V = .ok (.int .i64 at1) V from fun V hV => run_loadVar_cell (fun _ => by kernel_rfl) (opc_four (HR.out.later (HW1.out V hV))).2.1)
                have HLD := Lib.hid (HL1.out.later HK.out (Below.refl W.heap.size W).drew)
                have HQD := Lib.hid (HQ1.out.later (Below.refl W.heap.size W).drew)
                have HRD := Lib.hid (HR.out.later (Below.refl W.heap.size W).drew)
                by_cases h0 : at1 < 0
                · as_aux_lemma =>
                    have hd0 : decide (0 ≤ at1) = false := decide_eq_false (by omega)
                    go_wp2_with (fail)
                    refine wp_region_lex1 (Below W.heap.size W.drew) [(0, false), (1, false), (2, false), (3, false), (4, false), (5, false), (6, false), (7, true), (8, false), (9, false), (10, false), (11, false), (12, false), (13, false), (14, false), (15, false), (16, false), (17, false), (18, false), (19, false), (20, false)]
                      (by kernel_rfl) (by kernel_rfl) rfl (by kernel_rfl) (Below.refl _ _) ?_
                    intro V0 hV0 hK0
                    clear hK0
                    subst hV0
                    refine lexH_yieldE rfl rfl ?_
                    apply Exists.intro
                    refine ⟨fun W hW => ?_, ?_⟩
                    focus (go_simp; exact rfl)
                    simp only [List.getElem_toArray, List.getElem_cons_zero, Act.put, List.setIfInBounds_toArray, List.set_cons_zero, List.set_cons_succ]
                    refine lexH_load rfl rfl _ _ rfl rfl L1.out ?_
                    simp only [List.getElem_toArray, List.getElem_cons_succ, List.getElem_cons_zero, Act.put, List.setIfInBounds_toArray, List.set_cons_zero, List.set_cons_succ]
                    refine lexH_yieldE rfl rfl ?_
                    apply Exists.intro
                    refine ⟨fun W hW => ?_, ?_⟩
                    focus (go_simp; exact rfl)
                    simp only [List.getElem_toArray, List.getElem_cons_succ, List.getElem_cons_zero, Act.put, List.setIfInBounds_toArray, List.set_cons_zero, List.set_cons_succ]
                    refine lexH_yieldE rfl rfl ?_
                    apply Exists.intro
                    refine ⟨fun W hW => ?_, ?_⟩
                    focus (go_simp; exact rfl)
                    simp only [List.getElem_toArray, List.getElem_cons_succ, List.getElem_cons_zero, Act.put, List.setIfInBounds_toArray, List.set_cons_zero, List.set_cons_succ]
                    refine lexH_skip rfl rfl ?_
                    simp only [List.getElem_toArray, List.getElem_cons_succ, List.getElem_cons_zero, Act.put, List.setIfInBounds_toArray, List.set_cons_zero, List.set_cons_succ]
                    refine lexH_skip rfl rfl ?_
                    simp only [List.getElem_toArray, List.getElem_cons_succ, List.getElem_cons_zero, Act.put, List.setIfInBounds_toArray, List.set_cons_zero, List.set_cons_succ]
                    refine lexH_skip rfl rfl ?_
                    simp only [List.getElem_toArray, List.getElem_cons_succ, List.getElem_cons_zero, Act.put, List.setIfInBounds_toArray, List.set_cons_zero, List.set_cons_succ]
                    refine lexH_pass rfl rfl (Below.refl _ _) ?_
                    simp only [List.getElem_toArray, List.getElem_cons_succ, List.getElem_cons_zero, Act.put, List.setIfInBounds_toArray, List.set_cons_zero, List.set_cons_succ]
                    refine lexH_skip rfl rfl ?_
                    simp only [List.getElem_toArray, List.getElem_cons_succ, List.getElem_cons_zero, Act.put, List.setIfInBounds_toArray, List.set_cons_zero, List.set_cons_succ]
                    refine lexH_yieldE rfl rfl ?_
                    apply Exists.intro
                    refine ⟨fun W hW => ?_, ?_⟩
                    focus (go_simp; exact rfl)
                    simp only [List.getElem_toArray, List.getElem_cons_succ, List.getElem_cons_zero, Act.put, List.setIfInBounds_toArray, List.set_cons_zero, List.set_cons_succ]
                    refine lexH_yieldE rfl rfl ?_
                    apply Exists.intro
                    refine ⟨fun W hW => ?_, ?_⟩
                    focus (go_simp; exact rfl)
                    simp only [List.getElem_toArray, List.getElem_cons_succ, List.getElem_cons_zero, Act.put, List.setIfInBounds_toArray, List.set_cons_zero, List.set_cons_succ]
                    refine lexH_skip rfl rfl ?_
                    simp only [List.getElem_toArray, List.getElem_cons_succ, List.getElem_cons_zero, Act.put, List.setIfInBounds_toArray, List.set_cons_zero, List.set_cons_succ]
                    refine lexH_skip rfl rfl ?_
                    simp only [List.getElem_toArray, List.getElem_cons_succ, List.getElem_cons_zero, Act.put, List.setIfInBounds_toArray, List.set_cons_zero, List.set_cons_succ]
                    refine lexH_skip rfl rfl ?_
                    simp only [List.getElem_toArray, List.getElem_cons_succ, List.getElem_cons_zero, Act.put, List.setIfInBounds_toArray, List.set_cons_zero, List.set_cons_succ]
                    refine lexH_yieldE rfl rfl ?_
                    apply Exists.intro
                    refine ⟨fun W hW => ?_, ?_⟩
                    focus (go_simp; exact rfl)
                    simp only [List.getElem_toArray, List.getElem_cons_succ, List.getElem_cons_zero, Act.put, List.setIfInBounds_toArray, List.set_cons_zero, List.set_cons_succ]
                    refine lexH_yieldE rfl rfl ?_
                    apply Exists.intro
                    refine ⟨fun W hW => ?_, ?_⟩
                    focus (go_simp; exact rfl)
                    simp only [List.getElem_toArray, List.getElem_cons_succ, List.getElem_cons_zero, Act.put, List.setIfInBounds_toArray, List.set_cons_zero, List.set_cons_succ]
                    refine lexH_skip rfl rfl ?_
                    simp only [List.getElem_toArray, List.getElem_cons_succ, List.getElem_cons_zero, Act.put, List.setIfInBounds_toArray, List.set_cons_zero, List.set_cons_succ]
                    refine lexH_skip rfl rfl ?_
                    simp only [List.getElem_toArray, List.getElem_cons_succ, List.getElem_cons_zero, Act.put, List.setIfInBounds_toArray, List.set_cons_zero, List.set_cons_succ]
                    refine lexH_skip rfl rfl ?_
                    simp only [List.getElem_toArray, List.getElem_cons_succ, List.getElem_cons_zero, Act.put, List.setIfInBounds_toArray, List.set_cons_zero, List.set_cons_succ]
                    refine lexH_skip rfl rfl ?_
                    simp only [List.getElem_toArray, List.getElem_cons_succ, List.getElem_cons_zero, Act.put, List.setIfInBounds_toArray, List.set_cons_zero, List.set_cons_succ]
                    refine lexH_yieldE rfl rfl ?_
                    apply Exists.intro
                    refine ⟨fun W hW => ?_, ?_⟩
                    focus (go_simp; exact rfl)
                    simp only [List.getElem_toArray, List.getElem_cons_succ, List.getElem_cons_zero, Act.put, List.setIfInBounds_toArray, List.set_cons_zero, List.set_cons_succ]
                    refine lexH_nil ?_
                    clear L1 HW1
                    go_wp2_with (fail)
                    go_meet
                    exact ⟨-1, S, rfl, HLD, HQD, sm_refl S _⟩
                · obtain ⟨i, rfl⟩ : ∃ i : Nat, at1 = i := ⟨at1.toNat, by omega⟩
                  have hd0 : decide (0 ≤ (i : Int)) = true := decide_eq_true (by omega)
                  have hn32 := HI.out.parts.2.2.2.1
                  by_cases h1 : i < S.n
                  · as_aux_lemma =>
                      have hd1 : decide (i < S.n) = true := decide_eq_true h1
                      have hi32 : i < 32 := by omega
                      have hi32I : (i : Int) < 32 := by omega
                      have hd2 : decide ((i : Int) < 32) = true := decide_eq_true hi32I
                      have LO := Lib.hid (show ∀ V, Below W.heap.size W.drew V → (loadVar 4 ⟨o1, i, none⟩).run Try.prog V = .ok (.bool (S.out i)) V from fun V hV => run_loadVar_cell (fun _ => by kernel_rfl) ((HQ1.out.later (HW1.out V hV)).cell i hi32))
                      cases ho : S.out i with
                      | false =>
                        rw [ho] at LO
                        go_wp2_with (fail)
                        refine wp_region_lex1 (Below W.heap.size W.drew) [(0, false), (1, false), (2, false), (3, false), (4, false), (5, false), (6, false), (7, true), (8, false), (9, false), (10, false), (11, false), (12, false), (13, false), (14, false), (15, false), (16, false), (17, false), (18, false), (19, false), (20, false)]
                          (by kernel_rfl) (by kernel_rfl) rfl (by kernel_rfl) (Below.refl _ _) ?_
                        intro V0 hV0 hK0
                        clear hK0
                        subst hV0
                        refine lexH_yieldE rfl rfl ?_
                        apply Exists.intro
                        refine ⟨fun W hW => ?_, ?_⟩
                        focus (go_simp; exact rfl)
                        simp only [List.getElem_toArray, List.getElem_cons_zero, Act.put, List.setIfInBounds_toArray, List.set_cons_zero, List.set_cons_succ]
                        refine lexH_load rfl rfl _ _ rfl rfl L1.out ?_
                        simp only [List.getElem_toArray, List.getElem_cons_succ, List.getElem_cons_zero, Act.put, List.setIfInBounds_toArray, List.set_cons_zero, List.set_cons_succ]
                        refine lexH_yieldE rfl rfl ?_
                        apply Exists.intro
                        refine ⟨fun W hW => ?_, ?_⟩
                        focus (go_simp; exact rfl)
                        simp only [List.getElem_toArray, List.getElem_cons_succ, List.getElem_cons_zero, Act.put, List.setIfInBounds_toArray, List.set_cons_zero, List.set_cons_succ]
                        refine lexH_yieldE rfl rfl ?_
                        apply Exists.intro
                        refine ⟨fun W hW => ?_, ?_⟩
                        focus (go_simp; exact rfl)
                        simp only [List.getElem_toArray, List.getElem_cons_succ, List.getElem_cons_zero, Act.put, List.setIfInBounds_toArray, List.set_cons_zero, List.set_cons_succ]
                        refine lexH_yieldE rfl rfl ?_
                        apply Exists.intro
                        refine ⟨fun W hW => ?_, ?_⟩
                        focus (go_simp; exact rfl)
                        simp only [List.getElem_toArray, List.getElem_cons_succ, List.getElem_cons_zero, Act.put, List.setIfInBounds_toArray, List.set_cons_zero, List.set_cons_succ]
                        refine lexH_load rfl rfl _ _ rfl rfl L1.out ?_
                        simp only [List.getElem_toArray, List.getElem_cons_succ, List.getElem_cons_zero, Act.put, List.setIfInBounds_toArray, List.set_cons_zero, List.set_cons_succ]
                        refine lexH_yieldE rfl rfl ?_
                        apply Exists.intro
                        refine ⟨fun W hW => ?_, ?_⟩
                        focus (go_simp; exact rfl)
                        simp only [List.getElem_toArray, List.getElem_cons_succ, List.getElem_cons_zero, Act.put, List.setIfInBounds_toArray, List.set_cons_zero, List.set_cons_succ]
                        refine lexH_call 22 #[.pointer (some ⟨C.s, 0, none⟩)] rfl rfl ?_ ?_
                        focus (go_simp; done)
                        refine (HK.out.count HLD.out.at_).mono ?_
                        rintro e V1 ⟨rfl, hb⟩
                        have HB1V := Lib.hid hb
                        have HLV := Lib.hid (HLD.out.later HK.out hb)
                        have HQV := Lib.hid (HQD.out.later hb)
                        have HRV := Lib.hid (HRD.out.later hb)
                        refine ⟨_, rfl, hb, ?_⟩
                        clear hb
                        simp only [List.getElem_toArray, List.getElem_cons_succ, List.getElem_cons_zero, Act.put, List.setIfInBounds_toArray, List.set_cons_zero, List.set_cons_succ]
                        refine lexH_yieldE rfl rfl ?_
                        apply Exists.intro
                        refine ⟨fun W hW => ?_, ?_⟩
                        focus (go_simp; exact rfl)
                        simp only [List.getElem_toArray, List.getElem_cons_succ, List.getElem_cons_zero, Act.put, List.setIfInBounds_toArray, List.set_cons_zero, List.set_cons_succ]
                        refine lexH_yieldE rfl rfl ?_
                        apply Exists.intro
                        refine ⟨fun W hW => ?_, ?_⟩
                        focus (go_simp; exact rfl)
                        simp only [List.getElem_toArray, List.getElem_cons_succ, List.getElem_cons_zero, Act.put, List.setIfInBounds_toArray, List.set_cons_zero, List.set_cons_succ]
                        refine lexH_yieldE rfl rfl ?_
                        apply Exists.intro
                        refine ⟨fun W hW => ?_, ?_⟩
                        focus (go_simp; exact rfl)
                        simp only [List.getElem_toArray, List.getElem_cons_succ, List.getElem_cons_zero, Act.put, List.setIfInBounds_toArray, List.set_cons_zero, List.set_cons_succ]
                        refine lexH_yieldE rfl rfl ?_
                        apply Exists.intro
                        refine ⟨fun W hW => ?_, ?_⟩
                        focus (go_simp; exact rfl)
                        simp only [List.getElem_toArray, List.getElem_cons_succ, List.getElem_cons_zero, Act.put, List.setIfInBounds_toArray, List.set_cons_zero, List.set_cons_succ]
                        refine lexH_load rfl rfl _ _ rfl rfl L1.out ?_
                        simp only [List.getElem_toArray, List.getElem_cons_succ, List.getElem_cons_zero, Act.put, List.setIfInBounds_toArray, List.set_cons_zero, List.set_cons_succ]
                        refine lexH_yieldE rfl rfl ?_
                        apply Exists.intro
                        refine ⟨fun W hW => ?_, ?_⟩
                        focus (go_simp; exact rfl)
                        simp only [List.getElem_toArray, List.getElem_cons_succ, List.getElem_cons_zero, Act.put, List.setIfInBounds_toArray, List.set_cons_zero, List.set_cons_succ]
                        refine lexH_yieldE rfl rfl ?_
                        apply Exists.intro
                        refine ⟨fun W hW => ?_, ?_⟩
                        focus (go_simp; exact rfl)
                        simp only [List.getElem_toArray, List.getElem_cons_succ, List.getElem_cons_zero, Act.put, List.setIfInBounds_toArray, List.set_cons_zero, List.set_cons_succ]
                        refine lexH_yieldE rfl rfl ?_
                        apply Exists.intro
                        refine ⟨fun W hW => ?_, ?_⟩
                        focus (go_simp; exact rfl)
                        simp only [List.getElem_toArray, List.getElem_cons_succ, List.getElem_cons_zero, Act.put, List.setIfInBounds_toArray, List.set_cons_zero, List.set_cons_succ]
                        refine lexH_yieldE rfl rfl ?_
                        apply Exists.intro
                        refine ⟨fun W hW => ?_, ?_⟩
                        focus (go_simp; exact rfl)
                        simp only [List.getElem_toArray, List.getElem_cons_succ, List.getElem_cons_zero, Act.put, List.setIfInBounds_toArray, List.set_cons_zero, List.set_cons_succ]
                        refine lexH_load rfl rfl _ _ rfl rfl L1.out ?_
                        simp only [List.getElem_toArray, List.getElem_cons_succ, List.getElem_cons_zero, Act.put, List.setIfInBounds_toArray, List.set_cons_zero, List.set_cons_succ]
                        refine lexH_yieldE rfl rfl ?_
                        apply Exists.intro
                        refine ⟨fun W hW => ?_, ?_⟩
                        focus (go_simp; exact rfl)
                        simp only [List.getElem_toArray, List.getElem_cons_succ, List.getElem_cons_zero, Act.put, List.setIfInBounds_toArray, List.set_cons_zero, List.set_cons_succ]
                        refine lexH_load rfl rfl _ _ rfl rfl LO.out ?_
                        simp only [List.getElem_toArray, List.getElem_cons_succ, List.getElem_cons_zero, Act.put, List.setIfInBounds_toArray, List.set_cons_zero, List.set_cons_succ]
                        refine lexH_yieldE rfl rfl ?_
                        apply Exists.intro
                        refine ⟨fun W hW => ?_, ?_⟩
                        focus (go_simp; exact rfl)
                        simp only [List.getElem_toArray, List.getElem_cons_succ, List.getElem_cons_zero, Act.put, List.setIfInBounds_toArray, List.set_cons_zero, List.set_cons_succ]
                        refine lexH_nil ?_
                        clear LO
                        clear L1 HW1
                        go_wp2_with (fail)
                        go_meet
                        exact ⟨-1, S, rfl, HLV, HQV, sm_refl S _⟩
                      | true =>
                        rw [ho] at LO
                        go_wp2_with (fail)
                        refine wp_region_lex1 (Below W.heap.size W.drew) [(0, false), (1, false), (2, false), (3, false), (4, false), (5, false), (6, false), (7, true), (8, false), (9, false), (10, false), (11, false), (12, false), (13, false), (14, false), (15, false), (16, false), (17, false), (18, false), (19, false), (20, false)]
                          (by kernel_rfl) (by kernel_rfl) rfl (by kernel_rfl) (Below.refl _ _) ?_
                        intro V0 hV0 hK0
                        clear hK0
                        subst hV0
                        refine lexH_yieldE rfl rfl ?_
                        apply Exists.intro
                        refine ⟨fun W hW => ?_, ?_⟩
                        focus (go_simp; exact rfl)
                        simp only [List.getElem_toArray, List.getElem_cons_zero, Act.put, List.setIfInBounds_toArray, List.set_cons_zero, List.set_cons_succ]
                        refine lexH_load rfl rfl _ _ rfl rfl L1.out ?_
                        simp only [List.getElem_toArray, List.getElem_cons_succ, List.getElem_cons_zero, Act.put, List.setIfInBounds_toArray, List.set_cons_zero, List.set_cons_succ]
                        refine lexH_yieldE rfl rfl ?_
                        apply Exists.intro
                        refine ⟨fun W hW => ?_, ?_⟩
                        focus (go_simp; exact rfl)
                        simp only [List.getElem_toArray, List.getElem_cons_succ, List.getElem_cons_zero, Act.put, List.setIfInBounds_toArray, List.set_cons_zero, List.set_cons_succ]
                        refine lexH_yieldE rfl rfl ?_
                        apply Exists.intro
                        refine ⟨fun W hW => ?_, ?_⟩
                        focus (go_simp; exact rfl)
                        simp only [List.getElem_toArray, List.getElem_cons_succ, List.getElem_cons_zero, Act.put, List.setIfInBounds_toArray, List.set_cons_zero, List.set_cons_succ]
                        refine lexH_yieldE rfl rfl ?_
                        apply Exists.intro
                        refine ⟨fun W hW => ?_, ?_⟩
                        focus (go_simp; exact rfl)
                        simp only [List.getElem_toArray, List.getElem_cons_succ, List.getElem_cons_zero, Act.put, List.setIfInBounds_toArray, List.set_cons_zero, List.set_cons_succ]
                        refine lexH_load rfl rfl _ _ rfl rfl L1.out ?_
                        simp only [List.getElem_toArray, List.getElem_cons_succ, List.getElem_cons_zero, Act.put, List.setIfInBounds_toArray, List.set_cons_zero, List.set_cons_succ]
                        refine lexH_yieldE rfl rfl ?_
                        apply Exists.intro
                        refine ⟨fun W hW => ?_, ?_⟩
                        focus (go_simp; exact rfl)
                        simp only [List.getElem_toArray, List.getElem_cons_succ, List.getElem_cons_zero, Act.put, List.setIfInBounds_toArray, List.set_cons_zero, List.set_cons_succ]
                        refine lexH_call 22 #[.pointer (some ⟨C.s, 0, none⟩)] rfl rfl ?_ ?_
                        focus (go_simp; done)
                        refine (HK.out.count HLD.out.at_).mono ?_
                        rintro e V1 ⟨rfl, hb⟩
                        have HLV := Lib.hid (HLD.out.later HK.out hb)
                        have HQV := Lib.hid (HQD.out.later hb)
                        have HRV := Lib.hid (HRD.out.later hb)
                        refine ⟨_, rfl, hb, ?_⟩
                        clear hb
                        simp only [List.getElem_toArray, List.getElem_cons_succ, List.getElem_cons_zero, Act.put, List.setIfInBounds_toArray, List.set_cons_zero, List.set_cons_succ]
                        refine lexH_yieldE rfl rfl ?_
                        apply Exists.intro
                        refine ⟨fun W hW => ?_, ?_⟩
                        focus (go_simp; exact rfl)
                        simp only [List.getElem_toArray, List.getElem_cons_succ, List.getElem_cons_zero, Act.put, List.setIfInBounds_toArray, List.set_cons_zero, List.set_cons_succ]
                        refine lexH_yieldE rfl rfl ?_
                        apply Exists.intro
                        refine ⟨fun W hW => ?_, ?_⟩
                        focus (go_simp; exact rfl)
                        simp only [List.getElem_toArray, List.getElem_cons_succ, List.getElem_cons_zero, Act.put, List.setIfInBounds_toArray, List.set_cons_zero, List.set_cons_succ]
                        refine lexH_yieldE rfl rfl ?_
                        apply Exists.intro
                        refine ⟨fun W hW => ?_, ?_⟩
                        focus (go_simp; exact rfl)
                        simp only [List.getElem_toArray, List.getElem_cons_succ, List.getElem_cons_zero, Act.put, List.setIfInBounds_toArray, List.set_cons_zero, List.set_cons_succ]
                        refine lexH_yieldE rfl rfl ?_
                        apply Exists.intro
                        refine ⟨fun W hW => ?_, ?_⟩
                        focus (go_simp; exact rfl)
                        simp only [List.getElem_toArray, List.getElem_cons_succ, List.getElem_cons_zero, Act.put, List.setIfInBounds_toArray, List.set_cons_zero, List.set_cons_succ]
                        refine lexH_load rfl rfl _ _ rfl rfl L1.out ?_
                        simp only [List.getElem_toArray, List.getElem_cons_succ, List.getElem_cons_zero, Act.put, List.setIfInBounds_toArray, List.set_cons_zero, List.set_cons_succ]
                        refine lexH_yieldE rfl rfl ?_
                        apply Exists.intro
                        refine ⟨fun W hW => ?_, ?_⟩
                        focus (go_simp; exact rfl)
                        simp only [List.getElem_toArray, List.getElem_cons_succ, List.getElem_cons_zero, Act.put, List.setIfInBounds_toArray, List.set_cons_zero, List.set_cons_succ]
                        refine lexH_yieldE rfl rfl ?_
                        apply Exists.intro
                        refine ⟨fun W hW => ?_, ?_⟩
                        focus (go_simp; exact rfl)
                        simp only [List.getElem_toArray, List.getElem_cons_succ, List.getElem_cons_zero, Act.put, List.setIfInBounds_toArray, List.set_cons_zero, List.set_cons_succ]
                        refine lexH_yieldE rfl rfl ?_
                        apply Exists.intro
                        refine ⟨fun W hW => ?_, ?_⟩
                        focus (go_simp; exact rfl)
                        simp only [List.getElem_toArray, List.getElem_cons_succ, List.getElem_cons_zero, Act.put, List.setIfInBounds_toArray, List.set_cons_zero, List.set_cons_succ]
                        refine lexH_yieldE rfl rfl ?_
                        apply Exists.intro
                        refine ⟨fun W hW => ?_, ?_⟩
                        focus (go_simp; exact rfl)
                        simp only [List.getElem_toArray, List.getElem_cons_succ, List.getElem_cons_zero, Act.put, List.setIfInBounds_toArray, List.set_cons_zero, List.set_cons_succ]
                        refine lexH_load rfl rfl _ _ rfl rfl L1.out ?_
                        simp only [List.getElem_toArray, List.getElem_cons_succ, List.getElem_cons_zero, Act.put, List.setIfInBounds_toArray, List.set_cons_zero, List.set_cons_succ]
                        refine lexH_yieldE rfl rfl ?_
                        apply Exists.intro
                        refine ⟨fun W hW => ?_, ?_⟩
                        focus (go_simp; exact rfl)
                        simp only [List.getElem_toArray, List.getElem_cons_succ, List.getElem_cons_zero, Act.put, List.setIfInBounds_toArray, List.set_cons_zero, List.set_cons_succ]
                        refine lexH_load rfl rfl _ _ rfl rfl LO.out ?_
                        simp only [List.getElem_toArray, List.getElem_cons_succ, List.getElem_cons_zero, Act.put, List.setIfInBounds_toArray, List.set_cons_zero, List.set_cons_succ]
                        refine lexH_yieldE rfl rfl ?_
                        apply Exists.intro
                        refine ⟨fun W hW => ?_, ?_⟩
                        focus (go_simp; exact rfl)
                        simp only [List.getElem_toArray, List.getElem_cons_succ, List.getElem_cons_zero, Act.put, List.setIfInBounds_toArray, List.set_cons_zero, List.set_cons_succ]
                        refine lexH_nil ?_
                        have hcl := HI.out.len
                        clear LO L1 HW1
                        obtain ⟨q0, q1, q2, q3⟩ := opc_four HRV.out
                        dsimp only at q0 q1 q2 q3
                        go_wp2_with (fail)
                        refine (HK.out.chain HLV.out.at_).mono ?_
                        rintro e w4 ⟨ba, bc', rfl, hownb, hb⟩
                        have HL4 := Lib.hid (HLV.out.later HK.out hb)
                        have HQ4 := Lib.hid (HQV.out.later hb)
                        have HR4 := Lib.hid (HRV.out.later hb)
                        have HVS := Lib.hid (show ∀ q, C.all q → q < V1.heap.size from HK.out.lt HLV.out.at_)
                        have HOB4 := Lib.hid hownb
                        clear hb hownb HLV HQV HRV q0 q1 q2 q3
                        obtain ⟨q0, q1, q2, q3⟩ := opc_four HR4.out
                        dsimp only at q0 q1 q2 q3
                        go_wp2_with (fail)
                        refine (HK.out.place (i : Int) HL4.out.at_).mono ?_
                        rintro e w5 ⟨rfl, hb⟩
                        rw [place_nat h1]
                        have HFIT := Lib.hid (HI.out.fit h1)
                        have HBI := Lib.hid (fun (j : Nat) (hj : j ≤ S.sz) => bS_inv HI.out h1 ho hj ox)
                        have HSMB := Lib.hid (fun (j : Nat) (hj : j ≤ S.sz) => sm_wrote h1 hj ox)
                        have hszb := HI.out.parts.2.1
                        obtain ⟨p, hp⟩ : ∃ p, S.pos i = p := ⟨_, rfl⟩
                        rw [hp] at HFIT HBI HSMB
                        rw [hp]
                        have HL5 := Lib.hid (show LAt SlAt w.heap.size w C (bS S p 0 ox) w5 by rw [bS_zero]; exact HL4.out.later HK.out hb)
                        have HQ5 := Lib.hid (HQ4.out.later hb)
                        have HR5 := Lib.hid (HR4.out.later hb)
                        have HOB5 := Lib.hid (owns_later HOB4.out hb)
                        have hfit := HFIT.out
                        clear hb HL4 HQ4 HR4 HOB4 q0 q1 q2 q3 hp HFIT hd0 hd1 hd2 h1 ho
                        generalize S.sz = sz2 at *
                        go_wp2_with (fail)
                        go_loopw [20] (fun q wr => ∃ j : Nat, j ≤ sz2 ∧ j ≤ bl ∧ q = .int .i64 j ∧ Hid (LAt SlAt w.heap.size w C (bS S p j ox) wr) ∧ Hid (RowAt wr o1 32 (fun q => .bool ((bS S p j ox).out q))) ∧ Hid (RowAt wr ob 4 (ocV ⟨4, i, tn, bp, bl, bcp, ox⟩)) ∧ Hid (wr.ownsRow V1.heap.size 3 1 (.slice ba S.ch.length bc') S.ch.length (natV S.ch))) (fun q _ => bl - (intOf q).toNat)
                        case atStart => exact ⟨0, Nat.zero_le _, Nat.zero_le _, rfl, HL5, HQ5, HR5, HOB5⟩
                        case round =>
                          rename World => wr
                          clear HL5 HQ5 HR5 HOB5
                          obtain ⟨j, hj1, hj2, rfl, HL, HQ, HR, HOB⟩ := hrel
                          obtain ⟨q0, q1, q2, q3⟩ := opc_four HR.out
                          dsimp only at q0 q1 q2 q3
                          by_cases hjb : j < bl
                          · as_aux_lemma =>
                              have hjbI : (j : Int) < (bl : Int) := by omega
                              by_cases hjs : j < sz2
                              · as_aux_lemma =>
                                  have hjsI : (p : Int) + (j : Int) < (p : Int) + (sz2 : Int) := by omega
                                  obtain ⟨b2, o2, rfl, hb2, hcc⟩ := HSR.out.plain (by omega)
                                  have cb : wr.cell? ⟨b2, o2 + j, none⟩ = some (byV ox j) := by rw [HL.out.bel.cell (p := ⟨b2, o2 + j, none⟩) hb2]; exact hcc j hjb
                                  have hrow := HK.out.byt HL.out.at_
                                  rw [HCb.out] at hrow
                                  have hp256 : p + j < 256 := by omega
                                  have ct : wr.cell? ⟨w.heap.size, p + j, none⟩ = some (byV (bS S p j ox).bt (p + j)) := hrow.cell _ hp256
                                  have ft : wr.frozen? ⟨w.heap.size, p + j, none⟩ = false := hrow.frozen _
                                  have hpjI : (p : Int) + (j : Int) < 256 := by omega
                                  have hor : Only (fun k => k = C.b) wr (wr.setCell ⟨w.heap.size, p + j, none⟩ (.int .u8 (ox j).toNat)) := by rw [HCb.out]; exact Only.setCell (S := fun k => k = w.heap.size) _ ⟨w.heap.size, p + j, none⟩ rfl _
                                  have hCo := HCL.out _ (show C.all C.b from .inr rfl)
                                  have HLN := Lib.hid (show LAt SlAt w.heap.size w C (bS S p (j + 1) ox) (wr.setCell ⟨w.heap.size, p + j, none⟩ (.int .u8 (ox j).toNat)) from HL.out.bytes HK.out hor (by rw [HCb.out]; exact row_bS hrow) (HBI.out (j + 1) hjs))
                                  have HQN := Lib.hid (show RowAt (wr.setCell ⟨w.heap.size, p + j, none⟩ (.int .u8 (ox j).toNat)) o1 32 (fun q => .bool ((bS S p (j + 1) ox).out q)) from HQ.out.only hor (by omega))
                                  have HRN := Lib.hid (HR.out.only hor (by omega))
                                  have HOBN := Lib.hid (owns_only HOB.out hor (fun q hq h => by
                                    have h1 := (HOB.out.lt q hq).1
                                    have h2 := HVS.out _ (show C.all C.b from .inr rfl)
                                    omega))
                                  have HLT := Lib.hid (And.intro hjs hjb)
                                  unfold byV at cb ct
                                  clear hrow hor HL HQ HR HOB
                                  go_wp2_with (fail)
                                  go_roundw
                                  case rel => exact ⟨j + 1, HLT.out.1, HLT.out.2, by go_num, HLN, HQN, HRN, HOBN⟩
                                  case measure => simp [intOf]; omega
                              · as_aux_lemma =>
                                  have hjsI : ¬ (p : Int) + (j : Int) < (p : Int) + (sz2 : Int) := by omega
                                  have hjsI2 : ¬ (j : Int) < (sz2 : Int) := by omega
                                  go_wp2_with (fail)
                                  refine (HK.out.chain HL.out.at_).mono ?_
                                  rintro e w6 ⟨aa, ac, rfl, howna, hb⟩
                                  have HL6 := Lib.hid (HL.out.later HK.out hb)
                                  have HQ6 := Lib.hid (HQ.out.later hb)
                                  have HR6 := Lib.hid (HR.out.later hb)
                                  have HOB6 := Lib.hid (owns_later HOB.out hb)
                                  have HOA6 := Lib.hid (show w6.ownsRow wr.heap.size 3 1 (.slice aa S.ch.length ac) S.ch.length (natV S.ch) from howna)
                                  have HCHL := Lib.hid (show (bS S p j ox).ch.length = S.ch.length from rfl)
                                  rw [HCHL.out]
                                  have HSMW := Lib.hid (HSMB.out j hj1)
                                  clear hb howna HL HQ HR HOB q0 q1 q2 q3
                                  generalize bS S p j ox = S4 at *
                                  go_wp2_with (fail)
                                  go_loopw [163] (fun q wx => ∃ m : Nat, m ≤ S.ch.length ∧ q = .int .i64 m ∧ Below w6.heap.size w6 wx) (fun q _ => S.ch.length - (intOf q).toNat)
                                  case atStart => exact ⟨0, Nat.zero_le _, rfl, Below.refl _ _⟩
                                  case round =>
                                    rename World => wx
                                    obtain ⟨m, hm, rfl, hbx⟩ := hrel
                                    have HBX := Lib.hid hbx
                                    clear hbx
                                    by_cases hltm : m < S.ch.length
                                    · as_aux_lemma =>
                                        have hltmI : (m : Int) < (S.ch.length : Int) := by omega
                                        have HLT := Lib.hid hltm
                                        obtain ⟨ba', bc2, e6, hh6⟩ := owns_slice (owns_later HOB6.out HBX.out)
                                        injection e6 with e6 _ e7
                                        subst e6
                                        subst e7
                                        obtain ⟨gb, rfl, _, _, Ab, tb, hAb, hxb⟩ := hh6 (by omega)
                                        obtain ⟨aa', ac2, e8, hh8⟩ := owns_slice (owns_later HOA6.out HBX.out)
                                        injection e8 with e8 _ e9
                                        subst e8
                                        subst e9
                                        obtain ⟨ga, rfl, _, _, Aa, ta, hAa, hxa⟩ := hh8 (by omega)
                                        have cb : wx.cell? ⟨gb, m, none⟩ = some (.int .i64 (S.ch.getD m 0 : Int)) := by rw [cell_of_row _ _ _ _ _ _ hAb, hxb m (by omega)]; exact natV_at hltm
                                        have ca : wx.cell? ⟨ga, m, none⟩ = some (.int .i64 (S.ch.getD m 0 : Int)) := by rw [cell_of_row _ _ _ _ _ _ hAa, hxa m (by omega)]; exact natV_at hltm
                                        have LB := Lib.hid (show ∀ V, V = wx.drew → (loadVar 3 ⟨gb, m, none⟩).run Try.prog V = .ok (.int .i64 (S.ch.getD m 0 : Int)) V from fun V hV => run_loadVar_cell (fun _ => by kernel_rfl) (by rw [hV]; exact cb))
                                        have LA := Lib.hid (show ∀ V, V = wx.drew → (loadVar 3 ⟨ga, m, none⟩).run Try.prog V = .ok (.int .i64 (S.ch.getD m 0 : Int)) V from fun V hV => run_loadVar_cell (fun _ => by kernel_rfl) (by rw [hV]; exact ca))
                                        have HBD := Lib.hid (HBX.out.drew)
                                        clear hh6 hAb hxb hh8 hAa hxa ca cb hltm
                                        generalize S.ch.getD m 0 = y at *
                                        go_wp2_with (fail)
                                        refine wp_region_lex1 (fun V => V = wx.drew) [(0, false), (1, false), (2, false), (3, false), (4, false), (5, false), (6, false), (7, false), (8, false)]
                                          (by kernel_rfl) (by kernel_rfl) rfl (by kernel_rfl) rfl ?_
                                        intro V0 hV0 hK0
                                        clear hK0
                                        subst hV0
                                        refine lexH_yieldE rfl rfl ?_
                                        apply Exists.intro
                                        refine ⟨fun W hW => ?_, ?_⟩
                                        focus (go_simp; exact rfl)
                                        simp only [List.getElem_toArray, List.getElem_cons_zero, Act.put, List.setIfInBounds_toArray, List.set_cons_zero, List.set_cons_succ]
                                        refine lexH_yieldE rfl rfl ?_
                                        apply Exists.intro
                                        refine ⟨fun W hW => ?_, ?_⟩
                                        focus (go_simp; exact rfl)
                                        simp only [List.getElem_toArray, List.getElem_cons_succ, List.getElem_cons_zero, Act.put, List.setIfInBounds_toArray, List.set_cons_zero, List.set_cons_succ]
                                        refine lexH_yieldE rfl rfl ?_
                                        apply Exists.intro
                                        refine ⟨fun W hW => ?_, ?_⟩
                                        focus (go_simp; exact rfl)
                                        simp only [List.getElem_toArray, List.getElem_cons_succ, List.getElem_cons_zero, Act.put, List.setIfInBounds_toArray, List.set_cons_zero, List.set_cons_succ]
                                        refine lexH_load rfl rfl _ _ rfl rfl LB.out ?_
                                        simp only [List.getElem_toArray, List.getElem_cons_succ, List.getElem_cons_zero, Act.put, List.setIfInBounds_toArray, List.set_cons_zero, List.set_cons_succ]
                                        refine lexH_yieldE rfl rfl ?_
                                        apply Exists.intro
                                        refine ⟨fun W hW => ?_, ?_⟩
                                        focus (go_simp; exact rfl)
                                        simp only [List.getElem_toArray, List.getElem_cons_succ, List.getElem_cons_zero, Act.put, List.setIfInBounds_toArray, List.set_cons_zero, List.set_cons_succ]
                                        refine lexH_yieldE rfl rfl ?_
                                        apply Exists.intro
                                        refine ⟨fun W hW => ?_, ?_⟩
                                        focus (go_simp; exact rfl)
                                        simp only [List.getElem_toArray, List.getElem_cons_succ, List.getElem_cons_zero, Act.put, List.setIfInBounds_toArray, List.set_cons_zero, List.set_cons_succ]
                                        refine lexH_yieldE rfl rfl ?_
                                        apply Exists.intro
                                        refine ⟨fun W hW => ?_, ?_⟩
                                        focus (go_simp; exact rfl)
                                        simp only [List.getElem_toArray, List.getElem_cons_succ, List.getElem_cons_zero, Act.put, List.setIfInBounds_toArray, List.set_cons_zero, List.set_cons_succ]
                                        refine lexH_load rfl rfl _ _ rfl rfl LA.out ?_
                                        simp only [List.getElem_toArray, List.getElem_cons_succ, List.getElem_cons_zero, Act.put, List.setIfInBounds_toArray, List.set_cons_zero, List.set_cons_succ]
                                        refine lexH_yieldE rfl rfl ?_
                                        apply Exists.intro
                                        refine ⟨fun W hW => ?_, ?_⟩
                                        focus (go_simp; exact rfl)
                                        simp only [List.getElem_toArray, List.getElem_cons_succ, List.getElem_cons_zero, Act.put, List.setIfInBounds_toArray, List.set_cons_zero, List.set_cons_succ]
                                        refine lexH_nil ?_
                                        clear LA LB
                                        go_wp2_with (fail)
                                        go_roundw
                                        case rel => exact ⟨m + 1, HLT.out, by go_num, HBD.out⟩
                                        case measure => simp [intOf]; omega
                                    · obtain rfl : m = S.ch.length := by omega
                                      have r1 := (opc_four (HR6.out.later HBX.out)).2.1
                                      dsimp only at r1
                                      have HL7 := Lib.hid (HL6.out.later HK.out HBX.out)
                                      have HQ7 := Lib.hid (HQ6.out.later HBX.out)
                                      go_wp2_with (fail)
                                      go_meet
                                      exact ⟨i, S4, rfl, HL7, HQ7, HSMW⟩
                          · as_aux_lemma =>
                              have hjbI : ¬ (j : Int) < (bl : Int) := by omega
                              go_wp2_with (fail)
                              refine (HK.out.chain HL.out.at_).mono ?_
                              rintro e w6 ⟨aa, ac, rfl, howna, hb⟩
                              have HL6 := Lib.hid (HL.out.later HK.out hb)
                              have HQ6 := Lib.hid (HQ.out.later hb)
                              have HR6 := Lib.hid (HR.out.later hb)
                              have HOB6 := Lib.hid (owns_later HOB.out hb)
                              have HOA6 := Lib.hid (show w6.ownsRow wr.heap.size 3 1 (.slice aa S.ch.length ac) S.ch.length (natV S.ch) from howna)
                              have HCHL := Lib.hid (show (bS S p j ox).ch.length = S.ch.length from rfl)
                              rw [HCHL.out]
                              have HSMW := Lib.hid (HSMB.out j hj1)
                              clear hb howna HL HQ HR HOB q0 q1 q2 q3
                              generalize bS S p j ox = S4 at *
                              go_wp2_with (fail)
                              go_loopw [163] (fun q wx => ∃ m : Nat, m ≤ S.ch.length ∧ q = .int .i64 m ∧ Below w6.heap.size w6 wx) (fun q _ => S.ch.length - (intOf q).toNat)
                              case atStart => exact ⟨0, Nat.zero_le _, rfl, Below.refl _ _⟩
                              case round =>
                                rename World => wx
                                obtain ⟨m, hm, rfl, hbx⟩ := hrel
                                have HBX := Lib.hid hbx
                                clear hbx
                                by_cases hltm : m < S.ch.length
                                · as_aux_lemma =>
                                    have hltmI : (m : Int) < (S.ch.length : Int) := by omega
                                    have HLT := Lib.hid hltm
                                    obtain ⟨ba', bc2, e6, hh6⟩ := owns_slice (owns_later HOB6.out HBX.out)
                                    injection e6 with e6 _ e7
                                    subst e6
                                    subst e7
                                    obtain ⟨gb, rfl, _, _, Ab, tb, hAb, hxb⟩ := hh6 (by omega)
                                    obtain ⟨aa', ac2, e8, hh8⟩ := owns_slice (owns_later HOA6.out HBX.out)
                                    injection e8 with e8 _ e9
                                    subst e8
                                    subst e9
                                    obtain ⟨ga, rfl, _, _, Aa, ta, hAa, hxa⟩ := hh8 (by omega)
                                    have cb : wx.cell? ⟨gb, m, none⟩ = some (.int .i64 (S.ch.getD m 0 : Int)) := by rw [cell_of_row _ _ _ _ _ _ hAb, hxb m (by omega)]; exact natV_at hltm
                                    have ca : wx.cell? ⟨ga, m, none⟩ = some (.int .i64 (S.ch.getD m 0 : Int)) := by rw [cell_of_row _ _ _ _ _ _ hAa, hxa m (by omega)]; exact natV_at hltm
                                    have LB := Lib.hid (show ∀ V, V = wx.drew → (loadVar 3 ⟨gb, m, none⟩).run Try.prog V = .ok (.int .i64 (S.ch.getD m 0 : Int)) V from fun V hV => run_loadVar_cell (fun _ => by kernel_rfl) (by rw [hV]; exact cb))
                                    have LA := Lib.hid (show ∀ V, V = wx.drew → (loadVar 3 ⟨ga, m, none⟩).run Try.prog V = .ok (.int .i64 (S.ch.getD m 0 : Int)) V from fun V hV => run_loadVar_cell (fun _ => by kernel_rfl) (by rw [hV]; exact ca))
                                    have HBD := Lib.hid (HBX.out.drew)
                                    clear hh6 hAb hxb hh8 hAa hxa ca cb hltm
                                    generalize S.ch.getD m 0 = y at *
                                    go_wp2_with (fail)
                                    refine wp_region_lex1 (fun V => V = wx.drew) [(0, false), (1, false), (2, false), (3, false), (4, false), (5, false), (6, false), (7, false), (8, false)]
                                      (by kernel_rfl) (by kernel_rfl) rfl (by kernel_rfl) rfl ?_
                                    intro V0 hV0 hK0
                                    clear hK0
                                    subst hV0
                                    refine lexH_yieldE rfl rfl ?_
                                    apply Exists.intro
                                    refine ⟨fun W hW => ?_, ?_⟩
                                    focus (go_simp; exact rfl)
                                    simp only [List.getElem_toArray, List.getElem_cons_zero, Act.put, List.setIfInBounds_toArray, List.set_cons_zero, List.set_cons_succ]
                                    refine lexH_yieldE rfl rfl ?_
                                    apply Exists.intro
                                    refine ⟨fun W hW => ?_, ?_⟩
                                    focus (go_simp; exact rfl)
                                    simp only [List.getElem_toArray, List.getElem_cons_succ, List.getElem_cons_zero, Act.put, List.setIfInBounds_toArray, List.set_cons_zero, List.set_cons_succ]
                                    refine lexH_yieldE rfl rfl ?_
                                    apply Exists.intro
                                    refine ⟨fun W hW => ?_, ?_⟩
                                    focus (go_simp; exact rfl)
                                    simp only [List.getElem_toArray, List.getElem_cons_succ, List.getElem_cons_zero, Act.put, List.setIfInBounds_toArray, List.set_cons_zero, List.set_cons_succ]
                                    refine lexH_load rfl rfl _ _ rfl rfl LB.out ?_
                                    simp only [List.getElem_toArray, List.getElem_cons_succ, List.getElem_cons_zero, Act.put, List.setIfInBounds_toArray, List.set_cons_zero, List.set_cons_succ]
                                    refine lexH_yieldE rfl rfl ?_
                                    apply Exists.intro
                                    refine ⟨fun W hW => ?_, ?_⟩
                                    focus (go_simp; exact rfl)
                                    simp only [List.getElem_toArray, List.getElem_cons_succ, List.getElem_cons_zero, Act.put, List.setIfInBounds_toArray, List.set_cons_zero, List.set_cons_succ]
                                    refine lexH_yieldE rfl rfl ?_
                                    apply Exists.intro
                                    refine ⟨fun W hW => ?_, ?_⟩
                                    focus (go_simp; exact rfl)
                                    simp only [List.getElem_toArray, List.getElem_cons_succ, List.getElem_cons_zero, Act.put, List.setIfInBounds_toArray, List.set_cons_zero, List.set_cons_succ]
                                    refine lexH_yieldE rfl rfl ?_
                                    apply Exists.intro
                                    refine ⟨fun W hW => ?_, ?_⟩
                                    focus (go_simp; exact rfl)
                                    simp only [List.getElem_toArray, List.getElem_cons_succ, List.getElem_cons_zero, Act.put, List.setIfInBounds_toArray, List.set_cons_zero, List.set_cons_succ]
                                    refine lexH_load rfl rfl _ _ rfl rfl LA.out ?_
                                    simp only [List.getElem_toArray, List.getElem_cons_succ, List.getElem_cons_zero, Act.put, List.setIfInBounds_toArray, List.set_cons_zero, List.set_cons_succ]
                                    refine lexH_yieldE rfl rfl ?_
                                    apply Exists.intro
                                    refine ⟨fun W hW => ?_, ?_⟩
                                    focus (go_simp; exact rfl)
                                    simp only [List.getElem_toArray, List.getElem_cons_succ, List.getElem_cons_zero, Act.put, List.setIfInBounds_toArray, List.set_cons_zero, List.set_cons_succ]
                                    refine lexH_nil ?_
                                    clear LA LB
                                    go_wp2_with (fail)
                                    go_roundw
                                    case rel => exact ⟨m + 1, HLT.out, by go_num, HBD.out⟩
                                    case measure => simp [intOf]; omega
                                · obtain rfl : m = S.ch.length := by omega
                                  have r1 := (opc_four (HR6.out.later HBX.out)).2.1
                                  dsimp only at r1
                                  have HL7 := Lib.hid (HL6.out.later HK.out HBX.out)
                                  have HQ7 := Lib.hid (HQ6.out.later HBX.out)
                                  go_wp2_with (fail)
                                  go_meet
                                  exact ⟨i, S4, rfl, HL7, HQ7, HSMW⟩
                  · as_aux_lemma =>
                      have hd1 : decide (i < S.n) = false := decide_eq_false h1
                      go_wp2_with (fail)
                      refine wp_region_lex1 (Below W.heap.size W.drew) [(0, false), (1, false), (2, false), (3, false), (4, false), (5, false), (6, false), (7, true), (8, false), (9, false), (10, false), (11, false), (12, false), (13, false), (14, false), (15, false), (16, false), (17, false), (18, false), (19, false), (20, false)]
                        (by kernel_rfl) (by kernel_rfl) rfl (by kernel_rfl) (Below.refl _ _) ?_
                      intro V0 hV0 hK0
                      clear hK0
                      subst hV0
                      refine lexH_yieldE rfl rfl ?_
                      apply Exists.intro
                      refine ⟨fun W hW => ?_, ?_⟩
                      focus (go_simp; exact rfl)
                      simp only [List.getElem_toArray, List.getElem_cons_zero, Act.put, List.setIfInBounds_toArray, List.set_cons_zero, List.set_cons_succ]
                      refine lexH_load rfl rfl _ _ rfl rfl L1.out ?_
                      simp only [List.getElem_toArray, List.getElem_cons_succ, List.getElem_cons_zero, Act.put, List.setIfInBounds_toArray, List.set_cons_zero, List.set_cons_succ]
                      refine lexH_yieldE rfl rfl ?_
                      apply Exists.intro
                      refine ⟨fun W hW => ?_, ?_⟩
                      focus (go_simp; exact rfl)
                      simp only [List.getElem_toArray, List.getElem_cons_succ, List.getElem_cons_zero, Act.put, List.setIfInBounds_toArray, List.set_cons_zero, List.set_cons_succ]
                      refine lexH_yieldE rfl rfl ?_
                      apply Exists.intro
                      refine ⟨fun W hW => ?_, ?_⟩
                      focus (go_simp; exact rfl)
                      simp only [List.getElem_toArray, List.getElem_cons_succ, List.getElem_cons_zero, Act.put, List.setIfInBounds_toArray, List.set_cons_zero, List.set_cons_succ]
                      refine lexH_yieldE rfl rfl ?_
                      apply Exists.intro
                      refine ⟨fun W hW => ?_, ?_⟩
                      focus (go_simp; exact rfl)
                      simp only [List.getElem_toArray, List.getElem_cons_succ, List.getElem_cons_zero, Act.put, List.setIfInBounds_toArray, List.set_cons_zero, List.set_cons_succ]
                      refine lexH_load rfl rfl _ _ rfl rfl L1.out ?_
                      simp only [List.getElem_toArray, List.getElem_cons_succ, List.getElem_cons_zero, Act.put, List.setIfInBounds_toArray, List.set_cons_zero, List.set_cons_succ]
                      refine lexH_yieldE rfl rfl ?_
                      apply Exists.intro
                      refine ⟨fun W hW => ?_, ?_⟩
                      focus (go_simp; exact rfl)
                      simp only [List.getElem_toArray, List.getElem_cons_succ, List.getElem_cons_zero, Act.put, List.setIfInBounds_toArray, List.set_cons_zero, List.set_cons_succ]
                      refine lexH_call 22 #[.pointer (some ⟨C.s, 0, none⟩)] rfl rfl ?_ ?_
                      focus (go_simp; done)
                      refine (HK.out.count HLD.out.at_).mono ?_
                      rintro e V1 ⟨rfl, hb⟩
                      have HB1V := Lib.hid hb
                      have HLV := Lib.hid (HLD.out.later HK.out hb)
                      have HQV := Lib.hid (HQD.out.later hb)
                      have HRV := Lib.hid (HRD.out.later hb)
                      refine ⟨_, rfl, hb, ?_⟩
                      clear hb
                      simp only [List.getElem_toArray, List.getElem_cons_succ, List.getElem_cons_zero, Act.put, List.setIfInBounds_toArray, List.set_cons_zero, List.set_cons_succ]
                      refine lexH_yieldE rfl rfl ?_
                      apply Exists.intro
                      refine ⟨fun W hW => ?_, ?_⟩
                      focus (go_simp; exact rfl)
                      simp only [List.getElem_toArray, List.getElem_cons_succ, List.getElem_cons_zero, Act.put, List.setIfInBounds_toArray, List.set_cons_zero, List.set_cons_succ]
                      refine lexH_yieldE rfl rfl ?_
                      apply Exists.intro
                      refine ⟨fun W hW => ?_, ?_⟩
                      focus (go_simp; exact rfl)
                      simp only [List.getElem_toArray, List.getElem_cons_succ, List.getElem_cons_zero, Act.put, List.setIfInBounds_toArray, List.set_cons_zero, List.set_cons_succ]
                      refine lexH_yieldE rfl rfl ?_
                      apply Exists.intro
                      refine ⟨fun W hW => ?_, ?_⟩
                      focus (go_simp; exact rfl)
                      simp only [List.getElem_toArray, List.getElem_cons_succ, List.getElem_cons_zero, Act.put, List.setIfInBounds_toArray, List.set_cons_zero, List.set_cons_succ]
                      refine lexH_skip rfl rfl ?_
                      simp only [List.getElem_toArray, List.getElem_cons_succ, List.getElem_cons_zero, Act.put, List.setIfInBounds_toArray, List.set_cons_zero, List.set_cons_succ]
                      refine lexH_skip rfl rfl ?_
                      simp only [List.getElem_toArray, List.getElem_cons_succ, List.getElem_cons_zero, Act.put, List.setIfInBounds_toArray, List.set_cons_zero, List.set_cons_succ]
                      refine lexH_skip rfl rfl ?_
                      simp only [List.getElem_toArray, List.getElem_cons_succ, List.getElem_cons_zero, Act.put, List.setIfInBounds_toArray, List.set_cons_zero, List.set_cons_succ]
                      refine lexH_yieldE rfl rfl ?_
                      apply Exists.intro
                      refine ⟨fun W hW => ?_, ?_⟩
                      focus (go_simp; exact rfl)
                      simp only [List.getElem_toArray, List.getElem_cons_succ, List.getElem_cons_zero, Act.put, List.setIfInBounds_toArray, List.set_cons_zero, List.set_cons_succ]
                      refine lexH_yieldE rfl rfl ?_
                      apply Exists.intro
                      refine ⟨fun W hW => ?_, ?_⟩
                      focus (go_simp; exact rfl)
                      simp only [List.getElem_toArray, List.getElem_cons_succ, List.getElem_cons_zero, Act.put, List.setIfInBounds_toArray, List.set_cons_zero, List.set_cons_succ]
                      refine lexH_skip rfl rfl ?_
                      simp only [List.getElem_toArray, List.getElem_cons_succ, List.getElem_cons_zero, Act.put, List.setIfInBounds_toArray, List.set_cons_zero, List.set_cons_succ]
                      refine lexH_skip rfl rfl ?_
                      simp only [List.getElem_toArray, List.getElem_cons_succ, List.getElem_cons_zero, Act.put, List.setIfInBounds_toArray, List.set_cons_zero, List.set_cons_succ]
                      refine lexH_skip rfl rfl ?_
                      simp only [List.getElem_toArray, List.getElem_cons_succ, List.getElem_cons_zero, Act.put, List.setIfInBounds_toArray, List.set_cons_zero, List.set_cons_succ]
                      refine lexH_skip rfl rfl ?_
                      simp only [List.getElem_toArray, List.getElem_cons_succ, List.getElem_cons_zero, Act.put, List.setIfInBounds_toArray, List.set_cons_zero, List.set_cons_succ]
                      refine lexH_yieldE rfl rfl ?_
                      apply Exists.intro
                      refine ⟨fun W hW => ?_, ?_⟩
                      focus (go_simp; exact rfl)
                      simp only [List.getElem_toArray, List.getElem_cons_succ, List.getElem_cons_zero, Act.put, List.setIfInBounds_toArray, List.set_cons_zero, List.set_cons_succ]
                      refine lexH_nil ?_
                      clear L1 HW1
                      go_wp2_with (fail)
                      go_meet
                      exact ⟨-1, S, rfl, HLV, HQV, sm_refl S _⟩
            have e0 : (kind == 0) = false := by simpa using hk0
            have e1 : (kind == 1) = false := by simpa using hk1
            have e4 : (kind == 4) = false := by simpa using hk4
            clear hk0 hk1 hk4
            go_wp2_with (fail)
            go_meet
            exact ⟨-1, S, rfl, HL1, HQ1, sm_refl S _⟩
          case rest =>
            obtain ⟨kk, S', rfl, HL', HQ', HSM⟩ := hcut
            clear HL1 HQ1 HR HI HSR
            have HI' := Lib.hid (HK.out.inv HL'.out.at_)
            obtain ⟨fr, tq, hpl, hto⟩ := place_bd HI'.out kk
            have HPL := Lib.hid hpl
            have HSB := Lib.hid (show ∀ p : Nat, p < 256 → ¬ (fr ≤ p ∧ p < tq) → S'.bt p = S.bt p from fun p hp h => HSM.out p hp (by rw [hpl]; dsimp only; omega))
            clear hpl HSM
            go_wp2_with (fail)
            refine (HK.out.place kk HL'.out.at_).mono ?_
            rintro e w5 ⟨rfl, hb⟩
            rw [HPL.out]
            have HL5 := Lib.hid (HL'.out.later HK.out hb)
            have HQ5 := Lib.hid (HQ'.out.later hb)
            clear hb HL' HQ' HPL
            go_wp2_with (fail)
            go_loopw [186] (fun q wx => ∃ m : Nat, m ≤ 256 ∧ q = .int .i64 m ∧ Below w5.heap.size w5 wx) (fun q _ => 256 - (intOf q).toNat)
            case atStart => exact ⟨0, Nat.zero_le _, rfl, Below.refl _ _⟩
            case round =>
              rename World => wx
              obtain ⟨m, hm, rfl, hbx⟩ := hrel
              have HBX := Lib.hid hbx
              clear hbx
              by_cases hlt2 : m < 256
              · as_aux_lemma =>
                  have hlt2I : (m : Int) < 256 := by omega
                  have HLT := Lib.hid hlt2
                  have HBD := Lib.hid (HBX.out.drew)
                  have hcell : wx.cell? ⟨w.heap.size, m, none⟩ = some (byV S'.bt m) := by
                    have hrow := HK.out.byt (HL5.out.later HK.out HBX.out).at_
                    rw [HCb.out] at hrow
                    exact hrow.cell m hlt2
                  have LB := Lib.hid (show ∀ V, V = wx.drew → (loadVar 5 ⟨w.heap.size, m, none⟩).run Try.prog V = .ok (.int .u8 (S'.bt m).toNat) V from fun V hV => run_loadVar_cell (fun _ => by kernel_rfl) (by rw [hV]; exact hcell))
                  have hix := run_index_strB (n := 256) (f := S.bt) hlt2
                  have HEQ := Lib.hid (HSB.out m hlt2)
                  clear hcell
                  by_cases h1 : m < fr
                  · as_aux_lemma =>
                      have hd1 : decide (m < fr) = true := decide_eq_true h1
                      rw [HEQ.out (by omega)] at LB
                      generalize (S.bt m).toNat = y at *
                      generalize strB 256 S.bt = str at *
                      go_wp2_with (fail)
                      refine wp_region_lex1 (fun V => V = wx.drew) [(0, false), (1, false), (2, false), (3, false), (4, false), (5, false), (6, false), (7, false), (8, false), (9, false), (10, false), (11, false), (12, false), (13, false), (14, false), (15, false), (16, false), (17, false)]
                        (by kernel_rfl) (by kernel_rfl) rfl (by kernel_rfl) rfl ?_
                      intro V0 hV0 hK0
                      clear hK0
                      subst hV0
                      refine lexH_yieldE rfl rfl ?_
                      apply Exists.intro
                      refine ⟨fun W hW => ?_, ?_⟩
                      focus (go_simp; exact rfl)
                      simp only [List.getElem_toArray, List.getElem_cons_zero, Act.put, List.setIfInBounds_toArray, List.set_cons_zero, List.set_cons_succ]
                      refine lexH_yieldE rfl rfl ?_
                      apply Exists.intro
                      refine ⟨fun W hW => ?_, ?_⟩
                      focus (go_simp; exact rfl)
                      simp only [List.getElem_toArray, List.getElem_cons_succ, List.getElem_cons_zero, Act.put, List.setIfInBounds_toArray, List.set_cons_zero, List.set_cons_succ]
                      refine lexH_yieldE rfl rfl ?_
                      apply Exists.intro
                      refine ⟨fun W hW => ?_, ?_⟩
                      focus (go_simp; exact rfl)
                      simp only [List.getElem_toArray, List.getElem_cons_succ, List.getElem_cons_zero, Act.put, List.setIfInBounds_toArray, List.set_cons_zero, List.set_cons_succ]
                      refine lexH_yieldE rfl rfl ?_
                      apply Exists.intro
                      refine ⟨fun W hW => ?_, ?_⟩
                      focus (go_simp; exact rfl)
                      simp only [List.getElem_toArray, List.getElem_cons_succ, List.getElem_cons_zero, Act.put, List.setIfInBounds_toArray, List.set_cons_zero, List.set_cons_succ]
                      refine lexH_skip rfl rfl ?_
                      simp only [List.getElem_toArray, List.getElem_cons_succ, List.getElem_cons_zero, Act.put, List.setIfInBounds_toArray, List.set_cons_zero, List.set_cons_succ]
                      refine lexH_skip rfl rfl ?_
                      simp only [List.getElem_toArray, List.getElem_cons_succ, List.getElem_cons_zero, Act.put, List.setIfInBounds_toArray, List.set_cons_zero, List.set_cons_succ]
                      refine lexH_skip rfl rfl ?_
                      simp only [List.getElem_toArray, List.getElem_cons_succ, List.getElem_cons_zero, Act.put, List.setIfInBounds_toArray, List.set_cons_zero, List.set_cons_succ]
                      refine lexH_yieldE rfl rfl ?_
                      apply Exists.intro
                      refine ⟨fun W hW => ?_, ?_⟩
                      focus (go_simp; exact rfl)
                      simp only [List.getElem_toArray, List.getElem_cons_succ, List.getElem_cons_zero, Act.put, List.setIfInBounds_toArray, List.set_cons_zero, List.set_cons_succ]
                      refine lexH_yieldE rfl rfl ?_
                      apply Exists.intro
                      refine ⟨fun W hW => ?_, ?_⟩
                      focus (go_simp; exact rfl)
                      simp only [List.getElem_toArray, List.getElem_cons_succ, List.getElem_cons_zero, Act.put, List.setIfInBounds_toArray, List.set_cons_zero, List.set_cons_succ]
                      refine lexH_yieldE rfl rfl ?_
                      apply Exists.intro
                      refine ⟨fun W hW => ?_, ?_⟩
                      focus (go_simp; exact rfl)
                      simp only [List.getElem_toArray, List.getElem_cons_succ, List.getElem_cons_zero, Act.put, List.setIfInBounds_toArray, List.set_cons_zero, List.set_cons_succ]
                      refine lexH_yieldE rfl rfl ?_
                      apply Exists.intro
                      refine ⟨fun W hW => ?_, ?_⟩
                      focus (go_simp; exact rfl)
                      simp only [List.getElem_toArray, List.getElem_cons_succ, List.getElem_cons_zero, Act.put, List.setIfInBounds_toArray, List.set_cons_zero, List.set_cons_succ]
                      refine lexH_yieldE rfl rfl ?_
                      apply Exists.intro
                      refine ⟨fun W hW => ?_, ?_⟩
                      focus (go_simp; exact rfl)
                      simp only [List.getElem_toArray, List.getElem_cons_succ, List.getElem_cons_zero, Act.put, List.setIfInBounds_toArray, List.set_cons_zero, List.set_cons_succ]
                      refine lexH_load rfl rfl _ _ rfl rfl LB.out ?_
                      simp only [List.getElem_toArray, List.getElem_cons_succ, List.getElem_cons_zero, Act.put, List.setIfInBounds_toArray, List.set_cons_zero, List.set_cons_succ]
                      refine lexH_yieldE rfl rfl ?_
                      apply Exists.intro
                      refine ⟨fun W hW => ?_, ?_⟩
                      focus (go_simp; exact rfl)
                      simp only [List.getElem_toArray, List.getElem_cons_succ, List.getElem_cons_zero, Act.put, List.setIfInBounds_toArray, List.set_cons_zero, List.set_cons_succ]
                      refine lexH_yieldE rfl rfl ?_
                      apply Exists.intro
                      refine ⟨fun W hW => ?_, ?_⟩
                      focus (go_simp; exact rfl)
                      simp only [List.getElem_toArray, List.getElem_cons_succ, List.getElem_cons_zero, Act.put, List.setIfInBounds_toArray, List.set_cons_zero, List.set_cons_succ]
                      refine lexH_yieldE rfl rfl ?_
                      apply Exists.intro
                      refine ⟨fun W hW => ?_, ?_⟩
                      focus (go_simp; exact rfl)
                      simp only [List.getElem_toArray, List.getElem_cons_succ, List.getElem_cons_zero, Act.put, List.setIfInBounds_toArray, List.set_cons_zero, List.set_cons_succ]
                      refine lexH_yieldE rfl rfl ?_
                      apply Exists.intro
                      refine ⟨fun W hW => ?_, ?_⟩
                      focus (go_simp; exact rfl)
                      simp only [List.getElem_toArray, List.getElem_cons_succ, List.getElem_cons_zero, Act.put, List.setIfInBounds_toArray, List.set_cons_zero, List.set_cons_succ]
                      refine lexH_yieldE rfl rfl ?_
                      apply Exists.intro
                      refine ⟨fun W hW => ?_, ?_⟩
                      focus (go_simp; exact rfl)
                      simp only [List.getElem_toArray, List.getElem_cons_succ, List.getElem_cons_zero, Act.put, List.setIfInBounds_toArray, List.set_cons_zero, List.set_cons_succ]
                      refine lexH_nil ?_
                      clear LB hix
                      go_wp2_with (fail)
                      go_roundw
                      case rel => exact ⟨m + 1, HLT.out, by go_num, HBD.out⟩
                      case measure => simp [intOf]; omega
                  · as_aux_lemma =>
                      have hd1 : decide (m < fr) = false := decide_eq_false h1
                      by_cases h2 : tq ≤ m
                      · as_aux_lemma =>
                          have hd2 : decide (tq ≤ m) = true := decide_eq_true h2
                          rw [HEQ.out (by omega)] at LB
                          generalize (S.bt m).toNat = y at *
                          generalize strB 256 S.bt = str at *
                          go_wp2_with (fail)
                          refine wp_region_lex1 (fun V => V = wx.drew) [(0, false), (1, false), (2, false), (3, false), (4, false), (5, false), (6, false), (7, false), (8, false), (9, false), (10, false), (11, false), (12, false), (13, false), (14, false), (15, false), (16, false), (17, false)]
                            (by kernel_rfl) (by kernel_rfl) rfl (by kernel_rfl) rfl ?_
                          intro V0 hV0 hK0
                          clear hK0
                          subst hV0
                          refine lexH_yieldE rfl rfl ?_
                          apply Exists.intro
                          refine ⟨fun W hW => ?_, ?_⟩
                          focus (go_simp; exact rfl)
                          simp only [List.getElem_toArray, List.getElem_cons_zero, Act.put, List.setIfInBounds_toArray, List.set_cons_zero, List.set_cons_succ]
                          refine lexH_yieldE rfl rfl ?_
                          apply Exists.intro
                          refine ⟨fun W hW => ?_, ?_⟩
                          focus (go_simp; exact rfl)
                          simp only [List.getElem_toArray, List.getElem_cons_succ, List.getElem_cons_zero, Act.put, List.setIfInBounds_toArray, List.set_cons_zero, List.set_cons_succ]
                          refine lexH_yieldE rfl rfl ?_
                          apply Exists.intro
                          refine ⟨fun W hW => ?_, ?_⟩
                          focus (go_simp; exact rfl)
                          simp only [List.getElem_toArray, List.getElem_cons_succ, List.getElem_cons_zero, Act.put, List.setIfInBounds_toArray, List.set_cons_zero, List.set_cons_succ]
                          refine lexH_yieldE rfl rfl ?_
                          apply Exists.intro
                          refine ⟨fun W hW => ?_, ?_⟩
                          focus (go_simp; exact rfl)
                          simp only [List.getElem_toArray, List.getElem_cons_succ, List.getElem_cons_zero, Act.put, List.setIfInBounds_toArray, List.set_cons_zero, List.set_cons_succ]
                          refine lexH_yieldE rfl rfl ?_
                          apply Exists.intro
                          refine ⟨fun W hW => ?_, ?_⟩
                          focus (go_simp; exact rfl)
                          simp only [List.getElem_toArray, List.getElem_cons_succ, List.getElem_cons_zero, Act.put, List.setIfInBounds_toArray, List.set_cons_zero, List.set_cons_succ]
                          refine lexH_yieldE rfl rfl ?_
                          apply Exists.intro
                          refine ⟨fun W hW => ?_, ?_⟩
                          focus (go_simp; exact rfl)
                          simp only [List.getElem_toArray, List.getElem_cons_succ, List.getElem_cons_zero, Act.put, List.setIfInBounds_toArray, List.set_cons_zero, List.set_cons_succ]
                          refine lexH_yieldE rfl rfl ?_
                          apply Exists.intro
                          refine ⟨fun W hW => ?_, ?_⟩
                          focus (go_simp; exact rfl)
                          simp only [List.getElem_toArray, List.getElem_cons_succ, List.getElem_cons_zero, Act.put, List.setIfInBounds_toArray, List.set_cons_zero, List.set_cons_succ]
                          refine lexH_yieldE rfl rfl ?_
                          apply Exists.intro
                          refine ⟨fun W hW => ?_, ?_⟩
                          focus (go_simp; exact rfl)
                          simp only [List.getElem_toArray, List.getElem_cons_succ, List.getElem_cons_zero, Act.put, List.setIfInBounds_toArray, List.set_cons_zero, List.set_cons_succ]
                          refine lexH_yieldE rfl rfl ?_
                          apply Exists.intro
                          refine ⟨fun W hW => ?_, ?_⟩
                          focus (go_simp; exact rfl)
                          simp only [List.getElem_toArray, List.getElem_cons_succ, List.getElem_cons_zero, Act.put, List.setIfInBounds_toArray, List.set_cons_zero, List.set_cons_succ]
                          refine lexH_yieldE rfl rfl ?_
                          apply Exists.intro
                          refine ⟨fun W hW => ?_, ?_⟩
                          focus (go_simp; exact rfl)
                          simp only [List.getElem_toArray, List.getElem_cons_succ, List.getElem_cons_zero, Act.put, List.setIfInBounds_toArray, List.set_cons_zero, List.set_cons_succ]
                          refine lexH_yieldE rfl rfl ?_
                          apply Exists.intro
                          refine ⟨fun W hW => ?_, ?_⟩
                          focus (go_simp; exact rfl)
                          simp only [List.getElem_toArray, List.getElem_cons_succ, List.getElem_cons_zero, Act.put, List.setIfInBounds_toArray, List.set_cons_zero, List.set_cons_succ]
                          refine lexH_yieldE rfl rfl ?_
                          apply Exists.intro
                          refine ⟨fun W hW => ?_, ?_⟩
                          focus (go_simp; exact rfl)
                          simp only [List.getElem_toArray, List.getElem_cons_succ, List.getElem_cons_zero, Act.put, List.setIfInBounds_toArray, List.set_cons_zero, List.set_cons_succ]
                          refine lexH_load rfl rfl _ _ rfl rfl LB.out ?_
                          simp only [List.getElem_toArray, List.getElem_cons_succ, List.getElem_cons_zero, Act.put, List.setIfInBounds_toArray, List.set_cons_zero, List.set_cons_succ]
                          refine lexH_yieldE rfl rfl ?_
                          apply Exists.intro
                          refine ⟨fun W hW => ?_, ?_⟩
                          focus (go_simp; exact rfl)
                          simp only [List.getElem_toArray, List.getElem_cons_succ, List.getElem_cons_zero, Act.put, List.setIfInBounds_toArray, List.set_cons_zero, List.set_cons_succ]
                          refine lexH_yieldE rfl rfl ?_
                          apply Exists.intro
                          refine ⟨fun W hW => ?_, ?_⟩
                          focus (go_simp; exact rfl)
                          simp only [List.getElem_toArray, List.getElem_cons_succ, List.getElem_cons_zero, Act.put, List.setIfInBounds_toArray, List.set_cons_zero, List.set_cons_succ]
                          refine lexH_yieldE rfl rfl ?_
                          apply Exists.intro
                          refine ⟨fun W hW => ?_, ?_⟩
                          focus (go_simp; exact rfl)
                          simp only [List.getElem_toArray, List.getElem_cons_succ, List.getElem_cons_zero, Act.put, List.setIfInBounds_toArray, List.set_cons_zero, List.set_cons_succ]
                          refine lexH_yieldE rfl rfl ?_
                          apply Exists.intro
                          refine ⟨fun W hW => ?_, ?_⟩
                          focus (go_simp; exact rfl)
                          simp only [List.getElem_toArray, List.getElem_cons_succ, List.getElem_cons_zero, Act.put, List.setIfInBounds_toArray, List.set_cons_zero, List.set_cons_succ]
                          refine lexH_yieldE rfl rfl ?_
                          apply Exists.intro
                          refine ⟨fun W hW => ?_, ?_⟩
                          focus (go_simp; exact rfl)
                          simp only [List.getElem_toArray, List.getElem_cons_succ, List.getElem_cons_zero, Act.put, List.setIfInBounds_toArray, List.set_cons_zero, List.set_cons_succ]
                          refine lexH_nil ?_
                          clear LB hix
                          go_wp2_with (fail)
                          go_roundw
                          case rel => exact ⟨m + 1, HLT.out, by go_num, HBD.out⟩
                          case measure => simp [intOf]; omega
                      · as_aux_lemma =>
                          have hd2 : decide (tq ≤ m) = false := decide_eq_false h2
                          generalize (S.bt m).toNat = y at *
                          generalize strB 256 S.bt = str at *
                          go_wp2_with (fail)
                          refine wp_region_lex1 (fun V => V = wx.drew) [(0, false), (1, false), (2, false), (3, false), (4, false), (5, false), (6, false), (7, false), (8, false), (9, false), (10, false), (11, false), (12, false), (13, false), (14, false), (15, false), (16, false), (17, false)]
                            (by kernel_rfl) (by kernel_rfl) rfl (by kernel_rfl) rfl ?_
                          intro V0 hV0 hK0
                          clear hK0
                          subst hV0
                          refine lexH_yieldE rfl rfl ?_
                          apply Exists.intro
                          refine ⟨fun W hW => ?_, ?_⟩
                          focus (go_simp; exact rfl)
                          simp only [List.getElem_toArray, List.getElem_cons_zero, Act.put, List.setIfInBounds_toArray, List.set_cons_zero, List.set_cons_succ]
                          refine lexH_yieldE rfl rfl ?_
                          apply Exists.intro
                          refine ⟨fun W hW => ?_, ?_⟩
                          focus (go_simp; exact rfl)
                          simp only [List.getElem_toArray, List.getElem_cons_succ, List.getElem_cons_zero, Act.put, List.setIfInBounds_toArray, List.set_cons_zero, List.set_cons_succ]
                          refine lexH_yieldE rfl rfl ?_
                          apply Exists.intro
                          refine ⟨fun W hW => ?_, ?_⟩
                          focus (go_simp; exact rfl)
                          simp only [List.getElem_toArray, List.getElem_cons_succ, List.getElem_cons_zero, Act.put, List.setIfInBounds_toArray, List.set_cons_zero, List.set_cons_succ]
                          refine lexH_yieldE rfl rfl ?_
                          apply Exists.intro
                          refine ⟨fun W hW => ?_, ?_⟩
                          focus (go_simp; exact rfl)
                          simp only [List.getElem_toArray, List.getElem_cons_succ, List.getElem_cons_zero, Act.put, List.setIfInBounds_toArray, List.set_cons_zero, List.set_cons_succ]
                          refine lexH_yieldE rfl rfl ?_
                          apply Exists.intro
                          refine ⟨fun W hW => ?_, ?_⟩
                          focus (go_simp; exact rfl)
                          simp only [List.getElem_toArray, List.getElem_cons_succ, List.getElem_cons_zero, Act.put, List.setIfInBounds_toArray, List.set_cons_zero, List.set_cons_succ]
                          refine lexH_yieldE rfl rfl ?_
                          apply Exists.intro
                          refine ⟨fun W hW => ?_, ?_⟩
                          focus (go_simp; exact rfl)
                          simp only [List.getElem_toArray, List.getElem_cons_succ, List.getElem_cons_zero, Act.put, List.setIfInBounds_toArray, List.set_cons_zero, List.set_cons_succ]
                          refine lexH_yieldE rfl rfl ?_
                          apply Exists.intro
                          refine ⟨fun W hW => ?_, ?_⟩
                          focus (go_simp; exact rfl)
                          simp only [List.getElem_toArray, List.getElem_cons_succ, List.getElem_cons_zero, Act.put, List.setIfInBounds_toArray, List.set_cons_zero, List.set_cons_succ]
                          refine lexH_yieldE rfl rfl ?_
                          apply Exists.intro
                          refine ⟨fun W hW => ?_, ?_⟩
                          focus (go_simp; exact rfl)
                          simp only [List.getElem_toArray, List.getElem_cons_succ, List.getElem_cons_zero, Act.put, List.setIfInBounds_toArray, List.set_cons_zero, List.set_cons_succ]
                          refine lexH_yieldE rfl rfl ?_
                          apply Exists.intro
                          refine ⟨fun W hW => ?_, ?_⟩
                          focus (go_simp; exact rfl)
                          simp only [List.getElem_toArray, List.getElem_cons_succ, List.getElem_cons_zero, Act.put, List.setIfInBounds_toArray, List.set_cons_zero, List.set_cons_succ]
                          refine lexH_skip rfl rfl ?_
                          simp only [List.getElem_toArray, List.getElem_cons_succ, List.getElem_cons_zero, Act.put, List.setIfInBounds_toArray, List.set_cons_zero, List.set_cons_succ]
                          refine lexH_skip rfl rfl ?_
                          simp only [List.getElem_toArray, List.getElem_cons_succ, List.getElem_cons_zero, Act.put, List.setIfInBounds_toArray, List.set_cons_zero, List.set_cons_succ]
                          refine lexH_skip rfl rfl ?_
                          simp only [List.getElem_toArray, List.getElem_cons_succ, List.getElem_cons_zero, Act.put, List.setIfInBounds_toArray, List.set_cons_zero, List.set_cons_succ]
                          refine lexH_skip rfl rfl ?_
                          simp only [List.getElem_toArray, List.getElem_cons_succ, List.getElem_cons_zero, Act.put, List.setIfInBounds_toArray, List.set_cons_zero, List.set_cons_succ]
                          refine lexH_skip rfl rfl ?_
                          simp only [List.getElem_toArray, List.getElem_cons_succ, List.getElem_cons_zero, Act.put, List.setIfInBounds_toArray, List.set_cons_zero, List.set_cons_succ]
                          refine lexH_skip rfl rfl ?_
                          simp only [List.getElem_toArray, List.getElem_cons_succ, List.getElem_cons_zero, Act.put, List.setIfInBounds_toArray, List.set_cons_zero, List.set_cons_succ]
                          refine lexH_skip rfl rfl ?_
                          simp only [List.getElem_toArray, List.getElem_cons_succ, List.getElem_cons_zero, Act.put, List.setIfInBounds_toArray, List.set_cons_zero, List.set_cons_succ]
                          refine lexH_skip rfl rfl ?_
                          simp only [List.getElem_toArray, List.getElem_cons_succ, List.getElem_cons_zero, Act.put, List.setIfInBounds_toArray, List.set_cons_zero, List.set_cons_succ]
                          refine lexH_yieldE rfl rfl ?_
                          apply Exists.intro
                          refine ⟨fun W hW => ?_, ?_⟩
                          focus (go_simp; exact rfl)
                          simp only [List.getElem_toArray, List.getElem_cons_succ, List.getElem_cons_zero, Act.put, List.setIfInBounds_toArray, List.set_cons_zero, List.set_cons_succ]
                          refine lexH_nil ?_
                          clear LB hix
                          go_wp2_with (fail)
                          go_roundw
                          case rel => exact ⟨m + 1, HLT.out, by go_num, HBD.out⟩
                          case measure => simp [intOf]; omega
              · obtain rfl : m = 256 := by omega
                have HL6 := Lib.hid (HL5.out.later HK.out HBX.out)
                have HQ6 := Lib.hid (HQ5.out.later HBX.out)
                go_wp2_with (fail)
                go_roundw
                case rel => exact ⟨k + 1, S', by omega, by go_num, HL6, HQ6⟩
                case measure => simp [intOf]; omega
        · obtain rfl : k = len := by omega
          go_wp2_with (fail)
          refine (cknown_any HK.out _).mono ?_
          rintro e w6 ⟨rfl, hb⟩
          have HB6 := Lib.hid (HL.out.ends hb)
          clear hb
          go_wp2_with (fail)
          go_ret
          exact ⟨rfl, HB6.out⟩
    · have hlI : 60 < (len : Int) := by omega
      go_wp2_with (fail)
      refine (cknown_any HK.out w2).mono ?_
      rintro e w3 ⟨rfl, hb⟩
      have HB3 := Lib.hid (HL.out.ends hb)
      clear hb
      go_wp2_with (fail)
      go_ret
      exact ⟨rfl, HB3.out⟩
  · have HM := Lib.hid (show mayC size colour = false by simpa using hm)
    clear hm
    go_enter Try.func7, Try.ntmps7
    go_wp2_with (fail)
    clear hmk
    generalize w.alloc (.cells Z 5) = w1 at *
    refine (HK.out.newNo _ _ _ size colour w1 (.inr HM.out)).mono ?_
    rintro e w2 ⟨rfl, hb⟩
    have HB2 := Lib.hid (HB1.out.trans (hb.mono HB1.out.size))
    clear hb
    go_wp2_with (fail)
    refine (cknown_any HK.out w2).mono ?_
    rintro e w3 ⟨rfl, hb⟩
    have HB3 := Lib.hid (HB2.out.trans (hb.mono HB2.out.size))
    clear hb
    go_wp2_with (fail)
    go_ret
    exact ⟨rfl, HB3.out⟩
end
end Go.Proofs.Ytifiecfkcikdmaa
