/-
  The walk of ChainPlays: it returns true, and below the old heap nothing has turned.
-/
import Derived.Test.YtifiecfkcikdmaaChPlay
import Derived.Test.YtifiecfkcikdmaaLexApp
import Derived.Deep.DeepCutAuto
import Derived.Deep.CutBlock
namespace Go.Proofs.Ytifiecfkcikdmaa
open Go.RowKit Go

section
variable {SlAt : World → SC → Sl → Prop}
set_option maxRecDepth 100000 in
set_option maxHeartbeats 16000000 in
theorem lawCPlays_any (K : ChainOk SlAt) (a : Option Addr) (n c : Nat) (x : Nat → UInt8) (size colour : Int) (la : Option Addr) (len cap : Nat) (O : Nat → OpC) (w : World) (hS : Src w a n x) (hO : OpsC w la len O) :
    Calls Try.prog 3 #[.slice a n c, .int .i64 size, .int .i64 colour, .slice la len cap] w fun e w' => e = .returned (.bool true) ∧ Below w.heap.size w w' := by
  have HK := Lib.hid K
  have HS := Lib.hid hS
  have HO := Lib.hid hO
  have HB0 := Lib.hid (Below.refl w.heap.size w)
  obtain ⟨i0, hi, hz0, hz1, hz2⟩ := info_parts infoByte
  clear K hS hO
  by_cases hn3 : n ≤ 300
  · have hn3I : ¬ 300 < (n : Int) := by omega
    by_cases hl : len ≤ 150
    · have hlI : ¬ 150 < (len : Int) := by omega
      have hba : Below w.heap.size w (w.alloc (.cells #[] 5)) := (Below.refl _ _).alloc (Nat.le_refl _) _
      have HE := Lib.hid (World.ownsRow_made w (e := 5) (base := w.heap.size) (size := 1) #[] 0 (Nat.le_refl _) (Nat.zero_le _) (by simp))
      have HSA := Lib.hid ((HS.out.later hba).cells)
      have HBA := Lib.hid hba
      clear hba
      go_enter Try.func3, Try.ntmps3
      go_wp2_with (first | (at_builtin; refine wpList_append_src _ rfl _ _ 22 rfl w.heap.size 5 i0 _ 1 1 Try.underlying22 hi hz0 hz1 hz2 rfl (by decide) (.slice (some ⟨w.heap.size, 0, none⟩) 0 0) 0 [] rfl HE.out a n c (bytL n x) rfl (by rw [bytL_len, Nat.mul_one]) HSA.out (bytL_one _ _) (by unfold maxLen; omega) (by omega) HBA.out.size ?_; intro v1 w1 hown1 hgr1 _; rw [Nat.zero_add, List.nil_append] at hown1; obtain ⟨a1, c1, rfl, hs1, hk1⟩ := bytes_own hown1) | fail)
      have hb1 : Below w.heap.size w w1 := (Only.of_grown hgr1).below HBA.out HBA.out.size (fun q hq => by simp [Value.ownBlock] at hq; omega)
      have HB1 := Lib.hid hb1
      have HS1 := Lib.hid hs1
      have HK1 := Lib.hid hk1
      have HCP := Lib.hid (bytes_cap hown1)
      clear hown1 hgr1 hb1 hs1 hk1 HE HSA HBA
      by_cases hok : n = 256 ∧ mayC size colour = true
      · obtain ⟨rfl, hm⟩ := hok
        have hm' := hm
        unfold mayC at hm'
        obtain ⟨m1, m2, m3, m4, m5, m6⟩ := of_decide_eq_true hm'
        obtain ⟨sz, rfl⟩ : ∃ sz : Nat, size = sz := ⟨size.toNat, by omega⟩
        obtain ⟨co, rfl⟩ : ∃ co : Nat, colour = co := ⟨colour.toNat, by omega⟩
        have HM := Lib.hid hm
        clear hm hm' m1 m2 m3 m4 m5 m6
        obtain ⟨g1, rfl, hg1, hg1s, hrow1⟩ := HK1.out (by decide)
        refine (HK.out.new sz co g1 c1 x w1 HM.out HCP.out hrow1).mono ?_
        intro e w2 hN
        obtain ⟨C, rfl, hCb, _, hL, ho2, hown2⟩ := LAt.new HB1.out HB1.out.size hg1 hN
        subst hCb
        have HL2 := Lib.hid hL
        have hI0 := SlI.new HM.out x
        have hba : Below w2.heap.size w2 (w2.alloc (.cells #[] 5)) := (Below.refl _ _).alloc (Nat.le_refl _) _
        have HE2 := Lib.hid (World.ownsRow_made w2 (e := 5) (base := w2.heap.size) (size := 1) #[] 0 (Nat.le_refl _) (Nat.zero_le _) (by simp))
        have HSA2 := Lib.hid (((HS.out.later HL2.out.bel).later hba).cells)
        have HBA2 := Lib.hid hba
        have HCL := Lib.hid (HK.out.lt hL.at_)
        clear hba hN hL ho2 hown2 hrow1 HK1 HS1 HB1
        go_wp2_with (first | (at_builtin; refine wpList_append_src _ rfl _ _ 22 rfl w2.heap.size 5 i0 _ 1 1 Try.underlying22 hi hz0 hz1 hz2 rfl (by decide) (.slice (some ⟨w2.heap.size, 0, none⟩) 0 0) 0 [] rfl HE2.out a 256 c (bytL 256 x) rfl (by rw [bytL_len, Nat.mul_one]) HSA2.out (bytL_one _ _) (by unfold maxLen; omega) (by omega) HBA2.out.size ?_; intro v3 w3 hown3 hgr3 _; rw [Nat.zero_add, List.nil_append] at hown3; obtain ⟨a3, c3, rfl, hs3, hk3⟩ := bytes_own hown3) | fail)
        have hb3 : Below w2.heap.size w2 w3 := (Only.of_grown hgr3).below HBA2.out HBA2.out.size (fun q hq => by simp [Value.ownBlock] at hq; omega)
        obtain ⟨g3, rfl, hg3, hg3s, hrow3⟩ := hk3 (by decide)
        refine (rnew_any sz co g3 c3 x w3 HM.out hrow3).mono ?_
        rintro e w4 ⟨r, v, rfl, hR, ho4, hr⟩
        have HP4 := Lib.hid (show PcAt SlAt w.heap.size C r g3 c3 (Sl.new sz co x) (Sl.new sz co x) v w w4 from by
          have hL3 := HL2.out.later HK.out hb3
          have hle := HL2.out.le
          have hs3' := hb3.size
          exact ⟨hL3.only HK.out ho4 (fun k hk e => by have := HCL.out k hk; omega) (fun k e => by omega), hR, fun k hk => by have := HCL.out k hk; omega, fun h => by have := HCL.out _ h; omega, by omega, by omega⟩)
        clear hb3 hown3 hgr3 hs3 hk3 hrow3 hR ho4 hr HE2 HSA2 HBA2 HL2 HCL
        go_wp2_with (fail)
        refine (csame_any HK.out HP4.out.l.at_ HP4.out.ref).mono ?_
        rintro e w5 ⟨rfl, hb⟩
        have HP5 := Lib.hid (HP4.out.later HK.out hb)
        clear hb HP4
        go_wp2_with (fail)
        go_loopw [75] (fun i wr => ∃ (k : Nat) (S : Sl) (v : Value), k ≤ len ∧ i = .int .i64 k ∧ Hid (PcAt SlAt w.heap.size C r g3 c3 S S v w wr)) (fun i _ => len - (intOf i).toNat)
        case atStart => exact ⟨0, _, _, Nat.zero_le _, rfl, HP5⟩
        case round =>
          clear HP5 hI0
          obtain ⟨k, S, v, hk, rfl, HP⟩ := hrel
          have HI := Lib.hid (HK.out.inv HP.out.l.at_)
          by_cases hlt : k < len
          · obtain ⟨b, o, rfl, hbl, hsrc, hbl2, hc⟩ := HO.out.one k hlt
            obtain ⟨q0, q1, q2, q3⟩ := hc wr HP.out.l.bel
            have HSR := Lib.hid hsrc
            have hltI : (k : Int) < (len : Int) := by omega
            clear hc hbl hsrc
            generalize O k = op at q0 q1 q2 q3 HSR hbl2
            obtain ⟨kind, at1, turn, bp, bl, bcp, ox⟩ := op
            dsimp only at q0 q1 q2 q3 HSR hbl2
            have HST := Lib.hid (store_opc wr #[.int .i64 0, .int .i64 0, .int .u64 0, .slice none 0 0] rfl ⟨kind, at1, turn, bp, bl, bcp, ox⟩)
            have hba : Below wr.heap.size wr (wr.alloc (.cells (OpC.arr ⟨kind, at1, turn, bp, bl, bcp, ox⟩) 35)) := (Below.refl _ _).alloc (Nat.le_refl _) _
            have HR := Lib.hid (opc_row wr ⟨kind, at1, turn, bp, bl, bcp, ox⟩)
            have HP1 := Lib.hid (HP.out.later HK.out hba)
            have hrob : r < wr.heap.size := HP.out.ref.row.lt
            have hgob : g3 < wr.heap.size := HP.out.ref.byt.lt
            clear hba HP
            unfold OpC.arr at HST HR HP1
            dsimp only at HST HR HP1
            by_cases hcont : kind = 4 ∧ (S.has at1 = false ∨ S.out at1.toNat = false)
            -- [SCAN
            · obtain ⟨rfl, hbad⟩ := hcont
              go_wp2_with (refine wpList_store_run rfl 35 _ _ rfl wr.heap.size _ _ rfl rfl HST.out ?_)
              clear q0 q1 q2 q3 HST HO
              generalize wr.heap.size = ob at HR hrob hgob ⊢
              generalize wr.alloc (.cells #[.int .i64 4, .int .i64 at1, .int .u64 turn, .slice bp bl bcp] 35) = W at HR HP1 ⊢
              have HPD := Lib.hid (HP1.out.later HK.out (Below.refl W.heap.size W).drew)
              have hn32 := HI.out.parts.2.2.2.1
              by_cases h0 : at1 < 0
              · have hd0 : decide (at1 < 0) = true := decide_eq_true h0
                have L1 := Lib.hid (show ∀ V, V = W.drew → (loadVar 3 ⟨ob, 1, none⟩).run Try.prog V = .ok (.int .i64 at1) V from fun V hV => run_loadVar_cell (fun _ => by kernel_rfl) (by rw [hV]; exact (opc_four HR.out).2.1))
                have LN := Lib.hid (show ∀ V, V = W.drew → (loadVar 3 ⟨r, 3, none⟩).run Try.prog V = .ok (.int .i64 S.n) V from fun V hV => run_loadVar_cell (fun _ => by kernel_rfl) (by rw [hV]; exact HP1.out.ref.c3))
                generalize S.n = n at *
                refine wp_region_lex1 (fun V => V = W.drew) [(0, false), (1, false), (2, false), (3, false), (4, false), (5, false), (6, false), (7, false), (8, false), (9, false), (10, false), (11, false), (12, false), (13, false), (14, false), (15, false), (16, false), (17, false), (18, false), (19, false), (20, false), (21, false)]
                  (by kernel_rfl) (by kernel_rfl) rfl (by kernel_rfl) rfl ?_
                intro V0 hV0 hK0
                clear hK0
                subst hV0
                refine lexH_yieldE rfl rfl ?_
                apply Exists.intro
                refine ⟨fun W hW => ?_, ?_⟩
                focus (go_simp; exact rfl)
                simp only [List.getElem_toArray, List.getElem_cons_zero, Act.put, List.setIfInBounds_toArray, List.set_cons_zero, List.set_cons_succ]
                refine lexH_load rfl rfl _ _ rfl rfl L1.out ?_
                simp only [List.getElem_toArray, List.getElem_cons_succ, List.getElem_cons_zero, Act.put, List.setIfInBounds_toArray, List.set_cons_zero, List.set_cons_succ]
                refine lexH_yieldE rfl rfl ?_
                apply Exists.intro
                refine ⟨fun W hW => ?_, ?_⟩
                focus (go_simp; exact rfl)
                simp only [List.getElem_toArray, List.getElem_cons_succ, List.getElem_cons_zero, Act.put, List.setIfInBounds_toArray, List.set_cons_zero, List.set_cons_succ]
                refine lexH_yieldE rfl rfl ?_
                apply Exists.intro
                refine ⟨fun W hW => ?_, ?_⟩
                focus (go_simp; exact rfl)
                simp only [List.getElem_toArray, List.getElem_cons_succ, List.getElem_cons_zero, Act.put, List.setIfInBounds_toArray, List.set_cons_zero, List.set_cons_succ]
                refine lexH_skip rfl rfl ?_
                simp only [List.getElem_toArray, List.getElem_cons_succ, List.getElem_cons_zero, Act.put, List.setIfInBounds_toArray, List.set_cons_zero, List.set_cons_succ]
                refine lexH_skip rfl rfl ?_
                simp only [List.getElem_toArray, List.getElem_cons_succ, List.getElem_cons_zero, Act.put, List.setIfInBounds_toArray, List.set_cons_zero, List.set_cons_succ]
                refine lexH_skip rfl rfl ?_
                simp only [List.getElem_toArray, List.getElem_cons_succ, List.getElem_cons_zero, Act.put, List.setIfInBounds_toArray, List.set_cons_zero, List.set_cons_succ]
                refine lexH_skip rfl rfl ?_
                simp only [List.getElem_toArray, List.getElem_cons_succ, List.getElem_cons_zero, Act.put, List.setIfInBounds_toArray, List.set_cons_zero, List.set_cons_succ]
                refine lexH_skip rfl rfl ?_
                simp only [List.getElem_toArray, List.getElem_cons_succ, List.getElem_cons_zero, Act.put, List.setIfInBounds_toArray, List.set_cons_zero, List.set_cons_succ]
                refine lexH_skip rfl rfl ?_
                simp only [List.getElem_toArray, List.getElem_cons_succ, List.getElem_cons_zero, Act.put, List.setIfInBounds_toArray, List.set_cons_zero, List.set_cons_succ]
                refine lexH_skip rfl rfl ?_
                simp only [List.getElem_toArray, List.getElem_cons_succ, List.getElem_cons_zero, Act.put, List.setIfInBounds_toArray, List.set_cons_zero, List.set_cons_succ]
                refine lexH_yieldE rfl rfl ?_
                apply Exists.intro
                refine ⟨fun W hW => ?_, ?_⟩
                focus (go_simp; exact rfl)
                simp only [List.getElem_toArray, List.getElem_cons_succ, List.getElem_cons_zero, Act.put, List.setIfInBounds_toArray, List.set_cons_zero, List.set_cons_succ]
                refine lexH_yieldE rfl rfl ?_
                apply Exists.intro
                refine ⟨fun W hW => ?_, ?_⟩
                focus (go_simp; exact rfl)
                simp only [List.getElem_toArray, List.getElem_cons_succ, List.getElem_cons_zero, Act.put, List.setIfInBounds_toArray, List.set_cons_zero, List.set_cons_succ]
                refine lexH_skip rfl rfl ?_
                simp only [List.getElem_toArray, List.getElem_cons_succ, List.getElem_cons_zero, Act.put, List.setIfInBounds_toArray, List.set_cons_zero, List.set_cons_succ]
                refine lexH_skip rfl rfl ?_
                simp only [List.getElem_toArray, List.getElem_cons_succ, List.getElem_cons_zero, Act.put, List.setIfInBounds_toArray, List.set_cons_zero, List.set_cons_succ]
                refine lexH_skip rfl rfl ?_
                simp only [List.getElem_toArray, List.getElem_cons_succ, List.getElem_cons_zero, Act.put, List.setIfInBounds_toArray, List.set_cons_zero, List.set_cons_succ]
                refine lexH_skip rfl rfl ?_
                simp only [List.getElem_toArray, List.getElem_cons_succ, List.getElem_cons_zero, Act.put, List.setIfInBounds_toArray, List.set_cons_zero, List.set_cons_succ]
                refine lexH_skip rfl rfl ?_
                simp only [List.getElem_toArray, List.getElem_cons_succ, List.getElem_cons_zero, Act.put, List.setIfInBounds_toArray, List.set_cons_zero, List.set_cons_succ]
                refine lexH_skip rfl rfl ?_
                simp only [List.getElem_toArray, List.getElem_cons_succ, List.getElem_cons_zero, Act.put, List.setIfInBounds_toArray, List.set_cons_zero, List.set_cons_succ]
                refine lexH_skip rfl rfl ?_
                simp only [List.getElem_toArray, List.getElem_cons_succ, List.getElem_cons_zero, Act.put, List.setIfInBounds_toArray, List.set_cons_zero, List.set_cons_succ]
                refine lexH_skip rfl rfl ?_
                simp only [List.getElem_toArray, List.getElem_cons_succ, List.getElem_cons_zero, Act.put, List.setIfInBounds_toArray, List.set_cons_zero, List.set_cons_succ]
                refine lexH_yieldE rfl rfl ?_
                apply Exists.intro
                refine ⟨fun W hW => ?_, ?_⟩
                focus (go_simp; exact rfl)
                simp only [List.getElem_toArray, List.getElem_cons_succ, List.getElem_cons_zero, Act.put, List.setIfInBounds_toArray, List.set_cons_zero, List.set_cons_succ]
                refine lexH_nil ?_
                clear L1 LN
                go_wp2_with (fail)
                go_roundw
                case rel => exact ⟨k + 1, S, v, by omega, by go_num, HPD⟩
                case measure => simp [intOf]; omega
              · obtain ⟨i, rfl⟩ : ∃ i : Nat, at1 = i := ⟨at1.toNat, by omega⟩
                have hd0 : decide ((i : Int) < 0) = false := decide_eq_false h0
                by_cases h1 : i < S.n
                · have ho : S.out i = false := by
                    rcases hbad with h | h
                    · rw [has_nat.2 h1] at h
                      cases h
                    · rw [Int.toNat_natCast] at h
                      exact h
                  have hi32 : i < 32 := by omega
                  have hi32I : (i : Int) < 32 := by omega
                  have hd1 : decide (S.n ≤ i) = false := decide_eq_false (by omega)
                  have L1 := Lib.hid (show ∀ V, V = W.drew → (loadVar 3 ⟨ob, 1, none⟩).run Try.prog V = .ok (.int .i64 i) V from fun V hV => run_loadVar_cell (fun _ => by kernel_rfl) (by rw [hV]; exact (opc_four HR.out).2.1))
                  have LN := Lib.hid (show ∀ V, V = W.drew → (loadVar 3 ⟨r, 3, none⟩).run Try.prog V = .ok (.int .i64 S.n) V from fun V hV => run_loadVar_cell (fun _ => by kernel_rfl) (by rw [hV]; exact HP1.out.ref.c3))
                  have LO := Lib.hid (show ∀ V, V = W.drew → (loadVar 4 ⟨r, 5 + i, none⟩).run Try.prog V = .ok (.bool false) V from fun V hV => run_loadVar_cell (fun _ => by kernel_rfl) (by rw [hV]; have h := HP1.out.ref.co (i := i) hi32; rw [ho] at h; exact h))
                  generalize S.n = n at *
                  refine wp_region_lex1 (fun V => V = W.drew) [(0, false), (1, false), (2, false), (3, false), (4, false), (5, false), (6, false), (7, false), (8, false), (9, false), (10, false), (11, false), (12, false), (13, false), (14, false), (15, false), (16, false), (17, false), (18, false), (19, false), (20, false), (21, false)]
                    (by kernel_rfl) (by kernel_rfl) rfl (by kernel_rfl) rfl ?_
                  intro V0 hV0 hK0
                  clear hK0
                  subst hV0
                  refine lexH_yieldE rfl rfl ?_
                  apply Exists.intro
                  refine ⟨fun W hW => ?_, ?_⟩
                  focus (go_simp; exact rfl)
                  simp only [List.getElem_toArray, List.getElem_cons_zero, Act.put, List.setIfInBounds_toArray, List.set_cons_zero, List.set_cons_succ]
                  refine lexH_load rfl rfl _ _ rfl rfl L1.out ?_
                  simp only [List.getElem_toArray, List.getElem_cons_succ, List.getElem_cons_zero, Act.put, List.setIfInBounds_toArray, List.set_cons_zero, List.set_cons_succ]
                  refine lexH_yieldE rfl rfl ?_
                  apply Exists.intro
                  refine ⟨fun W hW => ?_, ?_⟩
                  focus (go_simp; exact rfl)
                  simp only [List.getElem_toArray, List.getElem_cons_succ, List.getElem_cons_zero, Act.put, List.setIfInBounds_toArray, List.set_cons_zero, List.set_cons_succ]
                  refine lexH_yieldE rfl rfl ?_
                  apply Exists.intro
                  refine ⟨fun W hW => ?_, ?_⟩
                  focus (go_simp; exact rfl)
                  simp only [List.getElem_toArray, List.getElem_cons_succ, List.getElem_cons_zero, Act.put, List.setIfInBounds_toArray, List.set_cons_zero, List.set_cons_succ]
                  refine lexH_yieldE rfl rfl ?_
                  apply Exists.intro
                  refine ⟨fun W hW => ?_, ?_⟩
                  focus (go_simp; exact rfl)
                  simp only [List.getElem_toArray, List.getElem_cons_succ, List.getElem_cons_zero, Act.put, List.setIfInBounds_toArray, List.set_cons_zero, List.set_cons_succ]
                  refine lexH_load rfl rfl _ _ rfl rfl L1.out ?_
                  simp only [List.getElem_toArray, List.getElem_cons_succ, List.getElem_cons_zero, Act.put, List.setIfInBounds_toArray, List.set_cons_zero, List.set_cons_succ]
                  refine lexH_yieldE rfl rfl ?_
                  apply Exists.intro
                  refine ⟨fun W hW => ?_, ?_⟩
                  focus (go_simp; exact rfl)
                  simp only [List.getElem_toArray, List.getElem_cons_succ, List.getElem_cons_zero, Act.put, List.setIfInBounds_toArray, List.set_cons_zero, List.set_cons_succ]
                  refine lexH_yieldE rfl rfl ?_
                  apply Exists.intro
                  refine ⟨fun W hW => ?_, ?_⟩
                  focus (go_simp; exact rfl)
                  simp only [List.getElem_toArray, List.getElem_cons_succ, List.getElem_cons_zero, Act.put, List.setIfInBounds_toArray, List.set_cons_zero, List.set_cons_succ]
                  refine lexH_yieldE rfl rfl ?_
                  apply Exists.intro
                  refine ⟨fun W hW => ?_, ?_⟩
                  focus (go_simp; exact rfl)
                  simp only [List.getElem_toArray, List.getElem_cons_succ, List.getElem_cons_zero, Act.put, List.setIfInBounds_toArray, List.set_cons_zero, List.set_cons_succ]
                  refine lexH_load rfl rfl _ _ rfl rfl LN.out ?_
                  simp only [List.getElem_toArray, List.getElem_cons_succ, List.getElem_cons_zero, Act.put, List.setIfInBounds_toArray, List.set_cons_zero, List.set_cons_succ]
                  refine lexH_yieldE rfl rfl ?_
                  apply Exists.intro
                  refine ⟨fun W hW => ?_, ?_⟩
                  focus (go_simp; exact rfl)
                  simp only [List.getElem_toArray, List.getElem_cons_succ, List.getElem_cons_zero, Act.put, List.setIfInBounds_toArray, List.set_cons_zero, List.set_cons_succ]
                  refine lexH_yieldE rfl rfl ?_
                  apply Exists.intro
                  refine ⟨fun W hW => ?_, ?_⟩
                  focus (go_simp; exact rfl)
                  simp only [List.getElem_toArray, List.getElem_cons_succ, List.getElem_cons_zero, Act.put, List.setIfInBounds_toArray, List.set_cons_zero, List.set_cons_succ]
                  refine lexH_yieldE rfl rfl ?_
                  apply Exists.intro
                  refine ⟨fun W hW => ?_, ?_⟩
                  focus (go_simp; exact rfl)
                  simp only [List.getElem_toArray, List.getElem_cons_succ, List.getElem_cons_zero, Act.put, List.setIfInBounds_toArray, List.set_cons_zero, List.set_cons_succ]
                  refine lexH_yieldE rfl rfl ?_
                  apply Exists.intro
                  refine ⟨fun W hW => ?_, ?_⟩
                  focus (go_simp; exact rfl)
                  simp only [List.getElem_toArray, List.getElem_cons_succ, List.getElem_cons_zero, Act.put, List.setIfInBounds_toArray, List.set_cons_zero, List.set_cons_succ]
                  refine lexH_yieldE rfl rfl ?_
                  apply Exists.intro
                  refine ⟨fun W hW => ?_, ?_⟩
                  focus (go_simp; exact rfl)
                  simp only [List.getElem_toArray, List.getElem_cons_succ, List.getElem_cons_zero, Act.put, List.setIfInBounds_toArray, List.set_cons_zero, List.set_cons_succ]
                  refine lexH_load rfl rfl _ _ rfl rfl L1.out ?_
                  simp only [List.getElem_toArray, List.getElem_cons_succ, List.getElem_cons_zero, Act.put, List.setIfInBounds_toArray, List.set_cons_zero, List.set_cons_succ]
                  refine lexH_yieldE rfl rfl ?_
                  apply Exists.intro
                  refine ⟨fun W hW => ?_, ?_⟩
                  focus (go_simp; exact rfl)
                  simp only [List.getElem_toArray, List.getElem_cons_succ, List.getElem_cons_zero, Act.put, List.setIfInBounds_toArray, List.set_cons_zero, List.set_cons_succ]
                  refine lexH_yieldE rfl rfl ?_
                  apply Exists.intro
                  refine ⟨fun W hW => ?_, ?_⟩
                  focus (go_simp; exact rfl)
                  simp only [List.getElem_toArray, List.getElem_cons_succ, List.getElem_cons_zero, Act.put, List.setIfInBounds_toArray, List.set_cons_zero, List.set_cons_succ]
                  refine lexH_yieldE rfl rfl ?_
                  apply Exists.intro
                  refine ⟨fun W hW => ?_, ?_⟩
                  focus (go_simp; exact rfl)
                  simp only [List.getElem_toArray, List.getElem_cons_succ, List.getElem_cons_zero, Act.put, List.setIfInBounds_toArray, List.set_cons_zero, List.set_cons_succ]
                  refine lexH_load rfl rfl _ _ rfl rfl LO.out ?_
                  simp only [List.getElem_toArray, List.getElem_cons_succ, List.getElem_cons_zero, Act.put, List.setIfInBounds_toArray, List.set_cons_zero, List.set_cons_succ]
                  refine lexH_yieldE rfl rfl ?_
                  apply Exists.intro
                  refine ⟨fun W hW => ?_, ?_⟩
                  focus (go_simp; exact rfl)
                  simp only [List.getElem_toArray, List.getElem_cons_succ, List.getElem_cons_zero, Act.put, List.setIfInBounds_toArray, List.set_cons_zero, List.set_cons_succ]
                  refine lexH_yieldE rfl rfl ?_
                  apply Exists.intro
                  refine ⟨fun W hW => ?_, ?_⟩
                  focus (go_simp; exact rfl)
                  simp only [List.getElem_toArray, List.getElem_cons_succ, List.getElem_cons_zero, Act.put, List.setIfInBounds_toArray, List.set_cons_zero, List.set_cons_succ]
                  refine lexH_nil ?_
                  clear L1 LN LO
                  go_wp2_with (fail)
                  go_roundw
                  case rel => exact ⟨k + 1, S, v, by omega, by go_num, HPD⟩
                  case measure => simp [intOf]; omega
                · have hd1 : decide (S.n ≤ i) = true := decide_eq_true (by omega)
                  have L1 := Lib.hid (show ∀ V, V = W.drew → (loadVar 3 ⟨ob, 1, none⟩).run Try.prog V = .ok (.int .i64 i) V from fun V hV => run_loadVar_cell (fun _ => by kernel_rfl) (by rw [hV]; exact (opc_four HR.out).2.1))
                  have LN := Lib.hid (show ∀ V, V = W.drew → (loadVar 3 ⟨r, 3, none⟩).run Try.prog V = .ok (.int .i64 S.n) V from fun V hV => run_loadVar_cell (fun _ => by kernel_rfl) (by rw [hV]; exact HP1.out.ref.c3))
                  generalize S.n = n at *
                  refine wp_region_lex1 (fun V => V = W.drew) [(0, false), (1, false), (2, false), (3, false), (4, false), (5, false), (6, false), (7, false), (8, false), (9, false), (10, false), (11, false), (12, false), (13, false), (14, false), (15, false), (16, false), (17, false), (18, false), (19, false), (20, false), (21, false)]
                    (by kernel_rfl) (by kernel_rfl) rfl (by kernel_rfl) rfl ?_
                  intro V0 hV0 hK0
                  clear hK0
                  subst hV0
                  refine lexH_yieldE rfl rfl ?_
                  apply Exists.intro
                  refine ⟨fun W hW => ?_, ?_⟩
                  focus (go_simp; exact rfl)
                  simp only [List.getElem_toArray, List.getElem_cons_zero, Act.put, List.setIfInBounds_toArray, List.set_cons_zero, List.set_cons_succ]
                  refine lexH_load rfl rfl _ _ rfl rfl L1.out ?_
                  simp only [List.getElem_toArray, List.getElem_cons_succ, List.getElem_cons_zero, Act.put, List.setIfInBounds_toArray, List.set_cons_zero, List.set_cons_succ]
                  refine lexH_yieldE rfl rfl ?_
                  apply Exists.intro
                  refine ⟨fun W hW => ?_, ?_⟩
                  focus (go_simp; exact rfl)
                  simp only [List.getElem_toArray, List.getElem_cons_succ, List.getElem_cons_zero, Act.put, List.setIfInBounds_toArray, List.set_cons_zero, List.set_cons_succ]
                  refine lexH_yieldE rfl rfl ?_
                  apply Exists.intro
                  refine ⟨fun W hW => ?_, ?_⟩
                  focus (go_simp; exact rfl)
                  simp only [List.getElem_toArray, List.getElem_cons_succ, List.getElem_cons_zero, Act.put, List.setIfInBounds_toArray, List.set_cons_zero, List.set_cons_succ]
                  refine lexH_yieldE rfl rfl ?_
                  apply Exists.intro
                  refine ⟨fun W hW => ?_, ?_⟩
                  focus (go_simp; exact rfl)
                  simp only [List.getElem_toArray, List.getElem_cons_succ, List.getElem_cons_zero, Act.put, List.setIfInBounds_toArray, List.set_cons_zero, List.set_cons_succ]
                  refine lexH_load rfl rfl _ _ rfl rfl L1.out ?_
                  simp only [List.getElem_toArray, List.getElem_cons_succ, List.getElem_cons_zero, Act.put, List.setIfInBounds_toArray, List.set_cons_zero, List.set_cons_succ]
                  refine lexH_yieldE rfl rfl ?_
                  apply Exists.intro
                  refine ⟨fun W hW => ?_, ?_⟩
                  focus (go_simp; exact rfl)
                  simp only [List.getElem_toArray, List.getElem_cons_succ, List.getElem_cons_zero, Act.put, List.setIfInBounds_toArray, List.set_cons_zero, List.set_cons_succ]
                  refine lexH_yieldE rfl rfl ?_
                  apply Exists.intro
                  refine ⟨fun W hW => ?_, ?_⟩
                  focus (go_simp; exact rfl)
                  simp only [List.getElem_toArray, List.getElem_cons_succ, List.getElem_cons_zero, Act.put, List.setIfInBounds_toArray, List.set_cons_zero, List.set_cons_succ]
                  refine lexH_yieldE rfl rfl ?_
                  apply Exists.intro
                  refine ⟨fun W hW => ?_, ?_⟩
                  focus (go_simp; exact rfl)
                  simp only [List.getElem_toArray, List.getElem_cons_succ, List.getElem_cons_zero, Act.put, List.setIfInBounds_toArray, List.set_cons_zero, List.set_cons_succ]
                  refine lexH_load rfl rfl _ _ rfl rfl LN.out ?_
                  simp only [List.getElem_toArray, List.getElem_cons_succ, List.getElem_cons_zero, Act.put, List.setIfInBounds_toArray, List.set_cons_zero, List.set_cons_succ]
                  refine lexH_yieldE rfl rfl ?_
                  apply Exists.intro
                  refine ⟨fun W hW => ?_, ?_⟩
                  focus (go_simp; exact rfl)
                  simp only [List.getElem_toArray, List.getElem_cons_succ, List.getElem_cons_zero, Act.put, List.setIfInBounds_toArray, List.set_cons_zero, List.set_cons_succ]
                  refine lexH_yieldE rfl rfl ?_
                  apply Exists.intro
                  refine ⟨fun W hW => ?_, ?_⟩
                  focus (go_simp; exact rfl)
                  simp only [List.getElem_toArray, List.getElem_cons_succ, List.getElem_cons_zero, Act.put, List.setIfInBounds_toArray, List.set_cons_zero, List.set_cons_succ]
                  refine lexH_yieldE rfl rfl ?_
                  apply Exists.intro
                  refine ⟨fun W hW => ?_, ?_⟩
                  focus (go_simp; exact rfl)
                  simp only [List.getElem_toArray, List.getElem_cons_succ, List.getElem_cons_zero, Act.put, List.setIfInBounds_toArray, List.set_cons_zero, List.set_cons_succ]
                  refine lexH_skip rfl rfl ?_
                  simp only [List.getElem_toArray, List.getElem_cons_succ, List.getElem_cons_zero, Act.put, List.setIfInBounds_toArray, List.set_cons_zero, List.set_cons_succ]
                  refine lexH_skip rfl rfl ?_
                  simp only [List.getElem_toArray, List.getElem_cons_succ, List.getElem_cons_zero, Act.put, List.setIfInBounds_toArray, List.set_cons_zero, List.set_cons_succ]
                  refine lexH_skip rfl rfl ?_
                  simp only [List.getElem_toArray, List.getElem_cons_succ, List.getElem_cons_zero, Act.put, List.setIfInBounds_toArray, List.set_cons_zero, List.set_cons_succ]
                  refine lexH_skip rfl rfl ?_
                  simp only [List.getElem_toArray, List.getElem_cons_succ, List.getElem_cons_zero, Act.put, List.setIfInBounds_toArray, List.set_cons_zero, List.set_cons_succ]
                  refine lexH_skip rfl rfl ?_
                  simp only [List.getElem_toArray, List.getElem_cons_succ, List.getElem_cons_zero, Act.put, List.setIfInBounds_toArray, List.set_cons_zero, List.set_cons_succ]
                  refine lexH_skip rfl rfl ?_
                  simp only [List.getElem_toArray, List.getElem_cons_succ, List.getElem_cons_zero, Act.put, List.setIfInBounds_toArray, List.set_cons_zero, List.set_cons_succ]
                  refine lexH_skip rfl rfl ?_
                  simp only [List.getElem_toArray, List.getElem_cons_succ, List.getElem_cons_zero, Act.put, List.setIfInBounds_toArray, List.set_cons_zero, List.set_cons_succ]
                  refine lexH_skip rfl rfl ?_
                  simp only [List.getElem_toArray, List.getElem_cons_succ, List.getElem_cons_zero, Act.put, List.setIfInBounds_toArray, List.set_cons_zero, List.set_cons_succ]
                  refine lexH_yieldE rfl rfl ?_
                  apply Exists.intro
                  refine ⟨fun W hW => ?_, ?_⟩
                  focus (go_simp; exact rfl)
                  simp only [List.getElem_toArray, List.getElem_cons_succ, List.getElem_cons_zero, Act.put, List.setIfInBounds_toArray, List.set_cons_zero, List.set_cons_succ]
                  refine lexH_nil ?_
                  clear L1 LN
                  go_wp2_with (fail)
                  go_roundw
                  case rel => exact ⟨k + 1, S, v, by omega, by go_num, HPD⟩
                  case measure => simp [intOf]; omega
            -- SCAN]
            · have HCN := Lib.hid hcont
              clear hcont
              go_upto_block 2 with (refine wpList_store_run rfl 35 _ _ rfl wr.heap.size _ _ rfl rfl HST.out ?_)
              clear q0 q1 q2 q3 HST HO
              generalize wr.heap.size = ob at HR hrob hgob ⊢
              generalize wr.alloc (.cells #[.int .i64 kind, .int .i64 at1, .int .u64 turn, .slice bp bl bcp] 35) = W at HR HP1 ⊢
              go_cut [14] (fun t wc => ∃ (S : Sl) (v : Value), t = .int .i64 k ∧ Hid (PcAt SlAt w.heap.size C r g3 c3 S S v w wc))
              case first =>
                obtain ⟨q0, q1, q2, q3⟩ := opc_four HR.out
                dsimp only at q0 q1 q2 q3
                by_cases hk0 : kind = 0
                -- [SCAN
                · subst hk0
                  go_wp2_with (fail)
                  refine (HK.out.take HP1.out.l.at_).mono ?_
                  rintro e w3 ⟨rfl, hA, ho⟩
                  have HP3 := Lib.hid (HP1.out.turn hA ho)
                  clear hA ho q0 q1 q2 q3 HP1 HR
                  go_wp2_with (fail)
                  refine (rtake_any HP3.out.ref HI.out).mono ?_
                  rintro e w4 ⟨rfl, ⟨v2, hR⟩, ho⟩
                  have HP4 := Lib.hid (HP3.out.turnR HK.out hR ho)
                  clear hR ho HP3
                  generalize S.take = q at *
                  obtain ⟨e1, e2, S2⟩ := q
                  dsimp only at HP4
                  go_wp2_with (fail)
                  go_meet
                  exact ⟨S2, v2, rfl, HP4⟩
                -- SCAN]
                by_cases hk1 : kind = 1
                -- [SCAN
                · subst hk1
                  have L1 := Lib.hid (show ∀ V, RowAt V ob 4 (ocV ⟨1, at1, turn, bp, bl, bcp, ox⟩) → (loadVar 3 ⟨ob, 1, none⟩).run Try.prog V = .ok (.int .i64 at1) V from fun V hV => run_loadVar_cell (fun _ => by kernel_rfl) (opc_four hV).2.1)
                  go_wp2_with (fail)
                  refine wp_region_lex1 (fun V => RowAt V ob 4 (ocV ⟨1, at1, turn, bp, bl, bcp, ox⟩)) [(0, false), (1, false), (2, false), (4, false), (5, false), (6, false), (3, true), (7, true), (8, false)]
                    (by kernel_rfl) (by kernel_rfl) rfl (by kernel_rfl) (HR.out.later (Below.refl _ W).drew) ?_
                  intro W0 hW0 hK0
                  clear hK0
                  have HP0 := Lib.hid (show PcAt SlAt w.heap.size C r g3 c3 S S v w W0 by rw [hW0]; exact HP1.out.later HK.out (Below.refl _ W).drew)
                  have HR0 := Lib.hid (show RowAt W0 ob 4 (ocV ⟨1, at1, turn, bp, bl, bcp, ox⟩) by rw [hW0]; exact HR.out.later (Below.refl _ W).drew)
                  clear hW0 HP1 HR q0 q1 q2 q3
                  refine lexH_yieldE rfl rfl ?_
                  apply Exists.intro
                  refine ⟨fun W hW => ?_, ?_⟩
                  focus (go_simp; exact rfl)
                  simp only [List.getElem_toArray, List.getElem_cons_zero, Act.put, List.setIfInBounds_toArray, List.set_cons_zero, List.set_cons_succ]
                  refine lexH_yieldE rfl rfl ?_
                  apply Exists.intro
                  refine ⟨fun W hW => ?_, ?_⟩
                  focus (go_simp; exact rfl)
                  simp only [List.getElem_toArray, List.getElem_cons_succ, List.getElem_cons_zero, Act.put, List.setIfInBounds_toArray, List.set_cons_zero, List.set_cons_succ]
                  refine lexH_load rfl rfl _ _ rfl rfl L1.out ?_
                  simp only [List.getElem_toArray, List.getElem_cons_succ, List.getElem_cons_zero, Act.put, List.setIfInBounds_toArray, List.set_cons_zero, List.set_cons_succ]
                  refine lexH_yieldE rfl rfl ?_
                  apply Exists.intro
                  refine ⟨fun W hW => ?_, ?_⟩
                  focus (go_simp; exact rfl)
                  simp only [List.getElem_toArray, List.getElem_cons_succ, List.getElem_cons_zero, Act.put, List.setIfInBounds_toArray, List.set_cons_zero, List.set_cons_succ]
                  refine lexH_yieldE rfl rfl ?_
                  apply Exists.intro
                  refine ⟨fun W hW => ?_, ?_⟩
                  focus (go_simp; exact rfl)
                  simp only [List.getElem_toArray, List.getElem_cons_succ, List.getElem_cons_zero, Act.put, List.setIfInBounds_toArray, List.set_cons_zero, List.set_cons_succ]
                  refine lexH_load rfl rfl _ _ rfl rfl L1.out ?_
                  simp only [List.getElem_toArray, List.getElem_cons_succ, List.getElem_cons_zero, Act.put, List.setIfInBounds_toArray, List.set_cons_zero, List.set_cons_succ]
                  refine lexH_call 15 #[.pointer (some ⟨C.s, 0, none⟩), .int .i64 at1] rfl rfl ?_ ?_
                  focus (go_simp; done)
                  refine (HK.out.give at1 HP0.out.l.at_).mono ?_
                  rintro e w3 ⟨rfl, hA, ho⟩
                  have HR3 := Lib.hid (HP0.out.opN HR0.out hrob ho)
                  have HP3 := Lib.hid (HP0.out.turn hA ho)
                  refine ⟨_, rfl, HR3.out, ?_⟩
                  clear hA ho HP0 HR0
                  simp only [List.getElem_toArray, List.getElem_cons_succ, List.getElem_cons_zero, Act.put, List.setIfInBounds_toArray, List.set_cons_zero, List.set_cons_succ]
                  refine lexH_call 16 #[.pointer (some ⟨r, 0, none⟩), .int .i64 at1] rfl rfl ?_ ?_
                  focus (go_simp; done)
                  refine (rgive_any HP3.out.ref HI.out at1).mono ?_
                  rintro e w4 ⟨rfl, ⟨v2, hR⟩, ho⟩
                  have HP4 := Lib.hid (HP3.out.turnR HK.out hR ho)
                  refine ⟨_, rfl, opR_stays HR3.out ⟨hrob, hgob⟩ ho, ?_⟩
                  clear hR ho HP3 HR3 L1
                  generalize S.give at1 = q at *
                  obtain ⟨e1, S2⟩ := q
                  dsimp only at HP4
                  simp only [List.getElem_toArray, List.getElem_cons_succ, List.getElem_cons_zero, Act.put, List.setIfInBounds_toArray, List.set_cons_zero, List.set_cons_succ]
                  refine lexH_yieldE rfl rfl ?_
                  apply Exists.intro
                  refine ⟨fun W hW => ?_, ?_⟩
                  focus (go_simp; exact rfl)
                  simp only [List.getElem_toArray, List.getElem_cons_succ, List.getElem_cons_zero, Act.put, List.setIfInBounds_toArray, List.set_cons_zero, List.set_cons_succ]
                  refine lexH_nil ?_
                  go_wp2_with (fail)
                  go_meet
                  exact ⟨S2, _, rfl, HP4⟩
                -- SCAN]
                by_cases hk2 : kind = 2
                -- [SCAN
                · subst hk2
                  have L1 := Lib.hid (show ∀ V, RowAt V ob 4 (ocV ⟨2, at1, turn, bp, bl, bcp, ox⟩) → (loadVar 3 ⟨ob, 1, none⟩).run Try.prog V = .ok (.int .i64 at1) V from fun V hV => run_loadVar_cell (fun _ => by kernel_rfl) (opc_four hV).2.1)
                  have L2 := Lib.hid (show ∀ V, RowAt V ob 4 (ocV ⟨2, at1, turn, bp, bl, bcp, ox⟩) → (loadVar 33 ⟨ob, 2, none⟩).run Try.prog V = .ok (.int .u64 turn) V from fun V hV => run_loadVar_cell (fun _ => by kernel_rfl) (opc_four hV).2.2.1)
                  go_wp2_with (fail)
                  refine wp_region_lex1 (fun V => RowAt V ob 4 (ocV ⟨2, at1, turn, bp, bl, bcp, ox⟩)) [(0, false), (1, false), (2, false), (3, false), (4, false), (6, false), (7, false), (8, false), (9, false), (10, false), (5, true), (11, true), (12, false)]
                    (by kernel_rfl) (by kernel_rfl) rfl (by kernel_rfl) (HR.out.later (Below.refl _ W).drew) ?_
                  intro W0 hW0 hK0
                  clear hK0
                  have HP0 := Lib.hid (show PcAt SlAt w.heap.size C r g3 c3 S S v w W0 by rw [hW0]; exact HP1.out.later HK.out (Below.refl _ W).drew)
                  have HR0 := Lib.hid (show RowAt W0 ob 4 (ocV ⟨2, at1, turn, bp, bl, bcp, ox⟩) by rw [hW0]; exact HR.out.later (Below.refl _ W).drew)
                  clear hW0 HP1 HR q0 q1 q2 q3
                  refine lexH_yieldE rfl rfl ?_
                  apply Exists.intro
                  refine ⟨fun W hW => ?_, ?_⟩
                  focus (go_simp; exact rfl)
                  simp only [List.getElem_toArray, List.getElem_cons_zero, Act.put, List.setIfInBounds_toArray, List.set_cons_zero, List.set_cons_succ]
                  refine lexH_yieldE rfl rfl ?_
                  apply Exists.intro
                  refine ⟨fun W hW => ?_, ?_⟩
                  focus (go_simp; exact rfl)
                  simp only [List.getElem_toArray, List.getElem_cons_succ, List.getElem_cons_zero, Act.put, List.setIfInBounds_toArray, List.set_cons_zero, List.set_cons_succ]
                  refine lexH_load rfl rfl _ _ rfl rfl L1.out ?_
                  simp only [List.getElem_toArray, List.getElem_cons_succ, List.getElem_cons_zero, Act.put, List.setIfInBounds_toArray, List.set_cons_zero, List.set_cons_succ]
                  refine lexH_yieldE rfl rfl ?_
                  apply Exists.intro
                  refine ⟨fun W hW => ?_, ?_⟩
                  focus (go_simp; exact rfl)
                  simp only [List.getElem_toArray, List.getElem_cons_succ, List.getElem_cons_zero, Act.put, List.setIfInBounds_toArray, List.set_cons_zero, List.set_cons_succ]
                  refine lexH_load rfl rfl _ _ rfl rfl L2.out ?_
                  simp only [List.getElem_toArray, List.getElem_cons_succ, List.getElem_cons_zero, Act.put, List.setIfInBounds_toArray, List.set_cons_zero, List.set_cons_succ]
                  refine lexH_yieldE rfl rfl ?_
                  apply Exists.intro
                  refine ⟨fun W hW => ?_, ?_⟩
                  focus (go_simp; exact rfl)
                  simp only [List.getElem_toArray, List.getElem_cons_succ, List.getElem_cons_zero, Act.put, List.setIfInBounds_toArray, List.set_cons_zero, List.set_cons_succ]
                  refine lexH_yieldE rfl rfl ?_
                  apply Exists.intro
                  refine ⟨fun W hW => ?_, ?_⟩
                  focus (go_simp; exact rfl)
                  simp only [List.getElem_toArray, List.getElem_cons_succ, List.getElem_cons_zero, Act.put, List.setIfInBounds_toArray, List.set_cons_zero, List.set_cons_succ]
                  refine lexH_load rfl rfl _ _ rfl rfl L1.out ?_
                  simp only [List.getElem_toArray, List.getElem_cons_succ, List.getElem_cons_zero, Act.put, List.setIfInBounds_toArray, List.set_cons_zero, List.set_cons_succ]
                  refine lexH_yieldE rfl rfl ?_
                  apply Exists.intro
                  refine ⟨fun W hW => ?_, ?_⟩
                  focus (go_simp; exact rfl)
                  simp only [List.getElem_toArray, List.getElem_cons_succ, List.getElem_cons_zero, Act.put, List.setIfInBounds_toArray, List.set_cons_zero, List.set_cons_succ]
                  refine lexH_load rfl rfl _ _ rfl rfl L2.out ?_
                  simp only [List.getElem_toArray, List.getElem_cons_succ, List.getElem_cons_zero, Act.put, List.setIfInBounds_toArray, List.set_cons_zero, List.set_cons_succ]
                  refine lexH_call 17 #[.pointer (some ⟨C.s, 0, none⟩), .int .i64 at1, .int .u64 turn] rfl rfl ?_ ?_
                  focus (go_simp; done)
                  refine (HK.out.mark at1 turn HP0.out.l.at_).mono ?_
                  rintro e w3 ⟨rfl, hA, ho⟩
                  have HR3 := Lib.hid (HP0.out.opN HR0.out hrob ho)
                  have HP3 := Lib.hid (HP0.out.turn hA ho)
                  refine ⟨_, rfl, HR3.out, ?_⟩
                  clear hA ho HP0 HR0
                  simp only [List.getElem_toArray, List.getElem_cons_succ, List.getElem_cons_zero, Act.put, List.setIfInBounds_toArray, List.set_cons_zero, List.set_cons_succ]
                  refine lexH_call 18 #[.pointer (some ⟨r, 0, none⟩), .int .i64 at1, .int .u64 turn] rfl rfl ?_ ?_
                  focus (go_simp; done)
                  refine (rmark_any HP3.out.ref HI.out at1 turn).mono ?_
                  rintro e w4 ⟨rfl, hR, ho⟩
                  have HP4 := Lib.hid (HP3.out.turnR HK.out hR (ho.mono (fun k hk => .inl hk)))
                  refine ⟨_, rfl, opR_stays HR3.out ⟨hrob, hgob⟩ (ho.mono (fun k hk => .inl hk)), ?_⟩
                  clear hR ho HP3 HR3 L1 L2
                  generalize S.mark at1 turn = q at *
                  obtain ⟨e1, S2⟩ := q
                  dsimp only at HP4
                  simp only [List.getElem_toArray, List.getElem_cons_succ, List.getElem_cons_zero, Act.put, List.setIfInBounds_toArray, List.set_cons_zero, List.set_cons_succ]
                  refine lexH_yieldE rfl rfl ?_
                  apply Exists.intro
                  refine ⟨fun W hW => ?_, ?_⟩
                  focus (go_simp; exact rfl)
                  simp only [List.getElem_toArray, List.getElem_cons_succ, List.getElem_cons_zero, Act.put, List.setIfInBounds_toArray, List.set_cons_zero, List.set_cons_succ]
                  refine lexH_nil ?_
                  go_wp2_with (fail)
                  go_meet
                  exact ⟨S2, _, rfl, HP4⟩
                -- SCAN]
                by_cases hk3 : kind = 3
                -- [SCAN
                · subst hk3
                  have L1 := Lib.hid (show ∀ V, RowAt V ob 4 (ocV ⟨3, at1, turn, bp, bl, bcp, ox⟩) → (loadVar 3 ⟨ob, 1, none⟩).run Try.prog V = .ok (.int .i64 at1) V from fun V hV => run_loadVar_cell (fun _ => by kernel_rfl) (opc_four hV).2.1)
                  go_wp2_with (fail)
                  refine wp_region_lex1 (fun V => RowAt V ob 4 (ocV ⟨3, at1, turn, bp, bl, bcp, ox⟩)) [(0, false), (1, false), (2, false), (4, false), (5, false), (6, false), (3, true), (7, true), (8, false)]
                    (by kernel_rfl) (by kernel_rfl) rfl (by kernel_rfl) (HR.out.later (Below.refl _ W).drew) ?_
                  intro W0 hW0 hK0
                  clear hK0
                  have HP0 := Lib.hid (show PcAt SlAt w.heap.size C r g3 c3 S S v w W0 by rw [hW0]; exact HP1.out.later HK.out (Below.refl _ W).drew)
                  have HR0 := Lib.hid (show RowAt W0 ob 4 (ocV ⟨3, at1, turn, bp, bl, bcp, ox⟩) by rw [hW0]; exact HR.out.later (Below.refl _ W).drew)
                  clear hW0 HP1 HR q0 q1 q2 q3
                  refine lexH_yieldE rfl rfl ?_
                  apply Exists.intro
                  refine ⟨fun W hW => ?_, ?_⟩
                  focus (go_simp; exact rfl)
                  simp only [List.getElem_toArray, List.getElem_cons_zero, Act.put, List.setIfInBounds_toArray, List.set_cons_zero, List.set_cons_succ]
                  refine lexH_yieldE rfl rfl ?_
                  apply Exists.intro
                  refine ⟨fun W hW => ?_, ?_⟩
                  focus (go_simp; exact rfl)
                  simp only [List.getElem_toArray, List.getElem_cons_succ, List.getElem_cons_zero, Act.put, List.setIfInBounds_toArray, List.set_cons_zero, List.set_cons_succ]
                  refine lexH_load rfl rfl _ _ rfl rfl L1.out ?_
                  simp only [List.getElem_toArray, List.getElem_cons_succ, List.getElem_cons_zero, Act.put, List.setIfInBounds_toArray, List.set_cons_zero, List.set_cons_succ]
                  refine lexH_yieldE rfl rfl ?_
                  apply Exists.intro
                  refine ⟨fun W hW => ?_, ?_⟩
                  focus (go_simp; exact rfl)
                  simp only [List.getElem_toArray, List.getElem_cons_succ, List.getElem_cons_zero, Act.put, List.setIfInBounds_toArray, List.set_cons_zero, List.set_cons_succ]
                  refine lexH_yieldE rfl rfl ?_
                  apply Exists.intro
                  refine ⟨fun W hW => ?_, ?_⟩
                  focus (go_simp; exact rfl)
                  simp only [List.getElem_toArray, List.getElem_cons_succ, List.getElem_cons_zero, Act.put, List.setIfInBounds_toArray, List.set_cons_zero, List.set_cons_succ]
                  refine lexH_load rfl rfl _ _ rfl rfl L1.out ?_
                  simp only [List.getElem_toArray, List.getElem_cons_succ, List.getElem_cons_zero, Act.put, List.setIfInBounds_toArray, List.set_cons_zero, List.set_cons_succ]
                  refine lexH_call 19 #[.pointer (some ⟨C.s, 0, none⟩), .int .i64 at1] rfl rfl ?_ ?_
                  focus (go_simp; done)
                  refine (HK.out.clr at1 HP0.out.l.at_).mono ?_
                  rintro e w3 ⟨rfl, hA, ho⟩
                  have HR3 := Lib.hid (HP0.out.opN HR0.out hrob ho)
                  have HP3 := Lib.hid (HP0.out.turn hA ho)
                  refine ⟨_, rfl, HR3.out, ?_⟩
                  clear hA ho HP0 HR0
                  simp only [List.getElem_toArray, List.getElem_cons_succ, List.getElem_cons_zero, Act.put, List.setIfInBounds_toArray, List.set_cons_zero, List.set_cons_succ]
                  refine lexH_call 20 #[.pointer (some ⟨r, 0, none⟩), .int .i64 at1] rfl rfl ?_ ?_
                  focus (go_simp; done)
                  refine (rclear_any HP3.out.ref HI.out at1).mono ?_
                  rintro e w4 ⟨rfl, hR, ho⟩
                  have HP4 := Lib.hid (HP3.out.turnR HK.out hR (ho.mono (fun k hk => .inl hk)))
                  refine ⟨_, rfl, opR_stays HR3.out ⟨hrob, hgob⟩ (ho.mono (fun k hk => .inl hk)), ?_⟩
                  clear hR ho HP3 HR3 L1
                  generalize S.clr at1 = q at *
                  obtain ⟨e1, S2⟩ := q
                  dsimp only at HP4
                  simp only [List.getElem_toArray, List.getElem_cons_succ, List.getElem_cons_zero, Act.put, List.setIfInBounds_toArray, List.set_cons_zero, List.set_cons_succ]
                  refine lexH_yieldE rfl rfl ?_
                  apply Exists.intro
                  refine ⟨fun W hW => ?_, ?_⟩
                  focus (go_simp; exact rfl)
                  simp only [List.getElem_toArray, List.getElem_cons_succ, List.getElem_cons_zero, Act.put, List.setIfInBounds_toArray, List.set_cons_zero, List.set_cons_succ]
                  refine lexH_nil ?_
                  go_wp2_with (fail)
                  go_meet
                  exact ⟨S2, _, rfl, HP4⟩
                -- SCAN]
                by_cases hk4 : kind = 4
                · subst hk4
                  have hgood : S.has at1 = true ∧ S.out at1.toNat = true := by
                    refine ⟨?_, ?_⟩
                    · cases h : S.has at1 with
                      | true => rfl
                      | false => exact absurd ⟨rfl, .inl h⟩ HCN.out
                    · cases h : S.out at1.toNat with
                      | true => rfl
                      | false => exact absurd ⟨rfl, .inr h⟩ HCN.out
                  have hin := has_iff.1 hgood.1
                  obtain ⟨i, rfl⟩ : ∃ i : Nat, at1 = i := ⟨at1.toNat, by omega⟩
                  have h1 : i < S.n := by omega
                  have ho : S.out i = true := by
                    have h := hgood.2
                    rw [Int.toNat_natCast] at h
                    exact h
                  have hn32 := HI.out.parts.2.2.2.1
                  have hi32 : i < 32 := by omega
                  have hi32I : (i : Int) < 32 := by omega
                  have hd0 : decide ((i : Int) < 0) = false := decide_eq_false (by omega)
                  have hd1 : decide (S.n ≤ i) = false := decide_eq_false (by omega)
                  have HPD := Lib.hid (HP1.out.later HK.out (Below.refl W.heap.size W).drew)
                  have HRD := Lib.hid (HR.out.later (Below.refl W.heap.size W).drew)
                  have HFIT := Lib.hid (HI.out.fit h1)
                  have HBI := Lib.hid (fun (j : Nat) (hj : j ≤ S.sz) => bS_inv HI.out h1 ho hj ox)
                  have HPL := Lib.hid (show S.place (i : Int) = ((S.pos i : Int), (S.pos i + S.sz : Int)) by unfold Sl.place; rw [if_pos hgood.1, Int.toNat_natCast])
                  have L1 := Lib.hid (show ∀ V, V = W.drew → (loadVar 3 ⟨ob, 1, none⟩).run Try.prog V = .ok (.int .i64 i) V from fun V hV => run_loadVar_cell (fun _ => by kernel_rfl) (by rw [hV]; exact (opc_four HR.out).2.1))
                  have LN := Lib.hid (show ∀ V, V = W.drew → (loadVar 3 ⟨r, 3, none⟩).run Try.prog V = .ok (.int .i64 S.n) V from fun V hV => run_loadVar_cell (fun _ => by kernel_rfl) (by rw [hV]; exact HP1.out.ref.c3))
                  have LO := Lib.hid (show ∀ V, V = W.drew → (loadVar 4 ⟨r, 5 + i, none⟩).run Try.prog V = .ok (.bool true) V from fun V hV => run_loadVar_cell (fun _ => by kernel_rfl) (by rw [hV]; have h := HP1.out.ref.co (i := i) hi32; rw [ho] at h; exact h))
                  generalize S.n = nn at *
                  go_wp2_with (fail)
                  refine wp_region_lex1 (fun V => V = W.drew) [(0, false), (1, false), (2, false), (3, false), (4, false), (5, false), (6, false), (7, false), (8, false), (9, false), (10, false), (11, false), (12, false), (13, false), (14, false), (15, false), (16, false), (17, false), (18, false), (19, false), (20, false), (21, false)]
                    (by kernel_rfl) (by kernel_rfl) rfl (by kernel_rfl) rfl ?_
                  intro V0 hV0 hK0
                  clear hK0
                  subst hV0
                  refine lexH_yieldE rfl rfl ?_
                  apply Exists.intro
                  refine ⟨fun W hW => ?_, ?_⟩
                  focus (go_simp; exact rfl)
                  simp only [List.getElem_toArray, List.getElem_cons_zero, Act.put, List.setIfInBounds_toArray, List.set_cons_zero, List.set_cons_succ]
                  refine lexH_load rfl rfl _ _ rfl rfl L1.out ?_
                  simp only [List.getElem_toArray, List.getElem_cons_succ, List.getElem_cons_zero, Act.put, List.setIfInBounds_toArray, List.set_cons_zero, List.set_cons_succ]
                  refine lexH_yieldE rfl rfl ?_
                  apply Exists.intro
                  refine ⟨fun W hW => ?_, ?_⟩
                  focus (go_simp; exact rfl)
                  simp only [List.getElem_toArray, List.getElem_cons_succ, List.getElem_cons_zero, Act.put, List.setIfInBounds_toArray, List.set_cons_zero, List.set_cons_succ]
                  refine lexH_yieldE rfl rfl ?_
                  apply Exists.intro
                  refine ⟨fun W hW => ?_, ?_⟩
                  focus (go_simp; exact rfl)
                  simp only [List.getElem_toArray, List.getElem_cons_succ, List.getElem_cons_zero, Act.put, List.setIfInBounds_toArray, List.set_cons_zero, List.set_cons_succ]
                  refine lexH_yieldE rfl rfl ?_
                  apply Exists.intro
                  refine ⟨fun W hW => ?_, ?_⟩
                  focus (go_simp; exact rfl)
                  simp only [List.getElem_toArray, List.getElem_cons_succ, List.getElem_cons_zero, Act.put, List.setIfInBounds_toArray, List.set_cons_zero, List.set_cons_succ]
                  refine lexH_load rfl rfl _ _ rfl rfl L1.out ?_
                  simp only [List.getElem_toArray, List.getElem_cons_succ, List.getElem_cons_zero, Act.put, List.setIfInBounds_toArray, List.set_cons_zero, List.set_cons_succ]
                  refine lexH_yieldE rfl rfl ?_
                  apply Exists.intro
                  refine ⟨fun W hW => ?_, ?_⟩
                  focus (go_simp; exact rfl)
                  simp only [List.getElem_toArray, List.getElem_cons_succ, List.getElem_cons_zero, Act.put, List.setIfInBounds_toArray, List.set_cons_zero, List.set_cons_succ]
                  refine lexH_yieldE rfl rfl ?_
                  apply Exists.intro
                  refine ⟨fun W hW => ?_, ?_⟩
                  focus (go_simp; exact rfl)
                  simp only [List.getElem_toArray, List.getElem_cons_succ, List.getElem_cons_zero, Act.put, List.setIfInBounds_toArray, List.set_cons_zero, List.set_cons_succ]
                  refine lexH_yieldE rfl rfl ?_
                  apply Exists.intro
                  refine ⟨fun W hW => ?_, ?_⟩
                  focus (go_simp; exact rfl)
                  simp only [List.getElem_toArray, List.getElem_cons_succ, List.getElem_cons_zero, Act.put, List.setIfInBounds_toArray, List.set_cons_zero, List.set_cons_succ]
                  refine lexH_load rfl rfl _ _ rfl rfl LN.out ?_
                  simp only [List.getElem_toArray, List.getElem_cons_succ, List.getElem_cons_zero, Act.put, List.setIfInBounds_toArray, List.set_cons_zero, List.set_cons_succ]
                  refine lexH_yieldE rfl rfl ?_
                  apply Exists.intro
                  refine ⟨fun W hW => ?_, ?_⟩
                  focus (go_simp; exact rfl)
                  simp only [List.getElem_toArray, List.getElem_cons_succ, List.getElem_cons_zero, Act.put, List.setIfInBounds_toArray, List.set_cons_zero, List.set_cons_succ]
                  refine lexH_yieldE rfl rfl ?_
                  apply Exists.intro
                  refine ⟨fun W hW => ?_, ?_⟩
                  focus (go_simp; exact rfl)
                  simp only [List.getElem_toArray, List.getElem_cons_succ, List.getElem_cons_zero, Act.put, List.setIfInBounds_toArray, List.set_cons_zero, List.set_cons_succ]
                  refine lexH_yieldE rfl rfl ?_
                  apply Exists.intro
                  refine ⟨fun W hW => ?_, ?_⟩
                  focus (go_simp; exact rfl)
                  simp only [List.getElem_toArray, List.getElem_cons_succ, List.getElem_cons_zero, Act.put, List.setIfInBounds_toArray, List.set_cons_zero, List.set_cons_succ]
                  refine lexH_yieldE rfl rfl ?_
                  apply Exists.intro
                  refine ⟨fun W hW => ?_, ?_⟩
                  focus (go_simp; exact rfl)
                  simp only [List.getElem_toArray, List.getElem_cons_succ, List.getElem_cons_zero, Act.put, List.setIfInBounds_toArray, List.set_cons_zero, List.set_cons_succ]
                  refine lexH_yieldE rfl rfl ?_
                  apply Exists.intro
                  refine ⟨fun W hW => ?_, ?_⟩
                  focus (go_simp; exact rfl)
                  simp only [List.getElem_toArray, List.getElem_cons_succ, List.getElem_cons_zero, Act.put, List.setIfInBounds_toArray, List.set_cons_zero, List.set_cons_succ]
                  refine lexH_load rfl rfl _ _ rfl rfl L1.out ?_
                  simp only [List.getElem_toArray, List.getElem_cons_succ, List.getElem_cons_zero, Act.put, List.setIfInBounds_toArray, List.set_cons_zero, List.set_cons_succ]
                  refine lexH_yieldE rfl rfl ?_
                  apply Exists.intro
                  refine ⟨fun W hW => ?_, ?_⟩
                  focus (go_simp; exact rfl)
                  simp only [List.getElem_toArray, List.getElem_cons_succ, List.getElem_cons_zero, Act.put, List.setIfInBounds_toArray, List.set_cons_zero, List.set_cons_succ]
                  refine lexH_yieldE rfl rfl ?_
                  apply Exists.intro
                  refine ⟨fun W hW => ?_, ?_⟩
                  focus (go_simp; exact rfl)
                  simp only [List.getElem_toArray, List.getElem_cons_succ, List.getElem_cons_zero, Act.put, List.setIfInBounds_toArray, List.set_cons_zero, List.set_cons_succ]
                  refine lexH_yieldE rfl rfl ?_
                  apply Exists.intro
                  refine ⟨fun W hW => ?_, ?_⟩
                  focus (go_simp; exact rfl)
                  simp only [List.getElem_toArray, List.getElem_cons_succ, List.getElem_cons_zero, Act.put, List.setIfInBounds_toArray, List.set_cons_zero, List.set_cons_succ]
                  refine lexH_load rfl rfl _ _ rfl rfl LO.out ?_
                  simp only [List.getElem_toArray, List.getElem_cons_succ, List.getElem_cons_zero, Act.put, List.setIfInBounds_toArray, List.set_cons_zero, List.set_cons_succ]
                  refine lexH_yieldE rfl rfl ?_
                  apply Exists.intro
                  refine ⟨fun W hW => ?_, ?_⟩
                  focus (go_simp; exact rfl)
                  simp only [List.getElem_toArray, List.getElem_cons_succ, List.getElem_cons_zero, Act.put, List.setIfInBounds_toArray, List.set_cons_zero, List.set_cons_succ]
                  refine lexH_yieldE rfl rfl ?_
                  apply Exists.intro
                  refine ⟨fun W hW => ?_, ?_⟩
                  focus (go_simp; exact rfl)
                  simp only [List.getElem_toArray, List.getElem_cons_succ, List.getElem_cons_zero, Act.put, List.setIfInBounds_toArray, List.set_cons_zero, List.set_cons_succ]
                  refine lexH_nil ?_
                  clear L1 LN LO q0 q1 q2 q3 hgood hin h1 ho hd0 hd1 HP1 HR
                  generalize W.drew = W1 at *
                  obtain ⟨q0, q1, q2, q3⟩ := opc_four HRD.out
                  dsimp only at q0 q1 q2 q3
                  go_wp2_with (fail)
                  refine (rat_any HPD.out.ref HI.out i).mono ?_
                  rintro e w4 ⟨rfl, hb⟩
                  rw [HPL.out]
                  have HP4 := Lib.hid (HPD.out.later HK.out hb)
                  have HR4 := Lib.hid (HRD.out.later hb)
                  clear hb HPD HRD q0 q1 q2 q3
                  go_wp2_with (fail)
                  have hfit := HFIT.out
                  have hsz := HI.out.parts.2.1
                  obtain ⟨p, hp⟩ : ∃ p, S.pos i = p := ⟨_, rfl⟩
                  rw [hp] at hfit HBI
                  rw [hp]
                  have HPB := Lib.hid (show PcAt SlAt w.heap.size C r g3 c3 (bS S p 0 ox) (bS S p 0 ox) v w w4 by rw [bS_zero]; exact HP4.out)
                  clear HP4 HPL hp HFIT
                  generalize S.sz = sz at *
                  go_loopw [22] (fun q wr => ∃ j : Nat, j ≤ sz ∧ j ≤ bl ∧ q = .int .i64 j ∧ Hid (PcAt SlAt w.heap.size C r g3 c3 (bS S p j ox) (bS S p j ox) v w wr) ∧ Hid (RowAt wr ob 4 (ocV ⟨4, i, turn, bp, bl, bcp, ox⟩))) (fun q _ => bl - (intOf q).toNat)
                  case atStart => exact ⟨0, Nat.zero_le _, Nat.zero_le _, rfl, HPB, HR4⟩
                  case round =>
                    clear HPB HR4
                    obtain ⟨j, hj1, hj2, rfl, HP, HR⟩ := hrel
                    obtain ⟨q0, q1, q2, q3⟩ := opc_four HR.out
                    dsimp only at q0 q1 q2 q3
                    by_cases hjb : j < bl
                    · have hjbI : (j : Int) < (bl : Int) := by omega
                      by_cases hjs : j < sz
                      · have hjsI : (p : Int) + (j : Int) < (p : Int) + (sz : Int) := by omega
                        obtain ⟨b2, o2, rfl, hb2, hcc⟩ := HSR.out.plain (by omega)
                        have cb : wr.cell? ⟨b2, o2 + j, none⟩ = some (byV ox j) := by rw [HP.out.l.bel.cell (p := ⟨b2, o2 + j, none⟩) hb2]; exact hcc j hjb
                        have hrow := HK.out.byt HP.out.l.at_
                        have hp256 : p + j < 256 := by omega
                        have ct : wr.cell? ⟨C.b, p + j, none⟩ = some (byV (bS S p j ox).bt (p + j)) := hrow.cell _ hp256
                        have ft : wr.frozen? ⟨C.b, p + j, none⟩ = false := hrow.frozen _
                        unfold byV at cb ct
                        have hpjI : (p : Int) + (j : Int) < 256 := by omega
                        have hor1 : Only (fun k => k = C.b) wr (wr.setCell ⟨C.b, p + j, none⟩ (.int .u8 (ox j).toNat)) := Only.setCell (S := fun k => k = C.b) _ ⟨C.b, p + j, none⟩ rfl _
                        have hCr : C.b < r := HP.out.cr _ (.inr rfl)
                        have hP1 : PcAt SlAt w.heap.size C r g3 c3 (bS S p (j + 1) ox) (bS S p j ox) v w (wr.setCell ⟨C.b, p + j, none⟩ (.int .u8 (ox j).toNat)) :=
                          ⟨HP.out.l.bytes HK.out hor1 (row_bS hrow) (HBI.out (j + 1) hjs), HP.out.ref.aside hor1 (fun k hk => by rw [hk]; exact hCr) (fun h => HP.out.cb (.inr h)), HP.out.cr, HP.out.cb, HP.out.rB, HP.out.bB⟩
                        have hPD := hP1.later HK.out (Below.refl (wr.setCell ⟨C.b, p + j, none⟩ (.int .u8 (ox j).toNat)).heap.size (wr.setCell ⟨C.b, p + j, none⟩ (.int .u8 (ox j).toNat))).drew
                        have hRD : RowAt (wr.setCell ⟨C.b, p + j, none⟩ (.int .u8 (ox j).toNat)).drew ob 4 (ocV ⟨4, i, turn, some ⟨b2, o2, none⟩, bl, bcp, ox⟩) := (HR.out.only hor1 (by omega)).later (Below.refl (wr.setCell ⟨C.b, p + j, none⟩ (.int .u8 (ox j).toNat)).heap.size (wr.setCell ⟨C.b, p + j, none⟩ (.int .u8 (ox j).toNat))).drew
                        have hor2 : Only (fun k => k = g3) (wr.setCell ⟨C.b, p + j, none⟩ (.int .u8 (ox j).toNat)).drew ((wr.setCell ⟨C.b, p + j, none⟩ (.int .u8 (ox j).toNat)).drew.setCell ⟨g3, p + j, none⟩ (.int .u8 (ox j).toNat)) := Only.setCell (S := fun k => k = g3) _ ⟨g3, p + j, none⟩ rfl _
                        have HPF := Lib.hid (show PcAt SlAt w.heap.size C r g3 c3 (bS S p (j + 1) ox) (bS S p (j + 1) ox) v w ((wr.setCell ⟨C.b, p + j, none⟩ (.int .u8 (ox j).toNat)).drew.setCell ⟨g3, p + j, none⟩ (.int .u8 (ox j).toNat)) from
                          ⟨hPD.l.only HK.out hor2 (fun k hk e => hPD.cb (by rw [← e]; exact hk)) (fun k e => by rw [e]; exact hPD.bB), hPD.ref.wrote hor2 (row_bS hPD.ref.byt), hPD.cr, hPD.cb, hPD.rB, hPD.bB⟩)
                        have HRF := Lib.hid (hRD.only hor2 (by omega))
                        have hrg := hPD.ref.ne
                        have hb2g : b2 ≠ g3 := by have := hPD.bB; omega
                        have L0 := Lib.hid (show ∀ V, Only (fun k => k = g3) (wr.setCell ⟨C.b, p + j, none⟩ (.int .u8 (ox j).toNat)).drew V → (loadVar 22 ⟨r, 0, none⟩).run Try.prog V = .ok (.slice (some ⟨g3, 0, none⟩) 256 c3) V from fun V hV => run_loadVar_cell (fun _ => by kernel_rfl) (hV.cell hrg hPD.ref.c0))
                        have L3 := Lib.hid (show ∀ V, Only (fun k => k = g3) (wr.setCell ⟨C.b, p + j, none⟩ (.int .u8 (ox j).toNat)).drew V → (loadVar 22 ⟨ob, 3, none⟩).run Try.prog V = .ok (.slice (some ⟨b2, o2, none⟩) bl bcp) V from fun V hV => run_loadVar_cell (fun _ => by kernel_rfl) (hV.cell (by omega) (opc_four hRD).2.2.2))
                        have LB := Lib.hid (show ∀ V, Only (fun k => k = g3) (wr.setCell ⟨C.b, p + j, none⟩ (.int .u8 (ox j).toNat)).drew V → (loadVar 5 ⟨b2, o2 + j, none⟩).run Try.prog V = .ok (.int .u8 (ox j).toNat) V from fun V hV => run_loadVar_cell (fun _ => by kernel_rfl) (hV.cell hb2g (by rw [hPD.l.bel.cell (p := ⟨b2, o2 + j, none⟩) hb2]; exact hcc j hjb)))
                        have cg : (wr.setCell ⟨C.b, p + j, none⟩ (.int .u8 (ox j).toNat)).drew.cell? ⟨g3, p + j, none⟩ = some (byV (bS S p j ox).bt (p + j)) := hPD.ref.byt.cell _ hp256
                        have fg : (wr.setCell ⟨C.b, p + j, none⟩ (.int .u8 (ox j).toNat)).drew.frozen? ⟨g3, p + j, none⟩ = false := hPD.ref.byt.frozen _
                        unfold byV at cg
                        have hwk : IntKind.i64.wrap ((p : Int) + (j : Int)) = ((p + j : Nat) : Int) := by rw [IntKind.wrap_i64]; omega
                        have HLT := Lib.hid (show j + 1 ≤ sz ∧ j + 1 ≤ bl from ⟨hjs, hjb⟩)
                        clear hor1 hP1 hPD hRD hor2 hrow HP HR
                        go_wp2_with (fail)
                        clear ct ft cb q0 q1 q2 q3
                        refine wp_region_lex1 (Only (fun k => k = g3) (wr.setCell ⟨C.b, p + j, none⟩ (.int .u8 (ox j).toNat)).drew) [(0, false), (1, false), (2, false), (3, false), (4, false), (5, false), (6, false), (7, false), (8, false), (9, false), (10, false), (11, false), (12, false), (13, true)]
                          (by kernel_rfl) (by kernel_rfl) rfl (by kernel_rfl) (Only.refl _ _) ?_
                        intro V0 hV0 hK0
                        clear hK0
                        subst hV0
                        obtain ⟨q, hq⟩ : ∃ q, p + j = q := ⟨_, rfl⟩
                        rw [hq] at hwk HPF HRF cg fg hp256 L0 L3 LB ⊢
                        have hq256 : (q : Int) < 256 := by omega
                        clear hq hpjI hjsI hfit
                        generalize (wr.setCell ⟨C.b, q, none⟩ (.int .u8 (ox j).toNat)).drew = V0 at *
                        generalize (ox j).toNat = y at *
                        refine lexH_yieldE rfl rfl ?_
                        apply Exists.intro
                        refine ⟨fun W hW => ?_, ?_⟩
                        focus (go_simp; exact rfl)
                        simp only [List.getElem_toArray, List.getElem_cons_zero, Act.put, List.setIfInBounds_toArray, List.set_cons_zero, List.set_cons_succ]
                        refine lexH_yieldE rfl rfl ?_
                        apply Exists.intro
                        refine ⟨fun W hW => ?_, ?_⟩
                        focus (go_simp; exact rfl)
                        simp only [List.getElem_toArray, List.getElem_cons_succ, List.getElem_cons_zero, Act.put, List.setIfInBounds_toArray, List.set_cons_zero, List.set_cons_succ]
                        refine lexH_yieldE rfl rfl ?_
                        apply Exists.intro
                        refine ⟨fun W hW => ?_, ?_⟩
                        focus (go_simp; exact rfl)
                        simp only [List.getElem_toArray, List.getElem_cons_succ, List.getElem_cons_zero, Act.put, List.setIfInBounds_toArray, List.set_cons_zero, List.set_cons_succ]
                        refine lexH_load rfl rfl _ _ rfl rfl L0.out ?_
                        simp only [List.getElem_toArray, List.getElem_cons_succ, List.getElem_cons_zero, Act.put, List.setIfInBounds_toArray, List.set_cons_zero, List.set_cons_succ]
                        refine lexH_yieldE rfl rfl ?_
                        apply Exists.intro
                        refine ⟨fun W hW => ?_, ?_⟩
                        focus (go_simp; exact rfl)
                        simp only [List.getElem_toArray, List.getElem_cons_succ, List.getElem_cons_zero, Act.put, List.setIfInBounds_toArray, List.set_cons_zero, List.set_cons_succ]
                        refine lexH_yieldE rfl rfl ?_
                        apply Exists.intro
                        refine ⟨fun W hW => ?_, ?_⟩
                        focus (go_simp; exact rfl)
                        simp only [List.getElem_toArray, List.getElem_cons_succ, List.getElem_cons_zero, Act.put, List.setIfInBounds_toArray, List.set_cons_zero, List.set_cons_succ]
                        refine lexH_yieldE rfl rfl ?_
                        apply Exists.intro
                        refine ⟨fun W hW => ?_, ?_⟩
                        focus (go_simp; exact rfl)
                        simp only [List.getElem_toArray, List.getElem_cons_succ, List.getElem_cons_zero, Act.put, List.setIfInBounds_toArray, List.set_cons_zero, List.set_cons_succ]
                        refine lexH_yieldE rfl rfl ?_
                        apply Exists.intro
                        refine ⟨fun W hW => ?_, ?_⟩
                        focus (go_simp; exact rfl)
                        simp only [List.getElem_toArray, List.getElem_cons_succ, List.getElem_cons_zero, Act.put, List.setIfInBounds_toArray, List.set_cons_zero, List.set_cons_succ]
                        refine lexH_load rfl rfl _ _ rfl rfl L3.out ?_
                        simp only [List.getElem_toArray, List.getElem_cons_succ, List.getElem_cons_zero, Act.put, List.setIfInBounds_toArray, List.set_cons_zero, List.set_cons_succ]
                        refine lexH_yieldE rfl rfl ?_
                        apply Exists.intro
                        refine ⟨fun W hW => ?_, ?_⟩
                        focus (go_simp; exact rfl)
                        simp only [List.getElem_toArray, List.getElem_cons_succ, List.getElem_cons_zero, Act.put, List.setIfInBounds_toArray, List.set_cons_zero, List.set_cons_succ]
                        refine lexH_yieldE rfl rfl ?_
                        apply Exists.intro
                        refine ⟨fun W hW => ?_, ?_⟩
                        focus (go_simp; exact rfl)
                        simp only [List.getElem_toArray, List.getElem_cons_succ, List.getElem_cons_zero, Act.put, List.setIfInBounds_toArray, List.set_cons_zero, List.set_cons_succ]
                        refine lexH_load rfl rfl _ _ rfl rfl LB.out ?_
                        simp only [List.getElem_toArray, List.getElem_cons_succ, List.getElem_cons_zero, Act.put, List.setIfInBounds_toArray, List.set_cons_zero, List.set_cons_succ]
                        refine lexH_yieldE rfl rfl ?_
                        apply Exists.intro
                        refine ⟨fun W hW => ?_, ?_⟩
                        focus (go_simp; exact rfl)
                        simp only [List.getElem_toArray, List.getElem_cons_succ, List.getElem_cons_zero, Act.put, List.setIfInBounds_toArray, List.set_cons_zero, List.set_cons_succ]
                        refine lexH_eff rfl rfl ?_
                        unfold Oper.wp
                        go_simp
                        refine ⟨Only.setCell (S := fun k => k = g3) _ ⟨g3, q, none⟩ rfl _, ?_⟩
                        clear L0 L3 LB
                        refine lexH_nil ?_
                        go_wp2_with (fail)
                        go_roundw
                        case rel => exact ⟨j + 1, HLT.out.1, HLT.out.2, by go_num, HPF, HRF⟩
                        case measure => simp [intOf]; omega
                      · have hjsI : ¬ (p : Int) + (j : Int) < (p : Int) + (sz : Int) := by omega
                        have hjsI2 : ¬ (j : Int) < (sz : Int) := by omega
                        go_wp2_with (fail)
                        go_meet
                        exact ⟨_, v, rfl, HP⟩
                    · have hjbI : ¬ (j : Int) < (bl : Int) := by omega
                      go_wp2_with (fail)
                      go_meet
                      exact ⟨_, v, rfl, HP⟩
                have e0 : (kind == 0) = false := by simpa using hk0
                have e1 : (kind == 1) = false := by simpa using hk1
                have e2 : (kind == 2) = false := by simpa using hk2
                have e3 : (kind == 3) = false := by simpa using hk3
                have e4 : (kind == 4) = false := by simpa using hk4
                clear hk0 hk1 hk2 hk3 hk4
                go_wp2_with (fail)
                go_meet
                exact ⟨S, v, rfl, HP1⟩
              case rest =>
                obtain ⟨S', v', rfl, HP'⟩ := hcut
                clear HP1 HR HCN HI
                go_wp2_with (fail)
                refine (csame_any HK.out HP'.out.l.at_ HP'.out.ref).mono ?_
                rintro e w5 ⟨rfl, hb⟩
                have HP5 := Lib.hid (HP'.out.later HK.out hb)
                clear hb HP'
                go_wp2_with (fail)
                go_roundw
                case rel => exact ⟨k + 1, S', v', by omega, by go_num, HP5⟩
                case measure => simp [intOf]; omega
          · obtain rfl : k = len := by omega
            go_wp2_with (fail)
            refine (cknown_any HK.out _).mono ?_
            rintro e w6 ⟨rfl, hb⟩
            have HB6 := Lib.hid (HP.out.l.ends hb)
            clear hb
            go_wp2_with (fail)
            go_ret
            exact ⟨rfl, HB6.out⟩
      · have hbad : n ≠ 256 ∨ mayC size colour = false := by
          by_cases h : n = 256
          · right
            by_cases h2 : mayC size colour = true
            · exact absurd ⟨h, h2⟩ hok
            · simpa using h2
          · exact .inl h
        have HBD := Lib.hid hbad
        clear hok hbad
        refine (HK.out.newNo a1 n c1 size colour w1 HBD.out).mono ?_
        rintro e w2 ⟨rfl, hb2⟩
        have HB2 := Lib.hid (HB1.out.trans (hb2.mono HB1.out.size))
        have HS2 := Lib.hid (HS1.out.later hb2)
        have hba : Below w2.heap.size w2 (w2.alloc (.cells #[] 5)) := (Below.refl _ _).alloc (Nat.le_refl _) _
        have HE2 := Lib.hid (World.ownsRow_made w2 (e := 5) (base := w2.heap.size) (size := 1) #[] 0 (Nat.le_refl _) (Nat.zero_le _) (by simp))
        have HSA2 := Lib.hid (((HS.out.later HB2.out).later hba).cells)
        have HBA2 := Lib.hid hba
        clear hba hb2 HB1 HS1 HK1
        go_wp2_with (first | (at_builtin; refine wpList_append_src _ rfl _ _ 22 rfl w2.heap.size 5 i0 _ 1 1 Try.underlying22 hi hz0 hz1 hz2 rfl (by decide) (.slice (some ⟨w2.heap.size, 0, none⟩) 0 0) 0 [] rfl HE2.out a n c (bytL n x) rfl (by rw [bytL_len, Nat.mul_one]) HSA2.out (bytL_one _ _) (by unfold maxLen; omega) (by omega) HBA2.out.size ?_; intro v3 w3 hown3 hgr3 _; rw [Nat.zero_add, List.nil_append] at hown3; obtain ⟨a3, c3, rfl, hs3, hk3⟩ := bytes_own hown3) | fail)
        have hb3 : Below w2.heap.size w2 w3 := (Only.of_grown hgr3).below HBA2.out HBA2.out.size (fun q hq => by simp [Value.ownBlock] at hq; omega)
        have HB3 := Lib.hid (HB2.out.trans (hb3.mono HB2.out.size))
        have HS3 := Lib.hid (HS2.out.later hb3)
        have HSO := Lib.hid (HS.out.later HB3.out)
        clear hown3 hgr3 hb3 hs3 hk3 HE2 HSA2 HBA2 HS2 HB2
        refine (rnew_no a3 n c3 size colour w3 HBD.out).mono ?_
        rintro e w' ⟨rfl, rfl⟩
        have hcv1 : (convert 22 9 (.slice a1 n c1)).run Try.prog w3 = .ok (.string (strB n x)) w3 := run_string_src HS3.out
        have hcv2 : (convert 22 9 (.slice a n c)).run Try.prog w3 = .ok (.string (strB n x)) w3 := run_string_src HSO.out
        generalize strB n x = str at *
        go_wp2_with (fail)
        clear hcv1 hcv2
        refine (cknown_any HK.out _).mono ?_
        rintro e w4 ⟨rfl, hb⟩
        have HB := Lib.hid (HB3.out.trans (hb.mono HB3.out.size))
        clear hb
        go_wp2_with (fail)
        go_ret
        exact ⟨rfl, HB.out⟩
    · have hlI : 150 < (len : Int) := by omega
      go_enter Try.func3, Try.ntmps3
      go_wp2_with (fail)
      refine (cknown_any HK.out _).mono ?_
      rintro e w3 ⟨rfl, hb⟩
      have HB := Lib.hid hb
      clear hb
      go_wp2_with (fail)
      go_ret
      exact ⟨rfl, HB.out⟩
  · have hn3I : 300 < (n : Int) := by omega
    go_enter Try.func3, Try.ntmps3
    go_wp2_with (fail)
    refine (cknown_any HK.out _).mono ?_
    rintro e w3 ⟨rfl, hb⟩
    have HB := Lib.hid hb
    clear hb
    go_wp2_with (fail)
    go_ret
    exact ⟨rfl, HB.out⟩
end
end Go.Proofs.Ytifiecfkcikdmaa
