/-
  The walk of MagazinePlays: it returns true, and below the old heap nothing has turned.
-/
import Derived.Test.YtaadjgnfihkaeaaMgBoth
import Derived.Deep.DeepCutAuto
import Derived.Deep.CutBlock
namespace Go.Proofs.Ytaadjgnfihkaeaa
open Go.RowKit Go

theorem infoOpM : (Try.prog.info? 35).map (·.size) = some 4 := by kernel_rfl
theorem store_opm (w : World) (Z : Array Value) (hz : Z.size = 4) (o : OpM) :
    (storeVar 35 ⟨w.heap.size, 0, none⟩ (.agg o.arr)).run Try.prog (w.alloc (.cells Z 35)) = .ok () (w.alloc (.cells o.arr 35)) :=
  run_storeVar_new (P := Try.prog) w 35 Z _ infoOpM hz (by simp [OpM.arr, Value.oneCell'])
theorem opm_row (w : World) (o : OpM) : RowAt (w.alloc (.cells o.arr 35)) w.heap.size 4 (omV o) :=
  RowAt.new w _ _ _ _ fun i hi => by
    rcases (show i = 0 ∨ i = 1 ∨ i = 2 ∨ i = 3 by omega) with rfl | rfl | rfl | rfl <;> rfl
theorem opm_four {w : World} {b : Nat} {o : OpM} (R : RowAt w b 4 (omV o)) : w.cell? ⟨b, 0, none⟩ = some (.int .i64 o.kind) ∧ w.cell? ⟨b, 1, none⟩ = some (.int .i64 o.x) ∧ w.cell? ⟨b, 2, none⟩ = some (.int .i64 o.y) ∧ w.cell? ⟨b, 3, none⟩ = some (.slice o.la o.len o.cap) :=
  ⟨R.cell 0 (by decide), R.cell 1 (by decide), R.cell 2 (by decide), R.cell 3 (by decide)⟩
set_option maxRecDepth 100000 in
set_option maxHeartbeats 8000000 in
theorem lawMPlays_any (nn : Int) (a : Option Addr) (len cap : Nat) (O : Nat → OpM) (w : World) (hO : OpsM w a len O) :
    Calls Try.prog 3 #[.int .i64 nn, .slice a len cap] w fun e w' => e = .returned (.bool true) ∧ Below w.heap.size w w' := by
  have HO := Lib.hid hO
  clear hO
  by_cases hlen : len ≤ 200
  · have hlenI : ¬ (200 < (len : Int)) := by omega
    obtain ⟨i0, hi, hz0, hz1, hz2⟩ := info_parts infoObj
    go_enter Try.func3, Try.ntmps3
    go_wp2_with (fail)
    refine (new_any nn w).mono ?_
    rintro e w1 hN1
    obtain ⟨p0, rfl, hN1b⟩ := id hN1
    have HN1 := Lib.hid hN1
    clear hN1 hN1b
    go_wp2_with (fail)
    refine (rnew_any nn w1).mono ?_
    rintro e w2 hN2
    obtain ⟨p, r, e1, rfl, hD⟩ := DB.new HN1.out hN2
    injection e1 with e1
    injection e1 with e1
    injection e1 with e1
    injection e1 with e1
    subst e1
    have HD := Lib.hid hD
    have h32 := hD.n2
    clear hN2 HN1 hD
    generalize clN nn = N at *
    have L1 := Lib.hid (show ∀ W, Kept w2.heap.size w2 W → (loadVar 3 ⟨r, 0, none⟩).run Try.prog W = .ok (.int .i64 N) W from
      fun W hW => run_loadVar_cell (fun _ => by kernel_rfl) (HD.out.later hW.below).r0)
    go_wp2_with (fail)
    refine wp_region_lex1 (Kept w2.heap.size w2) [(0, false), (2, false), (3, false), (4, false), (5, false), (1, true), (6, false)] (by kernel_rfl) (by kernel_rfl) rfl (by kernel_rfl) (Below.refl _ w2).drew ?_
    intro W0 hW0 hK0
    clear hW0
    refine lexH_yieldE rfl rfl ?_
    apply Exists.intro
    refine ⟨fun W hW => ?_, ?_⟩
    focus (go_simp; exact rfl)
    simp only [List.getElem_toArray, List.getElem_cons_zero, Act.put, List.setIfInBounds_toArray, List.set_cons_zero, List.set_cons_succ]
    refine lexH_yieldE rfl rfl ?_
    apply Exists.intro
    refine ⟨fun W hW => ?_, ?_⟩
    focus (go_simp; exact rfl)
    simp only [List.getElem_toArray, List.getElem_cons_succ, List.getElem_cons_zero, Act.put, List.setIfInBounds_toArray, List.set_cons_zero, List.set_cons_succ]
    refine lexH_yieldE rfl rfl ?_
    apply Exists.intro
    refine ⟨fun W hW => ?_, ?_⟩
    focus (go_simp; exact rfl)
    simp only [List.getElem_toArray, List.getElem_cons_succ, List.getElem_cons_zero, Act.put, List.setIfInBounds_toArray, List.set_cons_zero, List.set_cons_succ]
    refine lexH_yieldE rfl rfl ?_
    apply Exists.intro
    refine ⟨fun W hW => ?_, ?_⟩
    focus (go_simp; exact rfl)
    simp only [List.getElem_toArray, List.getElem_cons_succ, List.getElem_cons_zero, Act.put, List.setIfInBounds_toArray, List.set_cons_zero, List.set_cons_succ]
    refine lexH_load rfl rfl _ _ rfl rfl L1.out ?_
    simp only [List.getElem_toArray, List.getElem_cons_succ, List.getElem_cons_zero, Act.put, List.setIfInBounds_toArray, List.set_cons_zero, List.set_cons_succ]
    refine lexH_call 11 #[.pointer (some ⟨p0, 0, none⟩)] rfl rfl ?_ ?_
    focus (go_simp; done)
    refine (roundsP (HD.out.later hK0.below)).mono ?_
    rintro e w' ⟨rfl, rfl⟩
    refine ⟨_, rfl, hK0, ?_⟩
    simp only [List.getElem_toArray, List.getElem_cons_succ, List.getElem_cons_zero, Act.put, List.setIfInBounds_toArray, List.set_cons_zero, List.set_cons_succ]
    refine lexH_yieldE rfl rfl ?_
    apply Exists.intro
    refine ⟨fun W hW => ?_, ?_⟩
    focus (go_simp; exact rfl)
    simp only [List.getElem_toArray, List.getElem_cons_succ, List.getElem_cons_zero, Act.put, List.setIfInBounds_toArray, List.set_cons_zero, List.set_cons_succ]
    refine lexH_nil ?_
    have HD0 := Lib.hid (HD.out.later hK0.below)
    clear hK0 HD L1
    go_wp2_with (fail)
    go_loopw [39] (fun i wr => ∃ (k : Nat) (L O : Obs), k ≤ len ∧ i = .int .i64 k ∧ Hid (DB w p0 r N L O L O (fun _ => False) wr)) (fun i _ => len - (intOf i).toNat)
    case atStart => exact ⟨0, _, _, Nat.zero_le _, rfl, HD0⟩
    case round =>
      clear HD0
      obtain ⟨k, L, O2, hk, rfl, HD⟩ := hrel
      by_cases hlt : k < len
      · skip
        obtain ⟨b, o, rfl, hbl, hok, hc⟩ := HO.out.one k hlt
        obtain ⟨c0, c1, c2, c3⟩ := hc wr HD.out.bel
        have HLT := Lib.hid hlt
        have hltI : (k : Int) < (len : Int) := by omega
        clear hc hbl hlt
        generalize O k = op at c0 c1 c2 c3 hok
        obtain ⟨kind, x, y, la, ln, cp, z⟩ := op
        obtain ⟨hzl, hsrc⟩ := hok
        dsimp only at c0 c1 c2 c3 hzl hsrc
        subst hzl
        have HSRC := Lib.hid hsrc
        clear hsrc
        have HST := Lib.hid (store_opm wr #[.int .i64 0, .int .i64 0, .int .i64 0, .slice none 0 0] rfl ⟨kind, x, y, la, z.length, cp, z⟩)
        have hba : Below wr.heap.size wr (wr.alloc (.cells (OpM.arr ⟨kind, x, y, la, z.length, cp, z⟩) 35)) := (Below.refl _ _).alloc (Nat.le_refl _) _
        have HR := Lib.hid (opm_row wr ⟨kind, x, y, la, z.length, cp, z⟩)
        have HD1 := Lib.hid ((HD.out.aside hba).fewer (B' := fun k => k = wr.heap.size) (fun k hk => .inr ⟨by omega, by rw [hk]; simp⟩))
        clear hba HD
        unfold OpM.arr at HST HR HD1
        dsimp only at HST HR HD1
        by_cases h60 : z.length ≤ 60
        · have hn60 : ¬ (60 < (z.length : Int)) := by omega
          go_upto_block 2 with (refine wpList_store_run rfl 35 _ _ rfl wr.heap.size _ _ rfl rfl HST.out ?_)
          clear c0 c1 c2 c3 HST HO
          generalize wr.heap.size = ob at HR HD1 ⊢
          generalize wr.alloc (.cells #[.int .i64 kind, .int .i64 x, .int .i64 y, .slice la z.length cp] 35) = W at HR HD1 ⊢
          go_cut [5] (fun t wc => ∃ (L' O' : Obs), t = .pointer (some ⟨p0, 0, none⟩) ∧ Hid (DB w p0 r N L' O' L' O' (fun _ => False) wc))
          case first =>
            obtain ⟨c0, c1, c2, c3⟩ := opm_four HR.out
            dsimp only at c0 c1 c2 c3
            have HL32 := Lib.hid HD1.out.ln
            by_cases hk0 : kind = 0
            · as_aux_lemma =>
                subst hk0
                have L2 := Lib.hid (show ∀ V, RowAt V ob 4 (omV ⟨0, x, y, la, z.length, cp, z⟩) → (loadVar 33 ⟨ob, 1, none⟩).run Try.prog V = .ok (.agg #[.int .i64 x, .int .i64 y]) V from fun V hV => load_obj (opm_four hV).2.1 (opm_four hV).2.2.1)
                go_wp2_with (fail)
                refine wp_region_lex1 (fun V => RowAt V ob 4 (omV ⟨0, x, y, la, z.length, cp, z⟩)) [(0, false), (1, false), (2, false), (4, false), (5, false), (6, false), (3, true), (7, true), (8, false)] (by kernel_rfl) (by kernel_rfl) rfl (by kernel_rfl) (HR.out.later (Below.refl _ W).drew) ?_
                intro W0 hW0 hK0
                have HDa := Lib.hid (show DB w p0 r N L O2 L O2 (fun k => k = ob) W0 by rw [hW0]; exact HD1.out.later (Below.refl _ W).drew)
                have HRa := Lib.hid hK0
                clear hW0 hK0 HD1 HR c0 c1 c2 c3
                refine lexH_yieldE rfl rfl ?_
                apply Exists.intro
                refine ⟨fun W hW => ?_, ?_⟩
                focus (go_simp; exact rfl)
                simp only [List.getElem_toArray, List.getElem_cons_zero, Act.put, List.setIfInBounds_toArray, List.set_cons_zero, List.set_cons_succ]
                refine lexH_yieldE rfl rfl ?_
                apply Exists.intro
                refine ⟨fun W hW => ?_, ?_⟩
                focus (go_simp; exact rfl)
                simp only [List.getElem_toArray, List.getElem_cons_succ, List.getElem_cons_zero, Act.put, List.setIfInBounds_toArray, List.set_cons_zero, List.set_cons_succ]
                refine lexH_load rfl rfl _ _ rfl rfl L2.out ?_
                simp only [List.getElem_toArray, List.getElem_cons_succ, List.getElem_cons_zero, Act.put, List.setIfInBounds_toArray, List.set_cons_zero, List.set_cons_succ]
                refine lexH_yieldE rfl rfl ?_
                apply Exists.intro
                refine ⟨fun W hW => ?_, ?_⟩
                focus (go_simp; exact rfl)
                simp only [List.getElem_toArray, List.getElem_cons_succ, List.getElem_cons_zero, Act.put, List.setIfInBounds_toArray, List.set_cons_zero, List.set_cons_succ]
                refine lexH_yieldE rfl rfl ?_
                apply Exists.intro
                refine ⟨fun W hW => ?_, ?_⟩
                focus (go_simp; exact rfl)
                simp only [List.getElem_toArray, List.getElem_cons_succ, List.getElem_cons_zero, Act.put, List.setIfInBounds_toArray, List.set_cons_zero, List.set_cons_succ]
                refine lexH_load rfl rfl _ _ rfl rfl L2.out ?_
                simp only [List.getElem_toArray, List.getElem_cons_succ, List.getElem_cons_zero, Act.put, List.setIfInBounds_toArray, List.set_cons_zero, List.set_cons_succ]
                refine lexH_call 12 #[.pointer (some ⟨p0, 0, none⟩), .agg #[.int .i64 x, .int .i64 y]] rfl rfl ?_ ?_
                focus (go_simp; done)
                refine (putP HDa.out x y).mono ?_
                rintro e w3 ⟨rfl, hD3, ho3⟩
                have HDb := Lib.hid hD3
                have HRb := Lib.hid (HRa.out.only ho3 (fun h => h rfl))
                refine ⟨_, rfl, HRb.out, ?_⟩
                clear hD3 ho3 HDa HRa
                simp only [List.getElem_toArray, List.getElem_cons_succ, List.getElem_cons_zero, Act.put, List.setIfInBounds_toArray, List.set_cons_zero, List.set_cons_succ]
                refine lexH_call 13 #[.pointer (some ⟨r, 0, none⟩), .agg #[.int .i64 x, .int .i64 y]] rfl rfl ?_ ?_
                focus (go_simp; done)
                refine (putR HDb.out x y).mono ?_
                rintro e w4 ⟨rfl, hD4, ho4⟩
                have HDc := Lib.hid hD4.bare
                have HRc := Lib.hid (HRb.out.only ho4 (fun h => h rfl))
                refine ⟨_, rfl, HRc.out, ?_⟩
                clear hD4 ho4 HDb HRb L2 HRc
                generalize putM N (x, y) L O2 = q at *
                obtain ⟨q1, q2, q3⟩ := q
                dsimp only at HDc
                simp only [List.getElem_toArray, List.getElem_cons_succ, List.getElem_cons_zero, Act.put, List.setIfInBounds_toArray, List.set_cons_zero, List.set_cons_succ]
                refine lexH_yieldE rfl rfl ?_
                apply Exists.intro
                refine ⟨fun W hW => ?_, ?_⟩
                focus (go_simp; exact rfl)
                simp only [List.getElem_toArray, List.getElem_cons_succ, List.getElem_cons_zero, Act.put, List.setIfInBounds_toArray, List.set_cons_zero, List.set_cons_succ]
                refine lexH_nil ?_
                go_wp2_with (fail)
                go_meet
                exact ⟨q2, q3, rfl, HDc⟩
            · by_cases hk1 : kind = 1
              · as_aux_lemma =>
                  subst hk1
                  go_wp2_with (fail)
                  refine (getP HD1.out).mono ?_
                  rintro e w3 ⟨rfl, hD3, ho3⟩
                  generalize hq : getM L O2 = q at hD3 ⊢
                  obtain ⟨q1, ⟨qx, qy⟩, q2, q3⟩ := q
                  dsimp only at hD3 ⊢
                  have HQ := Lib.hid hq
                  have hba : Below w3.heap.size w3 (w3.alloc (.cells #[.int .i64 qx, .int .i64 qy] 33)) := (Below.refl _ _).alloc (Nat.le_refl _) _
                  have HST := Lib.hid (store_obj w3 #[.int .i64 0, .int .i64 0] rfl qx qy)
                  have HD3 := Lib.hid ((hD3.aside hba).fewer (B' := fun k => k = w3.heap.size) (fun k hk => .inr ⟨by omega, by rw [hk]; simp⟩))
                  have HX3 := Lib.hid (obj_row w3 qx qy)
                  clear hD3 ho3 hba hq HD1 HR c0 c1 c2 c3
                  go_wp2_with (first | (refine wpList_store_run rfl TO _ _ rfl _ _ _ rfl rfl HST.out ?_) | fail)
                  clear HST
                  generalize w3.alloc (.cells #[.int .i64 qx, .int .i64 qy] 33) = w4 at *
                  generalize w3.heap.size = X at *
                  refine (getR HD3.out).mono ?_
                  rintro e w5 ⟨rfl, hD5, ho5⟩
                  rw [HQ.out] at hD5 ⊢
                  dsimp only at hD5 ⊢
                  have hx5 := HX3.out.only ho5 (fun h => h rfl)
                  have hba : Below w5.heap.size w5 (w5.alloc (.cells #[.int .i64 qx, .int .i64 qy] 33)) := (Below.refl _ _).alloc (Nat.le_refl _) _
                  have HST := Lib.hid (store_obj w5 #[.int .i64 0, .int .i64 0] rfl qx qy)
                  have HD6 := Lib.hid (hD5.later hba).bare
                  have d0 := (hx5.later hba).cell 0 (by decide)
                  have d1 := (hx5.later hba).cell 1 (by decide)
                  have r0 := (obj_row w5 qx qy).cell 0 (by decide)
                  have r1 := (obj_row w5 qx qy).cell 1 (by decide)
                  have e0 : obV qx qy 0 = .int .i64 qx := rfl
                  have e1 : obV qx qy 1 = .int .i64 qy := rfl
                  rw [e0] at d0 r0
                  rw [e1] at d1 r1
                  clear hx5 hba hD5 ho5 HD3 HX3 e0 e1 HQ
                  cases q1
                  all_goals
                    go_wp2_with (first | (refine wpList_store_run rfl TO _ _ rfl _ _ _ rfl rfl HST.out ?_) | fail)
                    go_meet
                    exact ⟨q2, q3, rfl, HD6⟩
              · by_cases hk2 : kind = 2
                · as_aux_lemma =>
                    subst hk2
                    have hba : Below W.heap.size W (W.alloc (.cells #[] TO)) := (Below.refl _ _).alloc (Nat.le_refl _) _
                    have HW := Lib.hid (World.ownsRow_made W (e := TO) (base := W.heap.size) (size := 2) #[] 0 (Nat.le_refl _) (Nat.zero_le _) (by simp))
                    have HB := Lib.hid hba
                    have HSR := Lib.hid (show 0 < z.length → ∃ ad', la = some ad' ∧ ∀ j u, (recV encO z)[j]? = some u → (W.alloc (.cells #[] TO)).cell? (ad'.add j) = some u from by
                      obtain ⟨a2, c2, e2, h2⟩ := HSRC.out.below (HD1.out.bel.trans (hba.mono HD1.out.le))
                      injection e2 with e2 _ _
                      intro hp
                      obtain ⟨ad2, e3, h3⟩ := h2 hp
                      exact ⟨ad2, by rw [e2, e3], h3⟩)
                    have HLE := Lib.hid hba.size
                    have c9 : (W.alloc (.cells #[] TO)).cell? ⟨ob, 3, none⟩ = some (.slice la z.length cp) := (HR.out.later hba).cell 3 (by decide)
                    clear hba c0 c1 c2 c3
                    go_wp2_with (first
                      | (at_builtin; refine wpList_append_src _ rfl _ _ 29 rfl W.heap.size 33 i0 _ 2 16 Try.underlying29 hi hz0 hz1 hz2 rfl (by decide) _ _ _ rfl HW.out la z.length cp (recV encO z) rfl (recV_len encO_len _) HSR.out (recV_one encO_one _) (by unfold maxLen; omega) (by omega) HLE.out ?_
                         intro v3 w3 hown3 hgr3 _
                         rw [Nat.zero_add, List.nil_append] at hown3
                         have hb : Below W.heap.size W w3 := (Only.of_grown hgr3).below HB.out HB.out.size (fun k hk => (HW.out.lt k hk).1)
                         obtain ⟨a3, q3, hv3⟩ := owns_len hown3
                         subst hv3
                         have HD3 := Lib.hid (((HD1.out.aside hb).fewer (B' := fun k => k = ob ∨ (Value.slice a3 z.length q3).ownBlock = some k) (fun k hk => hk.elim (fun h => .inl h) (fun h => .inr (hown3.lt k h)))))
                         have HR3 := Lib.hid (HR.out.later hb)
                         have HO3 := Lib.hid (owns_base (base' := 0) hown3 (fun _ _ => Nat.zero_le _))
                         clear hown3 hgr3 hb HD1 HR HW HB HSR HLE c9)
                      | fail)
                    have L5 := Lib.hid (show ∀ V, RowAt V ob 4 (omV ⟨2, x, y, la, z.length, cp, z⟩) → (loadVar 29 ⟨ob, 3, none⟩).run Try.prog V = .ok (.slice la z.length cp) V from fun V hV => run_loadVar_cell (fun _ => by kernel_rfl) (opm_four hV).2.2.2)
                    refine wp_region_lex1 (fun V => RowAt V ob 4 (omV ⟨2, x, y, la, z.length, cp, z⟩)) [(0, false), (1, false), (3, false), (4, false), (5, false), (2, true), (6, true), (7, false)] (by kernel_rfl) (by kernel_rfl) rfl (by kernel_rfl) (HR3.out.later (Below.refl _ w3).drew) ?_
                    intro W0 hW0 hK0
                    have HDa := Lib.hid (show DB w p0 r N L O2 L O2 (fun k => k = ob ∨ (Value.slice a3 z.length q3).ownBlock = some k) W0 by rw [hW0]; exact HD3.out.later (Below.refl _ w3).drew)
                    have HRa := Lib.hid hK0
                    have HOa := Lib.hid (show W0.ownsRow 0 TO 2 (.slice a3 z.length q3) z.length (recV encO z) by rw [hW0]; exact owns_later HO3.out (Below.refl _ w3).drew)
                    clear hW0 hK0 HD3 HR3 HO3
                    refine lexH_yieldE rfl rfl ?_
                    apply Exists.intro
                    refine ⟨fun W hW => ?_, ?_⟩
                    focus (go_simp; exact rfl)
                    simp only [List.getElem_toArray, List.getElem_cons_zero, Act.put, List.setIfInBounds_toArray, List.set_cons_zero, List.set_cons_succ]
                    refine lexH_yieldE rfl rfl ?_
                    apply Exists.intro
                    refine ⟨fun W hW => ?_, ?_⟩
                    focus (go_simp; exact rfl)
                    simp only [List.getElem_toArray, List.getElem_cons_succ, List.getElem_cons_zero, Act.put, List.setIfInBounds_toArray, List.set_cons_zero, List.set_cons_succ]
                    refine lexH_yieldE rfl rfl ?_
                    apply Exists.intro
                    refine ⟨fun W hW => ?_, ?_⟩
                    focus (go_simp; exact rfl)
                    simp only [List.getElem_toArray, List.getElem_cons_succ, List.getElem_cons_zero, Act.put, List.setIfInBounds_toArray, List.set_cons_zero, List.set_cons_succ]
                    refine lexH_yieldE rfl rfl ?_
                    apply Exists.intro
                    refine ⟨fun W hW => ?_, ?_⟩
                    focus (go_simp; exact rfl)
                    simp only [List.getElem_toArray, List.getElem_cons_succ, List.getElem_cons_zero, Act.put, List.setIfInBounds_toArray, List.set_cons_zero, List.set_cons_succ]
                    refine lexH_load rfl rfl _ _ rfl rfl L5.out ?_
                    simp only [List.getElem_toArray, List.getElem_cons_succ, List.getElem_cons_zero, Act.put, List.setIfInBounds_toArray, List.set_cons_zero, List.set_cons_succ]
                    refine lexH_call 16 #[.pointer (some ⟨p0, 0, none⟩), .slice a3 z.length q3] rfl rfl ?_ ?_
                    focus (go_simp; done)
                    refine (loadP HDa.out (SrcO.of_owns HOa.out)).mono ?_
                    rintro e w4 ⟨rfl, hD4, ho4⟩
                    have HDb := Lib.hid hD4
                    have HRb := Lib.hid (HRa.out.only ho4 (fun h => h (.inl rfl)))
                    have HOb := Lib.hid (OwnN.of_owns HOa.out |>.only ho4 (fun g hg h => h (.inr hg)))
                    refine ⟨_, rfl, HRb.out, ?_⟩
                    clear hD4 ho4 HDa HRa HOa
                    simp only [List.getElem_toArray, List.getElem_cons_succ, List.getElem_cons_zero, Act.put, List.setIfInBounds_toArray, List.set_cons_zero, List.set_cons_succ]
                    refine lexH_call 17 #[.pointer (some ⟨r, 0, none⟩), .slice la z.length cp] rfl rfl ?_ ?_
                    focus (go_simp; done)
                    refine (loadR HDb.out (HSRC.out.below HDb.out.bel)).mono ?_
                    rintro e w5 ⟨rfl, hD5, ho5⟩
                    have HRc := Lib.hid (HRb.out.only ho5 (fun h => h (.inl rfl)))
                    have HWS := Lib.hid (show WrSt w p0 r N (loadM N z L O2).2 O2 (.slice a3 z.length q3) z.length w5 from ⟨hD5.fewer (fun k hk => .inr hk), HOb.out.only ho5 (fun g hg h => h (.inr hg))⟩)
                    refine ⟨_, rfl, HRc.out, ?_⟩
                    clear hD5 ho5 HDb HRb L5 HRc HOb HSRC HL32
                    generalize loadM N z L O2 = q at *
                    obtain ⟨q1, q2⟩ := q
                    dsimp only at HWS
                    generalize z.length = zn at *
                    simp only [List.getElem_toArray, List.getElem_cons_succ, List.getElem_cons_zero, Act.put, List.setIfInBounds_toArray, List.set_cons_zero, List.set_cons_succ]
                    refine lexH_yieldE rfl rfl ?_
                    apply Exists.intro
                    refine ⟨fun W hW => ?_, ?_⟩
                    focus (go_simp; exact rfl)
                    simp only [List.getElem_toArray, List.getElem_cons_succ, List.getElem_cons_zero, Act.put, List.setIfInBounds_toArray, List.set_cons_zero, List.set_cons_succ]
                    refine lexH_nil ?_
                    go_wp2_with (fail)
                    go_loopw [100] (fun i wz => ∃ j : Nat, j ≤ zn ∧ i = .int .i64 j ∧ Hid (WrSt w p0 r N (q2) (O2) (.slice a3 zn q3) zn wz)) (fun i _ => zn - (intOf i).toNat)
                    case atStart => exact ⟨0, Nat.zero_le _, rfl, HWS⟩
                    case round =>
                      clear HWS
                      obtain ⟨j, hj, rfl, HWS⟩ := hrel
                      by_cases hjl : j < zn
                      · have hjI : (j : Int) < (zn : Int) := by omega
                        have HJ := Lib.hid hjl
                        obtain ⟨g, gc, hgv, ⟨z0, cz0, fz0⟩, ⟨z1, cz1, fz1⟩, hset⟩ := HWS.out.at hjl
                        injection hgv with hgv _ hgc
                        subst hgv
                        subst hgc
                        have HSET := Lib.hid (fun zz => hset (j * 2) zz)
                        clear hset hjl HWS cz1 fz1
                        go_wp2_with (fail)
                        go_roundw
                        case rel => exact ⟨j + 1, HJ.out, by go_num, Lib.hid (HSET.out _)⟩
                        case measure => have := HJ.out; simp [intOf]; omega
                      · obtain rfl : j = zn := by omega
                        have HDz := Lib.hid HWS.out.1.bare
                        clear HWS
                        go_wp2_with (fail)
                        go_meet
                        exact ⟨_, _, rfl, HDz⟩
                · by_cases hk3 : kind = 3
                  · as_aux_lemma =>
                      subst hk3
                      clear c0 c1 c2 c3 HR HSRC
                      go_wp2_with (fail)
                      refine (unlP HD1.out).mono ?_
                      rintro e w3 ⟨v3, rfl, hv3, hD3, ho3⟩
                      obtain ⟨a3, q3, e3⟩ := owns_len hv3
                      subst e3
                      have HD3 := Lib.hid hD3
                      have HV3 := Lib.hid hv3
                      clear hv3 hD3 ho3 HD1
                      go_wp2_with (fail)
                      refine (unlR HD3.out).mono ?_
                      rintro e w4 ⟨v4, rfl, hv4, hD4, ho4⟩
                      have HD4 := Lib.hid (hD4.fewer (B' := fun k => (Value.slice a3 (unlM N L O2).2.1.length q3).ownBlock = some k) (fun k hk => .inr hk))
                      have HV4 := Lib.hid (SrcO.of_owns hv4)
                      have HU4 := Lib.hid ((SrcO.of_owns HV3.out).only ho4 (fun k hk h => h (.inr hk)))
                      have HO4 := Lib.hid ((OwnN.of_owns HV3.out).only ho4 (fun g hg h => h (.inr hg)))
                      have HLN := Lib.hid (show (unlM N L O2).2.1.length ≤ 1000 by
                        unfold unlM
                        have := HL32.out
                        split
                        · exact Nat.zero_le _
                        · dsimp only; omega)
                      clear hv4 hD4 ho4 HD3 HV3 HL32
                      generalize unlM N L O2 = q at *
                      obtain ⟨q1, q2, q4⟩ := q
                      dsimp only at HD4 HV4 HU4 HO4 HLN ⊢
                      go_wp2_with (fail)
                      refine (same_any HU4.out HV4.out HLN.out).mono ?_
                      rintro e w5 ⟨rfl, hb⟩
                      have HWS := Lib.hid (show WrSt w p0 r N L q4 (.slice a3 q2.length q3) q2.length w5 from ⟨HD4.out.later hb, HO4.out.later hb⟩)
                      clear hb HD4 HO4 HU4 HV4
                      generalize q2.length = zn at *
                      have hzn := HLN.out
                      go_wp2_with (fail)
                      go_loopw [135] (fun i wz => ∃ j : Nat, j ≤ zn ∧ i = .int .i64 j ∧ Hid (WrSt w p0 r N (L) (q4) (.slice a3 zn q3) zn wz)) (fun i _ => zn - (intOf i).toNat)
                      case atStart => exact ⟨0, Nat.zero_le _, rfl, HWS⟩
                      case round =>
                        clear HWS
                        obtain ⟨j, hj, rfl, HWS⟩ := hrel
                        by_cases hjl : j < zn
                        · have hjI : (j : Int) < (zn : Int) := by omega
                          have HJ := Lib.hid hjl
                          obtain ⟨g, gc, hgv, ⟨z0, cz0, fz0⟩, ⟨z1, cz1, fz1⟩, hset⟩ := HWS.out.at hjl
                          injection hgv with hgv _ hgc
                          subst hgv
                          subst hgc
                          have HSET := Lib.hid (fun zz => hset (j * 2) zz)
                          clear hset hjl HWS cz1 fz1
                          go_wp2_with (fail)
                          go_roundw
                          case rel => exact ⟨j + 1, HJ.out, by go_num, Lib.hid (HSET.out _)⟩
                          case measure => have := HJ.out; simp [intOf]; omega
                        · obtain rfl : j = zn := by omega
                          have HDz := Lib.hid HWS.out.1.bare
                          clear HWS
                          go_wp2_with (fail)
                          go_meet
                          exact ⟨_, _, rfl, HDz⟩
                  · have e1 : (kind == 0) = false := by simpa using hk0
                    have e2 : (kind == 1) = false := by simpa using hk1
                    have e3 : (kind == 2) = false := by simpa using hk2
                    have e4 : (kind == 3) = false := by simpa using hk3
                    clear hk0 hk1 hk2 hk3
                    go_wp2_with (fail)
                    go_meet
                    exact ⟨L, O2, rfl, Lib.hid HD1.out.bare⟩
          case rest =>
            obtain ⟨L', O', rfl, HD'⟩ := hcut
            clear HD1 HR HSRC
            obtain ⟨A, hA⟩ : ∃ A, O' ++ L' = A := ⟨_, rfl⟩
            have HA := Lib.hid hA
            have HAL := Lib.hid (show A.length ≤ 1000 by have := HD'.out.ln; have := h32.2; rw [← hA, List.length_append]; omega)
            have HLL := Lib.hid (show L'.length + O'.length = A.length by rw [← hA, List.length_append, Nat.add_comm])
            clear hA
            go_wp2_with (fail)
            refine (allPP HD'.out).mono ?_
            rintro e w5 ⟨v5, rfl, hv5, hb5⟩
            rw [HA.out] at hv5
            obtain ⟨a5, q5, e5⟩ := owns_len hv5
            subst e5
            have HD5 := Lib.hid ((HD'.out.aside hb5).fewer (B' := fun k => (Value.slice a5 A.length q5).ownBlock = some k) (fun k hk => .inr (hv5.lt k hk)))
            have HV5 := Lib.hid (SrcO.of_owns hv5)
            have HO5 := Lib.hid (OwnN.of_owns hv5)
            clear hv5 hb5 HD'
            go_wp2_with (fail)
            refine (allRR HD5.out).mono ?_
            rintro e w6 ⟨v6, rfl, hv6, hb6⟩
            rw [HA.out] at hv6
            have HD6 := Lib.hid (HD5.out.later hb6)
            have HV6 := Lib.hid (SrcO.of_owns hv6)
            have HU6 := Lib.hid (HV5.out.later hb6)
            have HO6 := Lib.hid (HO5.out.later hb6)
            clear hv6 hb6 HD5 HV5 HO5
            go_wp2_with (fail)
            refine (same_any HU6.out HV6.out HAL.out).mono ?_
            rintro e w7 ⟨rfl, hb7⟩
            have HD7 := Lib.hid (HD6.out.later hb7)
            have HO7 := Lib.hid (HO6.out.later hb7)
            clear hb7 HV6 HU6 HD6 HO6
            go_wp2_with (fail)
            refine (lenP HD7.out).mono ?_
            rintro e w8 ⟨rfl, hb8⟩
            rw [HLL.out]
            have HD8 := Lib.hid (HD7.out.later hb8)
            have HO8 := Lib.hid (HO7.out.later hb8)
            clear hb8 HD7 HO7
            go_wp2_with (fail)
            refine (allRR HD8.out).mono ?_
            rintro e w9 ⟨v9, rfl, hv9, hb9⟩
            rw [HA.out] at hv9
            obtain ⟨a9, q9, e9⟩ := owns_len hv9
            subst e9
            have HWS := Lib.hid (show WrSt w p0 r N L' O' (.slice a5 A.length q5) A.length w9 from ⟨HD8.out.later hb9, HO8.out.later hb9⟩)
            clear hv9 hb9 HD8 HO8 HA HLL
            generalize A.length = zn at *
            have hzn := HAL.out
            go_wp2_with (fail)
            go_loopw [164] (fun i wz => ∃ j : Nat, j ≤ zn ∧ i = .int .i64 j ∧ Hid (WrSt w p0 r N (L') (O') (.slice a5 zn q5) zn wz)) (fun i _ => zn - (intOf i).toNat)
            case atStart => exact ⟨0, Nat.zero_le _, rfl, HWS⟩
            case round =>
              clear HWS
              obtain ⟨j, hj, rfl, HWS⟩ := hrel
              by_cases hjl : j < zn
              · have hjI : (j : Int) < (zn : Int) := by omega
                have HJ := Lib.hid hjl
                obtain ⟨g, gc, hgv, ⟨z0, cz0, fz0⟩, ⟨z1, cz1, fz1⟩, hset⟩ := HWS.out.at hjl
                injection hgv with hgv _ hgc
                subst hgv
                subst hgc
                have HSET := Lib.hid (fun zz => hset (j * 2 + 1) zz)
                clear hset hjl HWS cz0 fz0
                go_wp2_with (fail)
                go_roundw
                case rel => exact ⟨j + 1, HJ.out, by go_num, Lib.hid (HSET.out _)⟩
                case measure => have := HJ.out; simp [intOf]; omega
              · obtain rfl : j = zn := by omega
                have HDz := Lib.hid HWS.out.1.bare
                clear HWS
                go_wp2_with (fail)
                go_roundw
                case rel => exact ⟨k + 1, L', O', HLT.out, by go_num, HDz⟩
                case measure => have := HLT.out; simp [intOf]; omega
        · have hn60 : 60 < (z.length : Int) := by omega
          go_wp2_with (refine wpList_store_run rfl 35 _ _ rfl wr.heap.size _ _ rfl rfl HST.out ?_)
          refine (known_any _).mono ?_
          rintro e w5 ⟨rfl, hb⟩
          have HB := Lib.hid (HD1.out.bel.trans (hb.mono HD1.out.le))
          clear hb
          go_wp2_with (fail)
          go_ret
          exact ⟨rfl, HB.out⟩
      · obtain rfl : k = len := by omega
        clear hlt hk HO
        go_wp2_with (fail)
        refine (allPP HD.out).mono ?_
        rintro e w5 ⟨v5, rfl, hv5, hb5⟩
        have HD5 := Lib.hid (HD.out.later hb5)
        have HV5 := Lib.hid (SrcO.of_owns hv5)
        have HLN := Lib.hid (show (O2 ++ L).length ≤ 1000 by have := HD.out.ln; have := h32.2; rw [List.length_append]; omega)
        clear hv5 hb5 HD
        go_wp2_with (fail)
        refine (allRR HD5.out).mono ?_
        rintro e w6 ⟨v6, rfl, hv6, hb6⟩
        have HD6 := Lib.hid (HD5.out.later hb6)
        have HV6 := Lib.hid (SrcO.of_owns hv6)
        have HV7 := Lib.hid (HV5.out.later hb6)
        clear hv6 hb6 HD5 HV5
        go_wp2_with (fail)
        refine (same_any HV7.out HV6.out HLN.out).mono ?_
        rintro e w7 ⟨rfl, hb7⟩
        have HD7 := Lib.hid (HD6.out.later hb7)
        clear hb7 HV6 HV7 HD6
        go_wp2_with (fail)
        refine (known_any _).mono ?_
        rintro e w8 ⟨rfl, hb⟩
        have HB := Lib.hid (HD7.out.bel.trans (hb.mono HD7.out.le))
        clear hb
        go_wp2_with (fail)
        go_ret
        exact ⟨rfl, HB.out⟩
  · have hlenI : 200 < (len : Int) := by omega
    go_enter Try.func3, Try.ntmps3
    go_wp2_with (fail)
    refine (known_any _).mono ?_
    rintro e w5 ⟨rfl, hb⟩
    have HB := Lib.hid hb
    clear hb
    go_wp2_with (fail)
    go_ret
    exact ⟨rfl, HB.out⟩
end Go.Proofs.Ytaadjgnfihkaeaa
