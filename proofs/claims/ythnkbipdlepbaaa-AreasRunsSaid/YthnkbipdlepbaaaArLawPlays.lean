/-
  The walk of AreasPlays: it returns true, and below the old heap nothing has turned.
-/
import Derived.Test.YthnkbipdlepbaaaArBoth
import Derived.Deep.DeepCutAuto
import Derived.Deep.CutBlock
namespace Go.Proofs.Ythnkbipdlepbaaa
open Go.RowKit Go.Shelf Go
theorem infoOpA : (Try.prog.info? 30).map (·.size) = some 4 := by kernel_rfl
theorem store_opa (w : World) (Z : Array Value) (hz : Z.size = 4) (kind p c : Int) (r : Nat) :
    (storeVar 30 ⟨w.heap.size, 0, none⟩ (.agg #[.int .i64 kind, .int .i64 p, .int .i64 c, .int .u8 r])).run Try.prog (w.alloc (.cells Z 30)) = .ok () (w.alloc (.cells #[.int .i64 kind, .int .i64 p, .int .i64 c, .int .u8 r] 30)) :=
  run_storeVar_new (P := Try.prog) w 30 Z _ infoOpA hz (by simp [Value.oneCell'])
/-- The document's, new. -/
theorem zero_ref (w : World) : RefR (w.alloc (.cells zeroP TArr)) w.heap.size (fun _ => 0) := RowAt.new w _ _ _ _ fun i hi => by
  unfold zeroP riV
  rw [Array.getElem?_replicate, if_pos hi]
  rfl
section
variable {IsA : Thg → Nat → (Nat → Nat) → Prop} (ok : AreasOk IsA)
include ok
set_option maxRecDepth 100000 in
set_option maxHeartbeats 8000000 in
theorem lawAPlays_any (a : Option Addr) (len cap : Nat) (O : Nat → OpA) (w : World) (hO : OpsAt w a len O) :
    Calls Try.prog 3 #[.slice a len cap] w fun e w' => e = .returned (.bool true) ∧ Below w.heap.size w w' := by
  have HO := Lib.hid hO
  have hz := zero_pages
  clear hO
  go_enter Try.func3, Try.ntmps3
  go_wp2_with (fail)
  refine (new_ak ok w).mono ?_
  rintro e w1 ⟨d, rfl, X, hX, hA, hB, hlo⟩
  have HX := Lib.hid hX
  have HA := Lib.hid hA
  have HB := Lib.hid hB
  have HLO := Lib.hid hlo
  clear hX hA hB hlo
  by_cases hlen : len ≤ 150
  · have hlenI : ¬ (150 < (len : Int)) := by omega
    have HP0 := Lib.hid (show PA IsA w d w1.heap.size (fun _ => 0) (w1.alloc (.cells zeroP TArr)) from by
      have hb : Below w1.heap.size w1 (w1.alloc (.cells zeroP TArr)) := (Below.refl _ _).alloc (Nat.le_refl _) _
      exact ⟨X, HX.out, X.later HA.out hb, HB.out.trans (hb.mono HB.out.size), fun k hk => ⟨HLO.out k hk, by have := X.lt w1 HA.out k hk; omega⟩, zero_ref w1, HB.out.size⟩)
    go_wp2_with (fail)
    generalize w1.heap.size = rb at *
    generalize w1.alloc (.cells zeroP TArr) = w2 at *
    clear hz
    go_loopw [3, 30] (fun s i wr => ∃ (k d : Nat) (f : Nat → Nat), k ≤ len ∧ i = .int .i64 k ∧ s = .pointer (some ⟨d, 0, none⟩) ∧ Hid (PA IsA w d rb f wr)) (fun _ i _ => len - (intOf i).toNat)
    case atStart => exact ⟨0, d, _, Nat.zero_le _, rfl, rfl, HP0⟩
    case round =>
      clear HP0 HX HA HB HLO hlen
      obtain ⟨k, d, f, hk, rfl, rfl, HD⟩ := hrel
      by_cases hlt : k < len
      · obtain ⟨b, o, rfl, hbl, hok, hc⟩ := HO.out.one k hlt
        obtain ⟨c0, c1, c2, c3⟩ := hc wr HD.out.bel
        have HLT := Lib.hid hlt
        have hltI : (k : Int) < (len : Int) := by omega
        clear hc hbl hlt
        generalize O k = op at c0 c1 c2 c3 hok
        obtain ⟨kind, p, c, r⟩ := op
        dsimp only at c0 c1 c2 c3 hok
        have HR8 := Lib.hid (show Okp p r from hok)
        have HST := Lib.hid (store_opa wr #[.int .i64 0, .int .i64 0, .int .i64 0, .int .u8 0] rfl kind p c r)
        have HP := Lib.hid (HD.out.box ⟨kind, p, c, r⟩ 30)
        clear HD hok
        go_upto_block 2 with (refine wpList_store_run rfl 30 _ _ rfl wr.heap.size _ _ rfl rfl HST.out ?_)
        clear c0 c1 c2 c3 HST
        dsimp only at HP
        generalize wr.heap.size = ob at HP ⊢
        generalize wr.alloc (.cells #[.int .i64 kind, .int .i64 p, .int .i64 c, .int .u8 r] 30) = W at HP ⊢
        go_cut [3, 7] (fun s v wc => ∃ (d' : Nat) (f' : Nat → Nat), s = .pointer (some ⟨d', 0, none⟩) ∧ v = .bool true ∧ Hid (PA IsA w d' rb f' wc))
        case first =>
            obtain ⟨c0, c1, c2, c3⟩ := HP.out.op
            dsimp only at c0 c1 c2 c3
            by_cases k1 : kind = 1
            · as_aux_lemma =>
                subst k1
                have S1 := Lib.hid (show ∀ V, V.cell? ⟨ob, 1, none⟩ = some (.int .i64 p) ∧ V.cell? ⟨ob, 2, none⟩ = some (.int .i64 c) ∧ V.cell? ⟨ob, 3, none⟩ = some (.int .u8 r) → (loadVar 3 ⟨ob, 1, none⟩).run Try.prog V = .ok (.int .i64 p) V from fun V hV => run_loadVar_cell (fun _ => by kernel_rfl) hV.1)
                have S2 := Lib.hid (show ∀ V, V.cell? ⟨ob, 1, none⟩ = some (.int .i64 p) ∧ V.cell? ⟨ob, 2, none⟩ = some (.int .i64 c) ∧ V.cell? ⟨ob, 3, none⟩ = some (.int .u8 r) → (loadVar 3 ⟨ob, 2, none⟩).run Try.prog V = .ok (.int .i64 c) V from fun V hV => run_loadVar_cell (fun _ => by kernel_rfl) hV.2.1)
                have S3 := Lib.hid (show ∀ V, V.cell? ⟨ob, 1, none⟩ = some (.int .i64 p) ∧ V.cell? ⟨ob, 2, none⟩ = some (.int .i64 c) ∧ V.cell? ⟨ob, 3, none⟩ = some (.int .u8 r) → (loadVar 5 ⟨ob, 3, none⟩).run Try.prog V = .ok (.int .u8 r) V from fun V hV => run_loadVar_cell (fun _ => by kernel_rfl) hV.2.2)
                go_wp2_with (fail)
                refine wp_region_lex1 (fun V => V.cell? ⟨ob, 1, none⟩ = some (.int .i64 p) ∧ V.cell? ⟨ob, 2, none⟩ = some (.int .i64 c) ∧ V.cell? ⟨ob, 3, none⟩ = some (.int .u8 r)) [(0, false), (1, false), (2, false), (3, false), (4, false), (5, false), (6, false), (8, false), (9, false), (10, false), (11, false), (12, false), (13, false), (14, false), (7, true), (15, true), (16, false), (17, false)] (by kernel_rfl) (by kernel_rfl) rfl (by kernel_rfl) ⟨c1, c2, c3⟩ ?_
                intro W0 hW0 hK0
                have HP0 := Lib.hid (show PO IsA w d rb f f ob ⟨1, p, c, r⟩ W0 by rw [hW0]; exact HP.out.later (Below.refl _ W).drew)
                clear hW0 hK0 HP c0 c1 c2 c3
                refine lexH_yieldE rfl rfl ?_
                apply Exists.intro
                refine ⟨fun W hW => ?_, ?_⟩
                focus (go_simp; exact rfl)
                simp only [List.getElem_toArray, List.getElem_cons_zero, Act.put, List.setIfInBounds_toArray, List.set_cons_zero, List.set_cons_succ]
                refine lexH_yieldE rfl rfl ?_
                apply Exists.intro
                refine ⟨fun W hW => ?_, ?_⟩
                focus (go_simp; exact rfl)
                simp only [List.getElem_toArray, List.getElem_cons_succ, List.getElem_cons_zero, Act.put, List.setIfInBounds_toArray, List.set_cons_zero, List.set_cons_succ]
                refine lexH_load rfl rfl _ _ rfl rfl S1.out ?_
                simp only [List.getElem_toArray, List.getElem_cons_succ, List.getElem_cons_zero, Act.put, List.setIfInBounds_toArray, List.set_cons_zero, List.set_cons_succ]
                refine lexH_yieldE rfl rfl ?_
                apply Exists.intro
                refine ⟨fun W hW => ?_, ?_⟩
                focus (go_simp; exact rfl)
                simp only [List.getElem_toArray, List.getElem_cons_succ, List.getElem_cons_zero, Act.put, List.setIfInBounds_toArray, List.set_cons_zero, List.set_cons_succ]
                refine lexH_load rfl rfl _ _ rfl rfl S2.out ?_
                simp only [List.getElem_toArray, List.getElem_cons_succ, List.getElem_cons_zero, Act.put, List.setIfInBounds_toArray, List.set_cons_zero, List.set_cons_succ]
                refine lexH_yieldE rfl rfl ?_
                apply Exists.intro
                refine ⟨fun W hW => ?_, ?_⟩
                focus (go_simp; exact rfl)
                simp only [List.getElem_toArray, List.getElem_cons_succ, List.getElem_cons_zero, Act.put, List.setIfInBounds_toArray, List.set_cons_zero, List.set_cons_succ]
                refine lexH_load rfl rfl _ _ rfl rfl S3.out ?_
                simp only [List.getElem_toArray, List.getElem_cons_succ, List.getElem_cons_zero, Act.put, List.setIfInBounds_toArray, List.set_cons_zero, List.set_cons_succ]
                refine lexH_yieldE rfl rfl ?_
                apply Exists.intro
                refine ⟨fun W hW => ?_, ?_⟩
                focus (go_simp; exact rfl)
                simp only [List.getElem_toArray, List.getElem_cons_succ, List.getElem_cons_zero, Act.put, List.setIfInBounds_toArray, List.set_cons_zero, List.set_cons_succ]
                refine lexH_yieldE rfl rfl ?_
                apply Exists.intro
                refine ⟨fun W hW => ?_, ?_⟩
                focus (go_simp; exact rfl)
                simp only [List.getElem_toArray, List.getElem_cons_succ, List.getElem_cons_zero, Act.put, List.setIfInBounds_toArray, List.set_cons_zero, List.set_cons_succ]
                refine lexH_load rfl rfl _ _ rfl rfl S1.out ?_
                simp only [List.getElem_toArray, List.getElem_cons_succ, List.getElem_cons_zero, Act.put, List.setIfInBounds_toArray, List.set_cons_zero, List.set_cons_succ]
                refine lexH_yieldE rfl rfl ?_
                apply Exists.intro
                refine ⟨fun W hW => ?_, ?_⟩
                focus (go_simp; exact rfl)
                simp only [List.getElem_toArray, List.getElem_cons_succ, List.getElem_cons_zero, Act.put, List.setIfInBounds_toArray, List.set_cons_zero, List.set_cons_succ]
                refine lexH_load rfl rfl _ _ rfl rfl S2.out ?_
                simp only [List.getElem_toArray, List.getElem_cons_succ, List.getElem_cons_zero, Act.put, List.setIfInBounds_toArray, List.set_cons_zero, List.set_cons_succ]
                refine lexH_yieldE rfl rfl ?_
                apply Exists.intro
                refine ⟨fun W hW => ?_, ?_⟩
                focus (go_simp; exact rfl)
                simp only [List.getElem_toArray, List.getElem_cons_succ, List.getElem_cons_zero, Act.put, List.setIfInBounds_toArray, List.set_cons_zero, List.set_cons_succ]
                refine lexH_load rfl rfl _ _ rfl rfl S3.out ?_
                simp only [List.getElem_toArray, List.getElem_cons_succ, List.getElem_cons_zero, Act.put, List.setIfInBounds_toArray, List.set_cons_zero, List.set_cons_succ]
                refine lexH_call 11 #[.pointer (some ⟨d, 0, none⟩), .int .i64 p, .int .i64 c, .int .u8 r] rfl rfl ?_ ?_
                focus (go_simp; done)
                refine (mapP ok HP0.out p c r HR8.out).mono ?_
                rintro e w4 ⟨rfl, hP4⟩
                have HP4 := Lib.hid hP4
                obtain ⟨q0, q1, q2, q3⟩ := hP4.op
                refine ⟨_, rfl, ⟨q1, q2, q3⟩, ?_⟩
                clear hP4 q0 q1 q2 q3 HP0
                simp only [List.getElem_toArray, List.getElem_cons_succ, List.getElem_cons_zero, Act.put, List.setIfInBounds_toArray, List.set_cons_zero, List.set_cons_succ]
                refine lexH_call 12 #[.pointer (some ⟨rb, 0, none⟩), .int .i64 p, .int .i64 c, .int .u8 r] rfl rfl ?_ ?_
                focus (go_simp; done)
                refine (mapR HP4.out p c r).mono ?_
                rintro e w5 ⟨rfl, hP5⟩
                have HP5 := Lib.hid hP5
                obtain ⟨q0, q1, q2, q3⟩ := hP5.op
                refine ⟨_, rfl, ⟨q1, q2, q3⟩, ?_⟩
                clear hP5 q0 q1 q2 q3 HP4 S1 S2 S3
                simp only [List.getElem_toArray, List.getElem_cons_succ, List.getElem_cons_zero, Act.put, List.setIfInBounds_toArray, List.set_cons_zero, List.set_cons_succ]
                refine lexH_yieldE rfl rfl ?_
                apply Exists.intro
                refine ⟨fun W hW => ?_, ?_⟩
                focus (go_simp; exact rfl)
                simp only [List.getElem_toArray, List.getElem_cons_succ, List.getElem_cons_zero, Act.put, List.setIfInBounds_toArray, List.set_cons_zero, List.set_cons_succ]
                refine lexH_yieldE rfl rfl ?_
                apply Exists.intro
                refine ⟨fun W hW => ?_, ?_⟩
                focus (go_simp; exact rfl)
                simp only [List.getElem_toArray, List.getElem_cons_succ, List.getElem_cons_zero, Act.put, List.setIfInBounds_toArray, List.set_cons_zero, List.set_cons_succ]
                refine lexH_nil ?_
                go_wp2_with (fail)
                go_meet
                exact ⟨d, _, rfl, rfl, Lib.hid HP5.out.out⟩
            · have e1 : (kind == 1) = false := beq_eq_false_iff_ne.2 k1
              by_cases k2 : kind = 2
              · as_aux_lemma =>
                  subst k2
                  have S1 := Lib.hid (show ∀ V, V.cell? ⟨ob, 1, none⟩ = some (.int .i64 p) ∧ V.cell? ⟨ob, 2, none⟩ = some (.int .i64 c) → (loadVar 3 ⟨ob, 1, none⟩).run Try.prog V = .ok (.int .i64 p) V from fun V hV => run_loadVar_cell (fun _ => by kernel_rfl) hV.1)
                  have S2 := Lib.hid (show ∀ V, V.cell? ⟨ob, 1, none⟩ = some (.int .i64 p) ∧ V.cell? ⟨ob, 2, none⟩ = some (.int .i64 c) → (loadVar 3 ⟨ob, 2, none⟩).run Try.prog V = .ok (.int .i64 c) V from fun V hV => run_loadVar_cell (fun _ => by kernel_rfl) hV.2)
                  go_wp2_with (fail)
                  refine wp_region_lex1 (fun V => V.cell? ⟨ob, 1, none⟩ = some (.int .i64 p) ∧ V.cell? ⟨ob, 2, none⟩ = some (.int .i64 c)) [(0, false), (1, false), (2, false), (3, false), (4, false), (6, false), (7, false), (8, false), (9, false), (10, false), (5, true), (11, true), (12, false), (13, false)] (by kernel_rfl) (by kernel_rfl) rfl (by kernel_rfl) ⟨c1, c2⟩ ?_
                  intro W0 hW0 hK0
                  have HP0 := Lib.hid (show PO IsA w d rb f f ob ⟨2, p, c, r⟩ W0 by rw [hW0]; exact HP.out.later (Below.refl _ W).drew)
                  clear hW0 hK0 HP c0 c1 c2 c3
                  refine lexH_yieldE rfl rfl ?_
                  apply Exists.intro
                  refine ⟨fun W hW => ?_, ?_⟩
                  focus (go_simp; exact rfl)
                  simp only [List.getElem_toArray, List.getElem_cons_zero, Act.put, List.setIfInBounds_toArray, List.set_cons_zero, List.set_cons_succ]
                  refine lexH_yieldE rfl rfl ?_
                  apply Exists.intro
                  refine ⟨fun W hW => ?_, ?_⟩
                  focus (go_simp; exact rfl)
                  simp only [List.getElem_toArray, List.getElem_cons_succ, List.getElem_cons_zero, Act.put, List.setIfInBounds_toArray, List.set_cons_zero, List.set_cons_succ]
                  refine lexH_load rfl rfl _ _ rfl rfl S1.out ?_
                  simp only [List.getElem_toArray, List.getElem_cons_succ, List.getElem_cons_zero, Act.put, List.setIfInBounds_toArray, List.set_cons_zero, List.set_cons_succ]
                  refine lexH_yieldE rfl rfl ?_
                  apply Exists.intro
                  refine ⟨fun W hW => ?_, ?_⟩
                  focus (go_simp; exact rfl)
                  simp only [List.getElem_toArray, List.getElem_cons_succ, List.getElem_cons_zero, Act.put, List.setIfInBounds_toArray, List.set_cons_zero, List.set_cons_succ]
                  refine lexH_load rfl rfl _ _ rfl rfl S2.out ?_
                  simp only [List.getElem_toArray, List.getElem_cons_succ, List.getElem_cons_zero, Act.put, List.setIfInBounds_toArray, List.set_cons_zero, List.set_cons_succ]
                  refine lexH_yieldE rfl rfl ?_
                  apply Exists.intro
                  refine ⟨fun W hW => ?_, ?_⟩
                  focus (go_simp; exact rfl)
                  simp only [List.getElem_toArray, List.getElem_cons_succ, List.getElem_cons_zero, Act.put, List.setIfInBounds_toArray, List.set_cons_zero, List.set_cons_succ]
                  refine lexH_yieldE rfl rfl ?_
                  apply Exists.intro
                  refine ⟨fun W hW => ?_, ?_⟩
                  focus (go_simp; exact rfl)
                  simp only [List.getElem_toArray, List.getElem_cons_succ, List.getElem_cons_zero, Act.put, List.setIfInBounds_toArray, List.set_cons_zero, List.set_cons_succ]
                  refine lexH_load rfl rfl _ _ rfl rfl S1.out ?_
                  simp only [List.getElem_toArray, List.getElem_cons_succ, List.getElem_cons_zero, Act.put, List.setIfInBounds_toArray, List.set_cons_zero, List.set_cons_succ]
                  refine lexH_yieldE rfl rfl ?_
                  apply Exists.intro
                  refine ⟨fun W hW => ?_, ?_⟩
                  focus (go_simp; exact rfl)
                  simp only [List.getElem_toArray, List.getElem_cons_succ, List.getElem_cons_zero, Act.put, List.setIfInBounds_toArray, List.set_cons_zero, List.set_cons_succ]
                  refine lexH_load rfl rfl _ _ rfl rfl S2.out ?_
                  simp only [List.getElem_toArray, List.getElem_cons_succ, List.getElem_cons_zero, Act.put, List.setIfInBounds_toArray, List.set_cons_zero, List.set_cons_succ]
                  refine lexH_call 13 #[.pointer (some ⟨d, 0, none⟩), .int .i64 p, .int .i64 c] rfl rfl ?_ ?_
                  focus (go_simp; done)
                  refine (unmP ok HP0.out p c HR8.out.2).mono ?_
                  rintro e w4 ⟨rfl, hP4⟩
                  have HP4 := Lib.hid hP4
                  obtain ⟨q0, q1, q2, q3⟩ := hP4.op
                  refine ⟨_, rfl, ⟨q1, q2⟩, ?_⟩
                  clear hP4 q0 q1 q2 q3 HP0
                  simp only [List.getElem_toArray, List.getElem_cons_succ, List.getElem_cons_zero, Act.put, List.setIfInBounds_toArray, List.set_cons_zero, List.set_cons_succ]
                  refine lexH_call 14 #[.pointer (some ⟨rb, 0, none⟩), .int .i64 p, .int .i64 c] rfl rfl ?_ ?_
                  focus (go_simp; done)
                  refine (unmR HP4.out p c).mono ?_
                  rintro e w5 ⟨rfl, hP5⟩
                  have HP5 := Lib.hid hP5
                  obtain ⟨q0, q1, q2, q3⟩ := hP5.op
                  refine ⟨_, rfl, ⟨q1, q2⟩, ?_⟩
                  clear hP5 q0 q1 q2 q3 HP4 S1 S2
                  simp only [List.getElem_toArray, List.getElem_cons_succ, List.getElem_cons_zero, Act.put, List.setIfInBounds_toArray, List.set_cons_zero, List.set_cons_succ]
                  refine lexH_yieldE rfl rfl ?_
                  apply Exists.intro
                  refine ⟨fun W hW => ?_, ?_⟩
                  focus (go_simp; exact rfl)
                  simp only [List.getElem_toArray, List.getElem_cons_succ, List.getElem_cons_zero, Act.put, List.setIfInBounds_toArray, List.set_cons_zero, List.set_cons_succ]
                  refine lexH_yieldE rfl rfl ?_
                  apply Exists.intro
                  refine ⟨fun W hW => ?_, ?_⟩
                  focus (go_simp; exact rfl)
                  simp only [List.getElem_toArray, List.getElem_cons_succ, List.getElem_cons_zero, Act.put, List.setIfInBounds_toArray, List.set_cons_zero, List.set_cons_succ]
                  refine lexH_nil ?_
                  go_wp2_with (fail)
                  go_meet
                  exact ⟨d, _, rfl, rfl, Lib.hid HP5.out.out⟩
              · have e2 : (kind == 2) = false := beq_eq_false_iff_ne.2 k2
                by_cases k3 : kind = 3
                · as_aux_lemma =>
                    subst k3
                    have S1 := Lib.hid (show ∀ V, V.cell? ⟨ob, 1, none⟩ = some (.int .i64 p) ∧ V.cell? ⟨ob, 2, none⟩ = some (.int .i64 c) ∧ V.cell? ⟨ob, 3, none⟩ = some (.int .u8 r) → (loadVar 3 ⟨ob, 1, none⟩).run Try.prog V = .ok (.int .i64 p) V from fun V hV => run_loadVar_cell (fun _ => by kernel_rfl) hV.1)
                    have S2 := Lib.hid (show ∀ V, V.cell? ⟨ob, 1, none⟩ = some (.int .i64 p) ∧ V.cell? ⟨ob, 2, none⟩ = some (.int .i64 c) ∧ V.cell? ⟨ob, 3, none⟩ = some (.int .u8 r) → (loadVar 3 ⟨ob, 2, none⟩).run Try.prog V = .ok (.int .i64 c) V from fun V hV => run_loadVar_cell (fun _ => by kernel_rfl) hV.2.1)
                    have S3 := Lib.hid (show ∀ V, V.cell? ⟨ob, 1, none⟩ = some (.int .i64 p) ∧ V.cell? ⟨ob, 2, none⟩ = some (.int .i64 c) ∧ V.cell? ⟨ob, 3, none⟩ = some (.int .u8 r) → (loadVar 5 ⟨ob, 3, none⟩).run Try.prog V = .ok (.int .u8 r) V from fun V hV => run_loadVar_cell (fun _ => by kernel_rfl) hV.2.2)
                    go_wp2_with (fail)
                    refine wp_region_lex1 (fun V => V.cell? ⟨ob, 1, none⟩ = some (.int .i64 p) ∧ V.cell? ⟨ob, 2, none⟩ = some (.int .i64 c) ∧ V.cell? ⟨ob, 3, none⟩ = some (.int .u8 r)) [(0, false), (1, false), (2, false), (3, false), (4, false), (5, false), (6, false), (8, false), (9, false), (10, false), (11, false), (12, false), (13, false), (14, false), (7, true), (15, true), (16, false), (17, false)] (by kernel_rfl) (by kernel_rfl) rfl (by kernel_rfl) ⟨c1, c2, c3⟩ ?_
                    intro W0 hW0 hK0
                    have HP0 := Lib.hid (show PO IsA w d rb f f ob ⟨3, p, c, r⟩ W0 by rw [hW0]; exact HP.out.later (Below.refl _ W).drew)
                    clear hW0 hK0 HP c0 c1 c2 c3
                    refine lexH_yieldE rfl rfl ?_
                    apply Exists.intro
                    refine ⟨fun W hW => ?_, ?_⟩
                    focus (go_simp; exact rfl)
                    simp only [List.getElem_toArray, List.getElem_cons_zero, Act.put, List.setIfInBounds_toArray, List.set_cons_zero, List.set_cons_succ]
                    refine lexH_yieldE rfl rfl ?_
                    apply Exists.intro
                    refine ⟨fun W hW => ?_, ?_⟩
                    focus (go_simp; exact rfl)
                    simp only [List.getElem_toArray, List.getElem_cons_succ, List.getElem_cons_zero, Act.put, List.setIfInBounds_toArray, List.set_cons_zero, List.set_cons_succ]
                    refine lexH_load rfl rfl _ _ rfl rfl S1.out ?_
                    simp only [List.getElem_toArray, List.getElem_cons_succ, List.getElem_cons_zero, Act.put, List.setIfInBounds_toArray, List.set_cons_zero, List.set_cons_succ]
                    refine lexH_yieldE rfl rfl ?_
                    apply Exists.intro
                    refine ⟨fun W hW => ?_, ?_⟩
                    focus (go_simp; exact rfl)
                    simp only [List.getElem_toArray, List.getElem_cons_succ, List.getElem_cons_zero, Act.put, List.setIfInBounds_toArray, List.set_cons_zero, List.set_cons_succ]
                    refine lexH_load rfl rfl _ _ rfl rfl S2.out ?_
                    simp only [List.getElem_toArray, List.getElem_cons_succ, List.getElem_cons_zero, Act.put, List.setIfInBounds_toArray, List.set_cons_zero, List.set_cons_succ]
                    refine lexH_yieldE rfl rfl ?_
                    apply Exists.intro
                    refine ⟨fun W hW => ?_, ?_⟩
                    focus (go_simp; exact rfl)
                    simp only [List.getElem_toArray, List.getElem_cons_succ, List.getElem_cons_zero, Act.put, List.setIfInBounds_toArray, List.set_cons_zero, List.set_cons_succ]
                    refine lexH_load rfl rfl _ _ rfl rfl S3.out ?_
                    simp only [List.getElem_toArray, List.getElem_cons_succ, List.getElem_cons_zero, Act.put, List.setIfInBounds_toArray, List.set_cons_zero, List.set_cons_succ]
                    refine lexH_yieldE rfl rfl ?_
                    apply Exists.intro
                    refine ⟨fun W hW => ?_, ?_⟩
                    focus (go_simp; exact rfl)
                    simp only [List.getElem_toArray, List.getElem_cons_succ, List.getElem_cons_zero, Act.put, List.setIfInBounds_toArray, List.set_cons_zero, List.set_cons_succ]
                    refine lexH_yieldE rfl rfl ?_
                    apply Exists.intro
                    refine ⟨fun W hW => ?_, ?_⟩
                    focus (go_simp; exact rfl)
                    simp only [List.getElem_toArray, List.getElem_cons_succ, List.getElem_cons_zero, Act.put, List.setIfInBounds_toArray, List.set_cons_zero, List.set_cons_succ]
                    refine lexH_load rfl rfl _ _ rfl rfl S1.out ?_
                    simp only [List.getElem_toArray, List.getElem_cons_succ, List.getElem_cons_zero, Act.put, List.setIfInBounds_toArray, List.set_cons_zero, List.set_cons_succ]
                    refine lexH_yieldE rfl rfl ?_
                    apply Exists.intro
                    refine ⟨fun W hW => ?_, ?_⟩
                    focus (go_simp; exact rfl)
                    simp only [List.getElem_toArray, List.getElem_cons_succ, List.getElem_cons_zero, Act.put, List.setIfInBounds_toArray, List.set_cons_zero, List.set_cons_succ]
                    refine lexH_load rfl rfl _ _ rfl rfl S2.out ?_
                    simp only [List.getElem_toArray, List.getElem_cons_succ, List.getElem_cons_zero, Act.put, List.setIfInBounds_toArray, List.set_cons_zero, List.set_cons_succ]
                    refine lexH_yieldE rfl rfl ?_
                    apply Exists.intro
                    refine ⟨fun W hW => ?_, ?_⟩
                    focus (go_simp; exact rfl)
                    simp only [List.getElem_toArray, List.getElem_cons_succ, List.getElem_cons_zero, Act.put, List.setIfInBounds_toArray, List.set_cons_zero, List.set_cons_succ]
                    refine lexH_load rfl rfl _ _ rfl rfl S3.out ?_
                    simp only [List.getElem_toArray, List.getElem_cons_succ, List.getElem_cons_zero, Act.put, List.setIfInBounds_toArray, List.set_cons_zero, List.set_cons_succ]
                    refine lexH_call 15 #[.pointer (some ⟨d, 0, none⟩), .int .i64 p, .int .i64 c, .int .u8 r] rfl rfl ?_ ?_
                    focus (go_simp; done)
                    refine (proP ok HP0.out p c r HR8.out).mono ?_
                    rintro e w4 ⟨rfl, hP4⟩
                    have HP4 := Lib.hid hP4
                    obtain ⟨q0, q1, q2, q3⟩ := hP4.op
                    refine ⟨_, rfl, ⟨q1, q2, q3⟩, ?_⟩
                    clear hP4 q0 q1 q2 q3 HP0
                    simp only [List.getElem_toArray, List.getElem_cons_succ, List.getElem_cons_zero, Act.put, List.setIfInBounds_toArray, List.set_cons_zero, List.set_cons_succ]
                    refine lexH_call 16 #[.pointer (some ⟨rb, 0, none⟩), .int .i64 p, .int .i64 c, .int .u8 r] rfl rfl ?_ ?_
                    focus (go_simp; done)
                    refine (proR HP4.out p c r).mono ?_
                    rintro e w5 ⟨rfl, hP5⟩
                    have HP5 := Lib.hid hP5
                    obtain ⟨q0, q1, q2, q3⟩ := hP5.op
                    refine ⟨_, rfl, ⟨q1, q2, q3⟩, ?_⟩
                    clear hP5 q0 q1 q2 q3 HP4 S1 S2 S3
                    simp only [List.getElem_toArray, List.getElem_cons_succ, List.getElem_cons_zero, Act.put, List.setIfInBounds_toArray, List.set_cons_zero, List.set_cons_succ]
                    refine lexH_yieldE rfl rfl ?_
                    apply Exists.intro
                    refine ⟨fun W hW => ?_, ?_⟩
                    focus (go_simp; exact rfl)
                    simp only [List.getElem_toArray, List.getElem_cons_succ, List.getElem_cons_zero, Act.put, List.setIfInBounds_toArray, List.set_cons_zero, List.set_cons_succ]
                    refine lexH_yieldE rfl rfl ?_
                    apply Exists.intro
                    refine ⟨fun W hW => ?_, ?_⟩
                    focus (go_simp; exact rfl)
                    simp only [List.getElem_toArray, List.getElem_cons_succ, List.getElem_cons_zero, Act.put, List.setIfInBounds_toArray, List.set_cons_zero, List.set_cons_succ]
                    refine lexH_nil ?_
                    go_wp2_with (fail)
                    go_meet
                    exact ⟨d, _, rfl, rfl, Lib.hid HP5.out.out⟩
                · have e3 : (kind == 3) = false := beq_eq_false_iff_ne.2 k3
                  by_cases k4 : kind = 4
                  · as_aux_lemma =>
                      subst k4
                      have S1 := Lib.hid (show ∀ V, V.cell? ⟨ob, 1, none⟩ = some (.int .i64 p) ∧ V.cell? ⟨ob, 2, none⟩ = some (.int .i64 c) → (loadVar 3 ⟨ob, 1, none⟩).run Try.prog V = .ok (.int .i64 p) V from fun V hV => run_loadVar_cell (fun _ => by kernel_rfl) hV.1)
                      have S2 := Lib.hid (show ∀ V, V.cell? ⟨ob, 1, none⟩ = some (.int .i64 p) ∧ V.cell? ⟨ob, 2, none⟩ = some (.int .i64 c) → (loadVar 3 ⟨ob, 2, none⟩).run Try.prog V = .ok (.int .i64 c) V from fun V hV => run_loadVar_cell (fun _ => by kernel_rfl) hV.2)
                      go_wp2_with (fail)
                      refine wp_region_lex1 (fun V => V.cell? ⟨ob, 1, none⟩ = some (.int .i64 p) ∧ V.cell? ⟨ob, 2, none⟩ = some (.int .i64 c)) [(0, false), (1, false), (2, false), (3, false), (4, false), (6, false), (7, false), (8, false), (9, false), (10, false), (5, true), (11, true), (12, false), (13, false)] (by kernel_rfl) (by kernel_rfl) rfl (by kernel_rfl) ⟨c1, c2⟩ ?_
                      intro W0 hW0 hK0
                      have HP0 := Lib.hid (show PO IsA w d rb f f ob ⟨4, p, c, r⟩ W0 by rw [hW0]; exact HP.out.later (Below.refl _ W).drew)
                      clear hW0 hK0 HP c0 c1 c2 c3
                      refine lexH_yieldE rfl rfl ?_
                      apply Exists.intro
                      refine ⟨fun W hW => ?_, ?_⟩
                      focus (go_simp; exact rfl)
                      simp only [List.getElem_toArray, List.getElem_cons_zero, Act.put, List.setIfInBounds_toArray, List.set_cons_zero, List.set_cons_succ]
                      refine lexH_yieldE rfl rfl ?_
                      apply Exists.intro
                      refine ⟨fun W hW => ?_, ?_⟩
                      focus (go_simp; exact rfl)
                      simp only [List.getElem_toArray, List.getElem_cons_succ, List.getElem_cons_zero, Act.put, List.setIfInBounds_toArray, List.set_cons_zero, List.set_cons_succ]
                      refine lexH_load rfl rfl _ _ rfl rfl S1.out ?_
                      simp only [List.getElem_toArray, List.getElem_cons_succ, List.getElem_cons_zero, Act.put, List.setIfInBounds_toArray, List.set_cons_zero, List.set_cons_succ]
                      refine lexH_yieldE rfl rfl ?_
                      apply Exists.intro
                      refine ⟨fun W hW => ?_, ?_⟩
                      focus (go_simp; exact rfl)
                      simp only [List.getElem_toArray, List.getElem_cons_succ, List.getElem_cons_zero, Act.put, List.setIfInBounds_toArray, List.set_cons_zero, List.set_cons_succ]
                      refine lexH_load rfl rfl _ _ rfl rfl S2.out ?_
                      simp only [List.getElem_toArray, List.getElem_cons_succ, List.getElem_cons_zero, Act.put, List.setIfInBounds_toArray, List.set_cons_zero, List.set_cons_succ]
                      refine lexH_yieldE rfl rfl ?_
                      apply Exists.intro
                      refine ⟨fun W hW => ?_, ?_⟩
                      focus (go_simp; exact rfl)
                      simp only [List.getElem_toArray, List.getElem_cons_succ, List.getElem_cons_zero, Act.put, List.setIfInBounds_toArray, List.set_cons_zero, List.set_cons_succ]
                      refine lexH_yieldE rfl rfl ?_
                      apply Exists.intro
                      refine ⟨fun W hW => ?_, ?_⟩
                      focus (go_simp; exact rfl)
                      simp only [List.getElem_toArray, List.getElem_cons_succ, List.getElem_cons_zero, Act.put, List.setIfInBounds_toArray, List.set_cons_zero, List.set_cons_succ]
                      refine lexH_load rfl rfl _ _ rfl rfl S1.out ?_
                      simp only [List.getElem_toArray, List.getElem_cons_succ, List.getElem_cons_zero, Act.put, List.setIfInBounds_toArray, List.set_cons_zero, List.set_cons_succ]
                      refine lexH_yieldE rfl rfl ?_
                      apply Exists.intro
                      refine ⟨fun W hW => ?_, ?_⟩
                      focus (go_simp; exact rfl)
                      simp only [List.getElem_toArray, List.getElem_cons_succ, List.getElem_cons_zero, Act.put, List.setIfInBounds_toArray, List.set_cons_zero, List.set_cons_succ]
                      refine lexH_load rfl rfl _ _ rfl rfl S2.out ?_
                      simp only [List.getElem_toArray, List.getElem_cons_succ, List.getElem_cons_zero, Act.put, List.setIfInBounds_toArray, List.set_cons_zero, List.set_cons_succ]
                      refine lexH_call 17 #[.pointer (some ⟨d, 0, none⟩), .int .i64 p, .int .i64 c] rfl rfl ?_ ?_
                      focus (go_simp; done)
                      refine (mpdP ok HP0.out p c HR8.out.2).mono ?_
                      rintro e w4 ⟨rfl, hP4⟩
                      have HP4 := Lib.hid hP4
                      obtain ⟨q0, q1, q2, q3⟩ := hP4.op
                      refine ⟨_, rfl, ⟨q1, q2⟩, ?_⟩
                      clear hP4 q0 q1 q2 q3 HP0
                      simp only [List.getElem_toArray, List.getElem_cons_succ, List.getElem_cons_zero, Act.put, List.setIfInBounds_toArray, List.set_cons_zero, List.set_cons_succ]
                      refine lexH_call 18 #[.pointer (some ⟨rb, 0, none⟩), .int .i64 p, .int .i64 c] rfl rfl ?_ ?_
                      focus (go_simp; done)
                      refine (mpdR HP4.out p c).mono ?_
                      rintro e w5 ⟨rfl, hP5⟩
                      have HP5 := Lib.hid hP5
                      obtain ⟨q0, q1, q2, q3⟩ := hP5.op
                      refine ⟨_, rfl, ⟨q1, q2⟩, ?_⟩
                      clear hP5 q0 q1 q2 q3 HP4 S1 S2
                      simp only [List.getElem_toArray, List.getElem_cons_succ, List.getElem_cons_zero, Act.put, List.setIfInBounds_toArray, List.set_cons_zero, List.set_cons_succ]
                      refine lexH_yieldE rfl rfl ?_
                      apply Exists.intro
                      refine ⟨fun W hW => ?_, ?_⟩
                      focus (go_simp; exact rfl)
                      simp only [List.getElem_toArray, List.getElem_cons_succ, List.getElem_cons_zero, Act.put, List.setIfInBounds_toArray, List.set_cons_zero, List.set_cons_succ]
                      refine lexH_yieldE rfl rfl ?_
                      apply Exists.intro
                      refine ⟨fun W hW => ?_, ?_⟩
                      focus (go_simp; exact rfl)
                      simp only [List.getElem_toArray, List.getElem_cons_succ, List.getElem_cons_zero, Act.put, List.setIfInBounds_toArray, List.set_cons_zero, List.set_cons_succ]
                      refine lexH_nil ?_
                      go_wp2_with (fail)
                      go_meet
                      exact ⟨d, _, rfl, rfl, Lib.hid HP5.out.out⟩
                  · have e4 : (kind == 4) = false := beq_eq_false_iff_ne.2 k4
                    by_cases k5 : kind = 5
                    · as_aux_lemma =>
                        subst k5
                        go_wp2_with (fail)
                        refine (rgtP ok HP.out p).mono ?_
                        rintro e w4 ⟨rfl, hP4⟩
                        have HP4 := Lib.hid hP4
                        clear hP4 HP c0 c1 c2 c3
                        obtain ⟨c0, c1, c2, c3⟩ := HP4.out.op
                        go_wp2_with (fail)
                        refine (rgtR HP4.out p).mono ?_
                        rintro e w5 ⟨rfl, hP5⟩
                        have HP5 := Lib.hid hP5
                        clear hP5 HP4 c0 c1 c2 c3
                        generalize rgV f p = v at *
                        go_wp2_with (fail)
                        go_meet
                        exact ⟨d, _, rfl, rfl, Lib.hid HP5.out.out⟩
                    · have e5 : (kind == 5) = false := beq_eq_false_iff_ne.2 k5
                      by_cases k6 : kind = 6
                      · as_aux_lemma =>
                          subst k6
                          go_wp2_with (fail)
                          refine (cpyP ok HP.out).mono ?_
                          rintro e w4 ⟨d2, rfl, hP4⟩
                          have HP4 := Lib.hid hP4
                          clear hP4 HP c0 c1 c2 c3
                          go_wp2_with (fail)
                          refine (unmC ok HP4.out 0 1024 (by decide)).mono ?_
                          rintro e w5 ⟨rfl, g5, hP5⟩
                          have HP5 := Lib.hid hP5
                          obtain ⟨c0, c1, c2, c3⟩ := hP5.op
                          clear hP5 HP4
                          go_wp2_with (fail)
                          refine (mapC ok HP5.out p 1 1 1 rfl ⟨by decide, HR8.out.2⟩).mono ?_
                          rintro e w6 ⟨rfl, g6, hP6⟩
                          have HP6 := Lib.hid hP6
                          clear hP6 HP5 c0 c1 c2 c3
                          go_wp2_with (fail)
                          go_meet
                          exact ⟨d2, _, rfl, rfl, Lib.hid HP6.out.out⟩
                      · have e6 : (kind == 6) = false := beq_eq_false_iff_ne.2 k6
                        go_wp2_with (fail)
                        go_meet
                        exact ⟨d, _, rfl, rfl, Lib.hid HP.out.out⟩
        case rest =>
          obtain ⟨d', f', rfl, rfl, HC⟩ := hcut
          clear HP
          go_wp2_with (go_at_call 22; refine (sameP ok HC.out).mono ?_; rintro e w9 ⟨rfl, h9⟩; have HP9 := Lib.hid h9; clear h9)
          go_roundw
          case rel => exact ⟨k + 1, d', f', by have := HLT.out; omega, by go_num, rfl, HP9⟩
          case measure => have := HLT.out; simp [intOf]; omega
      · obtain rfl : k = len := by omega
        go_wp2_with (fail)
        refine (known_any ok _).mono ?_
        rintro e w2 ⟨rfl, hb2⟩
        have HB2 := Lib.hid (HD.out.bel.trans (hb2.mono HD.out.bel.size))
        clear hb2
        go_wp2_with (fail)
        go_ret
        exact ⟨rfl, HB2.out⟩
  · have hlenI : 150 < (len : Int) := by omega
    go_wp2_with (fail)
    refine (known_any ok _).mono ?_
    rintro e w2 ⟨rfl, hb2⟩
    have HB2 := Lib.hid ((HB.out.alloc HB.out.size (.cells zeroP TArr)).trans (hb2.mono (by simp; have := HB.out.size; omega)))
    clear hb2
    go_wp2_with (fail)
    go_ret
    exact ⟨rfl, HB2.out⟩
end
end Go.Proofs.Ythnkbipdlepbaaa
