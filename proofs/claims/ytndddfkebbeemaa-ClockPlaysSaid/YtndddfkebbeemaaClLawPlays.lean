/-
  The walk of ClockPlays, for whatever clock.
-/
import Derived.Test.YtndddfkebbeemaaClSame
import Derived.Test.YtndddfkebbeemaaClOps
import Derived.Test.YtndddfkebbeemaaArr
namespace Go.Proofs.Ytndddfkebbeemaa
open Go.RowKit Go.Shelf Go
attribute [local go_sem] Oper.semAt_some

def opF (kind frame : Int) (i : Nat) : Value := if i = 0 then .int .i64 kind else .int .i64 frame
theorem opf_row (w : World) (k f : Int) (t : TypeId) : RowAt (w.alloc (.cells #[.int .i64 k, .int .i64 f] t)) w.heap.size 2 (opF k f) :=
  RowAt.new w _ _ _ _ fun i hi => by
    rcases (show i = 0 ∨ i = 1 by omega) with rfl | rfl <;> rfl
section
variable {IsC : Thg → Nat → List Fr → Prop} (ok : ClOk IsC)
include ok
set_option maxRecDepth 100000 in
set_option maxHeartbeats 16000000 in
theorem lawCPlays_any (stop : Int) (a : Option Addr) (len cap : Nat) (O : Nat → OpA) (w : World) (hO : OpsAt w a len O) :
    Calls Try.prog 3 #[.slice a len cap, .int .i64 stop] w fun e w' => e = .returned (.bool true) ∧ Below w.heap.size w w' := by
  have HO := Lib.hid hO
  clear hO
  by_cases hl : len ≤ 200
  · have hlI : ¬ (200 : Int) < len := by omega
    go_enter Try.func3, Try.ntmps3
    go_wp2_with (fail)
    refine (new_cl ok w).mono ?_
    rintro e w1 ⟨d0, rfl, hk⟩
    have HK1 := Lib.hid (new_pd hk)
    clear hk
    go_wp2_with (fail)
    generalize w1.alloc (.cells #[.slice none 0 0] 29) = w2 at *
    generalize w1.heap.size = r at *
    go_loopw [5, 23] (fun cv iv wr => ∃ (k d : Nat) (L : List Fr), cv = .pointer (some ⟨d, 0, none⟩) ∧ iv = .int .i64 k ∧ k ≤ len ∧ L.length ≤ k ∧ Hid (KPT (PD IsC d L r L) w (fun _ => False) wr)) (fun _ iv _ => len - (intOf iv).toNat)
    case atStart => exact ⟨0, d0, [], rfl, rfl, Nat.zero_le _, Nat.le_refl _, HK1⟩
    case round =>
      clear HK1
      obtain ⟨k, d, L, rfl, rfl, hk, hLk, HK⟩ := hrel
      by_cases hlk : k < len
      · have hkI : (k : Int) < len := by omega
        obtain ⟨gi, oi, rfl, _, hok, hcI⟩ := HO.out.one k hlk
        obtain ⟨a0, a1⟩ := hcI wr HK.out.bel
        clear hcI
        generalize O k = op at a0 a1 hok
        obtain ⟨kind, frame⟩ := op
        dsimp only at a0 a1 hok
        have hok : InZ frame := hok
        have hL1 : L.length < 1000 := by omega
        have HIV := Lib.hid (HK.out.one_pd.inv_cl ok)
        by_cases h0 : kind = 0
        · subst h0
          have HW1 := Lib.hid (show KPT (PD IsC d L r L) w (fun k => k = wr.heap.size) (wr.alloc (.cells #[.int .i64 0, .int .i64 frame] 31)) from HK.out.add ((Below.refl _ _).alloc (Nat.le_refl _) _) (fun k hk => .inr ⟨Nat.le_of_eq hk.symm, by rw [hk]; simp⟩))
          have HR1 := Lib.hid (opf_row wr 0 frame 31)
          go_wp2_with (fail)
          generalize wr.alloc (.cells #[.int .i64 0, .int .i64 frame] 31) = W1 at *
          generalize wr.heap.size = ob at *
          clear HK a0 a1
          have L1 := Lib.hid (show ∀ U, RowAt U ob 2 (opF 0 frame) → (loadVar 3 ⟨ob, 1, none⟩).run Try.prog U = .ok (.int .i64 frame) U from fun U hU => run_loadVar_cell (fun _ => by kernel_rfl) (hU.cell 1 (by decide)))
          refine wp_region_lex1 (fun U => RowAt U ob 2 (opF 0 frame)) [(0, false), (1, false), (2, false), (4, false), (5, false), (6, false), (3, true), (7, true), (8, false)] (by kernel_rfl) (by kernel_rfl) rfl (by kernel_rfl) (HR1.out.later (Below.refl _ _).drew) ?_
          intro V0 hV0 hS0
          have HW2 := Lib.hid (show KPT (PD IsC d L r L) w (fun k => k = ob) V0 from by rw [hV0]; exact HW1.out.later (Below.refl _ _).drew)
          have HR2 := Lib.hid hS0
          clear hV0 hS0 HW1 HR1
          refine lexH_yieldE rfl rfl ?_
          apply Exists.intro
          refine ⟨fun W hW => ?_, ?_⟩
          focus (go_simp; exact rfl)
          simp only [List.getElem_toArray, List.getElem_cons_zero, Act.put, List.setIfInBounds_toArray, List.set_cons_zero, List.set_cons_succ]
          refine lexH_yieldE rfl rfl ?_
          apply Exists.intro
          refine ⟨fun W hW => ?_, ?_⟩
          focus (go_simp; exact rfl)
          simp only [List.getElem_toArray, List.getElem_cons_succ, List.getElem_cons_zero, Act.put, List.setIfInBounds_toArray, List.set_cons_zero, List.set_cons_succ]
          refine lexH_load rfl rfl _ _ rfl rfl L1.out ?_
          simp only [List.getElem_toArray, List.getElem_cons_succ, List.getElem_cons_zero, Act.put, List.setIfInBounds_toArray, List.set_cons_zero, List.set_cons_succ]
          refine lexH_yieldE rfl rfl ?_
          apply Exists.intro
          refine ⟨fun W hW => ?_, ?_⟩
          focus (go_simp; exact rfl)
          simp only [List.getElem_toArray, List.getElem_cons_succ, List.getElem_cons_zero, Act.put, List.setIfInBounds_toArray, List.set_cons_zero, List.set_cons_succ]
          refine lexH_yieldE rfl rfl ?_
          apply Exists.intro
          refine ⟨fun W hW => ?_, ?_⟩
          focus (go_simp; exact rfl)
          simp only [List.getElem_toArray, List.getElem_cons_succ, List.getElem_cons_zero, Act.put, List.setIfInBounds_toArray, List.set_cons_zero, List.set_cons_succ]
          refine lexH_load rfl rfl _ _ rfl rfl L1.out ?_
          simp only [List.getElem_toArray, List.getElem_cons_succ, List.getElem_cons_zero, Act.put, List.setIfInBounds_toArray, List.set_cons_zero, List.set_cons_succ]
          refine lexH_call 11 #[.pointer (some ⟨d, 0, none⟩), .int .i64 frame] rfl rfl ?_ ?_
          focus (go_simp; done)
          refine (add_pd ok HW2.out frame hok hL1 _ _ rfl rfl).mono ?_
          rintro e W2 ⟨rfl, hk3, ho3⟩
          have HW3 := Lib.hid hk3
          have HR3 := Lib.hid (HR2.out.only ho3 (fun h => h rfl))
          refine ⟨_, rfl, HR3.out, ?_⟩
          clear hk3 ho3 HW2 HR2
          simp only [List.getElem_toArray, List.getElem_cons_succ, List.getElem_cons_zero, Act.put, List.setIfInBounds_toArray, List.set_cons_zero, List.set_cons_succ]
          refine lexH_call 12 #[.pointer (some ⟨r, 0, none⟩), .int .i64 frame] rfl rfl ?_ ?_
          focus (go_simp; done)
          refine (radd_pd HIV.out HW3.out frame _ _ rfl rfl).mono ?_
          rintro e W3 ⟨rfl, hk4, ho4⟩
          have HW4 := Lib.hid hk4
          have HR4 := Lib.hid (HR3.out.only ho4 (fun h => h rfl))
          refine ⟨_, rfl, HR4.out, ?_⟩
          clear hk4 ho4 HW3 HR3 L1
          generalize addE L frame = er at *
          simp only [List.getElem_toArray, List.getElem_cons_succ, List.getElem_cons_zero, Act.put, List.setIfInBounds_toArray, List.set_cons_zero, List.set_cons_succ]
          refine lexH_yieldE rfl rfl ?_
          apply Exists.intro
          refine ⟨fun W hW => ?_, ?_⟩
          focus (go_simp; exact rfl)
          simp only [List.getElem_toArray, List.getElem_cons_succ, List.getElem_cons_zero, Act.put, List.setIfInBounds_toArray, List.set_cons_zero, List.set_cons_succ]
          refine lexH_nil ?_
          have hLn : (addL L frame).length ≤ k + 1 := by have := addL_len L frame; omega
          generalize addL L frame = L2 at hLn HW4
          have c1 : W3.cell? ⟨ob, 1, none⟩ = some (.int .i64 frame) := HR4.out.cell 1 (by decide)
          go_wp2_with (fail)
          refine (callsIn_wide.1 (same_in ok 8 (Nat.le_refl _) HW4.out frame stop hok)).mono ?_
          rintro e W9 ⟨rfl, hb9⟩
          have HK9 := Lib.hid (show KPT (PD IsC d L2 r L2) w (fun _ => False) W9 from HW4.out.add hb9 (fun _ h => h.elim))
          clear hb9 HW4 HR4 c1
          go_wp2_with (fail)
          go_roundw
          case rel => exact ⟨k + 1, d, L2, rfl, by go_num, hlk, hLn, HK9⟩
          case measure => simp [intOf]; omega
        · have hb0 : (kind == 0) = false := by simp; exact h0
          by_cases h1 : kind = 1
          · subst h1
            have HW1 := Lib.hid (show KPT (PD IsC d L r L) w (fun k => k = wr.heap.size) (wr.alloc (.cells #[.int .i64 1, .int .i64 frame] 31)) from HK.out.add ((Below.refl _ _).alloc (Nat.le_refl _) _) (fun k hk => .inr ⟨Nat.le_of_eq hk.symm, by rw [hk]; simp⟩))
            have HR1 := Lib.hid (opf_row wr 1 frame 31)
            go_wp2_with (fail)
            generalize wr.alloc (.cells #[.int .i64 1, .int .i64 frame] 31) = W1 at *
            generalize wr.heap.size = ob at *
            clear HK a0 a1
            have L1 := Lib.hid (show ∀ U, RowAt U ob 2 (opF 1 frame) → (loadVar 3 ⟨ob, 1, none⟩).run Try.prog U = .ok (.int .i64 frame) U from fun U hU => run_loadVar_cell (fun _ => by kernel_rfl) (hU.cell 1 (by decide)))
            refine wp_region_lex1 (fun U => RowAt U ob 2 (opF 1 frame)) [(0, false), (1, false), (2, false), (4, false), (5, false), (6, false), (3, true), (7, true), (8, false)] (by kernel_rfl) (by kernel_rfl) rfl (by kernel_rfl) (HR1.out.later (Below.refl _ _).drew) ?_
            intro V0 hV0 hS0
            have HW2 := Lib.hid (show KPT (PD IsC d L r L) w (fun k => k = ob) V0 from by rw [hV0]; exact HW1.out.later (Below.refl _ _).drew)
            have HR2 := Lib.hid hS0
            clear hV0 hS0 HW1 HR1
            refine lexH_yieldE rfl rfl ?_
            apply Exists.intro
            refine ⟨fun W hW => ?_, ?_⟩
            focus (go_simp; exact rfl)
            simp only [List.getElem_toArray, List.getElem_cons_zero, Act.put, List.setIfInBounds_toArray, List.set_cons_zero, List.set_cons_succ]
            refine lexH_yieldE rfl rfl ?_
            apply Exists.intro
            refine ⟨fun W hW => ?_, ?_⟩
            focus (go_simp; exact rfl)
            simp only [List.getElem_toArray, List.getElem_cons_succ, List.getElem_cons_zero, Act.put, List.setIfInBounds_toArray, List.set_cons_zero, List.set_cons_succ]
            refine lexH_load rfl rfl _ _ rfl rfl L1.out ?_
            simp only [List.getElem_toArray, List.getElem_cons_succ, List.getElem_cons_zero, Act.put, List.setIfInBounds_toArray, List.set_cons_zero, List.set_cons_succ]
            refine lexH_yieldE rfl rfl ?_
            apply Exists.intro
            refine ⟨fun W hW => ?_, ?_⟩
            focus (go_simp; exact rfl)
            simp only [List.getElem_toArray, List.getElem_cons_succ, List.getElem_cons_zero, Act.put, List.setIfInBounds_toArray, List.set_cons_zero, List.set_cons_succ]
            refine lexH_yieldE rfl rfl ?_
            apply Exists.intro
            refine ⟨fun W hW => ?_, ?_⟩
            focus (go_simp; exact rfl)
            simp only [List.getElem_toArray, List.getElem_cons_succ, List.getElem_cons_zero, Act.put, List.setIfInBounds_toArray, List.set_cons_zero, List.set_cons_succ]
            refine lexH_load rfl rfl _ _ rfl rfl L1.out ?_
            simp only [List.getElem_toArray, List.getElem_cons_succ, List.getElem_cons_zero, Act.put, List.setIfInBounds_toArray, List.set_cons_zero, List.set_cons_succ]
            refine lexH_call 13 #[.pointer (some ⟨d, 0, none⟩), .int .i64 frame] rfl rfl ?_ ?_
            focus (go_simp; done)
            refine (remove_pd ok HW2.out frame hok _ _ rfl rfl).mono ?_
            rintro e W2 ⟨rfl, hk3, ho3⟩
            have HW3 := Lib.hid hk3
            have HR3 := Lib.hid (HR2.out.only ho3 (fun h => h rfl))
            refine ⟨_, rfl, HR3.out, ?_⟩
            clear hk3 ho3 HW2 HR2
            simp only [List.getElem_toArray, List.getElem_cons_succ, List.getElem_cons_zero, Act.put, List.setIfInBounds_toArray, List.set_cons_zero, List.set_cons_succ]
            refine lexH_call 14 #[.pointer (some ⟨r, 0, none⟩), .int .i64 frame] rfl rfl ?_ ?_
            focus (go_simp; done)
            refine (rrem_pd HIV.out HW3.out frame _ _ rfl rfl).mono ?_
            rintro e W3 ⟨rfl, hk4, ho4⟩
            have HW4 := Lib.hid hk4
            have HR4 := Lib.hid (HR3.out.only ho4 (fun h => h rfl))
            refine ⟨_, rfl, HR4.out, ?_⟩
            clear hk4 ho4 HW3 HR3 L1
            generalize noE L frame = er at *
            simp only [List.getElem_toArray, List.getElem_cons_succ, List.getElem_cons_zero, Act.put, List.setIfInBounds_toArray, List.set_cons_zero, List.set_cons_succ]
            refine lexH_yieldE rfl rfl ?_
            apply Exists.intro
            refine ⟨fun W hW => ?_, ?_⟩
            focus (go_simp; exact rfl)
            simp only [List.getElem_toArray, List.getElem_cons_succ, List.getElem_cons_zero, Act.put, List.setIfInBounds_toArray, List.set_cons_zero, List.set_cons_succ]
            refine lexH_nil ?_
            have hLn : (remL L frame).length ≤ k + 1 := by have := remL_len L frame; omega
            generalize remL L frame = L2 at hLn HW4
            have c1 : W3.cell? ⟨ob, 1, none⟩ = some (.int .i64 frame) := HR4.out.cell 1 (by decide)
            go_wp2_with (fail)
            refine (callsIn_wide.1 (same_in ok 8 (Nat.le_refl _) HW4.out frame stop hok)).mono ?_
            rintro e W9 ⟨rfl, hb9⟩
            have HK9 := Lib.hid (show KPT (PD IsC d L2 r L2) w (fun _ => False) W9 from HW4.out.add hb9 (fun _ h => h.elim))
            clear hb9 HW4 HR4 c1
            go_wp2_with (fail)
            go_roundw
            case rel => exact ⟨k + 1, d, L2, rfl, by go_num, hlk, hLn, HK9⟩
            case measure => simp [intOf]; omega
          · have hb1 : (kind == 1) = false := by simp; exact h1
            by_cases h2 : kind = 2
            · subst h2
              have HW1 := Lib.hid (show KPT (PD IsC d L r L) w (fun k => k = wr.heap.size) (wr.alloc (.cells #[.int .i64 2, .int .i64 frame] 31)) from HK.out.add ((Below.refl _ _).alloc (Nat.le_refl _) _) (fun k hk => .inr ⟨Nat.le_of_eq hk.symm, by rw [hk]; simp⟩))
              have HR1 := Lib.hid (opf_row wr 2 frame 31)
              go_wp2_with (fail)
              generalize wr.alloc (.cells #[.int .i64 2, .int .i64 frame] 31) = W1 at *
              generalize wr.heap.size = ob at *
              clear HK a0 a1
              have L1 := Lib.hid (show ∀ U, RowAt U ob 2 (opF 2 frame) → (loadVar 3 ⟨ob, 1, none⟩).run Try.prog U = .ok (.int .i64 frame) U from fun U hU => run_loadVar_cell (fun _ => by kernel_rfl) (hU.cell 1 (by decide)))
              refine wp_region_lex1 (fun U => RowAt U ob 2 (opF 2 frame)) [(0, false), (1, false), (2, false), (4, false), (5, false), (6, false), (3, true), (7, true), (8, false)] (by kernel_rfl) (by kernel_rfl) rfl (by kernel_rfl) (HR1.out.later (Below.refl _ _).drew) ?_
              intro V0 hV0 hS0
              have HW2 := Lib.hid (show KPT (PD IsC d L r L) w (fun k => k = ob) V0 from by rw [hV0]; exact HW1.out.later (Below.refl _ _).drew)
              have HR2 := Lib.hid hS0
              clear hV0 hS0 HW1 HR1
              refine lexH_yieldE rfl rfl ?_
              apply Exists.intro
              refine ⟨fun W hW => ?_, ?_⟩
              focus (go_simp; exact rfl)
              simp only [List.getElem_toArray, List.getElem_cons_zero, Act.put, List.setIfInBounds_toArray, List.set_cons_zero, List.set_cons_succ]
              refine lexH_yieldE rfl rfl ?_
              apply Exists.intro
              refine ⟨fun W hW => ?_, ?_⟩
              focus (go_simp; exact rfl)
              simp only [List.getElem_toArray, List.getElem_cons_succ, List.getElem_cons_zero, Act.put, List.setIfInBounds_toArray, List.set_cons_zero, List.set_cons_succ]
              refine lexH_load rfl rfl _ _ rfl rfl L1.out ?_
              simp only [List.getElem_toArray, List.getElem_cons_succ, List.getElem_cons_zero, Act.put, List.setIfInBounds_toArray, List.set_cons_zero, List.set_cons_succ]
              refine lexH_yieldE rfl rfl ?_
              apply Exists.intro
              refine ⟨fun W hW => ?_, ?_⟩
              focus (go_simp; exact rfl)
              simp only [List.getElem_toArray, List.getElem_cons_succ, List.getElem_cons_zero, Act.put, List.setIfInBounds_toArray, List.set_cons_zero, List.set_cons_succ]
              refine lexH_yieldE rfl rfl ?_
              apply Exists.intro
              refine ⟨fun W hW => ?_, ?_⟩
              focus (go_simp; exact rfl)
              simp only [List.getElem_toArray, List.getElem_cons_succ, List.getElem_cons_zero, Act.put, List.setIfInBounds_toArray, List.set_cons_zero, List.set_cons_succ]
              refine lexH_load rfl rfl _ _ rfl rfl L1.out ?_
              simp only [List.getElem_toArray, List.getElem_cons_succ, List.getElem_cons_zero, Act.put, List.setIfInBounds_toArray, List.set_cons_zero, List.set_cons_succ]
              refine lexH_call 15 #[.pointer (some ⟨d, 0, none⟩), .int .i64 frame] rfl rfl ?_ ?_
              focus (go_simp; done)
              refine (touch_pd ok HW2.out frame hok _ _ rfl rfl).mono ?_
              rintro e W2 ⟨rfl, hk3, ho3⟩
              have HW3 := Lib.hid hk3
              have HR3 := Lib.hid (HR2.out.only ho3 (fun h => h rfl))
              refine ⟨_, rfl, HR3.out, ?_⟩
              clear hk3 ho3 HW2 HR2
              simp only [List.getElem_toArray, List.getElem_cons_succ, List.getElem_cons_zero, Act.put, List.setIfInBounds_toArray, List.set_cons_zero, List.set_cons_succ]
              refine lexH_call 16 #[.pointer (some ⟨r, 0, none⟩), .int .i64 frame] rfl rfl ?_ ?_
              focus (go_simp; done)
              refine (rtouch_pd HIV.out HW3.out frame _ _ rfl rfl).mono ?_
              rintro e W3 ⟨rfl, hk4, ho4⟩
              have HW4 := Lib.hid hk4
              have HR4 := Lib.hid (HR3.out.only ho4 (fun h => h rfl))
              refine ⟨_, rfl, HR4.out, ?_⟩
              clear hk4 ho4 HW3 HR3 L1
              generalize noE L frame = er at *
              simp only [List.getElem_toArray, List.getElem_cons_succ, List.getElem_cons_zero, Act.put, List.setIfInBounds_toArray, List.set_cons_zero, List.set_cons_succ]
              refine lexH_yieldE rfl rfl ?_
              apply Exists.intro
              refine ⟨fun W hW => ?_, ?_⟩
              focus (go_simp; exact rfl)
              simp only [List.getElem_toArray, List.getElem_cons_succ, List.getElem_cons_zero, Act.put, List.setIfInBounds_toArray, List.set_cons_zero, List.set_cons_succ]
              refine lexH_nil ?_
              have hLn : (touL L frame).length ≤ k + 1 := by have := touL_len L frame; omega
              generalize touL L frame = L2 at hLn HW4
              have c1 : W3.cell? ⟨ob, 1, none⟩ = some (.int .i64 frame) := HR4.out.cell 1 (by decide)
              go_wp2_with (fail)
              refine (callsIn_wide.1 (same_in ok 8 (Nat.le_refl _) HW4.out frame stop hok)).mono ?_
              rintro e W9 ⟨rfl, hb9⟩
              have HK9 := Lib.hid (show KPT (PD IsC d L2 r L2) w (fun _ => False) W9 from HW4.out.add hb9 (fun _ h => h.elim))
              clear hb9 HW4 HR4 c1
              go_wp2_with (fail)
              go_roundw
              case rel => exact ⟨k + 1, d, L2, rfl, by go_num, hlk, hLn, HK9⟩
              case measure => simp [intOf]; omega
            · have hb2 : (kind == 2) = false := by simp; exact h2
              by_cases h3 : kind = 3
              · subst h3
                have HW1 := Lib.hid (show KPT (PD IsC d L r L) w (fun k => k = wr.heap.size) (wr.alloc (.cells #[.int .i64 3, .int .i64 frame] 31)) from HK.out.add ((Below.refl _ _).alloc (Nat.le_refl _) _) (fun k hk => .inr ⟨Nat.le_of_eq hk.symm, by rw [hk]; simp⟩))
                have HR1 := Lib.hid (opf_row wr 3 frame 31)
                go_wp2_with (fail)
                generalize wr.alloc (.cells #[.int .i64 3, .int .i64 frame] 31) = W1 at *
                generalize wr.heap.size = ob at *
                clear HK a0 a1
                obtain ⟨⟨⟨n, b⟩, L3⟩, hn3⟩ : ∃ z, nextL L = z := ⟨_, rfl⟩
                have HN3 := Lib.hid (show L3.length = L.length from by have h7 := nextL_len L; rw [hn3] at h7; exact h7)
                refine (next_pd ok HW1.out n b L3 hn3).mono ?_
                rintro e W2 ⟨rfl, hk3, ho3⟩
                have HW3 := Lib.hid hk3
                have HR3 := Lib.hid (HR1.out.only ho3 (fun h => h rfl))
                clear hk3 ho3 HW1 HR1
                have HRN := Lib.hid (rnext_pd HIV.out HW3.out n b L3 hn3)
                clear hn3
                go_wp2_with (fail)
                refine HRN.out.mono ?_
                rintro e W3 ⟨rfl, hk4, ho4⟩
                have HW4 := Lib.hid hk4
                have HR4 := Lib.hid (HR3.out.only ho4 (fun h => h rfl))
                clear hk4 ho4 HW3 HR3 HRN
                have hLn : (L3).length ≤ k + 1 := by have := HN3.out; omega
                generalize L3 = L2 at hLn HW4
                have c1 : W3.cell? ⟨ob, 1, none⟩ = some (.int .i64 frame) := HR4.out.cell 1 (by decide)
                go_wp2_with (fail)
                refine (callsIn_wide.1 (same_in ok 8 (Nat.le_refl _) HW4.out frame stop hok)).mono ?_
                rintro e W9 ⟨rfl, hb9⟩
                have HK9 := Lib.hid (show KPT (PD IsC d L2 r L2) w (fun _ => False) W9 from HW4.out.add hb9 (fun _ h => h.elim))
                clear hb9 HW4 HR4 c1
                go_wp2_with (fail)
                go_roundw
                case rel => exact ⟨k + 1, d, L2, rfl, by go_num, hlk, hLn, HK9⟩
                case measure => simp [intOf]; omega
              · have hb3 : (kind == 3) = false := by simp; exact h3
                by_cases h4 : kind = 4
                · subst h4
                  have HW1 := Lib.hid (show KPT (PD IsC d L r L) w (fun k => k = wr.heap.size) (wr.alloc (.cells #[.int .i64 4, .int .i64 frame] 31)) from HK.out.add ((Below.refl _ _).alloc (Nat.le_refl _) _) (fun k hk => .inr ⟨Nat.le_of_eq hk.symm, by rw [hk]; simp⟩))
                  have HR1 := Lib.hid (opf_row wr 4 frame 31)
                  go_wp2_with (fail)
                  generalize wr.alloc (.cells #[.int .i64 4, .int .i64 frame] 31) = W1 at *
                  generalize wr.heap.size = ob at *
                  clear HK a0 a1
                  refine (copy_pd ok HW1.out).mono ?_
                  rintro e W2 ⟨d2, rfl, hk3, ho3⟩
                  have HW3 := Lib.hid hk3
                  have HR3 := Lib.hid (HR1.out.only ho3 (fun h => h rfl))
                  clear hk3 ho3 HW1 HR1
                  go_wp2_with (fail)
                  refine (add_p3 ok HW3.out 1048576 (by decide) hL1).mono ?_
                  rintro e W3 ⟨c4, L4, rfl, hk4, ho4⟩
                  have HW4 := Lib.hid hk4
                  have HR4 := Lib.hid (HR3.out.only ho4 (fun h => h rfl))
                  clear hk4 ho4 HW3 HR3
                  go_wp2_with (fail)
                  refine (next_p3 ok HW4.out).mono ?_
                  rintro e W4 ⟨n5, b5, L5, rfl, hk5, ho5⟩
                  have HW5 := Lib.hid hk5.drop_p3
                  have HR5 := Lib.hid (HR4.out.only ho5 (fun h => h rfl))
                  clear hk5 ho5 HW4 HR4
                  have hLn : (L).length ≤ k + 1 := by omega
                  generalize L = L2 at hLn HW5
                  have c1 : W4.cell? ⟨ob, 1, none⟩ = some (.int .i64 frame) := HR5.out.cell 1 (by decide)
                  go_wp2_with (fail)
                  refine (callsIn_wide.1 (same_in ok 8 (Nat.le_refl _) HW5.out frame stop hok)).mono ?_
                  rintro e W9 ⟨rfl, hb9⟩
                  have HK9 := Lib.hid (show KPT (PD IsC d2 L2 r L2) w (fun _ => False) W9 from HW5.out.add hb9 (fun _ h => h.elim))
                  clear hb9 HW5 HR5 c1
                  go_wp2_with (fail)
                  go_roundw
                  case rel => exact ⟨k + 1, d2, L2, rfl, by go_num, hlk, hLn, HK9⟩
                  case measure => simp [intOf]; omega
                · have hb4 : (kind == 4) = false := by simp; exact h4
                  have HW1 := Lib.hid (show KPT (PD IsC d L r L) w (fun k => k = wr.heap.size) (wr.alloc (.cells #[.int .i64 kind, .int .i64 frame] 31)) from HK.out.add ((Below.refl _ _).alloc (Nat.le_refl _) _) (fun k hk => .inr ⟨Nat.le_of_eq hk.symm, by rw [hk]; simp⟩))
                  have HR1 := Lib.hid (opf_row wr kind frame 31)
                  go_wp2_with (fail)
                  generalize wr.alloc (.cells #[.int .i64 kind, .int .i64 frame] 31) = W1 at *
                  generalize wr.heap.size = ob at *
                  clear HK a0 a1
                  have hLn : (L).length ≤ k + 1 := by omega
                  generalize L = L2 at hLn HW1
                  have c1 : W1.cell? ⟨ob, 1, none⟩ = some (.int .i64 frame) := HR1.out.cell 1 (by decide)
                  go_wp2_with (fail)
                  refine (callsIn_wide.1 (same_in ok 8 (Nat.le_refl _) HW1.out frame stop hok)).mono ?_
                  rintro e W9 ⟨rfl, hb9⟩
                  have HK9 := Lib.hid (show KPT (PD IsC d L2 r L2) w (fun _ => False) W9 from HW1.out.add hb9 (fun _ h => h.elim))
                  clear hb9 HW1 HR1 c1
                  go_wp2_with (fail)
                  go_roundw
                  case rel => exact ⟨k + 1, d, L2, rfl, by go_num, hlk, hLn, HK9⟩
                  case measure => simp [intOf]; omega
      · obtain rfl : k = len := by omega
        go_wp2_with (fail)
        refine (cknown_any ok _).mono ?_
        rintro e w3 ⟨rfl, hb⟩
        have HB := Lib.hid ((HK.out.bel).trans (hb.mono HK.out.bel.size))
        clear hb
        go_wp2_with (fail)
        go_ret
        exact ⟨rfl, HB.out⟩
  · have hlI : (200 : Int) < len := by omega
    go_enter Try.func3, Try.ntmps3
    go_wp2_with (fail)
    refine (cknown_any ok _).mono ?_
    rintro e w3 ⟨rfl, hb⟩
    have HB := Lib.hid hb
    clear hb
    go_wp2_with (fail)
    go_ret
    exact ⟨rfl, HB.out⟩
end
end Go.Proofs.Ytndddfkebbeemaa
