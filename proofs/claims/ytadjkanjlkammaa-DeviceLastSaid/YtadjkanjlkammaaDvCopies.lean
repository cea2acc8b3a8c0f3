/-
  The walk of DeviceCopies: it returns true, and below the old heap nothing has turned.
-/
import Derived.Test.YtadjkanjlkammaaDvApart
namespace Go.Proofs.Ytadjkanjlkammaa
open Go.RowKit Go

/-- All but the copy's slots is as it was; the copy is one still. -/
def CopS (w : World) (E : DB) (W : World) : Prop := Only (Eq E.sb) w W ∧ ∃ B, DevAt W E B
theorem DevAt.drawn {w : World} {E : DB} {B : Nat → UInt8} (H : DevAt w E B) : ∃ B', DevAt { w with drawn := w.drawn + 1 } E B' := ⟨B, H.c0, H.c1, H.slots.block rfl, H.n1, H.d1⟩
theorem CopS.later {w : World} {E : DB} {W W' : World} (h : CopS w E W) (hb : Below W.heap.size W W') : CopS w E W' := ⟨h.1.trans (Only.of_below hb), h.2.imp fun _ H => H.later hb⟩

set_option maxRecDepth 100000 in
set_option maxHeartbeats 4000000 in
theorem lawCopies_any (slots at1 : Int) (a b c : Option Addr) (la ca lb cb lc cc : Nat) (x y z : Nat → UInt8) (w : World) (SA : Src w a la x) (SB : Src w b lb y) (SC : Src w c lc z) :
    Calls Try.prog 7 #[.int .i64 slots, .int .i64 at1, .slice a la ca, .slice b lb cb, .slice c lc cc] w fun e w' => e = .returned (.bool true) ∧ Below w.heap.size w w' := by
  have HSA := Lib.hid SA
  have HSB := Lib.hid SB
  have HSC := Lib.hid SC
  clear SA SB SC
  by_cases hin : 1 ≤ slots ∧ slots ≤ 1024 ∧ la ≤ 256 ∧ lb ≤ 256 ∧ lc ≤ 256
  · obtain ⟨h1, h2, h3, h4, h5⟩ := hin
    obtain ⟨i, hi, ei⟩ := u64_mod at1 slots (by omega) h2
    go_enter Try.func7, Try.ntmps7
    go_wp2_with (fail)
    refine (new_any slots w).mono ?_
    rintro e w2 ⟨D, rfl, H, hn, d1, d2, hb⟩
    have hD : (D.n : Int) = slots := by rw [hn]; exact clampS_in (by omega) h2
    have hiD : i < D.n := by omega
    have HB2 := Lib.hid hb
    have H2 := Lib.hid H
    have hDS : slots = ((D.n : Nat) : Int) := hD.symm
    subst hDS
    clear hb H hn hD hi
    go_wp2_with (fail)
    refine (page_any (HSA.out.later HB2.out) h3).mono ?_
    rintro e w3 ⟨g3, c3, rfl, hg3, _, hr, hb⟩
    have HS3 := Lib.hid (Src.row hr)
    have HB3 := Lib.hid (HB2.out.trans (hb.mono HB2.out.size))
    have H3 := Lib.hid (H2.out.later hb)
    clear hr hb H2 hg3
    clear ei
    go_wp2_with (fail)
    refine (write_ok H3.out i hiD _ c3 _ HS3.out).mono ?_
    rintro e w4 ⟨rfl, H, ho⟩
    have HB4 := Lib.hid (ho.below HB3.out HB3.out.size (fun k hk => by omega))
    have H4 := Lib.hid H
    clear H ho H3 HS3
    go_wp2_with (fail)
    refine (copy_ok H4.out).mono ?_
    rintro e w5 ⟨E, rfl, H, hn, e1, e2, hb⟩
    obtain ⟨l1, l2⟩ := H4.out.lt
    have HB5 := Lib.hid (HB4.out.trans (hb.mono HB4.out.size))
    have HD5 := Lib.hid (H4.out.later hb)
    have hE5 := H.lt
    have HE5 := Lib.hid H
    have hs4 := HB4.out.size
    have hlE := H.lt.2
    have HN := Lib.hid hn
    clear hb H hn H4
    go_wp2_with (fail)
    refine (slots_at HE5.out).mono ?_
    rintro e w' ⟨rfl, rfl⟩
    rw [HN.out]
    go_wp2_with (fail)
    refine (page_any (HSB.out.later HB5.out) h4).mono ?_
    rintro e w6 ⟨g6, c6, rfl, hg6, _, hr, hb⟩
    have HS6 := Lib.hid (Src.row hr)
    have HB6 := Lib.hid (HB5.out.trans (hb.mono HB5.out.size))
    have HD6 := Lib.hid (HD5.out.later hb)
    have HE6 := Lib.hid (HE5.out.later hb)
    have hs6 := hb.size
    clear hr hb HD5 HE5 hg6
    go_wp2_with (fail)
    refine (write_ok HD6.out i hiD _ c6 _ HS6.out).mono ?_
    rintro e w7 ⟨rfl, H, ho⟩
    have HB7 := Lib.hid (ho.below HB6.out HB6.out.size (fun k hk => by omega))
    have HD7 := Lib.hid H
    have HE7 := Lib.hid (HE6.out.only ho (by omega) (by omega))
    have hs7 := ho.size
    clear H ho HD6 HE6 HS6
    go_wp2_with (fail)
    refine (read_ok HE7.out i (by rw [HN.out]; exact hiD) (padB la x) (fun j hj => put_here j hj)).mono ?_
    rintro e w8 ⟨g8, c8, rfl, hg8, hr, hb⟩
    have HB8 := Lib.hid (HB7.out.trans (hb.mono HB7.out.size))
    have HD8 := Lib.hid (HD7.out.later hb)
    have HE8 := Lib.hid (HE7.out.later hb)
    have L1 := Lib.hid (show ∀ W, CopS w8 E W → (convert 32 9 (.slice (some ⟨g8, 0, none⟩) 256 c8)).run Try.prog W = .ok (.string (strB 256 (padB la x))) W from
      fun W hW => run_string (hr.only hW.1 (by omega)))
    clear hr hb HD7 HE7
    go_wp2_with (fail)
    refine wp_region_lex (CopS w8 E) [(0, false), (1, false), (2, false), (3, false), (4, false), (5, false), (6, true), (7, true), (8, false), (9, false), (10, false), (11, false), (12, false), (13, false), (14, true), (15, true), (16, false), (17, false)]
      (by kernel_rfl) (by kernel_rfl) rfl (by kernel_rfl) ⟨⟨rfl, rfl, rfl, Nat.le_refl _, fun _ _ _ => rfl⟩, HE8.out.drawn⟩ ?_
    intro W0 hK0
    have HBW := Lib.hid (hK0.1.below HB8.out HB8.out.size (fun k hk => by omega))
    refine lexH_yieldE rfl rfl ?_
    apply Exists.intro
    refine ⟨fun W hW => ?_, ?_⟩
    focus (go_simp; exact rfl)
    simp only [List.getElem_toArray, List.getElem_cons_zero, Act.put, List.setIfInBounds_toArray, List.set_cons_zero, List.set_cons_succ]
    refine lexH_yieldE rfl rfl ?_
    apply Exists.intro
    refine ⟨fun W hW => ?_, ?_⟩
    focus (go_simp; exact rfl)
    simp only [List.getElem_toArray, List.getElem_cons_succ, List.getElem_cons_zero, Act.put, List.setIfInBounds_toArray, List.set_cons_zero, List.set_cons_succ]
    refine lexH_yieldE rfl rfl ?_
    apply Exists.intro
    refine ⟨fun W hW => ?_, ?_⟩
    focus (go_simp; exact rfl)
    simp only [List.getElem_toArray, List.getElem_cons_succ, List.getElem_cons_zero, Act.put, List.setIfInBounds_toArray, List.set_cons_zero, List.set_cons_succ]
    refine lexH_yieldE rfl rfl ?_
    apply Exists.intro
    refine ⟨fun W hW => ?_, ?_⟩
    focus (go_simp; exact rfl)
    simp only [List.getElem_toArray, List.getElem_cons_succ, List.getElem_cons_zero, Act.put, List.setIfInBounds_toArray, List.set_cons_zero, List.set_cons_succ]
    refine lexH_conv rfl rfl _ _ _ rfl rfl L1.out ?_
    simp only [List.getElem_toArray, List.getElem_cons_succ, List.getElem_cons_zero, Act.put, List.setIfInBounds_toArray, List.set_cons_zero, List.set_cons_succ]
    refine lexH_yieldE rfl rfl ?_
    apply Exists.intro
    refine ⟨fun W hW => ?_, ?_⟩
    focus (go_simp; exact rfl)
    simp only [List.getElem_toArray, List.getElem_cons_succ, List.getElem_cons_zero, Act.put, List.setIfInBounds_toArray, List.set_cons_zero, List.set_cons_succ]
    refine lexH_call 16 #[.slice a la ca] rfl rfl ?_ ?_
    focus (go_simp; done)
    refine (page_any (HSA.out.later HBW.out) h3).mono ?_
    rintro e w10 ⟨g10, c10, rfl, hg10, _, hr10, hb10⟩
    have hK10 := hK0.later hb10
    have HR10 := Lib.hid hr10
    have HB10 := Lib.hid (HBW.out.trans (hb10.mono HBW.out.size))
    clear hr10 hb10
    refine ⟨_, rfl, hK10, ?_⟩
    simp only [List.getElem_toArray, List.getElem_cons_succ, List.getElem_cons_zero, Act.put, List.setIfInBounds_toArray, List.set_cons_zero, List.set_cons_succ]
    refine lexH_convT rfl rfl _ _ _ rfl rfl (run_string HR10.out) hK10 ?_
    simp only [List.getElem_toArray, List.getElem_cons_succ, List.getElem_cons_zero, Act.put, List.setIfInBounds_toArray, List.set_cons_zero, List.set_cons_succ]
    refine lexH_yieldE rfl rfl ?_
    apply Exists.intro
    refine ⟨fun W hW => ?_, ?_⟩
    focus (go_simp; exact rfl)
    simp only [List.getElem_toArray, List.getElem_cons_succ, List.getElem_cons_zero, Act.put, List.setIfInBounds_toArray, List.set_cons_zero, List.set_cons_succ]
    refine lexH_yieldE rfl rfl ?_
    apply Exists.intro
    refine ⟨fun W hW => ?_, ?_⟩
    focus (go_simp; exact rfl)
    simp only [List.getElem_toArray, List.getElem_cons_succ, List.getElem_cons_zero, Act.put, List.setIfInBounds_toArray, List.set_cons_zero, List.set_cons_succ]
    refine lexH_yieldE rfl rfl ?_
    apply Exists.intro
    refine ⟨fun W hW => ?_, ?_⟩
    focus (go_simp; exact rfl)
    simp only [List.getElem_toArray, List.getElem_cons_succ, List.getElem_cons_zero, Act.put, List.setIfInBounds_toArray, List.set_cons_zero, List.set_cons_succ]
    refine lexH_yieldE rfl rfl ?_
    apply Exists.intro
    refine ⟨fun W hW => ?_, ?_⟩
    focus (go_simp; exact rfl)
    simp only [List.getElem_toArray, List.getElem_cons_succ, List.getElem_cons_zero, Act.put, List.setIfInBounds_toArray, List.set_cons_zero, List.set_cons_succ]
    refine lexH_yieldE rfl rfl ?_
    apply Exists.intro
    refine ⟨fun W hW => ?_, ?_⟩
    focus (go_simp; exact rfl)
    simp only [List.getElem_toArray, List.getElem_cons_succ, List.getElem_cons_zero, Act.put, List.setIfInBounds_toArray, List.set_cons_zero, List.set_cons_succ]
    refine lexH_yieldE rfl rfl ?_
    apply Exists.intro
    refine ⟨fun W hW => ?_, ?_⟩
    focus (go_simp; exact rfl)
    simp only [List.getElem_toArray, List.getElem_cons_succ, List.getElem_cons_zero, Act.put, List.setIfInBounds_toArray, List.set_cons_zero, List.set_cons_succ]
    refine lexH_call 16 #[.slice c lc cc] rfl rfl ?_ ?_
    focus (go_simp; done)
    refine (page_any (HSC.out.later HB10.out) h5).mono ?_
    rintro e w11 ⟨g11, c11, rfl, hg11, _, hr11, hb11⟩
    have hK11 := hK10.later hb11
    have HS11 := Lib.hid (Src.row hr11)
    have HB11 := Lib.hid (HB10.out.trans (hb11.mono HB10.out.size))
    clear hr11 hb11
    refine ⟨_, rfl, hK11, ?_⟩
    simp only [List.getElem_toArray, List.getElem_cons_succ, List.getElem_cons_zero, Act.put, List.setIfInBounds_toArray, List.set_cons_zero, List.set_cons_succ]
    obtain ⟨B11, hE11⟩ := hK11.2
    refine lexH_call 13 #[.pointer (some ⟨E.d, 0, none⟩), .int .i64 i, .slice (some ⟨g11, 0, none⟩) 256 c11, .bool false] rfl rfl ?_ ?_
    focus (go_simp; done)
    refine (write_ok hE11 i (by rw [HN.out]; exact hiD) _ c11 _ HS11.out).mono ?_
    rintro e w12 ⟨rfl, H, ho⟩
    have hK12 : CopS w8 E w12 := ⟨hK11.1.trans ho, _, H⟩
    have HB12 := Lib.hid (ho.below HB11.out HB11.out.size (fun k hk => by omega))
    have HD12 := Lib.hid (HD8.out.only hK12.1 (by omega) (by omega))
    clear H ho hE11
    refine ⟨_, rfl, hK12, ?_⟩
    simp only [List.getElem_toArray, List.getElem_cons_succ, List.getElem_cons_zero, Act.put, List.setIfInBounds_toArray, List.set_cons_zero, List.set_cons_succ]
    refine lexH_yieldE rfl rfl ?_
    apply Exists.intro
    refine ⟨fun W hW => ?_, ?_⟩
    focus (go_simp; exact rfl)
    simp only [List.getElem_toArray, List.getElem_cons_succ, List.getElem_cons_zero, Act.put, List.setIfInBounds_toArray, List.set_cons_zero, List.set_cons_succ]
    refine lexH_yieldE rfl rfl ?_
    apply Exists.intro
    refine ⟨fun W hW => ?_, ?_⟩
    focus (go_simp; exact rfl)
    simp only [List.getElem_toArray, List.getElem_cons_succ, List.getElem_cons_zero, Act.put, List.setIfInBounds_toArray, List.set_cons_zero, List.set_cons_succ]
    refine lexH_nil ?_
    clear hK0 hK10 hK11 hK12
    go_wp2_with (fail)
    refine (read_ok HD12.out i hiD (padB lb y) (fun j hj => put_here j hj)).mono ?_
    rintro e w13 ⟨g13, c13, rfl, hg13, hr, hb⟩
    have HB13 := Lib.hid (HB12.out.trans (hb.mono HB12.out.size))
    have L2 := Lib.hid (show ∀ W, Kept w13.heap.size w13 W → (convert 32 9 (.slice (some ⟨g13, 0, none⟩) 256 c13)).run Try.prog W = .ok (.string (strB 256 (padB lb y))) W from
      fun W hW => run_string (hr.later hW.below))
    clear hr hb
    go_wp2_with (fail)
    refine wp_region_lex (Kept w13.heap.size w13) [(0, false), (1, false), (2, false), (3, false), (4, false), (5, false), (6, true), (7, true), (8, false), (9, false), (10, false), (11, true), (12, false), (13, false)]
      (by kernel_rfl) (by kernel_rfl) rfl (by kernel_rfl) ⟨rfl, rfl, rfl, Nat.le_refl _, fun _ _ => rfl⟩ ?_
    intro V0 hV0
    refine lexH_yieldE rfl rfl ?_
    apply Exists.intro
    refine ⟨fun W hW => ?_, ?_⟩
    focus (go_simp; exact rfl)
    simp only [List.getElem_toArray, List.getElem_cons_zero, Act.put, List.setIfInBounds_toArray, List.set_cons_zero, List.set_cons_succ]
    refine lexH_yieldE rfl rfl ?_
    apply Exists.intro
    refine ⟨fun W hW => ?_, ?_⟩
    focus (go_simp; exact rfl)
    simp only [List.getElem_toArray, List.getElem_cons_succ, List.getElem_cons_zero, Act.put, List.setIfInBounds_toArray, List.set_cons_zero, List.set_cons_succ]
    refine lexH_yieldE rfl rfl ?_
    apply Exists.intro
    refine ⟨fun W hW => ?_, ?_⟩
    focus (go_simp; exact rfl)
    simp only [List.getElem_toArray, List.getElem_cons_succ, List.getElem_cons_zero, Act.put, List.setIfInBounds_toArray, List.set_cons_zero, List.set_cons_succ]
    refine lexH_yieldE rfl rfl ?_
    apply Exists.intro
    refine ⟨fun W hW => ?_, ?_⟩
    focus (go_simp; exact rfl)
    simp only [List.getElem_toArray, List.getElem_cons_succ, List.getElem_cons_zero, Act.put, List.setIfInBounds_toArray, List.set_cons_zero, List.set_cons_succ]
    refine lexH_conv rfl rfl _ _ _ rfl rfl L2.out ?_
    simp only [List.getElem_toArray, List.getElem_cons_succ, List.getElem_cons_zero, Act.put, List.setIfInBounds_toArray, List.set_cons_zero, List.set_cons_succ]
    refine lexH_yieldE rfl rfl ?_
    apply Exists.intro
    refine ⟨fun W hW => ?_, ?_⟩
    focus (go_simp; exact rfl)
    simp only [List.getElem_toArray, List.getElem_cons_succ, List.getElem_cons_zero, Act.put, List.setIfInBounds_toArray, List.set_cons_zero, List.set_cons_succ]
    refine lexH_call 16 #[.slice b lb cb] rfl rfl ?_ ?_
    focus (go_simp; done)
    refine (page_any (HSB.out.later (HB13.out.trans (hV0.below.mono HB13.out.size))) h4).mono ?_
    rintro e w14 ⟨g14, c14, rfl, hg14, _, hr14, hb14⟩
    have hV14 : Kept w13.heap.size w13 w14 := hV0.call (Nat.le_refl _) hb14
    have HR14 := Lib.hid hr14
    clear hr14 hb14
    refine ⟨_, rfl, hV14, ?_⟩
    simp only [List.getElem_toArray, List.getElem_cons_succ, List.getElem_cons_zero, Act.put, List.setIfInBounds_toArray, List.set_cons_zero, List.set_cons_succ]
    refine lexH_convT rfl rfl _ _ _ rfl rfl (run_string HR14.out) hV14 ?_
    simp only [List.getElem_toArray, List.getElem_cons_succ, List.getElem_cons_zero, Act.put, List.setIfInBounds_toArray, List.set_cons_zero, List.set_cons_succ]
    refine lexH_yieldE rfl rfl ?_
    apply Exists.intro
    refine ⟨fun W hW => ?_, ?_⟩
    focus (go_simp; exact rfl)
    simp only [List.getElem_toArray, List.getElem_cons_succ, List.getElem_cons_zero, Act.put, List.setIfInBounds_toArray, List.set_cons_zero, List.set_cons_succ]
    refine lexH_yieldE rfl rfl ?_
    apply Exists.intro
    refine ⟨fun W hW => ?_, ?_⟩
    focus (go_simp; exact rfl)
    simp only [List.getElem_toArray, List.getElem_cons_succ, List.getElem_cons_zero, Act.put, List.setIfInBounds_toArray, List.set_cons_zero, List.set_cons_succ]
    refine lexH_yieldE rfl rfl ?_
    apply Exists.intro
    refine ⟨fun W hW => ?_, ?_⟩
    focus (go_simp; exact rfl)
    simp only [List.getElem_toArray, List.getElem_cons_succ, List.getElem_cons_zero, Act.put, List.setIfInBounds_toArray, List.set_cons_zero, List.set_cons_succ]
    refine lexH_call 8 #[] rfl rfl ?_ ?_
    focus (go_simp; done)
    refine (known_any w14).mono ?_
    rintro e w15 ⟨rfl, hb15⟩
    have hV15 : Kept w13.heap.size w13 w15 := hV14.call (Nat.le_refl _) hb15
    refine ⟨_, rfl, hV15, ?_⟩
    simp only [List.getElem_toArray, List.getElem_cons_succ, List.getElem_cons_zero, Act.put, List.setIfInBounds_toArray, List.set_cons_zero, List.set_cons_succ]
    refine lexH_yieldE rfl rfl ?_
    apply Exists.intro
    refine ⟨fun W hW => ?_, ?_⟩
    focus (go_simp; exact rfl)
    simp only [List.getElem_toArray, List.getElem_cons_succ, List.getElem_cons_zero, Act.put, List.setIfInBounds_toArray, List.set_cons_zero, List.set_cons_succ]
    refine lexH_yieldE rfl rfl ?_
    apply Exists.intro
    refine ⟨fun W hW => ?_, ?_⟩
    focus (go_simp; exact rfl)
    simp only [List.getElem_toArray, List.getElem_cons_succ, List.getElem_cons_zero, Act.put, List.setIfInBounds_toArray, List.set_cons_zero, List.set_cons_succ]
    refine lexH_nil ?_
    have HB15 := Lib.hid (HB13.out.trans (hV15.below.mono HB13.out.size))
    clear hV0 hV14 hV15 hb15
    go_wp2_with (fail)
    go_ret
    exact ⟨rfl, HB15.out⟩
  · have hcs : slots < 1 ∨ (1 ≤ slots ∧ 1024 < slots) ∨ (1 ≤ slots ∧ slots ≤ 1024 ∧ 256 < la) ∨ (1 ≤ slots ∧ slots ≤ 1024 ∧ la ≤ 256 ∧ 256 < lb) ∨ (1 ≤ slots ∧ slots ≤ 1024 ∧ la ≤ 256 ∧ lb ≤ 256 ∧ 256 < lc) := by omega
    clear hin
    rcases hcs with h1 | ⟨h1, h2⟩ | ⟨h1, h2, h3⟩ | ⟨h1, h2, h3, h4⟩ | ⟨h1, h2, h3, h4, h5⟩
    all_goals
      go_enter Try.func7, Try.ntmps7
      go_wp2_with (fail)
      refine (known_any w).mono ?_
      rintro e w9 ⟨rfl, hb⟩
      have HB2 := Lib.hid hb
      clear hb
      go_wp2_with (fail)
      go_ret
      exact ⟨rfl, HB2.out⟩
end Go.Proofs.Ytadjkanjlkammaa
