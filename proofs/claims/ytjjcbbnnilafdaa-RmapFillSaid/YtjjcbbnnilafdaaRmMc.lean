/-
  rmap: the landed Clear.
-/
import Derived.Test.YtjjcbbnnilafdaaRmMs
namespace Go.Proofs.Ytjjcbbnnilafdaa
open Go.RowKit Go.Shelf Go Go.Maps
attribute [local go_sem] Oper.semAt_some

section
variable {w w' w1 : World} {d mb N : Nat} {v : Value} {f : Nat → Ownr}
set_option maxRecDepth 100000 in
set_option maxHeartbeats 4000000 in
theorem clear_mp (h : OwAt w d v mb N f) (I : RmI f N) (x : Int) : Calls Try.prog 14 #[.pointer (some ⟨d, 0, none⟩), .int .i64 x] w
    (MpT w d v mb N f (rcE f N x) (rcF f N x)) := by
  have HA := Lib.hid h
  have HM := Lib.hid (missing_any h)
  have HH := Lib.hid (has_any h x)
  by_cases hx : FrOk N x
  · rw [decide_eq_true hx] at HH
    obtain ⟨X, rfl⟩ : ∃ X : Nat, x = X := ⟨x.toNat, by have := hx.1; omega⟩
    have hlt : X < N := by have := hx.2; omega
    obtain ⟨⟨y1, y2⟩, hy⟩ : ∃ y, f X = y := ⟨_, rfl⟩
    obtain ⟨g, c, hv, _, k0, k1, z⟩ := h.at hlt hy
    have c0 := h.c0
    have hno : y1 = 0 → y2 = 0 := fun e => by
      have h3 := I.no X hlt (by rw [hy]; exact e)
      rw [hy] at h3
      exact congrArg Prod.snd h3
    have hltI : (X : Int) < (N : Int) := by omega
    have HV := Lib.hid hv
    rw [hv] at c0
    have HB := Lib.hid ((Below.refl w.heap.size w).alloc (Nat.le_refl _) (.cells #[.int .i64 (y1 : Int), .int .i64 (y2 : Int)] 57))
    have b0 : (w.alloc (.cells #[.int .i64 (y1 : Int), .int .i64 (y2 : Int)] 57)).cell? ⟨w.heap.size, 0, none⟩ = some (.int .i64 (y1 : Int)) := by simp [go_sem]
    have b1 : (w.alloc (.cells #[.int .i64 (y1 : Int), .int .i64 (y2 : Int)] 57)).cell? ⟨w.heap.size, 1, none⟩ = some (.int .i64 (y2 : Int)) := by simp [go_sem]
    by_cases h0 : y1 = 0
    · obtain rfl := hno h0
      subst h0
      have e1 : rcE f N X = 7 := by
        unfold rcE
        rw [if_pos hx, Int.toNat_natCast, hy, if_pos rfl]
      have e2 : rcF f N X = f := if_neg (by rw [e1]; decide)
      rw [e1, e2]
      have k0 : w.cell? ⟨g, X * 2, none⟩ = some (.int .i64 0) := k0
      have k1 : w.cell? ⟨g, X * 2 + 1, none⟩ = some (.int .i64 0) := k1
      have HB : Hid (Below w.heap.size w (w.alloc (.cells #[.int .i64 0, .int .i64 0] 57))) := HB
      have b0 : (w.alloc (.cells #[.int .i64 0, .int .i64 0] 57)).cell? ⟨w.heap.size, 0, none⟩ = some (.int .i64 0) := b0
      have b1 : (w.alloc (.cells #[.int .i64 0, .int .i64 0] 57)).cell? ⟨w.heap.size, 1, none⟩ = some (.int .i64 0) := b1
      have hq2 := ow_no
      clear h I e1 e2 hy hno z hx
      go_enter Try.func14, Try.ntmps14
      go_wp2_with (fail)
      refine HM.out.mono ?_
      rintro e w1 ⟨rfl, rfl⟩
      go_wp2_with (fail)
      refine HH.out.mono ?_
      rintro e w1 ⟨rfl, rfl⟩
      go_wp2_with (fail)
      go_ret
      exact MpT.same HA.out HB.out
    · have e1 : rcE f N X = 0 := by
        unfold rcE
        rw [if_pos hx, Int.toNat_natCast, hy, if_neg h0]
      have e2 : rcF f N X = updO f X (0, 0) := by
        unfold rcF
        rw [if_pos e1, Int.toNat_natCast]
      rw [e1, e2]
      have hok := I.ok X hlt
      rw [hy] at hok
      dsimp only at hok
      have HOK := Lib.hid (show (Lit.int .i64 (y1 : Int)).wf = true ∧ (Lit.int .i64 (y2 : Int)).wf = true from ⟨int_wf (by omega), int_wf (by omega)⟩)
      have hFM := Lib.hid (fun y => fmO_cut I hlt (show 1 ≤ y1 by omega) hy y)
      have hq2 := fun W => ow_yes (x := (y1 : Int)) (y := (y2 : Int)) (by omega) W
      have HA1 := Lib.hid (h.later HB.out)
      have HTH := Lib.hid (HA1.out.there hv hlt)
      have c01 := HA1.out.c0
      rw [hv] at c01
      clear h I e1 e2 hy hno z hx hok
      go_enter Try.func14, Try.ntmps14
      go_wp2_with (fail)
      refine HM.out.mono ?_
      rintro e w1 ⟨rfl, rfl⟩
      go_wp2_with (fail)
      refine HH.out.mono ?_
      rintro e w1 ⟨rfl, rfl⟩
      have hs : w.heap.size ≠ g := fun e => by
        have := HA.out.lt (k := g) (.inr (.inl (by rw [hv]; rfl)))
        omega
      go_wp2_with (first | (refine wpList_store_mid rfl 57 _ _ rfl g (X * 2) #[.int .i64 0, .int .i64 0] rfl rfl HTH.out sizeOw (by simp [Value.oneCell']) ?_) | fail)
      generalize w.alloc (.cells #[.int .i64 (y1 : Int), .int .i64 (y2 : Int)] 57) = W1 at *
      obtain ⟨W2, hW2⟩ : ∃ W2, W2 = (W1.setCell ⟨g, X * 2, none⟩ (.int .i64 ((0 : Nat) : Int))).setCell ⟨g, X * 2 + 1, none⟩ (.int .i64 ((0 : Nat) : Int)) := ⟨_, rfl⟩
      rw [show W1.setCells g (X * 2) (#[Value.int .i64 0, Value.int .i64 0] : Array Value).toList = W2 from hW2.symm]
      have HO2 := Lib.hid (show Only (fun k => k = g) W1 W2 from by
        rw [hW2]
        exact (Only.setCell (S := fun k => k = g) W1 ⟨g, X * 2, none⟩ rfl _).trans (Only.setCell (S := fun k => k = g) _ ⟨g, X * 2 + 1, none⟩ rfl _))
      have HGD := Lib.hid (show d ≠ g from fun e => HA.out.pv (by rw [HV.out, e]; rfl))
      have HGM := Lib.hid (show mb ≠ g from fun e => HA.out.vm (by rw [HV.out, e]; rfl))
      have B06 := Lib.hid (HO2.out.cell hs b0)
      have B16 := Lib.hid (HO2.out.cell hs b1)
      have C16 := Lib.hid (HO2.out.cell HGD.out HA1.out.c1)
      have M6 := Lib.hid (HA1.out.mp.only HO2.out HGM.out)
      clear HTH b0 b1 c0 c01 k0 k1 hs hq2
      have M1 := Lib.hid (show ∀ W, W = W2.drew → (loadVar 51 ⟨d, 1, none⟩).run Try.prog W = .ok (.map (some mb)) W from fun W hW => by
        subst hW
        exact run_loadVar_cell (fun _ => by kernel_rfl) C16.out)
      have M2 := Lib.hid (show ∀ W, W = W2.drew → (loadVar 57 ⟨w.heap.size, 0, none⟩).run Try.prog W = .ok (.agg #[.int .i64 (y1 : Int), .int .i64 (y2 : Int)]) W from fun W hW => by
        subst hW
        exact load_ow B06.out B16.out)
      refine wp_region_lexF (fun W => W = W2.drew) [(0, false), (1, false), (2, false), (3, false), (4, false)] 5 (by kernel_rfl) (by kernel_rfl) rfl (by kernel_rfl) rfl ?_
      intro W3 hW3 _
      refine lexH_yieldE rfl rfl ?_
      apply Exists.intro
      refine ⟨fun W hW => ?_, ?_⟩
      focus (go_simp; exact rfl)
      simp only [List.getElem_toArray, List.getElem_cons_zero, Act.put, List.setIfInBounds_toArray, List.set_cons_zero, List.set_cons_succ]
      refine lexH_yieldE rfl rfl ?_
      apply Exists.intro
      refine ⟨fun W hW => ?_, ?_⟩
      focus (go_simp; exact rfl)
      simp only [List.getElem_toArray, List.getElem_cons_succ, List.getElem_cons_zero, Act.put, List.setIfInBounds_toArray, List.set_cons_zero, List.set_cons_succ]
      refine lexH_yieldE rfl rfl ?_
      apply Exists.intro
      refine ⟨fun W hW => ?_, ?_⟩
      focus (go_simp; exact rfl)
      simp only [List.getElem_toArray, List.getElem_cons_succ, List.getElem_cons_zero, Act.put, List.setIfInBounds_toArray, List.set_cons_zero, List.set_cons_succ]
      refine lexH_load rfl rfl _ _ rfl rfl M1.out ?_
      simp only [List.getElem_toArray, List.getElem_cons_succ, List.getElem_cons_zero, Act.put, List.setIfInBounds_toArray, List.set_cons_zero, List.set_cons_succ]
      refine lexH_load rfl rfl _ _ rfl rfl M2.out ?_
      simp only [List.getElem_toArray, List.getElem_cons_succ, List.getElem_cons_zero, Act.put, List.setIfInBounds_toArray, List.set_cons_zero, List.set_cons_succ]
      refine lexH_last rfl rfl ?_
      have HO3 := Lib.hid (show Below W2.heap.size W2 W3 from by rw [hW3]; exact below_drewN (Below.refl _ _) 1)
      obtain ⟨W4, hrun, h4, ho4⟩ := (M6.out.later HO3.out).drop (t := 51) Try.underlying51 (x := ((y1 : Int), (y2 : Int))) HOK.out 0
      have hrun : (Builtin.delete_ #[51, 57] 0 #[.map (some mb), .agg #[.int .i64 (y1 : Int), .int .i64 (y2 : Int)]]).run Try.prog W3 = .ok (.tuple #[]) W4 := hrun
      have HT := Lib.hid (OwAt.turn HA.out HB.out HV.out X 0 0 hW2 h4 ((Only.of_below HO3.out).trans ho4) (fun y => hFM.out y))
      clear h4 ho4 M1 M2 hW3 HO3 M6 C16 B06 B16 hW2 HO2
      refine wp_del_run rfl rfl rfl hrun ?_
      clear hrun
      go_wp2_with (fail)
      go_ret
      exact ⟨rfl, HT.out⟩
  · rw [decide_eq_false hx] at HH
    have e1 : rcE f N x = 2 := if_neg hx
    have e2 : rcF f N x = f := if_neg (by rw [e1]; decide)
    rw [e1, e2]
    clear e1 e2 hx I h
    go_enter Try.func14, Try.ntmps14
    go_wp2_with (fail)
    refine HM.out.mono ?_
    rintro e w1 ⟨rfl, rfl⟩
    go_wp2_with (fail)
    refine HH.out.mono ?_
    rintro e w1 ⟨rfl, rfl⟩
    go_wp2_with (fail)
    go_ret
    exact MpT.same HA.out (Below.refl _ _)
end
end Go.Proofs.Ytjjcbbnnilafdaa
