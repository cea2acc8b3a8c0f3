/-
  clock: the landed Copy; slices.Clone of a ring, maps.Clone.
-/
import Derived.Test.YtndddfkebbeemaaCkRm
import Derived.Deep.OwnRows
namespace Go.Proofs.Ytndddfkebbeemaa
open Go.RowKit Go.Shelf Go Go.Maps
attribute [local go_sem] Oper.semAt_some

theorem win_owns {w : World} {base : Nat} {e : TypeId} {v : Value} {L : List Nat} (h : w.ownsRow base e 1 v L.length (L.map vInt)) : WinAt w v L := by
  obtain ⟨_, ⟨rfl, h0⟩ | ⟨g, c, cur, rfl, hb, hg, h1, h2, h3, ht⟩⟩ := h
  · exact .inl ⟨rfl, List.length_eq_zero_iff.1 h0⟩
  · refine .inr ⟨g, 0, c, rfl, h1, h2, (Array.getElem?_eq_some_iff.1 hg).1, fun j hj => ⟨?_, ?_⟩, fun j u hu => ?_⟩
    · rw [Nat.zero_add, cell_of_row _ _ _ _ _ _ hg, Array.getElem?_eq_getElem (by omega)]
      rfl
    · unfold World.frozen?
      simp only [Nat.zero_add, hg]
      simp
    · rw [Nat.zero_add, cell_of_row _ _ _ _ _ _ hg]
      have hj := (List.getElem?_eq_some_iff.1 hu).1
      have h5 : (cur.toList.take (L.length * 1))[j]? = some (vInt u) := by rw [ht, List.getElem?_map, hu]; rfl
      rw [List.getElem?_take_of_lt (by omega), Array.getElem?_toList] at h5
      exact h5
section
variable {w w' w1 : World} {p mb : Nat} {v : Value} {L : List Fr} {N : List Nat}
theorem slice_not (ad : Addr) (n c : Nat) (W : World) : (binOp .eql 38 (.slice (some ad) n c) (.slice none 0 0)).run Try.prog W = .ok (.bool false) W := by kernel_rfl
theorem slice_nothing (W : World) : (binOp .eql 38 (.slice none 0 0) (.slice none 0 0)).run Try.prog W = .ok (.bool true) W := by kernel_rfl
/-- A ring of the call's own is told. -/
def RgP (w : World) (N : List Nat) (e : Ending) (w' : World) : Prop := ∃ v, e = .returned v ∧ WinAt w' v N ∧ (∀ k, v.ownBlock = some k → w.heap.size ≤ k) ∧ Below w.heap.size w w'
set_option maxRecDepth 100000 in
set_option maxHeartbeats 4000000 in
theorem clone_ck (h : WinAt w v N) (hN : N.length ≤ 1000) : Calls Try.prog 31 #[v] w (RgP w N) := by
  obtain ⟨i0, hi, hz0, hz1, hz2⟩ := info_parts infoI
  rcases h with ⟨rfl, rfl⟩ | ⟨g, o, c, rfl, h1, h2, hg, h3, h4⟩
  · have hsn := slice_nothing
    have HP := Lib.hid (show RgP w [] (.returned (.slice none 0 0)) w from ⟨_, rfl, WinAt.nil _, fun k e => by simp [Value.ownBlock] at e, Below.refl _ _⟩)
    go_enter Try.func31, Try.ntmps31
    go_wp2_with (fail)
    go_ret
    exact HP.out
  · have hba : Below w.heap.size w (w.alloc (.cells #[] 3)) := (Below.refl _ _).alloc (Nat.le_refl _) _
    have HW := Lib.hid (World.ownsRow_made w (e := 3) (base := w.heap.size) (size := 1) #[] 0 (Nat.le_refl _) (Nat.zero_le _) (by simp))
    have HB := Lib.hid hba
    have HSR := Lib.hid (show 0 < N.length → ∃ ad', some (⟨g, o, none⟩ : Addr) = some ad' ∧ ∀ j u, (N.map vInt)[j]? = some u → (w.alloc (.cells #[] 3)).cell? (ad'.add j) = some u from
      fun hp => ⟨_, rfl, fun j u hj => by
        have hlt := (List.getElem?_eq_some_iff.1 hj).1
        rw [List.length_map] at hlt
        rw [List.getElem?_map, List.getElem?_eq_getElem hlt] at hj
        simp only [Option.map_some, Option.some.injEq] at hj
        rw [Addr.add_lit, hba.cell (p := ⟨g, o + j, none⟩) hg, h4 j _ (List.getElem?_eq_getElem hlt), hj]⟩)
    have HLE := Lib.hid hba.size
    have HLN := Lib.hid (show (N.map vInt).length = N.length * 1 by simp)
    have HON := Lib.hid (show ∀ u ∈ N.map vInt, u.oneCell' = true from fun u hu => by
      obtain ⟨x, _, rfl⟩ := List.mem_map.1 hu
      rfl)
    clear hba h1 h2 hg h3 h4
    have hne := slice_not
    go_enter Try.func31, Try.ntmps31
    go_wp2_with (first | (at_builtin; refine wpList_append_src _ rfl _ _ 38 rfl w.heap.size 3 i0 _ 1 8 Try.underlying38 hi hz0 hz1 hz2 rfl (by decide) _ _ _ rfl HW.out (some ⟨g, o, none⟩) N.length c (N.map vInt) rfl HLN.out HSR.out HON.out (by unfold maxLen; omega) (by omega) HLE.out ?_; intro v3 w3 hown3 hgr3 _) | fail)
    have HP := Lib.hid (show RgP w N (.returned v3) w3 from ⟨_, rfl, win_owns (base := w.heap.size) (e := 3) (by rw [Nat.zero_add, List.nil_append] at hown3; exact hown3), fun k hk => (hown3.lt k hk).1, (Only.of_grown hgr3).below HB.out HB.out.size (fun k hk => (HW.out.lt k hk).1)⟩)
    clear hown3 hgr3 HB HW HSR HLE
    go_wp2_with (fail)
    go_ret
    exact HP.out
theorem mclone_ck {f : Int → Option (Bool × Bool)} (h : MpAt w mb f) : Calls Try.prog 32 #[.map (some mb)] w fun e w' =>
    e = .returned (.map (some w.heap.size)) ∧ MpAt w' w.heap.size f ∧ Below w.heap.size w w' := by
  obtain ⟨D, l, ho, q⟩ := h
  refine (AnyW.maps_Clone_owns Try.cloneM _ _ mb l.length D w ho).mono ?_
  rintro e w' ⟨rfl, h1, _, hb⟩
  exact ⟨rfl, ⟨D, l, h1, q⟩, hb⟩
set_option maxRecDepth 100000 in
set_option maxHeartbeats 2000000 in
theorem copy_ck (h : CkAt w p v (some mb) L) (hN : L.length ≤ 1000) : Calls Try.prog 19 #[.pointer (some ⟨p, 0, none⟩)] w (CkN w L) := by
  have HA := Lib.hid h
  have HM := Lib.hid (missing_ck (d := some p) (m := true) ⟨v, some mb, h, rfl⟩)
  simp only [Option.map_some, Bool.not_true] at HM
  rw [← namesL_len] at hN
  have L0 := Lib.hid (show ∀ W, Kept w.heap.size w W → (loadVar 38 ⟨p, 0, none⟩).run Try.prog W = .ok v W from
    fun W hW => run_loadVar_cell (fun _ => by kernel_rfl) (HA.out.later hW.below).c0)
  have L1 := Lib.hid (show ∀ W, Kept w.heap.size w W → (loadVar 46 ⟨p, 1, none⟩).run Try.prog W = .ok (.map (some mb)) W from
    fun W hW => run_loadVar_cell (fun _ => by kernel_rfl) (HA.out.later hW.below).c1)
  clear h
  go_enter Try.func19, Try.ntmps19
  go_wp2_with (fail)
  refine HM.out.mono ?_
  rintro e w' ⟨rfl, rfl⟩
  go_wp2_with (fail)
  refine wp_region_lex (Kept w.heap.size w) [(0, false), (1, false), (2, false), (3, false), (5, false), (6, false), (7, false), (8, false), (4, true), (9, true), (10, false), (11, true), (12, false)]
    (by kernel_rfl) (by kernel_rfl) rfl (by kernel_rfl) ⟨rfl, rfl, rfl, Nat.le_refl _, fun _ _ => rfl⟩ ?_
  intro W0 hK0
  refine lexH_yieldE rfl rfl ?_
  apply Exists.intro
  refine ⟨fun W hW => ?_, ?_⟩
  focus (go_simp; exact rfl)
  simp only [List.getElem_toArray, List.getElem_cons_zero, Act.put, List.setIfInBounds_toArray, List.set_cons_zero, List.set_cons_succ]
  refine lexH_yieldE rfl rfl ?_
  apply Exists.intro
  refine ⟨fun W hW => ?_, ?_⟩
  focus (go_simp; exact rfl)
  simp only [List.getElem_toArray, List.getElem_cons_succ, List.getElem_cons_zero, Act.put, List.setIfInBounds_toArray, List.set_cons_zero, List.set_cons_succ]
  refine lexH_yieldE rfl rfl ?_
  apply Exists.intro
  refine ⟨fun W hW => ?_, ?_⟩
  focus (go_simp; exact rfl)
  simp only [List.getElem_toArray, List.getElem_cons_succ, List.getElem_cons_zero, Act.put, List.setIfInBounds_toArray, List.set_cons_zero, List.set_cons_succ]
  refine lexH_load rfl rfl _ _ rfl rfl L0.out ?_
  simp only [List.getElem_toArray, List.getElem_cons_succ, List.getElem_cons_zero, Act.put, List.setIfInBounds_toArray, List.set_cons_zero, List.set_cons_succ]
  refine lexH_yieldE rfl rfl ?_
  apply Exists.intro
  refine ⟨fun W hW => ?_, ?_⟩
  focus (go_simp; exact rfl)
  simp only [List.getElem_toArray, List.getElem_cons_succ, List.getElem_cons_zero, Act.put, List.setIfInBounds_toArray, List.set_cons_zero, List.set_cons_succ]
  refine lexH_yieldE rfl rfl ?_
  apply Exists.intro
  refine ⟨fun W hW => ?_, ?_⟩
  focus (go_simp; exact rfl)
  simp only [List.getElem_toArray, List.getElem_cons_succ, List.getElem_cons_zero, Act.put, List.setIfInBounds_toArray, List.set_cons_zero, List.set_cons_succ]
  refine lexH_yieldE rfl rfl ?_
  apply Exists.intro
  refine ⟨fun W hW => ?_, ?_⟩
  focus (go_simp; exact rfl)
  simp only [List.getElem_toArray, List.getElem_cons_succ, List.getElem_cons_zero, Act.put, List.setIfInBounds_toArray, List.set_cons_zero, List.set_cons_succ]
  refine lexH_load rfl rfl _ _ rfl rfl L1.out ?_
  simp only [List.getElem_toArray, List.getElem_cons_succ, List.getElem_cons_zero, Act.put, List.setIfInBounds_toArray, List.set_cons_zero, List.set_cons_succ]
  have HB0 := Lib.hid hK0.below
  refine lexH_call 31 #[v] rfl rfl ?_ ?_
  focus (go_simp; done)
  refine (clone_ck (HA.out.win.later HB0.out) hN).mono ?_
  rintro e w1 ⟨v1, rfl, ho1, hv1, hb1⟩
  obtain ⟨va, vc, rfl⟩ := ho1.slice
  have HB1 := Lib.hid (HB0.out.trans (hb1.mono HB0.out.size))
  have HO1 := Lib.hid ho1
  have HV1 := Lib.hid (show ∀ k, (Value.slice va (namesL L).length vc).ownBlock = some k → w.heap.size ≤ k ∧ k < w1.heap.size from fun k hk => ⟨Nat.le_trans HB0.out.size (hv1 k hk), ho1.lt hk⟩)
  clear ho1 hb1 hv1
  refine ⟨_, rfl, HB1.out, ?_⟩
  simp only [List.getElem_toArray, List.getElem_cons_succ, List.getElem_cons_zero, Act.put, List.setIfInBounds_toArray, List.set_cons_zero, List.set_cons_succ]
  refine lexH_call 32 #[.map (some mb)] rfl rfl ?_ ?_
  focus (go_simp; done)
  refine (mclone_ck ((HA.out.mp mb rfl).later HB1.out)).mono ?_
  rintro e w2 ⟨rfl, hm2, hb2⟩
  have HB2 := Lib.hid (HB1.out.trans (hb2.mono HB1.out.size))
  have HN := Lib.hid (ckN_of HB2.out (HO1.out.later hb2) hm2 HB1.out.size (fun k hk => (HV1.out k hk).1) (fun e => by have := (HV1.out _ e).2; omega))
  clear hm2 hb2
  refine ⟨_, rfl, HB2.out, ?_⟩
  simp only [List.getElem_toArray, List.getElem_cons_succ, List.getElem_cons_zero, Act.put, List.setIfInBounds_toArray, List.set_cons_zero, List.set_cons_succ]
  refine lexH_yieldE rfl rfl ?_
  apply Exists.intro
  refine ⟨fun W hW => ?_, ?_⟩
  focus (go_simp; exact rfl)
  simp only [List.getElem_toArray, List.getElem_cons_succ, List.getElem_cons_zero, Act.put, List.setIfInBounds_toArray, List.set_cons_zero, List.set_cons_succ]
  refine lexH_eff rfl rfl ?_
  unfold Oper.wp
  go_simp
  refine ⟨HB2.out.alloc HB2.out.size _, ?_⟩
  generalize w2.alloc (.cells #[.slice va (namesL L).length vc, .map (some w1.heap.size)] 48) = w3 at *
  generalize w2.heap.size = d2 at *
  refine lexH_yieldE rfl rfl ?_
  apply Exists.intro
  refine ⟨fun W hW => ?_, ?_⟩
  focus (go_simp; exact rfl)
  simp only [List.getElem_toArray, List.getElem_cons_succ, List.getElem_cons_zero, Act.put, List.setIfInBounds_toArray, List.set_cons_zero, List.set_cons_succ]
  refine lexH_nil ?_
  go_wp2_with (fail)
  go_ret
  exact HN.out
end
end Go.Proofs.Ytndddfkebbeemaa
