/-
  magazine: All (the landed pair's, the document's), Same.
-/
import Derived.Test.YtaadjgnfihkaeaaMgUnl
namespace Go.Proofs.Ytaadjgnfihkaeaa
open Go.RowKit Go
section
variable {w w' w1 w2 : World} {M M1 M2 : MP} {N X : Nat} {L O L' O' m : Obs} {x y : Int}
theorem sliceCells (u v : Value) : (w.alloc (.cells #[u, v] 29)).cell? ⟨w.heap.size, 0, none⟩ = some u ∧ (w.alloc (.cells #[u, v] 29)).cell? ⟨w.heap.size, 1, none⟩ = some v := by
  constructor <;> simp [go_sem]
set_option maxRecDepth 100000 in
set_option maxHeartbeats 8000000 in
theorem all_any (h : MAt w M N L O) : Calls Try.prog 21 #[.pointer (some ⟨M.p, 0, none⟩)] w (AllP w (O ++ L)) := by
  have h32 : N ≤ 32 := h.n2
  have hlN := h.hl
  have hoN := h.ho
  have HM := Lib.hid h
  obtain ⟨la, lc, hl⟩ := h.ls
  obtain ⟨oa, oc, ho⟩ := h.os
  obtain ⟨p, l, o⟩ := M
  dsimp only at hl ho
  subst hl
  subst ho
  clear h
  have L1 := Lib.hid (show ∀ V, Kept w.heap.size w V → (loadVar 29 ⟨p, 1, none⟩).run Try.prog V = .ok (.slice la L.length lc) V from fun V hV => run_loadVar_cell (fun _ => by kernel_rfl) (HM.out.later hV.below).c1)
  have L2 := Lib.hid (show ∀ V, Kept w.heap.size w V → (loadVar 29 ⟨p, 2, none⟩).run Try.prog V = .ok (.slice oa O.length oc) V from fun V hV => run_loadVar_cell (fun _ => by kernel_rfl) (HM.out.later hV.below).c2)
  go_enter Try.func21, Try.ntmps21
  go_wp2_with (fail)
  refine wp_region_lex1 (Kept w.heap.size w) [(0, false), (1, false), (2, false), (3, false), (4, false), (5, false), (6, false), (7, false), (8, false), (9, false), (10, true), (11, true), (12, false)] (by kernel_rfl) (by kernel_rfl) rfl (by kernel_rfl) (Below.refl _ w).drew ?_
  intro W0 hW0 hK0
  clear hW0
  refine lexH_yieldE rfl rfl ?_
  apply Exists.intro
  refine ⟨fun W hW => ?_, ?_⟩
  focus (go_simp; exact rfl)
  simp only [List.getElem_toArray, List.getElem_cons_zero, Act.put, List.setIfInBounds_toArray, List.set_cons_zero, List.set_cons_succ]
  refine lexH_yieldE rfl rfl ?_
  apply Exists.intro
  refine ⟨fun W hW => ?_, ?_⟩
  focus (go_simp; exact rfl)
  simp only [List.getElem_toArray, List.getElem_cons_succ, List.getElem_cons_zero, Act.put, List.setIfInBounds_toArray, List.set_cons_zero, List.set_cons_succ]
  refine lexH_yieldE rfl rfl ?_
  apply Exists.intro
  refine ⟨fun W hW => ?_, ?_⟩
  focus (go_simp; exact rfl)
  simp only [List.getElem_toArray, List.getElem_cons_succ, List.getElem_cons_zero, Act.put, List.setIfInBounds_toArray, List.set_cons_zero, List.set_cons_succ]
  refine lexH_yieldE rfl rfl ?_
  apply Exists.intro
  refine ⟨fun W hW => ?_, ?_⟩
  focus (go_simp; exact rfl)
  simp only [List.getElem_toArray, List.getElem_cons_succ, List.getElem_cons_zero, Act.put, List.setIfInBounds_toArray, List.set_cons_zero, List.set_cons_succ]
  refine lexH_load rfl rfl _ _ rfl rfl L2.out ?_
  simp only [List.getElem_toArray, List.getElem_cons_succ, List.getElem_cons_zero, Act.put, List.setIfInBounds_toArray, List.set_cons_zero, List.set_cons_succ]
  refine lexH_yieldE rfl rfl ?_
  apply Exists.intro
  refine ⟨fun W hW => ?_, ?_⟩
  focus (go_simp; exact rfl)
  simp only [List.getElem_toArray, List.getElem_cons_succ, List.getElem_cons_zero, Act.put, List.setIfInBounds_toArray, List.set_cons_zero, List.set_cons_succ]
  refine lexH_yieldE rfl rfl ?_
  apply Exists.intro
  refine ⟨fun W hW => ?_, ?_⟩
  focus (go_simp; exact rfl)
  simp only [List.getElem_toArray, List.getElem_cons_succ, List.getElem_cons_zero, Act.put, List.setIfInBounds_toArray, List.set_cons_zero, List.set_cons_succ]
  refine lexH_yieldE rfl rfl ?_
  apply Exists.intro
  refine ⟨fun W hW => ?_, ?_⟩
  focus (go_simp; exact rfl)
  simp only [List.getElem_toArray, List.getElem_cons_succ, List.getElem_cons_zero, Act.put, List.setIfInBounds_toArray, List.set_cons_zero, List.set_cons_succ]
  refine lexH_yieldE rfl rfl ?_
  apply Exists.intro
  refine ⟨fun W hW => ?_, ?_⟩
  focus (go_simp; exact rfl)
  simp only [List.getElem_toArray, List.getElem_cons_succ, List.getElem_cons_zero, Act.put, List.setIfInBounds_toArray, List.set_cons_zero, List.set_cons_succ]
  refine lexH_load rfl rfl _ _ rfl rfl L1.out ?_
  simp only [List.getElem_toArray, List.getElem_cons_succ, List.getElem_cons_zero, Act.put, List.setIfInBounds_toArray, List.set_cons_zero, List.set_cons_succ]
  refine lexH_eff rfl rfl ?_
  unfold Oper.wp
  go_simp
  have hba : Below W0.heap.size W0 (W0.alloc (.cells #[.slice oa O.length oc, .slice la L.length lc] 29)) := (Below.refl _ _).alloc (Nat.le_refl _) _
  have hb1 := hK0.below.trans (hba.mono hK0.below.size)
  have HM1 := Lib.hid (HM.out.later hb1)
  have HB1 := Lib.hid hb1
  have HC := Lib.hid (sliceCells (w := W0) (.slice oa O.length oc) (.slice la L.length lc))
  refine ⟨hb1, ?_⟩
  clear hba hb1 hK0
  generalize W0.alloc (.cells #[.slice oa O.length oc, .slice la L.length lc] 29) = W1 at *
  generalize W0.heap.size = sb at *
  refine lexH_call 30 #[.slice (some ⟨sb, 0, none⟩) 2 2] rfl rfl ?_ ?_
  focus (go_simp; done)
  refine (concat_any (SrcO.of_owns HM1.out.ot) (SrcO.of_owns HM1.out.lo) (by omega) (by omega) HC.out.1 HC.out.2).mono ?_
  rintro e w3 ⟨v3, rfl, hown, hb⟩
  have HF := Lib.hid (show AllP w (O ++ L) (.returned v3) w3 from ⟨_, rfl, owns_base hown (fun k hk => Nat.le_trans HB1.out.size (hown.lt k hk).1), HB1.out.trans (hb.mono HB1.out.size)⟩)
  refine ⟨_, rfl, HB1.out.trans (hb.mono HB1.out.size), ?_⟩
  clear hown hb HM1 HB1 HC L1 L2 HM
  simp only [List.getElem_toArray, List.getElem_cons_succ, List.getElem_cons_zero, Act.put, List.setIfInBounds_toArray, List.set_cons_zero, List.set_cons_succ]
  refine lexH_yieldE rfl rfl ?_
  apply Exists.intro
  refine ⟨fun W hW => ?_, ?_⟩
  focus (go_simp; exact rfl)
  simp only [List.getElem_toArray, List.getElem_cons_succ, List.getElem_cons_zero, Act.put, List.setIfInBounds_toArray, List.set_cons_zero, List.set_cons_succ]
  refine lexH_nil ?_
  go_wp2_with (fail)
  go_ret
  exact HF.out
set_option maxRecDepth 100000 in
set_option maxHeartbeats 8000000 in
theorem rall_any (h : MAt w M N L O) : Calls Try.prog 22 #[.pointer (some ⟨M.p, 0, none⟩)] w (AllP w (O ++ L)) := by
  obtain ⟨i0, hi, hz0, hz1, hz2⟩ := info_parts infoObj
  have h32 : N ≤ 32 := h.n2
  have hlN := h.hl
  have hoN := h.ho
  have HM := Lib.hid h
  obtain ⟨la, lc, hl⟩ := h.ls
  obtain ⟨oa, oc, ho⟩ := h.os
  obtain ⟨p, l, o⟩ := M
  dsimp only at hl ho
  subst hl
  subst ho
  clear h
  have L1 := Lib.hid (show ∀ V, Kept w.heap.size w V → (loadVar 29 ⟨p, 1, none⟩).run Try.prog V = .ok (.slice la L.length lc) V from fun V hV => run_loadVar_cell (fun _ => by kernel_rfl) (HM.out.later hV.below).c1)
  have L2 := Lib.hid (show ∀ V, Kept w.heap.size w V → (loadVar 29 ⟨p, 2, none⟩).run Try.prog V = .ok (.slice oa O.length oc) V from fun V hV => run_loadVar_cell (fun _ => by kernel_rfl) (HM.out.later hV.below).c2)
  go_enter Try.func22, Try.ntmps22
  go_wp2_with (fail)
  refine wp_region_lex1 (Kept w.heap.size w) [(1, false), (2, false), (3, false), (4, false), (6, false), (7, false), (8, false), (9, false), (0, true), (5, true), (10, true), (11, false)] (by kernel_rfl) (by kernel_rfl) rfl (by kernel_rfl) (Below.refl _ w).drew ?_
  intro W0 hW0 hK0
  clear hW0
  refine lexH_yieldE rfl rfl ?_
  apply Exists.intro
  refine ⟨fun W hW => ?_, ?_⟩
  focus (go_simp; exact rfl)
  simp only [List.getElem_toArray, List.getElem_cons_succ, List.getElem_cons_zero, Act.put, List.setIfInBounds_toArray, List.set_cons_zero, List.set_cons_succ]
  refine lexH_yieldE rfl rfl ?_
  apply Exists.intro
  refine ⟨fun W hW => ?_, ?_⟩
  focus (go_simp; exact rfl)
  simp only [List.getElem_toArray, List.getElem_cons_succ, List.getElem_cons_zero, Act.put, List.setIfInBounds_toArray, List.set_cons_zero, List.set_cons_succ]
  refine lexH_yieldE rfl rfl ?_
  apply Exists.intro
  refine ⟨fun W hW => ?_, ?_⟩
  focus (go_simp; exact rfl)
  simp only [List.getElem_toArray, List.getElem_cons_succ, List.getElem_cons_zero, Act.put, List.setIfInBounds_toArray, List.set_cons_zero, List.set_cons_succ]
  refine lexH_load rfl rfl _ _ rfl rfl L2.out ?_
  simp only [List.getElem_toArray, List.getElem_cons_succ, List.getElem_cons_zero, Act.put, List.setIfInBounds_toArray, List.set_cons_zero, List.set_cons_succ]
  refine lexH_yieldE rfl rfl ?_
  apply Exists.intro
  refine ⟨fun W hW => ?_, ?_⟩
  focus (go_simp; exact rfl)
  simp only [List.getElem_toArray, List.getElem_cons_succ, List.getElem_cons_zero, Act.put, List.setIfInBounds_toArray, List.set_cons_zero, List.set_cons_succ]
  refine lexH_yieldE rfl rfl ?_
  apply Exists.intro
  refine ⟨fun W hW => ?_, ?_⟩
  focus (go_simp; exact rfl)
  simp only [List.getElem_toArray, List.getElem_cons_succ, List.getElem_cons_zero, Act.put, List.setIfInBounds_toArray, List.set_cons_zero, List.set_cons_succ]
  refine lexH_yieldE rfl rfl ?_
  apply Exists.intro
  refine ⟨fun W hW => ?_, ?_⟩
  focus (go_simp; exact rfl)
  simp only [List.getElem_toArray, List.getElem_cons_succ, List.getElem_cons_zero, Act.put, List.setIfInBounds_toArray, List.set_cons_zero, List.set_cons_succ]
  refine lexH_load rfl rfl _ _ rfl rfl L1.out ?_
  simp only [List.getElem_toArray, List.getElem_cons_succ, List.getElem_cons_zero, Act.put, List.setIfInBounds_toArray, List.set_cons_zero, List.set_cons_succ]
  refine lexH_eff rfl rfl ?_
  unfold Oper.wp
  go_simp
  have hba : Below W0.heap.size W0 (W0.alloc (.cells #[] TO)) := (Below.refl _ _).alloc (Nat.le_refl _) _
  have hb1 := hK0.below.trans (hba.mono hK0.below.size)
  have HB1 := Lib.hid hb1
  have HO1 := Lib.hid (World.ownsRow_made W0 (e := TO) (base := W0.heap.size) (size := 2) #[] 0 (Nat.le_refl _) (Nat.zero_le _) (by simp))
  have HLE := Lib.hid hba.size
  have HK0 := Lib.hid hK0.below.size
  refine ⟨hb1, ?_⟩
  clear hba hb1 hK0
  generalize W0.alloc (.cells #[] TO) = W1 at *
  generalize W0.heap.size = sb at *
  have HS1 := Lib.hid (SrcO.of_owns (HM.out.later HB1.out).ot)
  refine lexH_append_src _ rfl rfl _ _ 29 rfl sb 33 i0 _ 2 16 Try.underlying29 hi hz0 hz1 hz2 rfl (by decide) _ _ _ HO1.out HLE.out oa O.length oc (recV encO O) rfl rfl (recV_len encO_len _) ?qs (recV_one encO_one _) (by omega) (by decide) ?_
  case qs =>
    obtain ⟨a2, c2, e2, h2⟩ := HS1.out
    injection e2 with e2 _ _
    rw [e2]
    exact h2
  intro v2 W2 hown2 ho2 _
  rw [Nat.zero_add, List.nil_append] at hown2
  have hb2 := ho2.below HB1.out HB1.out.size (fun k hk => Nat.le_trans HK0.out (HO1.out.lt k hk).1)
  have HB2 := Lib.hid hb2
  have HO2 := Lib.hid hown2
  have HL2 := Lib.hid (Nat.le_trans HLE.out ho2.size)
  have HS2 := Lib.hid (SrcO.of_owns (HM.out.later hb2).lo)
  refine ⟨hb2, ?_⟩
  clear hown2 ho2 hb2 HO1 HB1 HLE HS1
  simp only [List.getElem_toArray, List.getElem_cons_succ, List.getElem_cons_zero, Act.put, List.setIfInBounds_toArray, List.set_cons_zero, List.set_cons_succ]
  refine lexH_append_src _ rfl rfl _ _ 29 rfl sb 33 i0 _ 2 16 Try.underlying29 hi hz0 hz1 hz2 rfl (by decide) _ _ _ HO2.out HL2.out la L.length lc (recV encO L) rfl rfl (recV_len encO_len _) ?qs (recV_one encO_one _) (by omega) (by decide) ?_
  case qs =>
    obtain ⟨a2, c2, e2, h2⟩ := HS2.out
    injection e2 with e2 _ _
    rw [e2]
    exact h2
  intro v3 W3 hown3 ho3 _
  have hb3 := ho3.below HB2.out HB2.out.size (fun k hk => Nat.le_trans HK0.out (HO2.out.lt k hk).1)
  have HF := Lib.hid (show AllP w (O ++ L) (.returned v3) W3 from ⟨_, rfl, by rw [List.length_append, recV_append]; exact owns_base hown3 (fun k hk => Nat.le_trans HK0.out (hown3.lt k hk).1), hb3⟩)
  refine ⟨hb3, ?_⟩
  clear hown3 ho3 hb3 HO2 HB2 HL2 HS2 L1 L2 HM
  simp only [List.getElem_toArray, List.getElem_cons_succ, List.getElem_cons_zero, Act.put, List.setIfInBounds_toArray, List.set_cons_zero, List.set_cons_succ]
  refine lexH_yieldE rfl rfl ?_
  apply Exists.intro
  refine ⟨fun W hW => ?_, ?_⟩
  focus (go_simp; exact rfl)
  simp only [List.getElem_toArray, List.getElem_cons_succ, List.getElem_cons_zero, Act.put, List.setIfInBounds_toArray, List.set_cons_zero, List.set_cons_succ]
  refine lexH_nil ?_
  go_wp2_with (fail)
  go_ret
  exact HF.out
theorem SrcO.get {v : Value} {A : Obs} (h : SrcO w v A) {k : Nat} (hk : k < A.length) : ∃ b o c, v = .slice (some ⟨b, o, none⟩) A.length c ∧ w.cell? ⟨b, o + k * 2, none⟩ = some (.int .i64 A[k].1) ∧ w.cell? ⟨b, o + k * 2 + 1, none⟩ = some (.int .i64 A[k].2) := by
  obtain ⟨a, c, e, hh⟩ := h
  obtain ⟨ad, rfl, h2⟩ := hh (by omega)
  have g0 := h2 _ _ (recV_at encO_len A k A[k] (List.getElem?_eq_getElem hk) 0 _ rfl)
  have g1 := h2 _ _ (recV_at encO_len A k A[k] (List.getElem?_eq_getElem hk) 1 _ rfl)
  obtain ⟨b, o, sp⟩ := ad
  have hz := h2 0 _ (by
    have := recV_at encO_len A 0 A[0] (List.getElem?_eq_getElem (by omega)) 0 _ rfl
    simpa using this)
  have hsp : sp = none := by
    have h3 := World.cell?_spot hz
    simpa [Addr.add] using h3
  subst hsp
  rw [Addr.add_lit] at g0 g1
  exact ⟨b, o, c, e, g0, g1⟩
set_option maxRecDepth 100000 in
set_option maxHeartbeats 8000000 in
/-- Two lists that are alike. -/
theorem same_any {u v : Value} {A : Obs} (hu : SrcO w u A) (hv : SrcO w v A) (hn : A.length ≤ 1000) : Calls Try.prog 20 #[u, v] w fun e w' => e = .returned (.bool true) ∧ Below w.heap.size w w' := by
  have HU := Lib.hid hu
  have HV := Lib.hid hv
  obtain ⟨ua, uc, rfl, _⟩ := hu
  obtain ⟨va, vc, rfl, _⟩ := hv
  have HB0 := Lib.hid (Below.refl w.heap.size w)
  go_enter Try.func20, Try.ntmps20
  go_wp2_with (fail)
  go_loopw [5] (fun i wr => ∃ k : Nat, k ≤ A.length ∧ i = .int .i64 k ∧ Hid (Below w.heap.size w wr)) (fun i _ => A.length - (intOf i).toNat)
  case atStart => exact ⟨0, Nat.zero_le _, rfl, HB0⟩
  case round =>
    clear HB0
    obtain ⟨k, hk, rfl, HB⟩ := hrel
    by_cases hlt : k < A.length
    · have hltI : (k : Int) < (A.length : Int) := by omega
      have hgu := (HU.out.later HB.out).get hlt
      have hgv := (HV.out.later HB.out).get hlt
      obtain ⟨b1, o1, q1, e1, c0, c1⟩ := hgu
      obtain ⟨b2, o2, q2, e2, d0, d1⟩ := hgv
      injection e1 with e1 _ e3
      injection e2 with e2 _ e4
      subst e1
      subst e2
      subst e3
      subst e4
      have HLT := Lib.hid hlt
      generalize A[k] = q at *
      obtain ⟨x, y⟩ := q
      dsimp only at c0 c1 d0 d1
      clear hlt
      go_wp2_with (fail)
      go_quiet (fail)
      go_wp2_with (fail)
      go_roundw
      case rel => exact ⟨k + 1, HLT.out, by go_num, Lib.hid (HB.out.trans ((below_drewN (Below.refl _ _) _).mono HB.out.size))⟩
      case measure => simp [intOf]; omega
    · obtain rfl : k = A.length := by omega
      go_wp2_with (fail)
      go_ret
      exact ⟨rfl, HB.out⟩
end
end Go.Proofs.Ytaadjgnfihkaeaa
