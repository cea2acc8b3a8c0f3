/-
  chain's law: is all that is told, and are all bytes, the document's?
-/
import Derived.Test.YtifiecfkcikdmaaChKnown
namespace Go.Proofs.Ytifiecfkcikdmaa
open Go.RowKit Go

section
variable {SlAt : World → SC → Sl → Prop} {w : World} {C : SC} {S : Sl} {r bb bc cb : Nat} {v : Value}
set_option maxRecDepth 100000 in
set_option maxHeartbeats 8000000 in
theorem csame_any (K : ChainOk SlAt) (A : SlAt w C S) (R : CRef w r bb bc S v) :
    Calls Try.prog 12 #[.pointer (some ⟨C.s, 0, none⟩), .pointer (some ⟨r, 0, none⟩), .slice (some ⟨C.b, 0, none⟩) 256 cb] w fun e w' => e = .returned (.bool true) ∧ Below w.heap.size w w' := by
  have HK := Lib.hid K
  have HA := Lib.hid A
  have HR := Lib.hid R
  have HI := Lib.hid (K.inv A)
  have hcl := (K.inv A).len
  have hn32 := (K.inv A).parts.2.2.2.1
  have HCH := Lib.hid R.chn
  clear K A R
  go_enter Try.func12, Try.ntmps12
  go_wp2_with (fail)
  refine (HK.out.chain HA.out).mono ?_
  rintro e w1 ⟨la, lc, rfl, hown, hb1⟩
  have HB1 := Lib.hid hb1
  obtain ⟨la', lc', e1, hh⟩ := owns_slice hown
  injection e1 with e1 _ e2
  subst e1
  subst e2
  have HL := Lib.hid (show ∀ j, j < S.ch.length → ∃ g, la = some ⟨g, 0, none⟩ ∧ w.heap.size ≤ g ∧ w1.cell? ⟨g, j, none⟩ = some (.int .i64 (S.ch.getD j 0 : Int)) ∧ w1.frozen? ⟨g, j, none⟩ = false from fun j hj => by
    obtain ⟨g, e, hg, _, A, t, hA, hx⟩ := hh (by omega)
    refine ⟨g, e, hg, ?_, ?_⟩
    · rw [cell_of_row _ _ _ _ _ _ hA, hx j (by omega)]
      exact natV_at hj
    · exact RowAt.frozen (n := 0) (f := fun _ => undef) ⟨A, t, hA, fun i hi => absurd hi (Nat.not_lt_zero i)⟩ j)
  clear hown hb1 hh
  obtain ⟨va, vc, hv, _, _⟩ := HCH.out
  subst hv
  have HR1 := Lib.hid (HR.out.later HB1.out)
  have HA1 := Lib.hid (HK.out.later HA.out HB1.out)
  have HW1 := Lib.hid (show ∀ V, Below w1.heap.size w1.drew V → Below w1.heap.size w1 V from fun V hV => (Below.refl w1.heap.size w1).drew.trans hV)
  have L0 := Lib.hid (show ∀ V, Below w1.heap.size w1.drew V → (loadVar 22 ⟨r, 0, none⟩).run Try.prog V = .ok (.slice (some ⟨bb, 0, none⟩) 256 bc) V from fun V hV => run_loadVar_cell (fun _ => by kernel_rfl) (HR1.out.later (HW1.out V hV)).c0)
  have L1 := Lib.hid (show ∀ V, Below w1.heap.size w1.drew V → (loadVar 3 ⟨r, 1, none⟩).run Try.prog V = .ok (.int .i64 S.sz) V from fun V hV => run_loadVar_cell (fun _ => by kernel_rfl) (HR1.out.later (HW1.out V hV)).c1)
  have L2 := Lib.hid (show ∀ V, Below w1.heap.size w1.drew V → (loadVar 3 ⟨r, 2, none⟩).run Try.prog V = .ok (.int .i64 S.co) V from fun V hV => run_loadVar_cell (fun _ => by kernel_rfl) (HR1.out.later (HW1.out V hV)).c2)
  have L3 := Lib.hid (show ∀ V, Below w1.heap.size w1.drew V → (loadVar 3 ⟨r, 3, none⟩).run Try.prog V = .ok (.int .i64 S.n) V from fun V hV => run_loadVar_cell (fun _ => by kernel_rfl) (HR1.out.later (HW1.out V hV)).c3)
  have L4 := Lib.hid (show ∀ V, Below w1.heap.size w1.drew V → (loadVar 40 ⟨r, 4, none⟩).run Try.prog V = .ok (.slice va S.ch.length vc) V from fun V hV => run_loadVar_cell (fun _ => by kernel_rfl) (HR1.out.later (HW1.out V hV)).c4)
  have LB := Lib.hid (show ∀ V, Below w1.heap.size w1.drew V → (convert 22 9 (.slice (some ⟨C.b, 0, none⟩) 256 cb)).run Try.prog V = .ok (.string (strB 256 S.bt)) V from fun V hV => run_string (HK.out.byt (HK.out.later HA1.out (HW1.out V hV))))
  have LC := Lib.hid (show ∀ V, Below w1.heap.size w1.drew V → (convert 22 9 (.slice (some ⟨bb, 0, none⟩) 256 bc)).run Try.prog V = .ok (.string (strB 256 S.bt)) V from fun V hV => run_string (HR1.out.later (HW1.out V hV)).byt)
  generalize strB 256 S.bt = str at *
  have HAV := Lib.hid (show ∀ V, Below w1.heap.size w1.drew V → SlAt V C S from fun V hV => HK.out.later HA1.out (HW1.out V hV))
  have HLN := Lib.hid hcl
  go_wp2_with (fail)
  refine wp_region_lex1 (Below w1.heap.size w1.drew) [(0, false), (2, false), (3, false), (4, false), (5, false), (1, true), (6, false), (7, false), (8, false), (10, false), (11, false), (12, false), (13, false), (9, true), (14, false), (15, false), (16, false), (17, false), (19, false), (20, false), (21, false), (22, false), (18, true), (23, false), (24, false), (25, false), (26, false), (28, false), (29, false), (30, false), (31, false), (32, false), (27, true), (33, false), (34, false), (35, false), (36, false), (37, false), (38, false), (39, false), (40, false), (41, false), (42, false), (43, false), (44, false), (45, false), (46, false), (47, false), (48, false), (49, false), (50, false), (51, false), (52, false), (53, false), (54, false)]
    (by kernel_rfl) (by kernel_rfl) rfl (by kernel_rfl) (Below.refl _ _) ?_
  intro V0 hV0 hK0
  have HV0 := Lib.hid hK0
  clear hV0 hK0
  refine lexH_yieldE rfl rfl ?_
  apply Exists.intro
  refine ⟨fun W hW => ?_, ?_⟩
  focus (go_simp; exact rfl)
  simp only [List.getElem_toArray, List.getElem_cons_zero, Act.put, List.setIfInBounds_toArray, List.set_cons_zero, List.set_cons_succ]
  refine lexH_yieldE rfl rfl ?_
  apply Exists.intro
  refine ⟨fun W hW => ?_, ?_⟩
  focus (go_simp; exact rfl)
  simp only [List.getElem_toArray, List.getElem_cons_succ, List.getElem_cons_zero, Act.put, List.setIfInBounds_toArray, List.set_cons_zero, List.set_cons_succ]
  refine lexH_yieldE rfl rfl ?_
  apply Exists.intro
  refine ⟨fun W hW => ?_, ?_⟩
  focus (go_simp; exact rfl)
  simp only [List.getElem_toArray, List.getElem_cons_succ, List.getElem_cons_zero, Act.put, List.setIfInBounds_toArray, List.set_cons_zero, List.set_cons_succ]
  refine lexH_yieldE rfl rfl ?_
  apply Exists.intro
  refine ⟨fun W hW => ?_, ?_⟩
  focus (go_simp; exact rfl)
  simp only [List.getElem_toArray, List.getElem_cons_succ, List.getElem_cons_zero, Act.put, List.setIfInBounds_toArray, List.set_cons_zero, List.set_cons_succ]
  refine lexH_load rfl rfl _ _ rfl rfl L3.out ?_
  simp only [List.getElem_toArray, List.getElem_cons_succ, List.getElem_cons_zero, Act.put, List.setIfInBounds_toArray, List.set_cons_zero, List.set_cons_succ]
  refine lexH_call 22 #[.pointer (some ⟨C.s, 0, none⟩)] rfl rfl ?_ ?_
  focus (go_simp; done)
  refine (HK.out.count (HAV.out V0 HV0.out)).mono ?_
  rintro e V1 ⟨rfl, hb⟩
  have HV1 := Lib.hid (HV0.out.trans (hb.mono HV0.out.size))
  refine ⟨_, rfl, HV1.out, ?_⟩
  clear hb HV0
  simp only [List.getElem_toArray, List.getElem_cons_succ, List.getElem_cons_zero, Act.put, List.setIfInBounds_toArray, List.set_cons_zero, List.set_cons_succ]
  refine lexH_yieldE rfl rfl ?_
  apply Exists.intro
  refine ⟨fun W hW => ?_, ?_⟩
  focus (go_simp; exact rfl)
  simp only [List.getElem_toArray, List.getElem_cons_succ, List.getElem_cons_zero, Act.put, List.setIfInBounds_toArray, List.set_cons_zero, List.set_cons_succ]
  refine lexH_yieldE rfl rfl ?_
  apply Exists.intro
  refine ⟨fun W hW => ?_, ?_⟩
  focus (go_simp; exact rfl)
  simp only [List.getElem_toArray, List.getElem_cons_succ, List.getElem_cons_zero, Act.put, List.setIfInBounds_toArray, List.set_cons_zero, List.set_cons_succ]
  refine lexH_yieldE rfl rfl ?_
  apply Exists.intro
  refine ⟨fun W hW => ?_, ?_⟩
  focus (go_simp; exact rfl)
  simp only [List.getElem_toArray, List.getElem_cons_succ, List.getElem_cons_zero, Act.put, List.setIfInBounds_toArray, List.set_cons_zero, List.set_cons_succ]
  refine lexH_yieldE rfl rfl ?_
  apply Exists.intro
  refine ⟨fun W hW => ?_, ?_⟩
  focus (go_simp; exact rfl)
  simp only [List.getElem_toArray, List.getElem_cons_succ, List.getElem_cons_zero, Act.put, List.setIfInBounds_toArray, List.set_cons_zero, List.set_cons_succ]
  refine lexH_yieldE rfl rfl ?_
  apply Exists.intro
  refine ⟨fun W hW => ?_, ?_⟩
  focus (go_simp; exact rfl)
  simp only [List.getElem_toArray, List.getElem_cons_succ, List.getElem_cons_zero, Act.put, List.setIfInBounds_toArray, List.set_cons_zero, List.set_cons_succ]
  refine lexH_yieldE rfl rfl ?_
  apply Exists.intro
  refine ⟨fun W hW => ?_, ?_⟩
  focus (go_simp; exact rfl)
  simp only [List.getElem_toArray, List.getElem_cons_succ, List.getElem_cons_zero, Act.put, List.setIfInBounds_toArray, List.set_cons_zero, List.set_cons_succ]
  refine lexH_load rfl rfl _ _ rfl rfl L1.out ?_
  simp only [List.getElem_toArray, List.getElem_cons_succ, List.getElem_cons_zero, Act.put, List.setIfInBounds_toArray, List.set_cons_zero, List.set_cons_succ]
  refine lexH_call 26 #[.pointer (some ⟨C.s, 0, none⟩)] rfl rfl ?_ ?_
  focus (go_simp; done)
  refine (HK.out.size (HAV.out V1 HV1.out)).mono ?_
  rintro e V2 ⟨rfl, hb⟩
  have HV2 := Lib.hid (HV1.out.trans (hb.mono HV1.out.size))
  refine ⟨_, rfl, HV2.out, ?_⟩
  clear hb HV1
  simp only [List.getElem_toArray, List.getElem_cons_succ, List.getElem_cons_zero, Act.put, List.setIfInBounds_toArray, List.set_cons_zero, List.set_cons_succ]
  refine lexH_yieldE rfl rfl ?_
  apply Exists.intro
  refine ⟨fun W hW => ?_, ?_⟩
  focus (go_simp; exact rfl)
  simp only [List.getElem_toArray, List.getElem_cons_succ, List.getElem_cons_zero, Act.put, List.setIfInBounds_toArray, List.set_cons_zero, List.set_cons_succ]
  refine lexH_yieldE rfl rfl ?_
  apply Exists.intro
  refine ⟨fun W hW => ?_, ?_⟩
  focus (go_simp; exact rfl)
  simp only [List.getElem_toArray, List.getElem_cons_succ, List.getElem_cons_zero, Act.put, List.setIfInBounds_toArray, List.set_cons_zero, List.set_cons_succ]
  refine lexH_yieldE rfl rfl ?_
  apply Exists.intro
  refine ⟨fun W hW => ?_, ?_⟩
  focus (go_simp; exact rfl)
  simp only [List.getElem_toArray, List.getElem_cons_succ, List.getElem_cons_zero, Act.put, List.setIfInBounds_toArray, List.set_cons_zero, List.set_cons_succ]
  refine lexH_yieldE rfl rfl ?_
  apply Exists.intro
  refine ⟨fun W hW => ?_, ?_⟩
  focus (go_simp; exact rfl)
  simp only [List.getElem_toArray, List.getElem_cons_succ, List.getElem_cons_zero, Act.put, List.setIfInBounds_toArray, List.set_cons_zero, List.set_cons_succ]
  refine lexH_yieldE rfl rfl ?_
  apply Exists.intro
  refine ⟨fun W hW => ?_, ?_⟩
  focus (go_simp; exact rfl)
  simp only [List.getElem_toArray, List.getElem_cons_succ, List.getElem_cons_zero, Act.put, List.setIfInBounds_toArray, List.set_cons_zero, List.set_cons_succ]
  refine lexH_yieldE rfl rfl ?_
  apply Exists.intro
  refine ⟨fun W hW => ?_, ?_⟩
  focus (go_simp; exact rfl)
  simp only [List.getElem_toArray, List.getElem_cons_succ, List.getElem_cons_zero, Act.put, List.setIfInBounds_toArray, List.set_cons_zero, List.set_cons_succ]
  refine lexH_yieldE rfl rfl ?_
  apply Exists.intro
  refine ⟨fun W hW => ?_, ?_⟩
  focus (go_simp; exact rfl)
  simp only [List.getElem_toArray, List.getElem_cons_succ, List.getElem_cons_zero, Act.put, List.setIfInBounds_toArray, List.set_cons_zero, List.set_cons_succ]
  refine lexH_load rfl rfl _ _ rfl rfl L2.out ?_
  simp only [List.getElem_toArray, List.getElem_cons_succ, List.getElem_cons_zero, Act.put, List.setIfInBounds_toArray, List.set_cons_zero, List.set_cons_succ]
  refine lexH_call 27 #[.pointer (some ⟨C.s, 0, none⟩)] rfl rfl ?_ ?_
  focus (go_simp; done)
  refine (HK.out.colour (HAV.out V2 HV2.out)).mono ?_
  rintro e V3 ⟨rfl, hb⟩
  have HV3 := Lib.hid (HV2.out.trans (hb.mono HV2.out.size))
  refine ⟨_, rfl, HV3.out, ?_⟩
  clear hb HV2
  simp only [List.getElem_toArray, List.getElem_cons_succ, List.getElem_cons_zero, Act.put, List.setIfInBounds_toArray, List.set_cons_zero, List.set_cons_succ]
  refine lexH_yieldE rfl rfl ?_
  apply Exists.intro
  refine ⟨fun W hW => ?_, ?_⟩
  focus (go_simp; exact rfl)
  simp only [List.getElem_toArray, List.getElem_cons_succ, List.getElem_cons_zero, Act.put, List.setIfInBounds_toArray, List.set_cons_zero, List.set_cons_succ]
  refine lexH_yieldE rfl rfl ?_
  apply Exists.intro
  refine ⟨fun W hW => ?_, ?_⟩
  focus (go_simp; exact rfl)
  simp only [List.getElem_toArray, List.getElem_cons_succ, List.getElem_cons_zero, Act.put, List.setIfInBounds_toArray, List.set_cons_zero, List.set_cons_succ]
  refine lexH_yieldE rfl rfl ?_
  apply Exists.intro
  refine ⟨fun W hW => ?_, ?_⟩
  focus (go_simp; exact rfl)
  simp only [List.getElem_toArray, List.getElem_cons_succ, List.getElem_cons_zero, Act.put, List.setIfInBounds_toArray, List.set_cons_zero, List.set_cons_succ]
  refine lexH_yieldE rfl rfl ?_
  apply Exists.intro
  refine ⟨fun W hW => ?_, ?_⟩
  focus (go_simp; exact rfl)
  simp only [List.getElem_toArray, List.getElem_cons_succ, List.getElem_cons_zero, Act.put, List.setIfInBounds_toArray, List.set_cons_zero, List.set_cons_succ]
  refine lexH_yieldE rfl rfl ?_
  apply Exists.intro
  refine ⟨fun W hW => ?_, ?_⟩
  focus (go_simp; exact rfl)
  simp only [List.getElem_toArray, List.getElem_cons_succ, List.getElem_cons_zero, Act.put, List.setIfInBounds_toArray, List.set_cons_zero, List.set_cons_succ]
  refine lexH_yieldE rfl rfl ?_
  apply Exists.intro
  refine ⟨fun W hW => ?_, ?_⟩
  focus (go_simp; exact rfl)
  simp only [List.getElem_toArray, List.getElem_cons_succ, List.getElem_cons_zero, Act.put, List.setIfInBounds_toArray, List.set_cons_zero, List.set_cons_succ]
  refine lexH_yieldE rfl rfl ?_
  apply Exists.intro
  refine ⟨fun W hW => ?_, ?_⟩
  focus (go_simp; exact rfl)
  simp only [List.getElem_toArray, List.getElem_cons_succ, List.getElem_cons_zero, Act.put, List.setIfInBounds_toArray, List.set_cons_zero, List.set_cons_succ]
  refine lexH_load rfl rfl _ _ rfl rfl L4.out ?_
  simp only [List.getElem_toArray, List.getElem_cons_succ, List.getElem_cons_zero, Act.put, List.setIfInBounds_toArray, List.set_cons_zero, List.set_cons_succ]
  refine lexH_yieldE rfl rfl ?_
  apply Exists.intro
  refine ⟨fun W hW => ?_, ?_⟩
  focus (go_simp; exact rfl)
  simp only [List.getElem_toArray, List.getElem_cons_succ, List.getElem_cons_zero, Act.put, List.setIfInBounds_toArray, List.set_cons_zero, List.set_cons_succ]
  refine lexH_call 23 #[.pointer (some ⟨C.s, 0, none⟩)] rfl rfl ?_ ?_
  focus (go_simp; done)
  refine (HK.out.free (HAV.out V3 HV3.out)).mono ?_
  rintro e V4 ⟨rfl, hb⟩
  have HV4 := Lib.hid (HV3.out.trans (hb.mono HV3.out.size))
  refine ⟨_, rfl, HV4.out, ?_⟩
  clear hb HV3
  simp only [List.getElem_toArray, List.getElem_cons_succ, List.getElem_cons_zero, Act.put, List.setIfInBounds_toArray, List.set_cons_zero, List.set_cons_succ]
  refine lexH_yieldE rfl rfl ?_
  apply Exists.intro
  refine ⟨fun W hW => ?_, ?_⟩
  focus (go_simp; exact rfl)
  simp only [List.getElem_toArray, List.getElem_cons_succ, List.getElem_cons_zero, Act.put, List.setIfInBounds_toArray, List.set_cons_zero, List.set_cons_succ]
  refine lexH_yieldE rfl rfl ?_
  apply Exists.intro
  refine ⟨fun W hW => ?_, ?_⟩
  focus (go_simp; exact rfl)
  simp only [List.getElem_toArray, List.getElem_cons_succ, List.getElem_cons_zero, Act.put, List.setIfInBounds_toArray, List.set_cons_zero, List.set_cons_succ]
  refine lexH_yieldE rfl rfl ?_
  apply Exists.intro
  refine ⟨fun W hW => ?_, ?_⟩
  focus (go_simp; exact rfl)
  simp only [List.getElem_toArray, List.getElem_cons_succ, List.getElem_cons_zero, Act.put, List.setIfInBounds_toArray, List.set_cons_zero, List.set_cons_succ]
  refine lexH_yieldE rfl rfl ?_
  apply Exists.intro
  refine ⟨fun W hW => ?_, ?_⟩
  focus (go_simp; exact rfl)
  simp only [List.getElem_toArray, List.getElem_cons_succ, List.getElem_cons_zero, Act.put, List.setIfInBounds_toArray, List.set_cons_zero, List.set_cons_succ]
  refine lexH_yieldE rfl rfl ?_
  apply Exists.intro
  refine ⟨fun W hW => ?_, ?_⟩
  focus (go_simp; exact rfl)
  simp only [List.getElem_toArray, List.getElem_cons_succ, List.getElem_cons_zero, Act.put, List.setIfInBounds_toArray, List.set_cons_zero, List.set_cons_succ]
  refine lexH_yieldE rfl rfl ?_
  apply Exists.intro
  refine ⟨fun W hW => ?_, ?_⟩
  focus (go_simp; exact rfl)
  simp only [List.getElem_toArray, List.getElem_cons_succ, List.getElem_cons_zero, Act.put, List.setIfInBounds_toArray, List.set_cons_zero, List.set_cons_succ]
  refine lexH_yieldE rfl rfl ?_
  apply Exists.intro
  refine ⟨fun W hW => ?_, ?_⟩
  focus (go_simp; exact rfl)
  simp only [List.getElem_toArray, List.getElem_cons_succ, List.getElem_cons_zero, Act.put, List.setIfInBounds_toArray, List.set_cons_zero, List.set_cons_succ]
  refine lexH_yieldE rfl rfl ?_
  apply Exists.intro
  refine ⟨fun W hW => ?_, ?_⟩
  focus (go_simp; exact rfl)
  simp only [List.getElem_toArray, List.getElem_cons_succ, List.getElem_cons_zero, Act.put, List.setIfInBounds_toArray, List.set_cons_zero, List.set_cons_succ]
  refine lexH_load rfl rfl _ _ rfl rfl L4.out ?_
  simp only [List.getElem_toArray, List.getElem_cons_succ, List.getElem_cons_zero, Act.put, List.setIfInBounds_toArray, List.set_cons_zero, List.set_cons_succ]
  refine lexH_yieldE rfl rfl ?_
  apply Exists.intro
  refine ⟨fun W hW => ?_, ?_⟩
  focus (go_simp; exact rfl)
  simp only [List.getElem_toArray, List.getElem_cons_succ, List.getElem_cons_zero, Act.put, List.setIfInBounds_toArray, List.set_cons_zero, List.set_cons_succ]
  refine lexH_yieldE rfl rfl ?_
  apply Exists.intro
  refine ⟨fun W hW => ?_, ?_⟩
  focus (go_simp; exact rfl)
  simp only [List.getElem_toArray, List.getElem_cons_succ, List.getElem_cons_zero, Act.put, List.setIfInBounds_toArray, List.set_cons_zero, List.set_cons_succ]
  refine lexH_yieldE rfl rfl ?_
  apply Exists.intro
  refine ⟨fun W hW => ?_, ?_⟩
  focus (go_simp; exact rfl)
  simp only [List.getElem_toArray, List.getElem_cons_succ, List.getElem_cons_zero, Act.put, List.setIfInBounds_toArray, List.set_cons_zero, List.set_cons_succ]
  refine lexH_yieldE rfl rfl ?_
  apply Exists.intro
  refine ⟨fun W hW => ?_, ?_⟩
  focus (go_simp; exact rfl)
  simp only [List.getElem_toArray, List.getElem_cons_succ, List.getElem_cons_zero, Act.put, List.setIfInBounds_toArray, List.set_cons_zero, List.set_cons_succ]
  refine lexH_yieldE rfl rfl ?_
  apply Exists.intro
  refine ⟨fun W hW => ?_, ?_⟩
  focus (go_simp; exact rfl)
  simp only [List.getElem_toArray, List.getElem_cons_succ, List.getElem_cons_zero, Act.put, List.setIfInBounds_toArray, List.set_cons_zero, List.set_cons_succ]
  refine lexH_conv rfl rfl _ _ _ rfl rfl LB.out ?_
  simp only [List.getElem_toArray, List.getElem_cons_succ, List.getElem_cons_zero, Act.put, List.setIfInBounds_toArray, List.set_cons_zero, List.set_cons_succ]
  refine lexH_yieldE rfl rfl ?_
  apply Exists.intro
  refine ⟨fun W hW => ?_, ?_⟩
  focus (go_simp; exact rfl)
  simp only [List.getElem_toArray, List.getElem_cons_succ, List.getElem_cons_zero, Act.put, List.setIfInBounds_toArray, List.set_cons_zero, List.set_cons_succ]
  refine lexH_yieldE rfl rfl ?_
  apply Exists.intro
  refine ⟨fun W hW => ?_, ?_⟩
  focus (go_simp; exact rfl)
  simp only [List.getElem_toArray, List.getElem_cons_succ, List.getElem_cons_zero, Act.put, List.setIfInBounds_toArray, List.set_cons_zero, List.set_cons_succ]
  refine lexH_yieldE rfl rfl ?_
  apply Exists.intro
  refine ⟨fun W hW => ?_, ?_⟩
  focus (go_simp; exact rfl)
  simp only [List.getElem_toArray, List.getElem_cons_succ, List.getElem_cons_zero, Act.put, List.setIfInBounds_toArray, List.set_cons_zero, List.set_cons_succ]
  refine lexH_load rfl rfl _ _ rfl rfl L0.out ?_
  simp only [List.getElem_toArray, List.getElem_cons_succ, List.getElem_cons_zero, Act.put, List.setIfInBounds_toArray, List.set_cons_zero, List.set_cons_succ]
  refine lexH_conv rfl rfl _ _ _ rfl rfl LC.out ?_
  simp only [List.getElem_toArray, List.getElem_cons_succ, List.getElem_cons_zero, Act.put, List.setIfInBounds_toArray, List.set_cons_zero, List.set_cons_succ]
  refine lexH_yieldE rfl rfl ?_
  apply Exists.intro
  refine ⟨fun W hW => ?_, ?_⟩
  focus (go_simp; exact rfl)
  simp only [List.getElem_toArray, List.getElem_cons_succ, List.getElem_cons_zero, Act.put, List.setIfInBounds_toArray, List.set_cons_zero, List.set_cons_succ]
  refine lexH_yieldE rfl rfl ?_
  apply Exists.intro
  refine ⟨fun W hW => ?_, ?_⟩
  focus (go_simp; exact rfl)
  simp only [List.getElem_toArray, List.getElem_cons_succ, List.getElem_cons_zero, Act.put, List.setIfInBounds_toArray, List.set_cons_zero, List.set_cons_succ]
  refine lexH_nil ?_
  have HB4 := Lib.hid (HB1.out.trans ((HW1.out V4 HV4.out).mono HB1.out.size))
  have HL4 := Lib.hid (show ∀ j, 0 ≤ j → j < S.ch.length → ∃ g, la = some ⟨g, 0, none⟩ ∧ w.heap.size ≤ g ∧ V4.cell? ⟨g, j, none⟩ = some (.int .i64 (S.ch.getD j 0 : Int)) ∧ V4.frozen? ⟨g, j, none⟩ = false from fun j _ hj => by
    obtain ⟨g, e, hg, hc, hf⟩ := HL.out j hj
    have hlt := World.block_lt_of_cell? _ _ hc
    exact ⟨g, e, hg, by rw [(HW1.out V4 HV4.out).cell hlt]; exact hc, by rw [(HW1.out V4 HV4.out).frozen hlt]; exact hf⟩)
  clear HL HV4 L0 L1 L2 L3 L4 LB LC HAV HW1 HA1 HR1 HB1
  go_wp2_with (fail)
  go_loopw [77] (fun i wr => ∃ k : Nat, k ≤ S.ch.length ∧ i = .int .i64 k ∧ Hid (Below w.heap.size w wr) ∧ Hid (∀ j, k ≤ j → j < S.ch.length → ∃ g, la = some ⟨g, 0, none⟩ ∧ w.heap.size ≤ g ∧ wr.cell? ⟨g, j, none⟩ = some (.int .i64 (S.ch.getD j 0 : Int)) ∧ wr.frozen? ⟨g, j, none⟩ = false)) (fun i _ => S.ch.length - (intOf i).toNat)
  case atStart => exact ⟨0, Nat.zero_le _, rfl, HB4, HL4⟩
  case round =>
    clear HB4 HL4
    obtain ⟨k, hk, rfl, HB, HL⟩ := hrel
    have hR := HR.out.later HB.out
    by_cases hlt : k < S.ch.length
    · have hltI : (k : Int) < (S.ch.length : Int) := by omega
      obtain ⟨g, rfl, hg, cg, fg⟩ := HL.out k (Nat.le_refl k) hlt
      obtain ⟨a', c', e', _, hh'⟩ := hR.chn
      injection e' with e' _ e7
      subst e7
      obtain ⟨b, o, e2, _, _, ce⟩ := hh' k hlt
      rw [e2] at e'
      subst e'
      have c4 := hR.c4
      have HLT := Lib.hid hlt
      have LA := Lib.hid (show ∀ V, V = wr.drew → (loadVar 3 ⟨g, k, none⟩).run Try.prog V = .ok (.int .i64 (S.ch.getD k 0 : Int)) V from fun V hV => run_loadVar_cell (fun _ => by kernel_rfl) (by rw [hV]; exact cg))
      have LE := Lib.hid (show ∀ V, V = wr.drew → (loadVar 3 ⟨b, o + k, none⟩).run Try.prog V = .ok (.int .i64 (S.ch.getD k 0 : Int)) V from fun V hV => run_loadVar_cell (fun _ => by kernel_rfl) (by rw [hV]; exact ce))
      have L4 := Lib.hid (show ∀ V, V = wr.drew → (loadVar 40 ⟨r, 4, none⟩).run Try.prog V = .ok (.slice (some ⟨b, o, none⟩) S.ch.length vc) V from fun V hV => run_loadVar_cell (fun _ => by kernel_rfl) (by rw [hV]; exact c4))
      have HBD := Lib.hid (HB.out.trans ((Below.refl wr.heap.size wr).drew.mono HB.out.size))
      have cgd : wr.drew.cell? ⟨g, k, none⟩ = some (.int .i64 (S.ch.getD k 0 : Int)) := cg
      have fgd : wr.drew.frozen? ⟨g, k, none⟩ = false := fg
      have HLD := Lib.hid (show ∀ j, k + 1 ≤ j → j < S.ch.length → ∃ g', some (⟨g, 0, none⟩ : Addr) = some ⟨g', 0, none⟩ ∧ w.heap.size ≤ g' ∧ (wr.drew.setCell ⟨g, k, none⟩ (.int .i64 77)).cell? ⟨g', j, none⟩ = some (.int .i64 (S.ch.getD j 0 : Int)) ∧ (wr.drew.setCell ⟨g, k, none⟩ (.int .i64 77)).frozen? ⟨g', j, none⟩ = false from fun j hj1 hj2 => by
        obtain ⟨g', e, h1, h2, h3⟩ := HL.out j (by omega) hj2
        injection e with e
        injection e with e _ _
        subst e
        refine ⟨g, rfl, h1, ?_, ?_⟩
        · rw [World.cell?_setCell_other _ _ _ _ (by intro e; injection e with _ e _; omega)]
          exact h2
        · rw [World.frozen?_setCell]
          exact h3)
      clear hR c4 ce cg fg HL HB e2 hh' hlt
      generalize S.ch.getD k 0 = x at *
      go_wp2_with (fail)
      refine wp_region_lex1 (fun V => V = wr.drew) [(0, false), (1, false), (2, false), (3, false), (4, false), (5, false), (6, false), (7, false), (8, false), (9, false), (10, false), (11, false)]
        (by kernel_rfl) (by kernel_rfl) rfl (by kernel_rfl) rfl ?_
      intro V0 hV0 hK0
      clear hK0
      subst hV0
      refine lexH_yieldE rfl rfl ?_
      apply Exists.intro
      refine ⟨fun W hW => ?_, ?_⟩
      focus (go_simp; exact rfl)
      simp only [List.getElem_toArray, List.getElem_cons_zero, Act.put, List.setIfInBounds_toArray, List.set_cons_zero, List.set_cons_succ]
      refine lexH_yieldE rfl rfl ?_
      apply Exists.intro
      refine ⟨fun W hW => ?_, ?_⟩
      focus (go_simp; exact rfl)
      simp only [List.getElem_toArray, List.getElem_cons_succ, List.getElem_cons_zero, Act.put, List.setIfInBounds_toArray, List.set_cons_zero, List.set_cons_succ]
      refine lexH_yieldE rfl rfl ?_
      apply Exists.intro
      refine ⟨fun W hW => ?_, ?_⟩
      focus (go_simp; exact rfl)
      simp only [List.getElem_toArray, List.getElem_cons_succ, List.getElem_cons_zero, Act.put, List.setIfInBounds_toArray, List.set_cons_zero, List.set_cons_succ]
      refine lexH_load rfl rfl _ _ rfl rfl LA.out ?_
      simp only [List.getElem_toArray, List.getElem_cons_succ, List.getElem_cons_zero, Act.put, List.setIfInBounds_toArray, List.set_cons_zero, List.set_cons_succ]
      refine lexH_yieldE rfl rfl ?_
      apply Exists.intro
      refine ⟨fun W hW => ?_, ?_⟩
      focus (go_simp; exact rfl)
      simp only [List.getElem_toArray, List.getElem_cons_succ, List.getElem_cons_zero, Act.put, List.setIfInBounds_toArray, List.set_cons_zero, List.set_cons_succ]
      refine lexH_yieldE rfl rfl ?_
      apply Exists.intro
      refine ⟨fun W hW => ?_, ?_⟩
      focus (go_simp; exact rfl)
      simp only [List.getElem_toArray, List.getElem_cons_succ, List.getElem_cons_zero, Act.put, List.setIfInBounds_toArray, List.set_cons_zero, List.set_cons_succ]
      refine lexH_yieldE rfl rfl ?_
      apply Exists.intro
      refine ⟨fun W hW => ?_, ?_⟩
      focus (go_simp; exact rfl)
      simp only [List.getElem_toArray, List.getElem_cons_succ, List.getElem_cons_zero, Act.put, List.setIfInBounds_toArray, List.set_cons_zero, List.set_cons_succ]
      refine lexH_load rfl rfl _ _ rfl rfl L4.out ?_
      simp only [List.getElem_toArray, List.getElem_cons_succ, List.getElem_cons_zero, Act.put, List.setIfInBounds_toArray, List.set_cons_zero, List.set_cons_succ]
      refine lexH_yieldE rfl rfl ?_
      apply Exists.intro
      refine ⟨fun W hW => ?_, ?_⟩
      focus (go_simp; exact rfl)
      simp only [List.getElem_toArray, List.getElem_cons_succ, List.getElem_cons_zero, Act.put, List.setIfInBounds_toArray, List.set_cons_zero, List.set_cons_succ]
      refine lexH_yieldE rfl rfl ?_
      apply Exists.intro
      refine ⟨fun W hW => ?_, ?_⟩
      focus (go_simp; exact rfl)
      simp only [List.getElem_toArray, List.getElem_cons_succ, List.getElem_cons_zero, Act.put, List.setIfInBounds_toArray, List.set_cons_zero, List.set_cons_succ]
      refine lexH_load rfl rfl _ _ rfl rfl LE.out ?_
      simp only [List.getElem_toArray, List.getElem_cons_succ, List.getElem_cons_zero, Act.put, List.setIfInBounds_toArray, List.set_cons_zero, List.set_cons_succ]
      refine lexH_yieldE rfl rfl ?_
      apply Exists.intro
      refine ⟨fun W hW => ?_, ?_⟩
      focus (go_simp; exact rfl)
      simp only [List.getElem_toArray, List.getElem_cons_succ, List.getElem_cons_zero, Act.put, List.setIfInBounds_toArray, List.set_cons_zero, List.set_cons_succ]
      refine lexH_nil ?_
      clear LA LE L4
      have HB5 := Lib.hid (HBD.out.setCell (p := ⟨g, k, none⟩) hg (.int .i64 77))
      generalize wr.drew = V0 at *
      go_wp2_with (fail)
      go_roundw
      case rel => exact ⟨k + 1, HLT.out, by go_num, HB5, HLD⟩
      case measure => simp [intOf]; omega
    · obtain rfl : k = S.ch.length := by omega
      have c3 := hR.c3
      clear HL hR
      go_wp2_with (fail)
      clear c3
      go_loopw [9] (fun i wx => ∃ q : Nat, i = .int .i64 ((q : Int) - 1) ∧ q ≤ S.n + 2 ∧ Hid (Below w.heap.size w wx)) (fun i _ => S.n + 2 - (intOf i + 1).toNat)
      case atStart => exact ⟨0, rfl, by omega, HB⟩
      case round =>
        clear HB
        obtain ⟨q, rfl, hq, HB⟩ := hrel
        have c3 := (HR.out.later HB.out).c3
        by_cases hlt2 : q ≤ S.n + 1
        · obtain ⟨i, hi⟩ : ∃ i, (q : Int) - 1 = i := ⟨_, rfl⟩
          have hi2 : i ≤ (S.n : Int) := by omega
          have HQ := Lib.hid (show i + 1 = ((q + 1 : Nat) : Int) - 1 ∧ (i + 1).toNat = q ∧ -1 ≤ i by omega)
          have hi64 : i ≤ 1000 ∧ -1 ≤ i := by omega
          rw [hi]
          clear hi
          go_wp2_with (fail)
          clear c3
          refine (HK.out.live i (HK.out.later HA.out HB.out)).mono ?_
          rintro e w5 ⟨rfl, hb⟩
          have HB5 := Lib.hid (HB.out.trans (hb.mono HB.out.size))
          clear hb HB
          go_wp2_with (fail)
          refine (rlive_any (HR.out.later HB5.out) HI.out i).mono ?_
          rintro e w' ⟨rfl, rfl⟩
          generalize S.live i = lv at *
          obtain ⟨l1, l2⟩ := lv
          go_wp2_with (fail)
          refine (HK.out.place i (HK.out.later HA.out HB5.out)).mono ?_
          rintro e w6 ⟨rfl, hb⟩
          have HB6 := Lib.hid (HB5.out.trans (hb.mono HB5.out.size))
          clear hb HB5
          go_wp2_with (fail)
          refine (rat_any (HR.out.later HB6.out) HI.out i).mono ?_
          rintro e w7 ⟨rfl, hb⟩
          have HB7 := Lib.hid (HB6.out.trans (hb.mono HB6.out.size))
          clear hb HB6
          generalize S.place i = pl at *
          obtain ⟨p1, p2⟩ := pl
          go_wp2_with (fail)
          go_roundw
          case rel => exact ⟨q + 1, by rw [← HQ.out.1], by omega, HB7⟩
          case measure =>
            have := HQ.out
            simp [intOf]
            omega
        · obtain rfl : q = S.n + 2 := by omega
          have hgt : ¬ (((S.n + 2 : Nat) : Int) - 1 ≤ (S.n : Int)) := by omega
          go_wp2_with (fail)
          go_ret
          exact ⟨rfl, HB.out⟩
end
end Go.Proofs.Ytifiecfkcikdmaa
