/-
  cache's law: is all that is told the document's?
-/
import Derived.Test.YtlimbcpghfddkaaCaAl
import Derived.Test.YtlimbcpghfddkaaCaAdd
import Derived.Test.YtlimbcpghfddkaaCaRefA
namespace Go.Proofs.Ytlimbcpghfddkaa
open Go.RowKit Go Go.Maps

theorem OwnZ.of_owns {W : World} {B base n c : Nat} {a : Option Addr} {l : List Int} (h : W.ownsRow base 3 1 (.slice a n c) n (intV l)) (hb : B ≤ base) : OwnZ W B a n (fun j => l.getD j 0) 0 := fun j _ hj => by
  obtain ⟨a', c', e, hh⟩ := owns_slice h
  injection e with e1 _ _
  subst e1
  obtain ⟨g, e, hg, _, A, t, hA, hx⟩ := hh (by omega)
  have hl : (intV l).length = n * 1 := h.1
  rw [intV_len] at hl
  refine ⟨g, e, Nat.le_trans hb hg, ?_, ?_⟩
  · rw [cell_of_row _ _ _ _ _ _ hA, hx j (by omega)]
    unfold intV
    rw [List.getElem?_map, List.getElem?_eq_getElem (show j < l.length by omega)]
    dsimp only
    rw [List.getD_eq_getElem?_getD, List.getElem?_eq_getElem (show j < l.length by omega)]
    rfl
  · exact RowAt.frozen (n := 0) (f := fun _ => undef) ⟨A, t, hA, fun i hi => absurd hi (Nat.not_lt_zero i)⟩ j
theorem OwnZ.of_nats {W : World} {B base n c : Nat} {a : Option Addr} {l : List Nat} (h : W.ownsRow base 3 1 (.slice a n c) n (natV l)) (hb : B ≤ base) : OwnZ W B a n (fun j => (l.getD j 0 : Int)) 0 := fun j _ hj => by
  obtain ⟨a', c', e, hh⟩ := owns_slice h
  injection e with e1 _ _
  subst e1
  obtain ⟨g, e, hg, _, A, t, hA, hx⟩ := hh (by omega)
  have hl : (natV l).length = n * 1 := h.1
  rw [natV_len] at hl
  refine ⟨g, e, Nat.le_trans hb hg, ?_, ?_⟩
  · rw [cell_of_row _ _ _ _ _ _ hA, hx j (by omega)]
    exact natV_at (by omega)
  · exact RowAt.frozen (n := 0) (f := fun _ => undef) ⟨A, t, hA, fun i hi => absurd hi (Nat.not_lt_zero i)⟩ j
theorem OwnZ.at {W : World} {B n : Nat} {a : Option Addr} {z : Nat → Int} (h : OwnZ W B a n z 0) : AtZ W a n z := fun j hj => by
  obtain ⟨g, e, _, hc, _⟩ := h j (Nat.zero_le _) hj
  exact ⟨g, 0, e, by rw [Nat.zero_add]; exact hc⟩
theorem own_block {W : World} {base n c : Nat} {T : TypeId} {s : Nat} {a : Option Addr} {xs : List Value} (h : W.ownsRow base T s (.slice a n c) n xs) {g o : Nat} (e : a = some ⟨g, o, none⟩) : base ≤ g ∧ g < W.heap.size := h.lt g (by rw [e]; rfl)
theorem below_dr {n : Nat} {w : World} (h : n ≤ w.heap.size) : Below n w w.drew := (Below.refl w.heap.size w).drew.mono h
theorem alike_any' {w : World} {B n ca cb : Nat} {la lb : Option Addr} {z : Nat → Int} (hA : OwnZ w B la n z 0) (hB : AtZ w lb n z) (hne : 0 < n → ∀ g o, la = some ⟨g, 0, none⟩ → lb ≠ some ⟨g, o, none⟩) (hn : n ≤ 1000) (hle : B ≤ w.heap.size) :
    Calls Try.prog 49 #[.slice la n ca, .slice lb n cb] w fun e w' => e = .returned (.bool true) ∧ Below B w w' := alike_any hA hB hne hn hle
section
variable {w : World} {K : KC} {D : DC} {A : Ca}
set_option maxRecDepth 100000 in
set_option maxHeartbeats 16000000 in
theorem kdsame_any (H : CaAt w K A) (R : DAt w D A) (hl : A.L.length ≤ 1000) : Calls Try.prog 27 #[.pointer (some ⟨K.c, 0, none⟩), .pointer (some ⟨D.d, 0, none⟩)] w fun e w' => e = .returned (.bool true) ∧ Below w.heap.size w w' := by
  have HH := Lib.hid H
  have HR := Lib.hid R
  have HL := Lib.hid hl
  have L0 := Lib.hid (show ∀ V, Below w.heap.size w V → (loadVar 3 ⟨D.d, 0, none⟩).run Try.prog V = .ok (.int .i64 A.sz) V from fun V hV => run_loadVar_cell (fun _ => by kernel_rfl) (HR.out.later hV).c0)
  clear H R hl
  go_enter Try.func27, Try.ntmps27
  go_wp2_with (fail)
  refine wp_region_lex1 (fun V => Below w.heap.size w V) [(0, false), (2, false), (3, false), (4, false), (5, false), (1, true), (6, false), (7, false), (8, false), (10, false), (9, true), (11, true), (12, true), (13, false), (14, false), (15, false), (16, false), (18, false), (17, true), (19, true), (20, true), (21, false), (22, false)]
    (by kernel_rfl) (by kernel_rfl) rfl (by kernel_rfl) (Below.refl _ w).drew ?_
  intro V0 hV0 hK0
  have HV0 := Lib.hid (show Below w.heap.size w V0 by rw [hV0]; exact (Below.refl _ w).drew)
  clear hV0 hK0
  refine lexH_yieldE rfl rfl ?_
  apply Exists.intro
  refine ⟨fun W hW => ?_, ?_⟩
  focus (go_simp; exact rfl)
  simp only [List.getElem_toArray, List.getElem_cons_zero, Act.put, List.setIfInBounds_toArray, List.set_cons_zero, List.set_cons_succ]
  refine lexH_yieldE rfl rfl ?_
  apply Exists.intro
  refine ⟨fun W hW => ?_, ?_⟩
  focus (go_simp; exact rfl)
  simp only [List.getElem_toArray, List.getElem_cons_succ, List.getElem_cons_zero, Act.put, List.setIfInBounds_toArray, List.set_cons_zero, List.set_cons_succ]
  refine lexH_yieldE rfl rfl ?_
  apply Exists.intro
  refine ⟨fun W hW => ?_, ?_⟩
  focus (go_simp; exact rfl)
  simp only [List.getElem_toArray, List.getElem_cons_succ, List.getElem_cons_zero, Act.put, List.setIfInBounds_toArray, List.set_cons_zero, List.set_cons_succ]
  refine lexH_yieldE rfl rfl ?_
  apply Exists.intro
  refine ⟨fun W hW => ?_, ?_⟩
  focus (go_simp; exact rfl)
  simp only [List.getElem_toArray, List.getElem_cons_succ, List.getElem_cons_zero, Act.put, List.setIfInBounds_toArray, List.set_cons_zero, List.set_cons_succ]
  refine lexH_load rfl rfl _ _ rfl rfl L0.out ?_
  simp only [List.getElem_toArray, List.getElem_cons_succ, List.getElem_cons_zero, Act.put, List.setIfInBounds_toArray, List.set_cons_zero, List.set_cons_succ]
  refine lexH_call 33 #[.pointer (some ⟨K.c, 0, none⟩)] rfl rfl ?_ ?_
  focus (go_simp; done)
  refine (ksize_any (HH.out.later HV0.out)).mono ?_
  rintro e V1 ⟨rfl, rfl⟩
  refine ⟨_, rfl, HV0.out, ?_⟩
  simp only [List.getElem_toArray, List.getElem_cons_succ, List.getElem_cons_zero, Act.put, List.setIfInBounds_toArray, List.set_cons_zero, List.set_cons_succ]
  refine lexH_yieldE rfl rfl ?_
  apply Exists.intro
  refine ⟨fun W hW => ?_, ?_⟩
  focus (go_simp; exact rfl)
  simp only [List.getElem_toArray, List.getElem_cons_succ, List.getElem_cons_zero, Act.put, List.setIfInBounds_toArray, List.set_cons_zero, List.set_cons_succ]
  refine lexH_yieldE rfl rfl ?_
  apply Exists.intro
  refine ⟨fun W hW => ?_, ?_⟩
  focus (go_simp; exact rfl)
  simp only [List.getElem_toArray, List.getElem_cons_succ, List.getElem_cons_zero, Act.put, List.setIfInBounds_toArray, List.set_cons_zero, List.set_cons_succ]
  refine lexH_yieldE rfl rfl ?_
  apply Exists.intro
  refine ⟨fun W hW => ?_, ?_⟩
  focus (go_simp; exact rfl)
  simp only [List.getElem_toArray, List.getElem_cons_succ, List.getElem_cons_zero, Act.put, List.setIfInBounds_toArray, List.set_cons_zero, List.set_cons_succ]
  refine lexH_yieldE rfl rfl ?_
  apply Exists.intro
  refine ⟨fun W hW => ?_, ?_⟩
  focus (go_simp; exact rfl)
  simp only [List.getElem_toArray, List.getElem_cons_succ, List.getElem_cons_zero, Act.put, List.setIfInBounds_toArray, List.set_cons_zero, List.set_cons_succ]
  refine lexH_call 32 #[.pointer (some ⟨K.c, 0, none⟩)] rfl rfl ?_ ?_
  focus (go_simp; done)
  refine (kframes_any (HH.out.later HV0.out) HL.out).mono ?_
  rintro e V1 ⟨v1, rfl, hown, hb⟩
  obtain ⟨a1, c1, hv, _⟩ := owns_slice hown
  subst hv
  have HV1 := Lib.hid (HV0.out.trans (hb.mono HV0.out.size))
  have HO1 := Lib.hid hown
  refine ⟨_, rfl, HV1.out, ?_⟩
  have HZ0 := Lib.hid HV0.out.size
  clear hown hb HV0
  simp only [List.getElem_toArray, List.getElem_cons_succ, List.getElem_cons_zero, Act.put, List.setIfInBounds_toArray, List.set_cons_zero, List.set_cons_succ]
  refine lexH_call 50 #[.pointer (some ⟨D.d, 0, none⟩), .bool false] rfl rfl ?_ ?_
  focus (go_simp; done)
  refine (dframes_any (HR.out.later HV1.out) HL.out).mono ?_
  rintro e V2 ⟨v2, rfl, hown, hb⟩
  obtain ⟨a2, c2, hv, _⟩ := owns_slice hown
  subst hv
  have HV2 := Lib.hid (HV1.out.trans (hb.mono HV1.out.size))
  have HO2 := Lib.hid hown
  have HP1 := Lib.hid (owns_later HO1.out hb)
  have HQ1 := Lib.hid (show ∀ g o, a1 = some ⟨g, 0, none⟩ → a2 ≠ some ⟨g, o, none⟩ from fun g o e1 e2 => by
    have := own_block HO1.out e1
    have := own_block hown e2
    omega)
  refine ⟨_, rfl, HV2.out, ?_⟩
  clear hown hb HV1 HO1
  simp only [List.getElem_toArray, List.getElem_cons_succ, List.getElem_cons_zero, Act.put, List.setIfInBounds_toArray, List.set_cons_zero, List.set_cons_succ]
  refine lexH_call 49 #[.slice a1 (frsL Pl.all A.L).length c1, .slice a2 (frsL Pl.all A.L).length c2] rfl rfl ?_ ?_
  focus (go_simp; done)
  refine (alike_any (OwnZ.of_owns HP1.out HZ0.out) (OwnZ.of_owns HO2.out (Nat.le_refl _)).at (fun _ => HQ1.out) (Nat.le_trans (frsL_len _ _) HL.out) HV2.out.size).mono ?_
  rintro e V3 ⟨rfl, hb⟩
  have HV3 := Lib.hid (HV2.out.trans hb)
  refine ⟨_, rfl, HV3.out, ?_⟩
  clear hb HV2 HP1 HO2 HQ1 HZ0
  simp only [List.getElem_toArray, List.getElem_cons_succ, List.getElem_cons_zero, Act.put, List.setIfInBounds_toArray, List.set_cons_zero, List.set_cons_succ]
  refine lexH_yieldE rfl rfl ?_
  apply Exists.intro
  refine ⟨fun W hW => ?_, ?_⟩
  focus (go_simp; exact rfl)
  simp only [List.getElem_toArray, List.getElem_cons_succ, List.getElem_cons_zero, Act.put, List.setIfInBounds_toArray, List.set_cons_zero, List.set_cons_succ]
  refine lexH_yieldE rfl rfl ?_
  apply Exists.intro
  refine ⟨fun W hW => ?_, ?_⟩
  focus (go_simp; exact rfl)
  simp only [List.getElem_toArray, List.getElem_cons_succ, List.getElem_cons_zero, Act.put, List.setIfInBounds_toArray, List.set_cons_zero, List.set_cons_succ]
  refine lexH_yieldE rfl rfl ?_
  apply Exists.intro
  refine ⟨fun W hW => ?_, ?_⟩
  focus (go_simp; exact rfl)
  simp only [List.getElem_toArray, List.getElem_cons_succ, List.getElem_cons_zero, Act.put, List.setIfInBounds_toArray, List.set_cons_zero, List.set_cons_succ]
  refine lexH_yieldE rfl rfl ?_
  apply Exists.intro
  refine ⟨fun W hW => ?_, ?_⟩
  focus (go_simp; exact rfl)
  simp only [List.getElem_toArray, List.getElem_cons_succ, List.getElem_cons_zero, Act.put, List.setIfInBounds_toArray, List.set_cons_zero, List.set_cons_succ]
  refine lexH_yieldE rfl rfl ?_
  apply Exists.intro
  refine ⟨fun W hW => ?_, ?_⟩
  focus (go_simp; exact rfl)
  simp only [List.getElem_toArray, List.getElem_cons_succ, List.getElem_cons_zero, Act.put, List.setIfInBounds_toArray, List.set_cons_zero, List.set_cons_succ]
  refine lexH_call 31 #[.pointer (some ⟨K.c, 0, none⟩)] rfl rfl ?_ ?_
  focus (go_simp; done)
  refine (kempty_any (HH.out.later HV3.out) HL.out).mono ?_
  rintro e V4 ⟨v3, rfl, hown, hb⟩
  obtain ⟨a3, c3, hv, _⟩ := owns_slice hown
  subst hv
  have HV4 := Lib.hid (HV3.out.trans (hb.mono HV3.out.size))
  have HO1 := Lib.hid hown
  refine ⟨_, rfl, HV4.out, ?_⟩
  have HZ0 := Lib.hid HV3.out.size
  clear hown hb HV3
  simp only [List.getElem_toArray, List.getElem_cons_succ, List.getElem_cons_zero, Act.put, List.setIfInBounds_toArray, List.set_cons_zero, List.set_cons_succ]
  refine lexH_call 50 #[.pointer (some ⟨D.d, 0, none⟩), .bool true] rfl rfl ?_ ?_
  focus (go_simp; done)
  refine (dempty_any (HR.out.later HV4.out) HL.out).mono ?_
  rintro e V5 ⟨v4, rfl, hown, hb⟩
  obtain ⟨a4, c4, hv, _⟩ := owns_slice hown
  subst hv
  have HV5 := Lib.hid (HV4.out.trans (hb.mono HV4.out.size))
  have HO2 := Lib.hid hown
  have HP1 := Lib.hid (owns_later HO1.out hb)
  have HQ1 := Lib.hid (show ∀ g o, a3 = some ⟨g, 0, none⟩ → a4 ≠ some ⟨g, o, none⟩ from fun g o e1 e2 => by
    have := own_block HO1.out e1
    have := own_block hown e2
    omega)
  refine ⟨_, rfl, HV5.out, ?_⟩
  clear hown hb HV4 HO1
  simp only [List.getElem_toArray, List.getElem_cons_succ, List.getElem_cons_zero, Act.put, List.setIfInBounds_toArray, List.set_cons_zero, List.set_cons_succ]
  refine lexH_call 49 #[.slice a3 (frsL Pl.emp A.L).length c3, .slice a4 (frsL Pl.emp A.L).length c4] rfl rfl ?_ ?_
  focus (go_simp; done)
  refine (alike_any (OwnZ.of_owns HP1.out HZ0.out) (OwnZ.of_owns HO2.out (Nat.le_refl _)).at (fun _ => HQ1.out) (Nat.le_trans (frsL_len _ _) HL.out) HV5.out.size).mono ?_
  rintro e V6 ⟨rfl, hb⟩
  have HV6 := Lib.hid (HV5.out.trans hb)
  refine ⟨_, rfl, HV6.out, ?_⟩
  clear hb HV5 HP1 HO2 HQ1 HZ0
  simp only [List.getElem_toArray, List.getElem_cons_succ, List.getElem_cons_zero, Act.put, List.setIfInBounds_toArray, List.set_cons_zero, List.set_cons_succ]
  refine lexH_yieldE rfl rfl ?_
  apply Exists.intro
  refine ⟨fun W hW => ?_, ?_⟩
  focus (go_simp; exact rfl)
  simp only [List.getElem_toArray, List.getElem_cons_succ, List.getElem_cons_zero, Act.put, List.setIfInBounds_toArray, List.set_cons_zero, List.set_cons_succ]
  refine lexH_yieldE rfl rfl ?_
  apply Exists.intro
  refine ⟨fun W hW => ?_, ?_⟩
  focus (go_simp; exact rfl)
  simp only [List.getElem_toArray, List.getElem_cons_succ, List.getElem_cons_zero, Act.put, List.setIfInBounds_toArray, List.set_cons_zero, List.set_cons_succ]
  refine lexH_nil ?_
  have c2' := (HR.out.later HV6.out).c2
  clear L0
  go_wp2_with (fail)
  clear c2'
  go_loopw [37] (fun i wr => ∃ k : Nat, k ≤ A.L.length ∧ i = .int .i64 k ∧ Hid (Below w.heap.size w wr)) (fun i _ => A.L.length - (intOf i).toNat)
  case atStart => exact ⟨0, Nat.zero_le _, rfl, HV6⟩
  case round =>
    clear HV6
    obtain ⟨k, hk, rfl, HV⟩ := hrel
    by_cases hlt : k < A.L.length
    · have hltI : (k : Int) < (A.L.length : Int) := by omega
      obtain ⟨b, ha, k0, k1, hS, hI⟩ := (HR.out.later HV.out).place hlt
      have c2' := (HR.out.later HV.out).c2
      rw [ha] at c2'
      have hm := List.getElem_mem hlt
      have hfd := findL_of HH.out.inv.rise hm
      have hsl := kslab_any (HH.out.later HV.out) A.L[k].fr (HH.out.wf _ hm)
      unfold KSlab at hsl
      rw [hfd] at hsl
      unfold ptrF at hsl
      have HSL := Lib.hid hsl
      have hat := HH.out.fam.at_ _ hm
      have HAT := Lib.hid (fun W (hW : Below w.heap.size w W) => chain_ok.later hat hW)
      have hds := HR.out.fam.at_ _ hm
      have HDS := Lib.hid (fun W (hW : Below w.heap.size w W) => (show CRef W (D.g A.L[k].fr).r (D.g A.L[k].fr).b (D.g A.L[k].fr).bc A.L[k].S (D.g A.L[k].fr).v from CRef.later hds hW))
      have hcl := hI.len
      have hcn := hI.parts.2.2.2.1
      have HLT := Lib.hid hlt
      have HLTI := Lib.hid hltI
      have hk1000 : (k : Int) ≤ 1000 := by have := HL.out; omega
      clear hfd hsl hat hds hS hI hm ha hk
      generalize A.L[k].S = S at *
      generalize A.L[k].fr = x at *
      clear hlt
      go_wp2_with (fail)
      refine HSL.out.mono ?_
      rintro e w5 ⟨rfl, hww⟩
      subst hww
      clear HSL
      go_wp2_with (fail)
      have HW1 := Lib.hid (show ∀ V, Below w.heap.size wr V → Below w.heap.size w V from fun V hV => HV.out.trans hV)
      have L1 := Lib.hid (show ∀ V, Below w.heap.size wr V → (loadVar 3 ⟨(D.g x).r, 1, none⟩).run Try.prog V = .ok (.int .i64 S.sz) V from fun V hV => run_loadVar_cell (fun _ => by kernel_rfl) (HDS.out V (HW1.out V hV)).c1)
      have L2 := Lib.hid (show ∀ V, Below w.heap.size wr V → (loadVar 3 ⟨(D.g x).r, 2, none⟩).run Try.prog V = .ok (.int .i64 S.co) V from fun V hV => run_loadVar_cell (fun _ => by kernel_rfl) (HDS.out V (HW1.out V hV)).c2)
      have L4 := Lib.hid (show ∀ V, Below w.heap.size wr V → (loadVar 52 ⟨(D.g x).r, 4, none⟩).run Try.prog V = .ok (D.g x).v V from fun V hV => run_loadVar_cell (fun _ => by kernel_rfl) (HDS.out V (HW1.out V hV)).c4)
      have HCH := Lib.hid (fun V (hV : Below w.heap.size wr V) => (HDS.out V (HW1.out V hV)).chn)
      obtain ⟨va, vc, hv, _, _⟩ := HCH.out wr (Below.refl _ _)
      have HFR := Lib.hid (fun W (hV : SlAt W (K.g x) S) => chain_ok.free hV)
      have HSZ := Lib.hid (fun W (hV : SlAt W (K.g x) S) => chain_ok.size hV)
      have HCO := Lib.hid (fun W (hV : SlAt W (K.g x) S) => chain_ok.colour hV)
      have HCN := Lib.hid (fun W (hV : SlAt W (K.g x) S) => chain_ok.chain hV)
      have HWS := Lib.hid HV.out.size
      rw [hv] at L4 HCH
      have hlc : S.ch.length ≤ 32 := by omega
      clear hv HDS k0 k1 c2' hcl hcn HV
      generalize (K.g x).s = cs at *
      generalize (D.g x).r = rr at *
      refine wp_region_lex1 (fun V => Below w.heap.size wr V) [(0, false), (1, false), (2, false), (3, false), (4, false), (5, false), (6, false), (7, false), (9, false), (10, false), (11, false), (12, false), (8, true), (13, false), (14, false), (15, false), (16, false), (18, false), (19, false), (20, false), (21, false), (17, true), (22, false), (23, false), (24, false), (25, false), (27, false), (28, false), (29, false), (30, false), (31, false), (26, true), (32, false), (33, false), (34, false), (35, false), (37, false), (38, false), (39, false), (40, false), (36, true), (41, true), (42, false), (43, false)]
        (by kernel_rfl) (by kernel_rfl) rfl (by kernel_rfl) (below_dr HWS.out) ?_
      intro V0 hV0 hK0
      have HV0 := Lib.hid (show Below w.heap.size wr V0 by rw [hV0]; exact below_dr HWS.out)
      clear hV0 hK0
      refine lexH_yieldE rfl rfl ?_
      apply Exists.intro
      refine ⟨fun W hW => ?_, ?_⟩
      focus (go_simp; exact rfl)
      simp only [List.getElem_toArray, List.getElem_cons_zero, Act.put, List.setIfInBounds_toArray, List.set_cons_zero, List.set_cons_succ]
      refine lexH_yieldE rfl rfl ?_
      apply Exists.intro
      refine ⟨fun W hW => ?_, ?_⟩
      focus (go_simp; exact rfl)
      simp only [List.getElem_toArray, List.getElem_cons_succ, List.getElem_cons_zero, Act.put, List.setIfInBounds_toArray, List.set_cons_zero, List.set_cons_succ]
      refine lexH_yieldE rfl rfl ?_
      apply Exists.intro
      refine ⟨fun W hW => ?_, ?_⟩
      focus (go_simp; exact rfl)
      simp only [List.getElem_toArray, List.getElem_cons_succ, List.getElem_cons_zero, Act.put, List.setIfInBounds_toArray, List.set_cons_zero, List.set_cons_succ]
      refine lexH_yieldE rfl rfl ?_
      apply Exists.intro
      refine ⟨fun W hW => ?_, ?_⟩
      focus (go_simp; exact rfl)
      simp only [List.getElem_toArray, List.getElem_cons_succ, List.getElem_cons_zero, Act.put, List.setIfInBounds_toArray, List.set_cons_zero, List.set_cons_succ]
      refine lexH_yieldE rfl rfl ?_
      apply Exists.intro
      refine ⟨fun W hW => ?_, ?_⟩
      focus (go_simp; exact rfl)
      simp only [List.getElem_toArray, List.getElem_cons_succ, List.getElem_cons_zero, Act.put, List.setIfInBounds_toArray, List.set_cons_zero, List.set_cons_succ]
      refine lexH_yieldE rfl rfl ?_
      apply Exists.intro
      refine ⟨fun W hW => ?_, ?_⟩
      focus (go_simp; exact rfl)
      simp only [List.getElem_toArray, List.getElem_cons_succ, List.getElem_cons_zero, Act.put, List.setIfInBounds_toArray, List.set_cons_zero, List.set_cons_succ]
      refine lexH_yieldE rfl rfl ?_
      apply Exists.intro
      refine ⟨fun W hW => ?_, ?_⟩
      focus (go_simp; exact rfl)
      simp only [List.getElem_toArray, List.getElem_cons_succ, List.getElem_cons_zero, Act.put, List.setIfInBounds_toArray, List.set_cons_zero, List.set_cons_succ]
      refine lexH_yieldE rfl rfl ?_
      apply Exists.intro
      refine ⟨fun W hW => ?_, ?_⟩
      focus (go_simp; exact rfl)
      simp only [List.getElem_toArray, List.getElem_cons_succ, List.getElem_cons_zero, Act.put, List.setIfInBounds_toArray, List.set_cons_zero, List.set_cons_succ]
      refine lexH_yieldE rfl rfl ?_
      apply Exists.intro
      refine ⟨fun W hW => ?_, ?_⟩
      focus (go_simp; exact rfl)
      simp only [List.getElem_toArray, List.getElem_cons_succ, List.getElem_cons_zero, Act.put, List.setIfInBounds_toArray, List.set_cons_zero, List.set_cons_succ]
      refine lexH_yieldE rfl rfl ?_
      apply Exists.intro
      refine ⟨fun W hW => ?_, ?_⟩
      focus (go_simp; exact rfl)
      simp only [List.getElem_toArray, List.getElem_cons_succ, List.getElem_cons_zero, Act.put, List.setIfInBounds_toArray, List.set_cons_zero, List.set_cons_succ]
      refine lexH_yieldE rfl rfl ?_
      apply Exists.intro
      refine ⟨fun W hW => ?_, ?_⟩
      focus (go_simp; exact rfl)
      simp only [List.getElem_toArray, List.getElem_cons_succ, List.getElem_cons_zero, Act.put, List.setIfInBounds_toArray, List.set_cons_zero, List.set_cons_succ]
      refine lexH_load rfl rfl _ _ rfl rfl L1.out ?_
      simp only [List.getElem_toArray, List.getElem_cons_succ, List.getElem_cons_zero, Act.put, List.setIfInBounds_toArray, List.set_cons_zero, List.set_cons_succ]
      refine lexH_call 51 #[.pointer (some ⟨cs, 0, none⟩)] rfl rfl ?_ ?_
      focus (go_simp; done)
      refine (HSZ.out V0 (HAT.out V0 (HW1.out V0 HV0.out))).mono ?_
      rintro e V1 ⟨rfl, hb⟩
      have HV1 := Lib.hid (HV0.out.trans (hb.mono (Nat.le_trans HWS.out HV0.out.size)))
      refine ⟨_, rfl, HV1.out, ?_⟩
      clear hb HV0 HSZ L1
      simp only [List.getElem_toArray, List.getElem_cons_succ, List.getElem_cons_zero, Act.put, List.setIfInBounds_toArray, List.set_cons_zero, List.set_cons_succ]
      refine lexH_yieldE rfl rfl ?_
      apply Exists.intro
      refine ⟨fun W hW => ?_, ?_⟩
      focus (go_simp; exact rfl)
      simp only [List.getElem_toArray, List.getElem_cons_succ, List.getElem_cons_zero, Act.put, List.setIfInBounds_toArray, List.set_cons_zero, List.set_cons_succ]
      refine lexH_yieldE rfl rfl ?_
      apply Exists.intro
      refine ⟨fun W hW => ?_, ?_⟩
      focus (go_simp; exact rfl)
      simp only [List.getElem_toArray, List.getElem_cons_succ, List.getElem_cons_zero, Act.put, List.setIfInBounds_toArray, List.set_cons_zero, List.set_cons_succ]
      refine lexH_yieldE rfl rfl ?_
      apply Exists.intro
      refine ⟨fun W hW => ?_, ?_⟩
      focus (go_simp; exact rfl)
      simp only [List.getElem_toArray, List.getElem_cons_succ, List.getElem_cons_zero, Act.put, List.setIfInBounds_toArray, List.set_cons_zero, List.set_cons_succ]
      refine lexH_yieldE rfl rfl ?_
      apply Exists.intro
      refine ⟨fun W hW => ?_, ?_⟩
      focus (go_simp; exact rfl)
      simp only [List.getElem_toArray, List.getElem_cons_succ, List.getElem_cons_zero, Act.put, List.setIfInBounds_toArray, List.set_cons_zero, List.set_cons_succ]
      refine lexH_yieldE rfl rfl ?_
      apply Exists.intro
      refine ⟨fun W hW => ?_, ?_⟩
      focus (go_simp; exact rfl)
      simp only [List.getElem_toArray, List.getElem_cons_succ, List.getElem_cons_zero, Act.put, List.setIfInBounds_toArray, List.set_cons_zero, List.set_cons_succ]
      refine lexH_yieldE rfl rfl ?_
      apply Exists.intro
      refine ⟨fun W hW => ?_, ?_⟩
      focus (go_simp; exact rfl)
      simp only [List.getElem_toArray, List.getElem_cons_succ, List.getElem_cons_zero, Act.put, List.setIfInBounds_toArray, List.set_cons_zero, List.set_cons_succ]
      refine lexH_yieldE rfl rfl ?_
      apply Exists.intro
      refine ⟨fun W hW => ?_, ?_⟩
      focus (go_simp; exact rfl)
      simp only [List.getElem_toArray, List.getElem_cons_succ, List.getElem_cons_zero, Act.put, List.setIfInBounds_toArray, List.set_cons_zero, List.set_cons_succ]
      refine lexH_load rfl rfl _ _ rfl rfl L2.out ?_
      simp only [List.getElem_toArray, List.getElem_cons_succ, List.getElem_cons_zero, Act.put, List.setIfInBounds_toArray, List.set_cons_zero, List.set_cons_succ]
      refine lexH_call 29 #[.pointer (some ⟨cs, 0, none⟩)] rfl rfl ?_ ?_
      focus (go_simp; done)
      refine (HCO.out V1 (HAT.out V1 (HW1.out V1 HV1.out))).mono ?_
      rintro e V2 ⟨rfl, hb⟩
      have HV2 := Lib.hid (HV1.out.trans (hb.mono (Nat.le_trans HWS.out HV1.out.size)))
      refine ⟨_, rfl, HV2.out, ?_⟩
      clear hb HV1 HCO L2
      simp only [List.getElem_toArray, List.getElem_cons_succ, List.getElem_cons_zero, Act.put, List.setIfInBounds_toArray, List.set_cons_zero, List.set_cons_succ]
      refine lexH_yieldE rfl rfl ?_
      apply Exists.intro
      refine ⟨fun W hW => ?_, ?_⟩
      focus (go_simp; exact rfl)
      simp only [List.getElem_toArray, List.getElem_cons_succ, List.getElem_cons_zero, Act.put, List.setIfInBounds_toArray, List.set_cons_zero, List.set_cons_succ]
      refine lexH_yieldE rfl rfl ?_
      apply Exists.intro
      refine ⟨fun W hW => ?_, ?_⟩
      focus (go_simp; exact rfl)
      simp only [List.getElem_toArray, List.getElem_cons_succ, List.getElem_cons_zero, Act.put, List.setIfInBounds_toArray, List.set_cons_zero, List.set_cons_succ]
      refine lexH_yieldE rfl rfl ?_
      apply Exists.intro
      refine ⟨fun W hW => ?_, ?_⟩
      focus (go_simp; exact rfl)
      simp only [List.getElem_toArray, List.getElem_cons_succ, List.getElem_cons_zero, Act.put, List.setIfInBounds_toArray, List.set_cons_zero, List.set_cons_succ]
      refine lexH_yieldE rfl rfl ?_
      apply Exists.intro
      refine ⟨fun W hW => ?_, ?_⟩
      focus (go_simp; exact rfl)
      simp only [List.getElem_toArray, List.getElem_cons_succ, List.getElem_cons_zero, Act.put, List.setIfInBounds_toArray, List.set_cons_zero, List.set_cons_succ]
      refine lexH_yieldE rfl rfl ?_
      apply Exists.intro
      refine ⟨fun W hW => ?_, ?_⟩
      focus (go_simp; exact rfl)
      simp only [List.getElem_toArray, List.getElem_cons_succ, List.getElem_cons_zero, Act.put, List.setIfInBounds_toArray, List.set_cons_zero, List.set_cons_succ]
      refine lexH_yieldE rfl rfl ?_
      apply Exists.intro
      refine ⟨fun W hW => ?_, ?_⟩
      focus (go_simp; exact rfl)
      simp only [List.getElem_toArray, List.getElem_cons_succ, List.getElem_cons_zero, Act.put, List.setIfInBounds_toArray, List.set_cons_zero, List.set_cons_succ]
      refine lexH_yieldE rfl rfl ?_
      apply Exists.intro
      refine ⟨fun W hW => ?_, ?_⟩
      focus (go_simp; exact rfl)
      simp only [List.getElem_toArray, List.getElem_cons_succ, List.getElem_cons_zero, Act.put, List.setIfInBounds_toArray, List.set_cons_zero, List.set_cons_succ]
      refine lexH_load rfl rfl _ _ rfl rfl L4.out ?_
      simp only [List.getElem_toArray, List.getElem_cons_succ, List.getElem_cons_zero, Act.put, List.setIfInBounds_toArray, List.set_cons_zero, List.set_cons_succ]
      refine lexH_yieldE rfl rfl ?_
      apply Exists.intro
      refine ⟨fun W hW => ?_, ?_⟩
      focus (go_simp; exact rfl)
      simp only [List.getElem_toArray, List.getElem_cons_succ, List.getElem_cons_zero, Act.put, List.setIfInBounds_toArray, List.set_cons_zero, List.set_cons_succ]
      refine lexH_call 34 #[.pointer (some ⟨cs, 0, none⟩)] rfl rfl ?_ ?_
      focus (go_simp; done)
      refine (HFR.out V2 (HAT.out V2 (HW1.out V2 HV2.out))).mono ?_
      rintro e V3 ⟨rfl, hb⟩
      have HV3 := Lib.hid (HV2.out.trans (hb.mono (Nat.le_trans HWS.out HV2.out.size)))
      refine ⟨_, rfl, HV3.out, ?_⟩
      clear hb HV2 HFR
      simp only [List.getElem_toArray, List.getElem_cons_succ, List.getElem_cons_zero, Act.put, List.setIfInBounds_toArray, List.set_cons_zero, List.set_cons_succ]
      refine lexH_yieldE rfl rfl ?_
      apply Exists.intro
      refine ⟨fun W hW => ?_, ?_⟩
      focus (go_simp; exact rfl)
      simp only [List.getElem_toArray, List.getElem_cons_succ, List.getElem_cons_zero, Act.put, List.setIfInBounds_toArray, List.set_cons_zero, List.set_cons_succ]
      refine lexH_yieldE rfl rfl ?_
      apply Exists.intro
      refine ⟨fun W hW => ?_, ?_⟩
      focus (go_simp; exact rfl)
      simp only [List.getElem_toArray, List.getElem_cons_succ, List.getElem_cons_zero, Act.put, List.setIfInBounds_toArray, List.set_cons_zero, List.set_cons_succ]
      refine lexH_yieldE rfl rfl ?_
      apply Exists.intro
      refine ⟨fun W hW => ?_, ?_⟩
      focus (go_simp; exact rfl)
      simp only [List.getElem_toArray, List.getElem_cons_succ, List.getElem_cons_zero, Act.put, List.setIfInBounds_toArray, List.set_cons_zero, List.set_cons_succ]
      refine lexH_yieldE rfl rfl ?_
      apply Exists.intro
      refine ⟨fun W hW => ?_, ?_⟩
      focus (go_simp; exact rfl)
      simp only [List.getElem_toArray, List.getElem_cons_succ, List.getElem_cons_zero, Act.put, List.setIfInBounds_toArray, List.set_cons_zero, List.set_cons_succ]
      refine lexH_yieldE rfl rfl ?_
      apply Exists.intro
      refine ⟨fun W hW => ?_, ?_⟩
      focus (go_simp; exact rfl)
      simp only [List.getElem_toArray, List.getElem_cons_succ, List.getElem_cons_zero, Act.put, List.setIfInBounds_toArray, List.set_cons_zero, List.set_cons_succ]
      refine lexH_yieldE rfl rfl ?_
      apply Exists.intro
      refine ⟨fun W hW => ?_, ?_⟩
      focus (go_simp; exact rfl)
      simp only [List.getElem_toArray, List.getElem_cons_succ, List.getElem_cons_zero, Act.put, List.setIfInBounds_toArray, List.set_cons_zero, List.set_cons_succ]
      refine lexH_yieldE rfl rfl ?_
      apply Exists.intro
      refine ⟨fun W hW => ?_, ?_⟩
      focus (go_simp; exact rfl)
      simp only [List.getElem_toArray, List.getElem_cons_succ, List.getElem_cons_zero, Act.put, List.setIfInBounds_toArray, List.set_cons_zero, List.set_cons_succ]
      refine lexH_load rfl rfl _ _ rfl rfl L4.out ?_
      simp only [List.getElem_toArray, List.getElem_cons_succ, List.getElem_cons_zero, Act.put, List.setIfInBounds_toArray, List.set_cons_zero, List.set_cons_succ]
      refine lexH_call 52 #[.pointer (some ⟨cs, 0, none⟩)] rfl rfl ?_ ?_
      focus (go_simp; done)
      refine (HCN.out V3 (HAT.out V3 (HW1.out V3 HV3.out))).mono ?_
      rintro e V4 ⟨a4, c4, rfl, hown, hb⟩
      have HV4 := Lib.hid (HV3.out.trans (hb.mono (Nat.le_trans HWS.out HV3.out.size)))
      have HO4 := Lib.hid (OwnZ.of_nats hown (Nat.le_trans HWS.out HV3.out.size))
      obtain ⟨va', vc', hv', _, hh⟩ := HCH.out V4 HV4.out
      injection hv' with hv1 _ hv3
      subst hv1
      subst hv3
      have HAZ := Lib.hid (show AtZ V4 va S.ch.length (fun j => (S.ch.getD j 0 : Int)) from fun j hj => by
        obtain ⟨b', o', e1, _, _, hc⟩ := hh j hj
        exact ⟨b', o', e1, hc⟩)
      obtain ⟨va', vc', hv', _, hh3⟩ := HCH.out V3 HV3.out
      injection hv' with hv1 _ hv3
      subst hv1
      subst hv3
      refine ⟨_, rfl, HV4.out, ?_⟩
      have HQ := Lib.hid (show 0 < S.ch.length → ∀ g o, a4 = some ⟨g, 0, none⟩ → va ≠ some ⟨g, o, none⟩ from fun h0 g o e1 e2 => by
        have := own_block hown e1
        obtain ⟨b', o', e3, _, _, hc⟩ := hh3 0 h0
        rw [e2] at e3
        injection e3 with e3
        injection e3 with e3 _ _
        have := World.block_lt_of_cell? _ _ hc
        dsimp only at this
        omega)
      clear hown hb HV3 HCN hh hh3
      simp only [List.getElem_toArray, List.getElem_cons_succ, List.getElem_cons_zero, Act.put, List.setIfInBounds_toArray, List.set_cons_zero, List.set_cons_succ]
      refine lexH_call 49 #[.slice a4 S.ch.length c4, .slice va S.ch.length vc] rfl rfl ?_ ?_
      focus (go_simp; done)
      refine (alike_any' HO4.out HAZ.out HQ.out (by omega) (Nat.le_trans HWS.out HV4.out.size)).mono ?_
      rintro e V5 ⟨rfl, hb⟩
      have HV5 := Lib.hid (HV4.out.trans hb)
      refine ⟨_, rfl, HV5.out, ?_⟩
      clear hb HV4 HO4 HAZ HQ
      simp only [List.getElem_toArray, List.getElem_cons_succ, List.getElem_cons_zero, Act.put, List.setIfInBounds_toArray, List.set_cons_zero, List.set_cons_succ]
      refine lexH_yieldE rfl rfl ?_
      apply Exists.intro
      refine ⟨fun W hW => ?_, ?_⟩
      focus (go_simp; exact rfl)
      simp only [List.getElem_toArray, List.getElem_cons_succ, List.getElem_cons_zero, Act.put, List.setIfInBounds_toArray, List.set_cons_zero, List.set_cons_succ]
      refine lexH_yieldE rfl rfl ?_
      apply Exists.intro
      refine ⟨fun W hW => ?_, ?_⟩
      focus (go_simp; exact rfl)
      simp only [List.getElem_toArray, List.getElem_cons_succ, List.getElem_cons_zero, Act.put, List.setIfInBounds_toArray, List.set_cons_zero, List.set_cons_succ]
      refine lexH_nil ?_
      have HB5 := Lib.hid (HW1.out V5 HV5.out)
      clear L4 HCH HAT HV5 HW1
      go_wp2_with (fail)
      go_roundw
      case rel => exact ⟨k + 1, HLT.out, by go_num, HB5⟩
      case measure => have := HLT.out; simp [intOf]; omega
    · obtain rfl : k = A.L.length := by omega
      have c2' := (HR.out.later HV.out).c2
      go_wp2_with (fail)
      go_ret
      exact ⟨rfl, HV.out⟩
end
end Go.Proofs.Ytlimbcpghfddkaa
