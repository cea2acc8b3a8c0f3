/-
  cache: Add of the landed one.
-/
import Derived.Test.YtlimbcpghfddkaaCaMake
namespace Go.Proofs.Ytlimbcpghfddkaa
open Go.RowKit Go Go.Maps

section
variable {w W W' : World} {K K' : KC} {A A' : Ca} {x : Int}
def kmV (A : Ca) (m : Nat) (c1 : Int) (i : Nat) : Value := if i = 0 then .int .i64 A.sz else if i = 1 then .int .i64 c1 else .map (some m)
/-- While a slab is added: it is in the map, and the colour is whatever. -/
structure KMid (w : World) (K : KC) (A : Ca) (x : Int) (C : SC) (S : Sl) (bb : Nat) (c1 : Int) (W : World) : Prop where
  row : RowAt W K.c 3 (kmV A K.m c1)
  map : FMap Try.prog 3 elemPtr W K.m (mapS (updI K.g x C) (insL A.L ⟨x, S⟩))
  fam : Fam SlAt SC.all W K.hd (updI K.g x C) (insL A.L ⟨x, S⟩)
  only : Only (fun k => k = K.c ∨ k = K.m ∨ k = bb) w W
  off : ∀ k, C.all k → k = bb ∨ w.heap.size ≤ k
  cb : C.b = bb
theorem mapS_ins {g : Int → SC} {L : List Pl} (hr : Rise L) {x : Int} (hn : findL L x = none) (C : SC) (S : Sl) (y : Int) : fput (mapS g L) x (some C.s) y = mapS (updI g x C) (insL L ⟨x, S⟩) y := by
  unfold fput mapS
  rw [findL_ins hr (findL_none hn)]
  by_cases e : y = x
  · subst e
    rw [if_pos rfl, if_pos rfl, updI_same]
    rfl
  · rw [if_neg e, if_neg e, updI_other g e]
section
variable {C : SC} {S : Sl} {bb : Nat} {c1 : Int}
theorem KMid.later (M : KMid w K A x C S bb c1 W) (h : Below W.heap.size W W') : KMid w K A x C S bb c1 W' :=
  ⟨M.row.later h, M.map.later h, M.fam.later famP h, M.only.trans (Only.of_below h), M.off, M.cb⟩
theorem KMid.set (M : KMid w K A x C S bb c1 W) (hne : K.c ≠ K.m) (c2 : Int) : KMid w K A x C S bb c2 (W.setCell ⟨K.c, 1, none⟩ (.int .i64 c2)) := by
  have hst := Only.setCell (S := fun k => k = K.c) W ⟨K.c, 1, none⟩ rfl (.int .i64 c2)
  refine ⟨(M.row.setCell 1 _).ext (fun i hi => ?_), M.map.only hst (fun e => hne e.symm), M.fam.only famP hst (fun k hk e => ?_), M.only.trans (hst.mono (fun k hk => .inl hk)), M.off, M.cb⟩
  · unfold updV kmV
    rcases (show i = 0 ∨ i = 1 ∨ i = 2 by omega) with rfl | rfl | rfl <;> rfl
  · obtain ⟨p, hp, hk⟩ := hk
    exact M.fam.off p hp k hk (.inl e)
theorem KMid.done {f : Nat → UInt8} (M : KMid w K A x C (Sl.new A.sz A.co f) bb A.nextCo W) (R : CaAt w K A) (hx0 : 0 ≤ x) (hn : findL A.L x = none) (hwf : (Lit.int .i64 x).wf = true) :
    KTurn w K A (fun k => k = bb) (updI (fun x => (K.g x).b) x bb) ⟨K.c, K.m, updI K.g x C⟩ (A.added x f) W := by
  refine ⟨⟨M.row.ext (fun i hi => rfl), M.map, R.ne, M.fam, R.inv.added hx0 hn f, fun p hp => ?_⟩, rfl, M.only.mono (fun k hk => hk.elim (fun h => .inl (.inl (.inl h))) (fun h => h.elim (fun h => .inl (.inl (.inr h))) .inr)), fun k hk => ?_, fun y => ?_, fun h => (Eq.mp (congrFun h bb) rfl : False).elim, fun h => (Eq.mp (congrFun h bb) rfl : False).elim⟩
  · rcases mem_insL.1 hp with h | h
    · rw [h]
      exact hwf
    · exact R.wf p h
  · rcases hk with hk | hk
    · exact .inl (.inl hk)
    · exact (famB_add (findL_none hn) hk).elim (fun h => .inl (.inr h)) (fun h => .inr (M.off k h))
  · show (updI K.g x C y).b = updI (fun x => (K.g x).b) x bb y
    unfold updI
    split
    · exact M.cb
    · rfl
end
def KAdd (w : World) (K : KC) (A : Ca) (x : Int) (f : Nat → UInt8) (bb : Nat) (e : Ending) (w' : World) : Prop :=
  e = .returned (.int .i64 0) ∧ ∃ K', KTurn w K A (fun k => k = bb) (updI (fun x => (K.g x).b) x bb) K' (A.added x f) w'
set_option maxRecDepth 100000 in
set_option maxHeartbeats 2000000 in
theorem kadd_no (R : CaAt w K A) (x : Int) (a : Option Addr) (n c : Nat) (h : x < 0 ∨ n ≠ 256) : Calls Try.prog 13 #[.pointer (some ⟨K.c, 0, none⟩), .int .i64 x, .slice a n c] w fun e w' => e = .returned (.int .i64 2) ∧ w = w' := by
  have HM := Lib.hid (kmissing_any R)
  clear R
  by_cases hx : x < 0
  · clear h
    go_enter Try.func13, Try.ntmps13
    go_wp2_with (fail)
    refine HM.out.mono ?_
    rintro e w1 ⟨rfl, rfl⟩
    go_wp2_with (fail)
    go_ret
    exact ⟨rfl, rfl⟩
  · have hn : ((n : Int) == 256) = false := by
      rw [beq_eq_false_iff_ne]
      have := h.resolve_left hx
      omega
    have hn2 : ((n : Int) != 256) = true := by
      unfold bne
      rw [hn]
      rfl
    clear h
    go_enter Try.func13, Try.ntmps13
    go_wp2_with (fail)
    refine HM.out.mono ?_
    rintro e w1 ⟨rfl, rfl⟩
    go_wp2_with (fail)
    go_ret
    exact ⟨rfl, rfl⟩
set_option maxRecDepth 100000 in
set_option maxHeartbeats 2000000 in
theorem kadd_twice (R : CaAt w K A) (x : Int) (hwf : (Lit.int .i64 x).wf = true) (a : Option Addr) (c : Nat) (hx : 0 ≤ x) {S : Sl} (h : findL A.L x = some S) : Calls Try.prog 13 #[.pointer (some ⟨K.c, 0, none⟩), .int .i64 x, .slice a 256 c] w fun e w' => e = .returned (.int .i64 8) ∧ w = w' := by
  have HM := Lib.hid (kmissing_any R)
  have HLO := Lib.hid (look_S K.g A.L x)
  rw [h] at HLO
  have hT := R.map
  have c2 := R.c2
  have hxI : ¬ x < 0 := by omega
  clear R h
  unfold ptrF at HLO
  have HLP := Lib.hid HLO.out
  clear HLO
  go_enter Try.func13, Try.ntmps13
  go_wp2_with (fail)
  refine HM.out.mono ?_
  rintro e w1 ⟨rfl, rfl⟩
  go_wp2_with (first | (at_lookup; (refine wpList_look1_fmap rfl _ _ _ rfl 3 41 Try.underlying3 Try.underlying57 elemPtr none trivial (zeroSlab _) K.m (mapS K.g A.L) rfl hT x rfl hwf ?_); rw [HLP.out]) | fail)
  go_ret
  exact ⟨rfl, rfl⟩
set_option maxRecDepth 100000 in
set_option maxHeartbeats 8000000 in
theorem kadd_any (R : CaAt w K A) (hl : A.L.length ≤ 999) (x : Int) (hwf : (Lit.int .i64 x).wf = true) (bb bc : Nat) (hbc : 256 ≤ bc) (f : Nat → UInt8) (hx : 0 ≤ x) (hn : findL A.L x = none) (hb : RowAt w bb 256 (byV f)) (hbb : ¬ K.all A.L bb) :
    Calls Try.prog 13 #[.pointer (some ⟨K.c, 0, none⟩), .int .i64 x, .slice (some ⟨bb, 0, none⟩) 256 bc] w (KAdd w K A x f bb) := by
  have HM := Lib.hid (kmissing_any R)
  have HLO := Lib.hid (look_S K.g A.L x)
  rw [hn] at HLO
  unfold ptrF at HLO
  have HLP := Lib.hid HLO.out
  clear HLO
  have hT := R.map
  have c0 := R.c0
  have c1 := R.c1
  have c2 := R.c2
  have hxI : ¬ x < 0 := by omega
  have HR := Lib.hid R
  have HBY := Lib.hid hb
  have hdb : K.c ≠ bb := fun e => hbb (.inl (.inl e.symm))
  have HNX := Lib.hid (show A.nextCo = if mayC A.sz (A.co + 8 : Nat) = true then A.co + 8 else 0 from rfl)
  have hco : A.co < 128 := by
    have h1 := may_parts R.inv.may
    omega
  have HDONE := Lib.hid (fun (q : Nat) (U : World) (C : SC) (e : q = A.nextCo) (M : KMid w K A x C (Sl.new A.sz A.co f) bb q U) =>
    show KAdd w K A x f bb (.returned (.int .i64 0)) U from ⟨rfl, _, (show KMid w K A x C (Sl.new A.sz A.co f) bb A.nextCo U by rw [← e]; exact M).done R hx hn hwf⟩)
  have HRN := Lib.hid (fun (V : World) (hV : RowAt V bb 256 (byV f)) => chain_ok.new A.sz A.co bb bc f V R.inv.may hbc hV)
  have HMS := Lib.hid (fun (V V2 : World) (hV : Below w.heap.size w V) (h2 : Only (fun k => k = bb) V V2) => show FMap Try.prog 3 elemPtr V2 K.m (mapS K.g A.L) from
    ((R.map.later hV).only h2 (fun e => hbb (.inl (.inr e.symm)))))
  have HFW := Lib.hid (show ∀ y, (mapS K.g A.L y).isSome = true → y ∈ A.L.map Pl.fr from fun y hy => by
    unfold mapS at hy
    rw [Option.isSome_map] at hy
    obtain ⟨S, hS⟩ := Option.isSome_iff_exists.1 hy
    exact List.mem_map.2 ⟨_, findL_mem hS, rfl⟩)
  have HML := Lib.hid (show (A.L.map Pl.fr).length < maxLen by rw [List.length_map]; unfold maxLen; omega)
  have HMID := Lib.hid (fun (V V2 V3 : World) (C : SC) (hV : Below w.heap.size w V) (h1 : SlAt V2 C (Sl.new A.sz A.co f)) (hCb : C.b = bb) (h2 : Only (fun k => k = bb) V V2) (h3 : ∀ k, C.own k → V.heap.size ≤ k) (h4 : FMap Try.prog 3 elemPtr V3 K.m (fput (mapS K.g A.L) x (some C.s))) (h5 : Only (fun k => k = K.m) V2 V3) =>
    show KMid w K A x C (Sl.new A.sz A.co f) bb A.co V3 from by
      have hR := R.later hV
      have hoff : ∀ k, K.all A.L k → ¬ k = bb := fun k hk e => hbb (by rw [← e]; exact hk)
      have hR2 := hR.only h2 hoff
      have hC : ∀ k, C.all k → k = bb ∨ w.heap.size ≤ k := fun k hk => hk.elim (fun h => .inr (Nat.le_trans hV.size (h3 k h))) (fun h => .inl (by rw [h, hCb]))
      have hCn : ∀ k, C.all k → ¬ K.all A.L k := fun k hk hx => (hC k hk).elim (fun e => hbb (by rw [← e]; exact hx)) (fun h => by have := R.lt k hx; omega)
      have F0 := hR2.fam.add (findL_none hn) h1 (fun k hk hf => hCn k hk (.inr hf)) (fun k hk hf => hCn k hk (.inl hf))
      exact ⟨(hR2.row.only h5 R.ne).ext (fun i hi => rfl), h4.ext (mapS_ins R.inv.rise hn C _), F0.only famP h5 (fun k hk e => by
          obtain ⟨p, hp, hk⟩ := hk
          exact F0.off p hp k hk (.inr e)), (((Only.of_below hV).trans h2).mono (fun k hk => .inr (.inr hk))).trans (h5.mono (fun k hk => .inr (.inl hk))), hC, hCb⟩)
  clear R hn hb hbb
  go_enter Try.func13, Try.ntmps13
  go_wp2_with (fail)
  refine HM.out.mono ?_
  rintro e w1 ⟨rfl, rfl⟩
  go_wp2_with (first | (at_lookup; (refine wpList_look1_fmap rfl _ _ _ rfl 3 41 Try.underlying3 Try.underlying57 elemPtr none trivial (zeroSlab _) K.m (mapS K.g A.L) rfl hT x rfl hwf ?_); rw [HLP.out]) | fail)
  have L0 := Lib.hid (show ∀ V, Only (fun k => k = bb) w V → (loadVar 3 ⟨K.c, 0, none⟩).run Try.prog V = .ok (.int .i64 A.sz) V from fun V hV => run_loadVar_cell (fun _ => by kernel_rfl) (hV.cell hdb c0))
  have L1 := Lib.hid (show ∀ V, Only (fun k => k = bb) w V → (loadVar 3 ⟨K.c, 1, none⟩).run Try.prog V = .ok (.int .i64 A.co) V from fun V hV => run_loadVar_cell (fun _ => by kernel_rfl) (hV.cell hdb c1))
  have L2 := Lib.hid (show ∀ V, Only (fun k => k = bb) w V → (loadVar 57 ⟨K.c, 2, none⟩).run Try.prog V = .ok (.map (some K.m)) V from fun V hV => run_loadVar_cell (fun _ => by kernel_rfl) (hV.cell hdb c2))
  clear c0 c1 c2 hT
  refine wp_region_lexF (Only (fun k => k = bb) w) [(0, false), (1, false), (2, false), (3, false), (4, false), (5, false), (6, false), (7, false), (8, false), (9, false), (10, false), (11, false), (12, false), (13, false), (14, true), (15, false), (16, false), (17, false)] 18
    (by kernel_rfl) (by kernel_rfl) rfl (by kernel_rfl) (Only.of_below (Below.refl _ w).drew) ?_
  intro V0 hV0 hK0
  clear hK0
  have HB0 := Lib.hid (show Below w.heap.size w V0 by rw [hV0]; exact (Below.refl _ w).drew)
  clear hV0
  refine lexH_yieldE rfl rfl ?_
  apply Exists.intro
  refine ⟨fun W hW => ?_, ?_⟩
  focus (go_simp; exact rfl)
  simp only [List.getElem_toArray, List.getElem_cons_zero, Act.put, List.setIfInBounds_toArray, List.set_cons_zero, List.set_cons_succ]
  refine lexH_yieldE rfl rfl ?_
  apply Exists.intro
  refine ⟨fun W hW => ?_, ?_⟩
  focus (go_simp; exact rfl)
  simp only [List.getElem_toArray, List.getElem_cons_succ, List.getElem_cons_zero, Act.put, List.setIfInBounds_toArray, List.set_cons_zero, List.set_cons_succ]
  refine lexH_yieldE rfl rfl ?_
  apply Exists.intro
  refine ⟨fun W hW => ?_, ?_⟩
  focus (go_simp; exact rfl)
  simp only [List.getElem_toArray, List.getElem_cons_succ, List.getElem_cons_zero, Act.put, List.setIfInBounds_toArray, List.set_cons_zero, List.set_cons_succ]
  refine lexH_load rfl rfl _ _ rfl rfl L2.out ?_
  simp only [List.getElem_toArray, List.getElem_cons_succ, List.getElem_cons_zero, Act.put, List.setIfInBounds_toArray, List.set_cons_zero, List.set_cons_succ]
  refine lexH_yieldE rfl rfl ?_
  apply Exists.intro
  refine ⟨fun W hW => ?_, ?_⟩
  focus (go_simp; exact rfl)
  simp only [List.getElem_toArray, List.getElem_cons_succ, List.getElem_cons_zero, Act.put, List.setIfInBounds_toArray, List.set_cons_zero, List.set_cons_succ]
  refine lexH_yieldE rfl rfl ?_
  apply Exists.intro
  refine ⟨fun W hW => ?_, ?_⟩
  focus (go_simp; exact rfl)
  simp only [List.getElem_toArray, List.getElem_cons_succ, List.getElem_cons_zero, Act.put, List.setIfInBounds_toArray, List.set_cons_zero, List.set_cons_succ]
  refine lexH_yieldE rfl rfl ?_
  apply Exists.intro
  refine ⟨fun W hW => ?_, ?_⟩
  focus (go_simp; exact rfl)
  simp only [List.getElem_toArray, List.getElem_cons_succ, List.getElem_cons_zero, Act.put, List.setIfInBounds_toArray, List.set_cons_zero, List.set_cons_succ]
  refine lexH_yieldE rfl rfl ?_
  apply Exists.intro
  refine ⟨fun W hW => ?_, ?_⟩
  focus (go_simp; exact rfl)
  simp only [List.getElem_toArray, List.getElem_cons_succ, List.getElem_cons_zero, Act.put, List.setIfInBounds_toArray, List.set_cons_zero, List.set_cons_succ]
  refine lexH_yieldE rfl rfl ?_
  apply Exists.intro
  refine ⟨fun W hW => ?_, ?_⟩
  focus (go_simp; exact rfl)
  simp only [List.getElem_toArray, List.getElem_cons_succ, List.getElem_cons_zero, Act.put, List.setIfInBounds_toArray, List.set_cons_zero, List.set_cons_succ]
  refine lexH_load rfl rfl _ _ rfl rfl L0.out ?_
  simp only [List.getElem_toArray, List.getElem_cons_succ, List.getElem_cons_zero, Act.put, List.setIfInBounds_toArray, List.set_cons_zero, List.set_cons_succ]
  refine lexH_yieldE rfl rfl ?_
  apply Exists.intro
  refine ⟨fun W hW => ?_, ?_⟩
  focus (go_simp; exact rfl)
  simp only [List.getElem_toArray, List.getElem_cons_succ, List.getElem_cons_zero, Act.put, List.setIfInBounds_toArray, List.set_cons_zero, List.set_cons_succ]
  refine lexH_yieldE rfl rfl ?_
  apply Exists.intro
  refine ⟨fun W hW => ?_, ?_⟩
  focus (go_simp; exact rfl)
  simp only [List.getElem_toArray, List.getElem_cons_succ, List.getElem_cons_zero, Act.put, List.setIfInBounds_toArray, List.set_cons_zero, List.set_cons_succ]
  refine lexH_yieldE rfl rfl ?_
  apply Exists.intro
  refine ⟨fun W hW => ?_, ?_⟩
  focus (go_simp; exact rfl)
  simp only [List.getElem_toArray, List.getElem_cons_succ, List.getElem_cons_zero, Act.put, List.setIfInBounds_toArray, List.set_cons_zero, List.set_cons_succ]
  refine lexH_load rfl rfl _ _ rfl rfl L1.out ?_
  simp only [List.getElem_toArray, List.getElem_cons_succ, List.getElem_cons_zero, Act.put, List.setIfInBounds_toArray, List.set_cons_zero, List.set_cons_succ]
  refine lexH_call 37 #[.slice (some ⟨bb, 0, none⟩) 256 bc, .int .i64 A.sz, .int .i64 A.co] rfl rfl ?_ ?_
  focus (go_simp; done)
  refine (HRN.out V0 (HBY.out.later HB0.out)).mono ?_
  rintro e w2 ⟨C, rfl, hCb, _, h1, h2, h3⟩
  have HM3 := Lib.hid (fun V3 h4 h5 => HMID.out V0 w2 V3 C HB0.out h1 hCb h2 h3 h4 h5)
  have hM2 := HMS.out V0 w2 HB0.out h2
  refine ⟨_, rfl, (Only.of_below HB0.out).trans h2, ?_⟩
  clear h1 h2 h3 L0 L1 L2 HRN HMID HMS
  simp only [List.getElem_toArray, List.getElem_cons_succ, List.getElem_cons_zero, Act.put, List.setIfInBounds_toArray, List.set_cons_zero, List.set_cons_succ]
  refine lexH_yieldE rfl rfl ?_
  apply Exists.intro
  refine ⟨fun W hW => ?_, ?_⟩
  focus (go_simp; exact rfl)
  simp only [List.getElem_toArray, List.getElem_cons_succ, List.getElem_cons_zero, Act.put, List.setIfInBounds_toArray, List.set_cons_zero, List.set_cons_succ]
  refine lexH_yieldE rfl rfl ?_
  apply Exists.intro
  refine ⟨fun W hW => ?_, ?_⟩
  focus (go_simp; exact rfl)
  simp only [List.getElem_toArray, List.getElem_cons_succ, List.getElem_cons_zero, Act.put, List.setIfInBounds_toArray, List.set_cons_zero, List.set_cons_succ]
  refine lexH_yieldE rfl rfl ?_
  apply Exists.intro
  refine ⟨fun W hW => ?_, ?_⟩
  focus (go_simp; exact rfl)
  simp only [List.getElem_toArray, List.getElem_cons_succ, List.getElem_cons_zero, Act.put, List.setIfInBounds_toArray, List.set_cons_zero, List.set_cons_succ]
  refine lexH_last rfl rfl ?_
  refine wp_store_fmap _ _ _ _ rfl 41 Try.underlying3 Try.underlying57 hM2 rfl x rfl hwf (A.L.map Pl.fr) HFW.out HML.out (some C.s) rfl trivial ?_
  intro w3 h4 h5
  have HM := Lib.hid (HM3.out w3 h4 h5)
  clear h4 h5 HM3 hM2
  have c0 : w3.cell? ⟨K.c, 0, none⟩ = some (.int .i64 A.sz) := HM.out.row.cell 0 (by decide)
  have c1 : w3.cell? ⟨K.c, 1, none⟩ = some (.int .i64 A.co) := HM.out.row.cell 1 (by decide)
  have f1 : w3.frozen? ⟨K.c, 1, none⟩ = false := HM.out.row.frozen 1
  have HM4 := Lib.hid (HM.out.set HR.out.ne ((A.co : Int) + 8))
  have hw8 : wrap64 ((A.co : Int) + 8) = (A.co : Int) + 8 := IntWalk.wrap64_in _ ⟨by omega, by omega⟩
  have HMA := Lib.hid (fun V => kmay_any A.sz ((A.co : Int) + 8) V)
  clear HM
  generalize hcx : A.co = cx at *
  simp only [Act.put]
  go_wp2_with (fail)
  clear c0 c1 f1 hw8
  generalize w3.setCell ⟨K.c, 1, none⟩ (.int .i64 ((cx : Int) + 8)) = w4 at *
  have c0 : w4.cell? ⟨K.c, 0, none⟩ = some (.int .i64 A.sz) := HM4.out.row.cell 0 (by decide)
  have c1 : w4.cell? ⟨K.c, 1, none⟩ = some (.int .i64 ((cx : Int) + 8)) := HM4.out.row.cell 1 (by decide)
  have L0 := Lib.hid (show ∀ V, Below w4.heap.size w4 V → (loadVar 3 ⟨K.c, 0, none⟩).run Try.prog V = .ok (.int .i64 A.sz) V from fun V hV => run_loadVar_cell (fun _ => by kernel_rfl) (by rw [hV.cell (World.block_lt_of_cell? _ _ c0)]; exact c0))
  have L1 := Lib.hid (show ∀ V, Below w4.heap.size w4 V → (loadVar 3 ⟨K.c, 1, none⟩).run Try.prog V = .ok (.int .i64 ((cx : Int) + 8)) V from fun V hV => run_loadVar_cell (fun _ => by kernel_rfl) (by rw [hV.cell (World.block_lt_of_cell? _ _ c1)]; exact c1))
  clear c0 c1
  refine wp_region_lex1 (fun V => Below w4.heap.size w4 V) [(0, false), (1, false), (2, false), (3, false), (4, false), (5, false), (6, false), (7, false), (8, true), (9, false)]
    (by kernel_rfl) (by kernel_rfl) rfl (by kernel_rfl) (Below.refl _ w4).drew ?_
  intro V0 hV0 hK0
  clear hV0
  have HB5 := Lib.hid hK0
  clear hK0
  refine lexH_yieldE rfl rfl ?_
  apply Exists.intro
  refine ⟨fun W hW => ?_, ?_⟩
  focus (go_simp; exact rfl)
  simp only [List.getElem_toArray, List.getElem_cons_zero, Act.put, List.setIfInBounds_toArray, List.set_cons_zero, List.set_cons_succ]
  refine lexH_yieldE rfl rfl ?_
  apply Exists.intro
  refine ⟨fun W hW => ?_, ?_⟩
  focus (go_simp; exact rfl)
  simp only [List.getElem_toArray, List.getElem_cons_succ, List.getElem_cons_zero, Act.put, List.setIfInBounds_toArray, List.set_cons_zero, List.set_cons_succ]
  refine lexH_yieldE rfl rfl ?_
  apply Exists.intro
  refine ⟨fun W hW => ?_, ?_⟩
  focus (go_simp; exact rfl)
  simp only [List.getElem_toArray, List.getElem_cons_succ, List.getElem_cons_zero, Act.put, List.setIfInBounds_toArray, List.set_cons_zero, List.set_cons_succ]
  refine lexH_load rfl rfl _ _ rfl rfl L0.out ?_
  simp only [List.getElem_toArray, List.getElem_cons_succ, List.getElem_cons_zero, Act.put, List.setIfInBounds_toArray, List.set_cons_zero, List.set_cons_succ]
  refine lexH_yieldE rfl rfl ?_
  apply Exists.intro
  refine ⟨fun W hW => ?_, ?_⟩
  focus (go_simp; exact rfl)
  simp only [List.getElem_toArray, List.getElem_cons_succ, List.getElem_cons_zero, Act.put, List.setIfInBounds_toArray, List.set_cons_zero, List.set_cons_succ]
  refine lexH_yieldE rfl rfl ?_
  apply Exists.intro
  refine ⟨fun W hW => ?_, ?_⟩
  focus (go_simp; exact rfl)
  simp only [List.getElem_toArray, List.getElem_cons_succ, List.getElem_cons_zero, Act.put, List.setIfInBounds_toArray, List.set_cons_zero, List.set_cons_succ]
  refine lexH_yieldE rfl rfl ?_
  apply Exists.intro
  refine ⟨fun W hW => ?_, ?_⟩
  focus (go_simp; exact rfl)
  simp only [List.getElem_toArray, List.getElem_cons_succ, List.getElem_cons_zero, Act.put, List.setIfInBounds_toArray, List.set_cons_zero, List.set_cons_succ]
  refine lexH_load rfl rfl _ _ rfl rfl L1.out ?_
  simp only [List.getElem_toArray, List.getElem_cons_succ, List.getElem_cons_zero, Act.put, List.setIfInBounds_toArray, List.set_cons_zero, List.set_cons_succ]
  refine lexH_call 35 #[.int .i64 A.sz, .int .i64 ((cx : Int) + 8)] rfl rfl ?_ ?_
  focus (go_simp; done)
  refine (HMA.out V0).mono ?_
  rintro e w5 ⟨rfl, hb⟩
  have HB6 := Lib.hid (HB5.out.trans (hb.mono HB5.out.size))
  refine ⟨_, rfl, HB6.out, ?_⟩
  have HM5 := Lib.hid (HM4.out.later HB6.out)
  clear hb HB5 HB6 L0 L1 HMA HM4
  simp only [List.getElem_toArray, List.getElem_cons_succ, List.getElem_cons_zero, Act.put, List.setIfInBounds_toArray, List.set_cons_zero, List.set_cons_succ]
  refine lexH_yieldE rfl rfl ?_
  apply Exists.intro
  refine ⟨fun W hW => ?_, ?_⟩
  focus (go_simp; exact rfl)
  simp only [List.getElem_toArray, List.getElem_cons_succ, List.getElem_cons_zero, Act.put, List.setIfInBounds_toArray, List.set_cons_zero, List.set_cons_succ]
  refine lexH_nil ?_
  cases hmy : mayC A.sz ((cx : Int) + 8) with
  | true =>
    have HP := Lib.hid (HDONE.out (cx + 8) w5 C (by rw [HNX.out, if_pos (by rw [Int.natCast_add]; exact hmy)]) (by rw [Int.natCast_add]; exact HM5.out))
    clear HM5 HNX hmy HDONE
    go_wp2_with (fail)
    go_ret
    exact HP.out
  | false =>
    have f1 : w5.frozen? ⟨K.c, 1, none⟩ = false := HM5.out.row.frozen 1
    have c1 : w5.cell? ⟨K.c, 1, none⟩ = some (.int .i64 ((cx : Int) + 8)) := HM5.out.row.cell 1 (by decide)
    have HP := Lib.hid (HDONE.out 0 (w5.setCell ⟨K.c, 1, none⟩ (.int .i64 0)) C (by rw [HNX.out, if_neg (by rw [Int.natCast_add]; intro h; rw [show ((cx : Int) + ((8 : Nat) : Int)) = (cx : Int) + 8 from rfl, hmy] at h; cases h)]) (HM5.out.set HR.out.ne 0))
    clear HM5 HNX hmy HDONE
    go_wp2_with (fail)
    go_ret
    exact HP.out
end
end Go.Proofs.Ytlimbcpghfddkaa
