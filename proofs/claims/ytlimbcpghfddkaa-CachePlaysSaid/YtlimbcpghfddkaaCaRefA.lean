/-
  cache's document: Add.
-/
import Derived.Test.YtlimbcpghfddkaaCaRefD
import Derived.Test.YtlimbcpghfddkaaLexP
import Derived.Test.YtlimbcpghfddkaaNilZero
namespace Go.Proofs.Ytlimbcpghfddkaa
open Go.RowKit Go

theorem lexP_slice {P : Program} {ops : Array Oper} {Q : Exit → Act → World → Prop} {S : World → Prop} {K : Act → World → Prop} {i : Nat} {p : Plan} {a : Act} {w : World} {o : Oper} {v : Value} (hi : ops[i]? = some o) (hw : Region.wanted o (yielded ops a.tmps) = true) (t : TypeId) (x : Operand) (lo hh mx : Option Operand) (ho : o.op = .slice t x lo hh mx)
    (hv : ∀ W, S W → (Instr.sliceAt t (a.eval x) (lo.map a.eval) (hh.map a.eval) (mx.map a.eval)).run P W = .ok v W) (h : LexP P ops Q S K p (a.put o.dst v) w) : LexP P ops Q S K (.take i p) a w :=
  lexP_yield hi hw (fun W hW => by unfold execOp; simp only [ho, Sem.run_bind, Sem.run_pure, Result.andThen_ok, hv W hW]) h
def plV (x : Int) (r : Nat) (i : Nat) : Value := if i = 0 then .int .i64 x else .pointer (some ⟨r, 0, none⟩)
theorem place_row (w : World) (x : Int) (r : Nat) : RowAt (w.alloc (.cells #[.int .i64 x, .pointer (some ⟨r, 0, none⟩)] 70)) w.heap.size 2 (plV x r) :=
  RowAt.new w _ _ _ _ fun i hi => by
    rcases (show i = 0 ∨ i = 1 by omega) with rfl | rfl <;> rfl
theorem place_src {w : World} {b r : Nat} {x : Int} (R : RowAt w b 2 (plV x r)) : ∀ (j : Nat) (u : Value), (encP (x, r))[j]? = some u → w.cell? ((⟨b, 0, none⟩ : Addr).add j) = some u := fun j u hj => by
  rw [Addr.add_lit, Nat.zero_add]
  match j, hj with
  | 0, hj => simp [encP] at hj; subst hj; exact R.cell 0 (by decide)
  | 1, hj => simp [encP] at hj; subst hj; exact R.cell 1 (by decide)
theorem cref_inC {w : World} {r bb bc : Nat} {S : Sl} {v : Value} (H : CRef w r bb bc S v) {k : Nat} (h : inC v k) : r < k := by
  obtain ⟨o, n, c, e, hn⟩ := h
  obtain ⟨a, c2, e2, _, hh⟩ := H.chn
  rw [e] at e2
  injection e2 with e3 e4 _
  obtain ⟨b, o2, e5, h1, _, _⟩ := hh 0 (by omega)
  rw [e5] at e3
  injection e3 with e3
  injection e3 with e3 _ _
  omega
section
variable {w W W' : World} {D D' : DC} {A A' : Ca} {x : Int}
def dmV (A : Ca) (a : Option Addr) (c : Nat) (c1 : Int) (i : Nat) : Value := if i = 0 then .int .i64 A.sz else if i = 1 then .int .i64 c1 else .slice a A.L.length c
/-- While a slab is added: it is made, and the colour is whatever. -/
structure DMid (w : World) (D : DC) (A : Ca) (bb bc r : Nat) (v : Value) (S : Sl) (c1 : Int) (W : World) : Prop where
  row : RowAt W D.d 3 (dmV A D.a D.c c1)
  lst : RecsAt W 0 D.a encP 2 (plsR D.g A.L)
  fam : Fam DsAt SD.all W D.hd D.g A.L
  new : CRef W r bb bc S v
  only : Only (fun k => k = D.d ∨ k = bb) w W
  r1 : w.heap.size ≤ r
section
variable {bb bc r : Nat} {v : Value} {S : Sl} {c1 : Int}
theorem DMid.off (M : DMid w D A bb bc r v S c1 W) : ∀ k, (SD.mk r bb bc v).all k → k = bb ∨ w.heap.size ≤ k := by
  have := M.r1
  rintro k (h | h | h)
  · exact .inr (by rw [h]; exact M.r1)
  · exact .inl h
  · have := cref_inC M.new h
    exact .inr (by omega)
theorem DMid.later (M : DMid w D A bb bc r v S c1 W) (h : Below W.heap.size W W') : DMid w D A bb bc r v S c1 W' :=
  ⟨M.row.later h, M.lst.later h, M.fam.later famD h, M.new.later h, M.only.trans (Only.of_below h), M.r1⟩
theorem DMid.set (M : DMid w D A bb bc r v S c1 W) (R : DAt w D A) (hbb : ¬ D.all A.L bb) (c2 : Int) : DMid w D A bb bc r v S c2 (W.setCell ⟨D.d, 1, none⟩ (.int .i64 c2)) := by
  have hst := Only.setCell (S := fun k => k = D.d) W ⟨D.d, 1, none⟩ rfl (.int .i64 c2)
  refine ⟨(M.row.setCell 1 _).ext (fun i hi => ?_), M.lst.only hst (fun g hg e => R.ne (by rw [hg, e])), M.fam.only famD hst (fun k hk e => ?_), famD.only (C := ⟨r, bb, bc, v⟩) M.new hst (fun k hk e => ?_), M.only.trans (hst.mono (fun k hk => .inl hk)), M.r1⟩
  · unfold updV dmV
    rcases (show i = 0 ∨ i = 1 ∨ i = 2 by omega) with rfl | rfl | rfl <;> rfl
  · obtain ⟨p, hp, hk⟩ := hk
    exact M.fam.off p hp k hk (.inl e)
  · rcases M.off k hk with h | h
    · exact hbb (.inl (.inl (by rw [← h, e])))
    · have := R.row.lt
      omega
theorem plsR_ins (g : Int → SD) (x : Int) (C : SD) (S : Sl) : ∀ L : List Pl, (∀ p ∈ L, p.fr ≠ x) → ∀ k, k ≤ L.length → (∀ j (h : j < L.length), j < k → L[j].fr < x) → (∀ h : k < L.length, ¬ L[k].fr < x) →
    plsR (updI g x C) (insL L ⟨x, S⟩) = (plsR g L).take k ++ [(x, C.r)] ++ (plsR g L).drop k := by
  intro L hx k hk h1 h2
  have e : ∀ M : List Pl, (∀ p ∈ M, p.fr ≠ x) → plsR (updI g x C) M = plsR g M := fun M hM => by
    unfold plsR
    exact List.map_congr_left fun p hp => by rw [updI_other g (hM p hp)]
  rw [insL_at ⟨x, S⟩ L k hk h1 h2]
  have e2 : plsR (updI g x C) (L.take k ++ ⟨x, S⟩ :: L.drop k) = plsR (updI g x C) (L.take k) ++ (x, (updI g x C x).r) :: plsR (updI g x C) (L.drop k) := by
    unfold plsR
    rw [List.map_append, List.map_cons]
  rw [e2, updI_same, e _ (fun p hp => hx p (List.mem_of_mem_take hp)), e _ (fun p hp => hx p (List.mem_of_mem_drop hp))]
  unfold plsR
  rw [List.map_take, List.map_drop, List.append_assoc]
  rfl
/-- The list laid anew, with one slab more. -/
theorem DMid.done {f : Nat → UInt8} (M : DMid w D A bb bc r v (Sl.new A.sz A.co f) A.nextCo W) (R : DAt w D A) (hbb : ¬ D.all A.L bb) (hx0 : 0 ≤ x) (hn : findL A.L x = none) {W4 : World} (hb : Below W.heap.size W W4) {a4 : Option Addr} {c4 : Nat}
    (hown : W4.ownsRow W.heap.size 70 2 (.slice a4 (A.L.length + 1) c4) (A.L.length + 1) (recV encP (plsR (updI D.g x ⟨r, bb, bc, v⟩) (A.added x f).L))) :
    DTurn w D A (fun k => k = bb) (updI (fun x => (D.g x).b) x bb) ⟨D.d, a4, c4, updI D.g x ⟨r, bb, bc, v⟩⟩ (A.added x f) (W4.setCell ⟨D.d, 2, none⟩ (.slice a4 (A.L.length + 1) c4)) := by
  have hst := Only.setCell (S := fun k => k = D.d) W4 ⟨D.d, 2, none⟩ rfl (.slice a4 (A.L.length + 1) c4)
  obtain ⟨h1, h2⟩ := owns_facts hown
  have hd := R.row.lt
  have hsz := M.only.size
  have hC : ∀ k, (SD.mk r bb bc v).all k → ¬ D.all A.L k := fun k hk hx => by
    rcases M.off k hk with h | h
    · exact hbb (by rw [← h]; exact hx)
    · have := R.lt k hx
      omega
  have hlen : (A.added x f).L.length = A.L.length + 1 := insL_len _
  have F0 := M.fam.add (findL_none hn) (C := ⟨r, bb, bc, v⟩) M.new (fun k hk hf => hC k hk (.inr hf)) (fun k hk hf => hC k hk (.inl hf))
  have hlt := F0.lt famD
  have hall : ∀ k, famB SD.all (updI D.g x ⟨r, bb, bc, v⟩) (insL A.L ⟨x, Sl.new A.sz A.co f⟩) k → famB SD.all D.g A.L k ∨ k = bb ∨ w.heap.size ≤ k := fun k hk =>
    (famB_add (findL_none hn) hk).elim .inl (fun h => .inr (M.off k h))
  have hfam : Fam DsAt SD.all (W4.setCell ⟨D.d, 2, none⟩ (.slice a4 (A.L.length + 1) c4)) (fun k => k = D.d ∨ a4 = some ⟨k, 0, none⟩) (updI D.g x ⟨r, bb, bc, v⟩) (insL A.L ⟨x, Sl.new A.sz A.co f⟩) := by
    refine ((F0.later famD hb).only famD hst (fun k hk e => ?_)).head (fun k hk => ?_)
    · obtain ⟨p, hp, hk⟩ := hk
      exact F0.off p hp k hk (.inl e)
    · rcases hk with hk | hk
      · exact .inl (.inl hk)
      · right
        intro hf
        have := hlt k hf
        have := (h2 k hk).1
        omega
  have hr : RecsAt W4 0 a4 encP 2 (plsR (updI D.g x ⟨r, bb, bc, v⟩) (A.added x f).L) := by
    have h := hown
    rw [← hlen, ← plsR_len (updI D.g x ⟨r, bb, bc, v⟩) (A.added x f).L] at h
    obtain ⟨a, c, e, h3⟩ := RecsAt.of_owns h
    injection e with e _ _
    subst e
    exact h3.base (Nat.zero_le _)
  refine ⟨⟨((M.row.later hb).setCell 2 _).ext (fun i hi => ?_), hr.only hst (fun g hg e => by have := (h2 g hg).1; omega), by rw [hlen]; exact h1, fun k hk => by rw [show (W4.setCell ⟨D.d, 2, none⟩ (.slice a4 (A.L.length + 1) c4)).heap.size = W4.heap.size by simp]; exact (h2 k hk).2, fun (e : a4 = some ⟨D.d, 0, none⟩) => by have := (h2 _ e).1; omega, hfam, R.inv.added hx0 hn f⟩, rfl,
    ((M.only.mono (fun k hk => hk.elim (fun h => .inl (.inl (.inl h))) .inr)).trans (Only.of_below hb)).trans (hst.mono (fun k hk => .inl (.inl (.inl hk)))), fun k hk => ?_, fun y => ?_⟩
  · unfold updV daV dmV
    rw [hlen]
    rcases (show i = 0 ∨ i = 1 ∨ i = 2 by omega) with rfl | rfl | rfl <;> rfl
  · rcases hk with (hk | hk) | hk
    · exact .inl (.inl (.inl hk))
    · exact .inr (.inr (by have := (h2 k hk).1; omega))
    · exact (hall k hk).elim (fun h => .inl (.inr h)) .inr
  · show (updI D.g x ⟨r, bb, bc, v⟩ y).b = updI (fun x => (D.g x).b) x bb y
    unfold updI
    split <;> rfl
end
def DAdd (w : World) (D : DC) (A : Ca) (x : Int) (f : Nat → UInt8) (bb : Nat) (e : Ending) (w' : World) : Prop :=
  e = .returned (.int .i64 0) ∧ ∃ D', DTurn w D A (fun k => k = bb) (updI (fun x => (D.g x).b) x bb) D' (A.added x f) w'
set_option maxRecDepth 100000 in
set_option maxHeartbeats 2000000 in
theorem dadd_no (D : DC) (w : World) (x : Int) (a : Option Addr) (n c : Nat) (h : x < 0 ∨ n ≠ 256) : Calls Try.prog 14 #[.pointer (some ⟨D.d, 0, none⟩), .int .i64 x, .slice a n c] w fun e w' => e = .returned (.int .i64 2) ∧ w = w' := by
  by_cases hx : x < 0
  · clear h
    go_enter Try.func14, Try.ntmps14
    go_wp2_with (fail)
    go_ret
    exact ⟨rfl, rfl⟩
  · have hn : ((n : Int) == 256) = false := by
      rw [beq_eq_false_iff_ne]
      have := h.resolve_left hx
      omega
    clear h
    go_enter Try.func14, Try.ntmps14
    go_wp2_with (fail)
    go_ret
    exact ⟨rfl, rfl⟩
set_option maxRecDepth 100000 in
set_option maxHeartbeats 2000000 in
theorem dadd_twice (R : DAt w D A) (hl : A.L.length ≤ 1000) (x : Int) (a : Option Addr) (c : Nat) (hx : 0 ≤ x) {S : Sl} (h : findL A.L x = some S) : Calls Try.prog 14 #[.pointer (some ⟨D.d, 0, none⟩), .int .i64 x, .slice a 256 c] w fun e w' => e = .returned (.int .i64 8) ∧ w = w' := by
  have HF := Lib.hid (dfind_any R hl x)
  rw [h] at HF
  have hxI : ¬ x < 0 := by omega
  clear R h
  go_enter Try.func14, Try.ntmps14
  go_wp2_with (fail)
  refine HF.out.mono ?_
  rintro e w1 ⟨rfl, rfl⟩
  unfold ptrF
  go_wp2_with (fail)
  go_ret
  exact ⟨rfl, rfl⟩
set_option maxRecDepth 100000 in
set_option maxHeartbeats 16000000 in
theorem dadd_any (R : DAt w D A) (hl : A.L.length ≤ 999) (x : Int) (bb bc : Nat) (f : Nat → UInt8) (hx : 0 ≤ x) (hn : findL A.L x = none) (hb : RowAt w bb 256 (byV f)) (hbb : ¬ D.all A.L bb) :
    Calls Try.prog 14 #[.pointer (some ⟨D.d, 0, none⟩), .int .i64 x, .slice (some ⟨bb, 0, none⟩) 256 bc] w (DAdd w D A x f bb) := by
  obtain ⟨i0, hi, hz0, hz1, hz2⟩ := info_parts infoPlace
  have HF := Lib.hid (dfind_any R (by omega) x)
  rw [hn] at HF
  have hxI : ¬ x < 0 := by omega
  have HR := Lib.hid R
  have HN := Lib.hid hn
  have HBB := Lib.hid hbb
  have HBY := Lib.hid hb
  have c0 := R.c0
  have c1 := R.c1
  have hdb : D.d ≠ bb := fun e => hbb (.inl (.inl e.symm))
  have HNX := Lib.hid (show A.nextCo = if mayC A.sz (A.co + 8 : Nat) = true then A.co + 8 else 0 from rfl)
  have hco : A.co < 128 := by
    have h1 := may_parts R.inv.may
    omega
  have HRN := Lib.hid (fun (V : World) (hV : RowAt V bb 256 (byV f)) => rnew_any A.sz A.co bb bc f V R.inv.may hV)
  have HMID := Lib.hid (fun (V V2 : World) (hV : Below w.heap.size w V) (r : Nat) (v : Value) (h1 : CRef V2 r bb bc (Sl.new A.sz A.co f) v) (h2 : Only (fun k => k = bb) V V2) (h3 : V.heap.size ≤ r) =>
    show DMid w D A bb bc r v (Sl.new A.sz A.co f) A.co V2 from by
      have hR := R.later hV
      have hoff : ∀ k, D.all A.L k → ¬ k = bb := fun k hk e => hbb (by rw [← e]; exact hk)
      have hR2 := hR.only h2 hoff
      exact ⟨hR2.row, hR2.lst, hR2.fam, h1, ((Only.of_below hV).trans h2).mono (fun k hk => .inr hk), Nat.le_trans hV.size h3⟩)
  clear R hn hb hbb
  go_enter Try.func14, Try.ntmps14
  go_wp2_with (fail)
  refine HF.out.mono ?_
  rintro e w1 ⟨rfl, rfl⟩
  unfold ptrF
  go_wp2_with (fail)
  have L0 := Lib.hid (show ∀ V, Only (fun k => k = bb) w V → (loadVar 3 ⟨D.d, 0, none⟩).run Try.prog V = .ok (.int .i64 A.sz) V from fun V hV => run_loadVar_cell (fun _ => by kernel_rfl) (hV.cell hdb c0))
  have L1 := Lib.hid (show ∀ V, Only (fun k => k = bb) w V → (loadVar 3 ⟨D.d, 1, none⟩).run Try.prog V = .ok (.int .i64 A.co) V from fun V hV => run_loadVar_cell (fun _ => by kernel_rfl) (hV.cell hdb c1))
  clear c0 c1
  refine wp_region_lex1 (Only (fun k => k = bb) w) [(0, false), (1, false), (2, false), (3, false), (4, false), (5, false), (6, false), (7, false), (8, false), (9, true), (10, false), (11, false), (12, false), (13, false), (14, false)]
    (by kernel_rfl) (by kernel_rfl) rfl (by kernel_rfl) (Only.of_below (Below.refl _ w).drew) ?_
  intro V0 hV0 hK0
  clear hK0
  have HB0 := Lib.hid (show Below w.heap.size w V0 by rw [hV0]; exact (Below.refl _ w).drew)
  clear hV0
  refine lexH_yieldE rfl rfl ?_
  apply Exists.intro
  refine ⟨fun W hW => ?_, ?_⟩
  focus (go_simp; exact rfl)
  simp only [List.getElem_toArray, List.getElem_cons_zero, Act.put, List.setIfInBounds_toArray, List.set_cons_zero, List.set_cons_succ]
  refine lexH_yieldE rfl rfl ?_
  apply Exists.intro
  refine ⟨fun W hW => ?_, ?_⟩
  focus (go_simp; exact rfl)
  simp only [List.getElem_toArray, List.getElem_cons_succ, List.getElem_cons_zero, Act.put, List.setIfInBounds_toArray, List.set_cons_zero, List.set_cons_succ]
  refine lexH_yieldE rfl rfl ?_
  apply Exists.intro
  refine ⟨fun W hW => ?_, ?_⟩
  focus (go_simp; exact rfl)
  simp only [List.getElem_toArray, List.getElem_cons_succ, List.getElem_cons_zero, Act.put, List.setIfInBounds_toArray, List.set_cons_zero, List.set_cons_succ]
  refine lexH_yieldE rfl rfl ?_
  apply Exists.intro
  refine ⟨fun W hW => ?_, ?_⟩
  focus (go_simp; exact rfl)
  simp only [List.getElem_toArray, List.getElem_cons_succ, List.getElem_cons_zero, Act.put, List.setIfInBounds_toArray, List.set_cons_zero, List.set_cons_succ]
  refine lexH_load rfl rfl _ _ rfl rfl L0.out ?_
  simp only [List.getElem_toArray, List.getElem_cons_succ, List.getElem_cons_zero, Act.put, List.setIfInBounds_toArray, List.set_cons_zero, List.set_cons_succ]
  refine lexH_yieldE rfl rfl ?_
  apply Exists.intro
  refine ⟨fun W hW => ?_, ?_⟩
  focus (go_simp; exact rfl)
  simp only [List.getElem_toArray, List.getElem_cons_succ, List.getElem_cons_zero, Act.put, List.setIfInBounds_toArray, List.set_cons_zero, List.set_cons_succ]
  refine lexH_yieldE rfl rfl ?_
  apply Exists.intro
  refine ⟨fun W hW => ?_, ?_⟩
  focus (go_simp; exact rfl)
  simp only [List.getElem_toArray, List.getElem_cons_succ, List.getElem_cons_zero, Act.put, List.setIfInBounds_toArray, List.set_cons_zero, List.set_cons_succ]
  refine lexH_yieldE rfl rfl ?_
  apply Exists.intro
  refine ⟨fun W hW => ?_, ?_⟩
  focus (go_simp; exact rfl)
  simp only [List.getElem_toArray, List.getElem_cons_succ, List.getElem_cons_zero, Act.put, List.setIfInBounds_toArray, List.set_cons_zero, List.set_cons_succ]
  refine lexH_load rfl rfl _ _ rfl rfl L1.out ?_
  simp only [List.getElem_toArray, List.getElem_cons_succ, List.getElem_cons_zero, Act.put, List.setIfInBounds_toArray, List.set_cons_zero, List.set_cons_succ]
  refine lexH_call 38 #[.slice (some ⟨bb, 0, none⟩) 256 bc, .int .i64 A.sz, .int .i64 A.co] rfl rfl ?_ ?_
  focus (go_simp; done)
  refine (HRN.out V0 (HBY.out.later HB0.out)).mono ?_
  rintro e w2 ⟨r, v, rfl, h1, h2, h3⟩
  have HM := Lib.hid (HMID.out V0 w2 HB0.out r v h1 h2 h3)
  refine ⟨_, rfl, (Only.of_below HB0.out).trans h2, ?_⟩
  clear h1 h2 h3 L0 L1 HRN HMID HF
  simp only [List.getElem_toArray, List.getElem_cons_succ, List.getElem_cons_zero, Act.put, List.setIfInBounds_toArray, List.set_cons_zero, List.set_cons_succ]
  refine lexH_yieldE rfl rfl ?_
  apply Exists.intro
  refine ⟨fun W hW => ?_, ?_⟩
  focus (go_simp; exact rfl)
  simp only [List.getElem_toArray, List.getElem_cons_succ, List.getElem_cons_zero, Act.put, List.setIfInBounds_toArray, List.set_cons_zero, List.set_cons_succ]
  refine lexH_yieldE rfl rfl ?_
  apply Exists.intro
  refine ⟨fun W hW => ?_, ?_⟩
  focus (go_simp; exact rfl)
  simp only [List.getElem_toArray, List.getElem_cons_succ, List.getElem_cons_zero, Act.put, List.setIfInBounds_toArray, List.set_cons_zero, List.set_cons_succ]
  refine lexH_yieldE rfl rfl ?_
  apply Exists.intro
  refine ⟨fun W hW => ?_, ?_⟩
  focus (go_simp; exact rfl)
  simp only [List.getElem_toArray, List.getElem_cons_succ, List.getElem_cons_zero, Act.put, List.setIfInBounds_toArray, List.set_cons_zero, List.set_cons_succ]
  refine lexH_yieldE rfl rfl ?_
  apply Exists.intro
  refine ⟨fun W hW => ?_, ?_⟩
  focus (go_simp; exact rfl)
  simp only [List.getElem_toArray, List.getElem_cons_succ, List.getElem_cons_zero, Act.put, List.setIfInBounds_toArray, List.set_cons_zero, List.set_cons_succ]
  refine lexH_yieldE rfl rfl ?_
  apply Exists.intro
  refine ⟨fun W hW => ?_, ?_⟩
  focus (go_simp; exact rfl)
  simp only [List.getElem_toArray, List.getElem_cons_succ, List.getElem_cons_zero, Act.put, List.setIfInBounds_toArray, List.set_cons_zero, List.set_cons_succ]
  refine lexH_nil ?_
  have c0 : w2.cell? ⟨D.d, 0, none⟩ = some (.int .i64 A.sz) := HM.out.row.cell 0 (by decide)
  have c1 : w2.cell? ⟨D.d, 1, none⟩ = some (.int .i64 A.co) := HM.out.row.cell 1 (by decide)
  have f1 : w2.frozen? ⟨D.d, 1, none⟩ = false := HM.out.row.frozen 1
  have HM3 := Lib.hid (HM.out.set HR.out HBB.out ((A.co : Int) + 8))
  have hw8 : wrap64 ((A.co : Int) + 8) = (A.co : Int) + 8 := IntWalk.wrap64_in _ ⟨by omega, by omega⟩
  have HMA := Lib.hid (rmay_any A.sz ((A.co : Int) + 8))
  clear HM
  generalize hcx : A.co = cx at *
  go_wp2_with (fail)
  clear c0 c1 f1 hw8
  generalize w2.setCell ⟨D.d, 1, none⟩ (.int .i64 ((cx : Int) + 8)) = w3 at *
  have c0 : w3.cell? ⟨D.d, 0, none⟩ = some (.int .i64 A.sz) := HM3.out.row.cell 0 (by decide)
  have c1 : w3.cell? ⟨D.d, 1, none⟩ = some (.int .i64 ((cx : Int) + 8)) := HM3.out.row.cell 1 (by decide)
  have L0 := Lib.hid (show ∀ V, V = w3.drew → (loadVar 3 ⟨D.d, 0, none⟩).run Try.prog V = .ok (.int .i64 A.sz) V from fun V hV => run_loadVar_cell (fun _ => by kernel_rfl) (by rw [hV]; exact c0))
  have L1 := Lib.hid (show ∀ V, V = w3.drew → (loadVar 3 ⟨D.d, 1, none⟩).run Try.prog V = .ok (.int .i64 ((cx : Int) + 8)) V from fun V hV => run_loadVar_cell (fun _ => by kernel_rfl) (by rw [hV]; exact c1))
  clear c0 c1
  refine wp_region_lex1 (fun V => V = w3.drew) [(0, false), (1, false), (2, false), (3, false), (4, false), (5, false), (6, false), (7, false), (8, true), (9, false)]
    (by kernel_rfl) (by kernel_rfl) rfl (by kernel_rfl) rfl ?_
  intro V0 hV0 hK0
  clear hK0
  have HB3 := Lib.hid (show Below w3.heap.size w3 V0 by rw [hV0]; exact (Below.refl _ w3).drew)
  have HM4 := Lib.hid (HM3.out.later HB3.out)
  refine lexH_yieldE rfl rfl ?_
  apply Exists.intro
  refine ⟨fun W hW => ?_, ?_⟩
  focus (go_simp; exact rfl)
  simp only [List.getElem_toArray, List.getElem_cons_zero, Act.put, List.setIfInBounds_toArray, List.set_cons_zero, List.set_cons_succ]
  refine lexH_yieldE rfl rfl ?_
  apply Exists.intro
  refine ⟨fun W hW => ?_, ?_⟩
  focus (go_simp; exact rfl)
  simp only [List.getElem_toArray, List.getElem_cons_succ, List.getElem_cons_zero, Act.put, List.setIfInBounds_toArray, List.set_cons_zero, List.set_cons_succ]
  refine lexH_yieldE rfl rfl ?_
  apply Exists.intro
  refine ⟨fun W hW => ?_, ?_⟩
  focus (go_simp; exact rfl)
  simp only [List.getElem_toArray, List.getElem_cons_succ, List.getElem_cons_zero, Act.put, List.setIfInBounds_toArray, List.set_cons_zero, List.set_cons_succ]
  refine lexH_load rfl rfl _ _ rfl rfl L0.out ?_
  simp only [List.getElem_toArray, List.getElem_cons_succ, List.getElem_cons_zero, Act.put, List.setIfInBounds_toArray, List.set_cons_zero, List.set_cons_succ]
  refine lexH_yieldE rfl rfl ?_
  apply Exists.intro
  refine ⟨fun W hW => ?_, ?_⟩
  focus (go_simp; exact rfl)
  simp only [List.getElem_toArray, List.getElem_cons_succ, List.getElem_cons_zero, Act.put, List.setIfInBounds_toArray, List.set_cons_zero, List.set_cons_succ]
  refine lexH_yieldE rfl rfl ?_
  apply Exists.intro
  refine ⟨fun W hW => ?_, ?_⟩
  focus (go_simp; exact rfl)
  simp only [List.getElem_toArray, List.getElem_cons_succ, List.getElem_cons_zero, Act.put, List.setIfInBounds_toArray, List.set_cons_zero, List.set_cons_succ]
  refine lexH_yieldE rfl rfl ?_
  apply Exists.intro
  refine ⟨fun W hW => ?_, ?_⟩
  focus (go_simp; exact rfl)
  simp only [List.getElem_toArray, List.getElem_cons_succ, List.getElem_cons_zero, Act.put, List.setIfInBounds_toArray, List.set_cons_zero, List.set_cons_succ]
  refine lexH_load rfl rfl _ _ rfl rfl L1.out ?_
  simp only [List.getElem_toArray, List.getElem_cons_succ, List.getElem_cons_zero, Act.put, List.setIfInBounds_toArray, List.set_cons_zero, List.set_cons_succ]
  refine lexH_call 28 #[.int .i64 A.sz, .int .i64 ((cx : Int) + 8)] rfl rfl ?_ ?_
  focus (go_simp; done)
  refine (HMA.out V0).mono ?_
  rintro e w4 ⟨rfl, rfl⟩
  refine ⟨_, rfl, hV0, ?_⟩
  clear hV0 L0 L1 HMA HB3 HM3
  simp only [List.getElem_toArray, List.getElem_cons_succ, List.getElem_cons_zero, Act.put, List.setIfInBounds_toArray, List.set_cons_zero, List.set_cons_succ]
  refine lexH_yieldE rfl rfl ?_
  apply Exists.intro
  refine ⟨fun W hW => ?_, ?_⟩
  focus (go_simp; exact rfl)
  simp only [List.getElem_toArray, List.getElem_cons_succ, List.getElem_cons_zero, Act.put, List.setIfInBounds_toArray, List.set_cons_zero, List.set_cons_succ]
  refine lexH_nil ?_
  -- the colour
  have HFIN : ∀ (q : Nat) (U : World), (q = A.nextCo) → Hid (DMid w D A bb bc r v (Sl.new A.sz cx f) q U) → Hid (DMid w D A bb bc r v (Sl.new A.sz A.co f) A.nextCo U) := fun q U e h => by
    rw [hcx, ← e]
    exact h
  have HCX := Lib.hid hcx
  have HFX := Lib.hid HFIN
  clear HFIN hcx
  cases hmy : mayC A.sz ((cx : Int) + 8) with
  | true =>
    have HU := HFX.out (cx + 8) V0 (by rw [HNX.out, if_pos (by rw [Int.natCast_add]; exact hmy)]) (by rw [Int.natCast_add]; exact HM4)
    clear HM4 HFX HNX hmy HCX
    go_wp2_with (fail)
    have c2 : V0.cell? ⟨D.d, 2, none⟩ = some (.slice D.a A.L.length D.c) := HU.out.row.cell 2 (by decide)
    go_loop [9] (fun i => ∃ k : Nat, k ≤ A.L.length ∧ i = .int .i64 k ∧ Hid (∀ j (h : j < A.L.length), j < k → A.L[j].fr < x)) (fun i => A.L.length - (intOf i).toNat)
    case atStart => exact ⟨0, Nat.zero_le _, rfl, Lib.hid fun j _ h => absurd h (Nat.not_lt_zero _)⟩
    case round =>
      obtain ⟨k, hk, rfl, HJ⟩ := hrel
      have HEND : (∀ h : k < A.L.length, ¬ A.L[k].fr < x) → Hid (∀ C : SD, ∀ S, plsR (updI D.g x C) (insL A.L ⟨x, S⟩) = (plsR D.g A.L).take k ++ [(x, C.r)] ++ (plsR D.g A.L).drop k) := fun h => Lib.hid fun C S => plsR_ins D.g x C S A.L (findL_none HN.out) k hk HJ.out h
      have HEX := Lib.hid HEND
      clear HEND
      by_cases hlt : k < A.L.length
      · have hm := List.getElem_mem hlt
        obtain ⟨b, hab, _, _, hrg⟩ := HU.out.lst.get encP_len k (by rw [plsR_len]; exact hlt)
        have e2 : (plsR D.g A.L)[k]'(by rw [plsR_len]; exact hlt) = (A.L[k].fr, (D.g A.L[k].fr).r) := by
          unfold plsR
          rw [List.getElem_map]
        rw [e2] at hrg
        have k0 : V0.cell? ⟨b, k * 2, none⟩ = some (.int .i64 A.L[k].fr) := hrg 0 _ rfl
        have hltI : (k : Int) < (A.L.length : Int) := by omega
        have HJM := Lib.hid (fun (h : A.L[k].fr < x) => show ∀ j (h : j < A.L.length), j < k + 1 → A.L[j].fr < x from fun j h2 hj => by
          by_cases e : j < k
          · exact HJ.out j h2 e
          · obtain rfl : j = k := by omega
            exact h)
        clear e2 hrg hm
        by_cases hfx : A.L[k].fr < x
        · have HJ2 := Lib.hid (HJM.out hfx)
          have c2b := c2
          rw [hab] at c2b
          clear HJM HJ HEX c2 hab
          generalize A.L[k].fr = fq at *
          go_wp2_with (fail)
          go_round
          case rel => exact ⟨k + 1, hlt, by go_num, HJ2⟩
          case measure => simp [intOf]; omega
        · have HEN := HEX.out (fun _ => hfx)
          have c2b := c2
          rw [hab] at c2b
          clear HJM HJ HEX
          generalize A.L[k].fr = fq at *
          have HAB := Lib.hid hab
          clear c2 hab
          go_wp2_with (fail)
          clear c2b k0 hltI
          have hcap := HR.out.cap
          have L1 := Lib.hid (show ∀ W, Kept V0.heap.size V0 W → (loadVar 63 ⟨D.d, 2, none⟩).run Try.prog W = .ok (.slice D.a A.L.length D.c) W from fun W hW => run_loadVar_cell (fun _ => by kernel_rfl) ((HU.out.row.later hW.below).cell 2 (by decide)))
          have S1 := Lib.hid (fun W (_ : Kept V0.heap.size V0 W) => run_sub_toN (P := Try.prog) Try.underlying63 sizePlace D.a A.L.length D.c k (by omega) W)
          have S2 := Lib.hid (fun W (_ : Kept V0.heap.size V0 W) => run_sub_fromN (P := Try.prog) Try.underlying63 sizePlace D.a A.L.length D.c k hk W)
          have HSRC := Lib.hid (HU.out.lst.src encP_len)
          have HP1 := Lib.hid (show ∀ W, Below V0.heap.size V0 W → (0 < k → ∃ ad, D.a = some ad ∧ ∀ j u, (recV encP ((plsR D.g A.L).take k))[j]? = some u → W.cell? (ad.add j) = some u) from fun W hW hp => by
            obtain ⟨ad, e, h⟩ := HSRC.out (by rw [plsR_len]; omega)
            refine ⟨ad, e, fun j u hj => ?_⟩
            rw [← recV_take encP_len] at hj
            have hj2 : (recV encP (plsR D.g A.L))[j]? = some u := by
              rw [List.getElem?_take] at hj
              split at hj
              · exact hj
              · cases hj
            have hc := h j u hj2
            rw [World.cell?_of_block (hW.block _ (World.block_lt_of_cell? _ _ hc))]
            exact hc)
          have HP2 := Lib.hid (show ∀ W, Below V0.heap.size V0 W → (0 < A.L.length - k → ∃ ad, (if D.c = k then D.a else D.a.map fun x => x.add (k * 2)) = some ad ∧ ∀ j u, (recV encP ((plsR D.g A.L).drop k))[j]? = some u → W.cell? (ad.add j) = some u) from fun W hW hp => by
            obtain ⟨g, e, _, _, B, t, hB, hx⟩ := HU.out.lst (by rw [plsR_len]; omega)
            refine ⟨⟨g, k * 2, none⟩, by rw [if_neg (by omega), e, Option.map_some, Addr.add_lit, Nat.zero_add], fun j u hj => ?_⟩
            rw [← recV_drop encP_len, List.getElem?_drop] at hj
            have hlt := (List.getElem?_eq_some_iff.1 hj).1
            rw [recV_len encP_len] at hlt
            have hc : V0.cell? ⟨g, k * 2 + j, none⟩ = some u := by rw [cell_of_row _ _ _ _ _ _ hB, hx _ hlt]; exact hj
            rw [Addr.add_lit, hW.cell (World.block_lt_of_cell? _ _ hc)]
            exact hc)
          clear HSRC
          generalize (if D.c = k then D.a else D.a.map fun x => x.add (k * 2)) = A2 at S2 HP2
          refine wp_region_plan (Kept V0.heap.size V0) (.take 0 (.take 2 (.take 3 (.take 4 (.take 5 (.take 6 (.take 7 (.take 9 (.take 10 (.take 11 (.take 14 (.take 15 (.take 16 (.take 17 (.take 18 (.take 19 (.step 1 (.step 8 (.step 12 (.step 13 (.step 20 (.take 21 (.take 22 .fin)) .fin) .fin) .fin) (.step 12 (.step 8 (.step 13 (.step 20 (.take 21 (.take 22 .fin)) .fin) .fin) .fin) .fin)) (.step 12 (.step 1 (.step 8 (.step 13 (.step 20 (.take 21 (.take 22 .fin)) .fin) .fin) .fin) .fin) .fin)))))))))))))))))) 23
            (by kernel_rfl) (by kernel_rfl) (by kernel_rfl) (Below.refl _ V0).drew ?_
          intro W0 hW0 hK0
          clear hW0
          refine lexP_yieldE rfl rfl ?_
          apply Exists.intro
          refine ⟨fun W hW => ?_, ?_⟩
          focus (go_simp; exact rfl)
          simp only [List.getElem_toArray, List.getElem_cons_zero, Act.put, List.setIfInBounds_toArray, List.set_cons_zero, List.set_cons_succ]
          refine lexP_yieldE rfl rfl ?_
          apply Exists.intro
          refine ⟨fun W hW => ?_, ?_⟩
          focus (go_simp; exact rfl)
          simp only [List.getElem_toArray, List.getElem_cons_succ, List.getElem_cons_zero, Act.put, List.setIfInBounds_toArray, List.set_cons_zero, List.set_cons_succ]
          refine lexP_yieldE rfl rfl ?_
          apply Exists.intro
          refine ⟨fun W hW => ?_, ?_⟩
          focus (go_simp; exact rfl)
          simp only [List.getElem_toArray, List.getElem_cons_succ, List.getElem_cons_zero, Act.put, List.setIfInBounds_toArray, List.set_cons_zero, List.set_cons_succ]
          refine lexP_yieldE rfl rfl ?_
          apply Exists.intro
          refine ⟨fun W hW => ?_, ?_⟩
          focus (go_simp; exact rfl)
          simp only [List.getElem_toArray, List.getElem_cons_succ, List.getElem_cons_zero, Act.put, List.setIfInBounds_toArray, List.set_cons_zero, List.set_cons_succ]
          refine lexP_load rfl rfl _ _ rfl rfl L1.out ?_
          simp only [List.getElem_toArray, List.getElem_cons_succ, List.getElem_cons_zero, Act.put, List.setIfInBounds_toArray, List.set_cons_zero, List.set_cons_succ]
          refine lexP_yieldE rfl rfl ?_
          apply Exists.intro
          refine ⟨fun W hW => ?_, ?_⟩
          focus (go_simp; exact rfl)
          simp only [List.getElem_toArray, List.getElem_cons_succ, List.getElem_cons_zero, Act.put, List.setIfInBounds_toArray, List.set_cons_zero, List.set_cons_succ]
          refine lexP_slice rfl rfl _ _ _ _ _ rfl S1.out ?_
          simp only [List.getElem_toArray, List.getElem_cons_succ, List.getElem_cons_zero, Act.put, List.setIfInBounds_toArray, List.set_cons_zero, List.set_cons_succ]
          refine lexP_yieldE rfl rfl ?_
          apply Exists.intro
          refine ⟨fun W hW => ?_, ?_⟩
          focus (go_simp; exact rfl)
          simp only [List.getElem_toArray, List.getElem_cons_succ, List.getElem_cons_zero, Act.put, List.setIfInBounds_toArray, List.set_cons_zero, List.set_cons_succ]
          refine lexP_yieldE rfl rfl ?_
          apply Exists.intro
          refine ⟨fun W hW => ?_, ?_⟩
          focus (go_simp; exact rfl)
          simp only [List.getElem_toArray, List.getElem_cons_succ, List.getElem_cons_zero, Act.put, List.setIfInBounds_toArray, List.set_cons_zero, List.set_cons_succ]
          refine lexP_yieldE rfl rfl ?_
          apply Exists.intro
          refine ⟨fun W hW => ?_, ?_⟩
          focus (go_simp; exact rfl)
          simp only [List.getElem_toArray, List.getElem_cons_succ, List.getElem_cons_zero, Act.put, List.setIfInBounds_toArray, List.set_cons_zero, List.set_cons_succ]
          refine lexP_yieldE rfl rfl ?_
          apply Exists.intro
          refine ⟨fun W hW => ?_, ?_⟩
          focus (go_simp; exact rfl)
          simp only [List.getElem_toArray, List.getElem_cons_succ, List.getElem_cons_zero, Act.put, List.setIfInBounds_toArray, List.set_cons_zero, List.set_cons_succ]
          refine lexP_yieldE rfl rfl ?_
          apply Exists.intro
          refine ⟨fun W hW => ?_, ?_⟩
          focus (go_simp; exact rfl)
          simp only [List.getElem_toArray, List.getElem_cons_succ, List.getElem_cons_zero, Act.put, List.setIfInBounds_toArray, List.set_cons_zero, List.set_cons_succ]
          refine lexP_yieldE rfl rfl ?_
          apply Exists.intro
          refine ⟨fun W hW => ?_, ?_⟩
          focus (go_simp; exact rfl)
          simp only [List.getElem_toArray, List.getElem_cons_succ, List.getElem_cons_zero, Act.put, List.setIfInBounds_toArray, List.set_cons_zero, List.set_cons_succ]
          refine lexP_load rfl rfl _ _ rfl rfl L1.out ?_
          simp only [List.getElem_toArray, List.getElem_cons_succ, List.getElem_cons_zero, Act.put, List.setIfInBounds_toArray, List.set_cons_zero, List.set_cons_succ]
          refine lexP_yieldE rfl rfl ?_
          apply Exists.intro
          refine ⟨fun W hW => ?_, ?_⟩
          focus (go_simp; exact rfl)
          simp only [List.getElem_toArray, List.getElem_cons_succ, List.getElem_cons_zero, Act.put, List.setIfInBounds_toArray, List.set_cons_zero, List.set_cons_succ]
          refine lexP_slice rfl rfl _ _ _ _ _ rfl S2.out ?_
          simp only [List.getElem_toArray, List.getElem_cons_succ, List.getElem_cons_zero, Act.put, List.setIfInBounds_toArray, List.set_cons_zero, List.set_cons_succ]
          have HK0 := Lib.hid (show Below V0.heap.size V0 W0 from hK0.below)
          clear hK0 L1 S1 S2
          refine lexP_or rfl rfl ?_ ?_
          · unfold Oper.wp
            go_simp
            have HK1 := Lib.hid (show Below V0.heap.size V0 (W0.alloc (.cells #[] 70)) from HK0.out.alloc HK0.out.size _)
            have HO1 := Lib.hid (World.ownsRow_made W0 (e := 70) (base := W0.heap.size) (size := 2) #[] 0 (Nat.le_refl _) (Nat.zero_le _) (by simp))
            have HB1 := Lib.hid (show W0.heap.size ≤ (W0.alloc (.cells #[] 70)).heap.size by simp)
            have HC1 := Lib.hid HK0.out.size
            refine ⟨HK1.out, ?_⟩
            clear HK0 
            generalize W0.alloc (.cells #[] 70) = W1 at *
            generalize W0.heap.size = b1 at *
            refine lexP_or rfl rfl ?_ ?_
            · refine wp_append_src _ _ _ 63 rfl b1 70 i0 _ 2 16 Try.underlying63 hi hz0 hz1 hz2 rfl (by decide) _ _ _ HO1.out HB1.out D.a k D.c (recV encP ((plsR D.g A.L).take k)) rfl rfl (by rw [recV_len encP_len, List.length_take, plsR_len, Nat.min_eq_left hk]) (HP1.out _ HK1.out) (recV_one encP_one _) (by omega) (by decide) ?_
              intro v2 W2 hown ho _
              have HO2 := Lib.hid hown
              have HK2 := Lib.hid (show Below V0.heap.size V0 W2 from ho.below HK1.out HK1.out.size (fun q hq => by have := (HO1.out.lt q hq).1; have := HC1.out; omega))
              have HB2 := Lib.hid (Nat.le_trans HB1.out ho.size)
              refine ⟨HK2.out, ?_⟩
              clear hown ho HK1 HO1 HB1
              simp only [List.getElem_toArray, List.getElem_cons_succ, List.getElem_cons_zero, Act.put, List.setIfInBounds_toArray, List.set_cons_zero, List.set_cons_succ]
              refine lexP_step rfl rfl ?_
              unfold Oper.wp
              go_simp
              have HK3 := Lib.hid (show Below V0.heap.size V0 (W2.alloc (.cells #[.int .i64 x, .pointer (some ⟨r, 0, none⟩)] 70)) from HK2.out.alloc HK2.out.size _)
              have HX3 := Lib.hid (place_row W2 x r)
              have HO3 := Lib.hid (HO2.out.alloc (.cells #[.int .i64 x, .pointer (some ⟨r, 0, none⟩)] 70))
              have HB3 := Lib.hid (show b1 ≤ (W2.alloc (.cells #[.int .i64 x, .pointer (some ⟨r, 0, none⟩)] 70)).heap.size from Nat.le_trans HB2.out (by simp))
              have HE := Lib.hid (fun q hq => (HO2.out.lt q hq).2)
              refine ⟨HK3.out, ?_⟩
              clear HK2 HO2 HB2
              generalize W2.alloc (.cells #[.int .i64 x, .pointer (some ⟨r, 0, none⟩)] 70) = W3 at *
              generalize W2.heap.size = cb at *
              refine lexP_step rfl rfl ?_
              refine wp_append_src _ _ _ 63 rfl b1 70 i0 _ 2 16 Try.underlying63 hi hz0 hz1 hz2 rfl (by decide) _ _ _ HO3.out HB3.out (some ⟨cb, 0, none⟩) 1 1 (encP (x, r)) rfl rfl rfl (fun _ => ⟨_, rfl, fun q uu hq => place_src HX3.out q uu hq⟩) (encP_one _) (by omega) (by decide) ?_
              intro v8 W8 hown ho _
              have HO8 := Lib.hid hown
              have HK8 := Lib.hid (show Below V0.heap.size V0 W8 from ho.below HK3.out HK3.out.size (fun q hq => by have := (HO3.out.lt q hq).1; have := HC1.out; omega))
              have HB8 := Lib.hid (Nat.le_trans HB3.out ho.size)
              refine ⟨HK8.out, ?_⟩
              clear hown ho HK3 HO3 HB3 HX3
              simp only [List.getElem_toArray, List.getElem_cons_succ, List.getElem_cons_zero, Act.put, List.setIfInBounds_toArray, List.set_cons_zero, List.set_cons_succ]
              refine lexP_step rfl rfl ?_
              refine wp_append_src _ _ _ 63 rfl b1 70 i0 _ 2 16 Try.underlying63 hi hz0 hz1 hz2 rfl (by decide) _ _ _ HO8.out HB8.out A2 (A.L.length - k) (D.c - k) (recV encP ((plsR D.g A.L).drop k)) rfl rfl (by rw [recV_len encP_len, List.length_drop, plsR_len]) (HP2.out _ HK8.out) (recV_one encP_one _) (by omega) (by decide) ?_
              intro v9 W9 hown ho _
              have HK9 := Lib.hid (show Below V0.heap.size V0 W9 from ho.below HK8.out HK8.out.size (fun q hq => by have := (HO8.out.lt q hq).1; have := HC1.out; omega))
              obtain ⟨a9, cap9, hv9, _⟩ := owns_slice hown
              subst hv9
              have hq9 : 0 + k + 1 + (A.L.length - k) = A.L.length + 1 := by omega
              rw [hq9] at hown ⊢
              have hO9 : W9.ownsRow V0.heap.size 70 2 (.slice a9 (A.L.length + 1) cap9) (A.L.length + 1) (recV encP (plsR (updI D.g x ⟨r, bb, bc, v⟩) (A.added x f).L)) := by
                rw [show (A.added x f).L = insL A.L ⟨x, Sl.new A.sz A.co f⟩ from rfl, HEN.out ⟨r, bb, bc, v⟩, recV_append, recV_append, recV_single]
                exact owns_base (by simpa using hown) (fun q hq => by have := (hown.lt q hq).1; have := HC1.out; omega)
              have HT := Lib.hid (show DAdd w D A x f bb (.returned (.int .i64 0)) (W9.setCell ⟨D.d, 2, none⟩ (.slice a9 (A.L.length + 1) cap9)) from ⟨rfl, _, HU.out.done HR.out HBB.out hx HN.out HK9.out hO9⟩)
              refine ⟨HK9.out, ?_⟩
              have d2 : W9.cell? ⟨D.d, 2, none⟩ = some (.slice D.a A.L.length D.c) := (HU.out.row.later HK9.out).cell 2 (by decide)
              have z2 : W9.frozen? ⟨D.d, 2, none⟩ = false := (HU.out.row.later HK9.out).frozen 2
              clear hO9 hown ho HO8 HK8 HB8 HK9 HP1 HP2 HEN hq9
              simp only [List.getElem_toArray, List.getElem_cons_succ, List.getElem_cons_zero, Act.put, List.setIfInBounds_toArray, List.set_cons_zero, List.set_cons_succ]
              refine lexP_yieldE rfl rfl ?_
              apply Exists.intro
              refine ⟨fun W hW => ?_, ?_⟩
              focus (go_simp; exact rfl)
              simp only [List.getElem_toArray, List.getElem_cons_succ, List.getElem_cons_zero, Act.put, List.setIfInBounds_toArray, List.set_cons_zero, List.set_cons_succ]
              refine lexP_yieldE rfl rfl ?_
              apply Exists.intro
              refine ⟨fun W hW => ?_, ?_⟩
              focus (go_simp; exact rfl)
              simp only [List.getElem_toArray, List.getElem_cons_succ, List.getElem_cons_zero, Act.put, List.setIfInBounds_toArray, List.set_cons_zero, List.set_cons_succ]
              refine lexP_last rfl rfl ?_
              unfold Oper.wp
              go_simp
              go_wp2_with (fail)
              go_ret
              exact HT.out
            · refine lexP_step rfl rfl ?_
              unfold Oper.wp
              go_simp
              have HK2 := Lib.hid (show Below V0.heap.size V0 (W1.alloc (.cells #[.int .i64 x, .pointer (some ⟨r, 0, none⟩)] 70)) from HK1.out.alloc HK1.out.size _)
              have HX2 := Lib.hid (place_row W1 x r)
              have HO2 := Lib.hid (HO1.out.alloc (.cells #[.int .i64 x, .pointer (some ⟨r, 0, none⟩)] 70))
              have HB2 := Lib.hid (show b1 ≤ (W1.alloc (.cells #[.int .i64 x, .pointer (some ⟨r, 0, none⟩)] 70)).heap.size from Nat.le_trans HB1.out (by simp))
              have HE := Lib.hid (fun q hq => (HO1.out.lt q hq).2)
              refine ⟨HK2.out, ?_⟩
              clear HK1 HO1 HB1
              generalize W1.alloc (.cells #[.int .i64 x, .pointer (some ⟨r, 0, none⟩)] 70) = W2 at *
              generalize W1.heap.size = cb at *
              refine lexP_step rfl rfl ?_
              refine wp_append_src _ _ _ 63 rfl b1 70 i0 _ 2 16 Try.underlying63 hi hz0 hz1 hz2 rfl (by decide) _ _ _ HO2.out HB2.out D.a k D.c (recV encP ((plsR D.g A.L).take k)) rfl rfl (by rw [recV_len encP_len, List.length_take, plsR_len, Nat.min_eq_left hk]) (HP1.out _ HK2.out) (recV_one encP_one _) (by omega) (by decide) ?_
              intro v3 W3 hown ho _
              have HO3 := Lib.hid hown
              have HK3 := Lib.hid (show Below V0.heap.size V0 W3 from ho.below HK2.out HK2.out.size (fun q hq => by have := (HO2.out.lt q hq).1; have := HC1.out; omega))
              have HB3 := Lib.hid (Nat.le_trans HB2.out ho.size)
              have HX3 := Lib.hid (HX2.out.only ho (fun e => absurd (HE.out _ e) (Nat.lt_irrefl _)))
              refine ⟨HK3.out, ?_⟩
              clear hown ho HK2 HO2 HB2 HX2
              simp only [List.getElem_toArray, List.getElem_cons_succ, List.getElem_cons_zero, Act.put, List.setIfInBounds_toArray, List.set_cons_zero, List.set_cons_succ]
              refine lexP_step rfl rfl ?_
              refine wp_append_src _ _ _ 63 rfl b1 70 i0 _ 2 16 Try.underlying63 hi hz0 hz1 hz2 rfl (by decide) _ _ _ HO3.out HB3.out (some ⟨cb, 0, none⟩) 1 1 (encP (x, r)) rfl rfl rfl (fun _ => ⟨_, rfl, fun q uu hq => place_src HX3.out q uu hq⟩) (encP_one _) (by omega) (by decide) ?_
              intro v8 W8 hown ho _
              have HO8 := Lib.hid hown
              have HK8 := Lib.hid (show Below V0.heap.size V0 W8 from ho.below HK3.out HK3.out.size (fun q hq => by have := (HO3.out.lt q hq).1; have := HC1.out; omega))
              have HB8 := Lib.hid (Nat.le_trans HB3.out ho.size)
              refine ⟨HK8.out, ?_⟩
              clear hown ho HK3 HO3 HB3 HX3
              simp only [List.getElem_toArray, List.getElem_cons_succ, List.getElem_cons_zero, Act.put, List.setIfInBounds_toArray, List.set_cons_zero, List.set_cons_succ]
              refine lexP_step rfl rfl ?_
              refine wp_append_src _ _ _ 63 rfl b1 70 i0 _ 2 16 Try.underlying63 hi hz0 hz1 hz2 rfl (by decide) _ _ _ HO8.out HB8.out A2 (A.L.length - k) (D.c - k) (recV encP ((plsR D.g A.L).drop k)) rfl rfl (by rw [recV_len encP_len, List.length_drop, plsR_len]) (HP2.out _ HK8.out) (recV_one encP_one _) (by omega) (by decide) ?_
              intro v9 W9 hown ho _
              have HK9 := Lib.hid (show Below V0.heap.size V0 W9 from ho.below HK8.out HK8.out.size (fun q hq => by have := (HO8.out.lt q hq).1; have := HC1.out; omega))
              obtain ⟨a9, cap9, hv9, _⟩ := owns_slice hown
              subst hv9
              have hq9 : 0 + k + 1 + (A.L.length - k) = A.L.length + 1 := by omega
              rw [hq9] at hown ⊢
              have hO9 : W9.ownsRow V0.heap.size 70 2 (.slice a9 (A.L.length + 1) cap9) (A.L.length + 1) (recV encP (plsR (updI D.g x ⟨r, bb, bc, v⟩) (A.added x f).L)) := by
                rw [show (A.added x f).L = insL A.L ⟨x, Sl.new A.sz A.co f⟩ from rfl, HEN.out ⟨r, bb, bc, v⟩, recV_append, recV_append, recV_single]
                exact owns_base (by simpa using hown) (fun q hq => by have := (hown.lt q hq).1; have := HC1.out; omega)
              have HT := Lib.hid (show DAdd w D A x f bb (.returned (.int .i64 0)) (W9.setCell ⟨D.d, 2, none⟩ (.slice a9 (A.L.length + 1) cap9)) from ⟨rfl, _, HU.out.done HR.out HBB.out hx HN.out HK9.out hO9⟩)
              refine ⟨HK9.out, ?_⟩
              have d2 : W9.cell? ⟨D.d, 2, none⟩ = some (.slice D.a A.L.length D.c) := (HU.out.row.later HK9.out).cell 2 (by decide)
              have z2 : W9.frozen? ⟨D.d, 2, none⟩ = false := (HU.out.row.later HK9.out).frozen 2
              clear hO9 hown ho HO8 HK8 HB8 HK9 HP1 HP2 HEN hq9
              simp only [List.getElem_toArray, List.getElem_cons_succ, List.getElem_cons_zero, Act.put, List.setIfInBounds_toArray, List.set_cons_zero, List.set_cons_succ]
              refine lexP_yieldE rfl rfl ?_
              apply Exists.intro
              refine ⟨fun W hW => ?_, ?_⟩
              focus (go_simp; exact rfl)
              simp only [List.getElem_toArray, List.getElem_cons_succ, List.getElem_cons_zero, Act.put, List.setIfInBounds_toArray, List.set_cons_zero, List.set_cons_succ]
              refine lexP_yieldE rfl rfl ?_
              apply Exists.intro
              refine ⟨fun W hW => ?_, ?_⟩
              focus (go_simp; exact rfl)
              simp only [List.getElem_toArray, List.getElem_cons_succ, List.getElem_cons_zero, Act.put, List.setIfInBounds_toArray, List.set_cons_zero, List.set_cons_succ]
              refine lexP_last rfl rfl ?_
              unfold Oper.wp
              go_simp
              go_wp2_with (fail)
              go_ret
              exact HT.out
          · refine lexP_step rfl rfl ?_
            unfold Oper.wp
            go_simp
            have HK1 := Lib.hid (show Below V0.heap.size V0 (W0.alloc (.cells #[.int .i64 x, .pointer (some ⟨r, 0, none⟩)] 70)) from HK0.out.alloc HK0.out.size _)
            have HX1 := Lib.hid (place_row W0 x r)
            refine ⟨HK1.out, ?_⟩
            clear HK0
            generalize W0.alloc (.cells #[.int .i64 x, .pointer (some ⟨r, 0, none⟩)] 70) = W1 at *
            generalize W0.heap.size = cb at *
            have HXL := Lib.hid HX1.out.lt
            refine lexP_step rfl rfl ?_
            unfold Oper.wp
            go_simp
            have HK2 := Lib.hid (show Below V0.heap.size V0 (W1.alloc (.cells #[] 70)) from HK1.out.alloc HK1.out.size _)
            have HO2 := Lib.hid (World.ownsRow_made W1 (e := 70) (base := W1.heap.size) (size := 2) #[] 0 (Nat.le_refl _) (Nat.zero_le _) (by simp))
            have HB2 := Lib.hid (show W1.heap.size ≤ (W1.alloc (.cells #[] 70)).heap.size by simp)
            have HC1 := Lib.hid HK1.out.size
            have HX2 := Lib.hid (HX1.out.alloc (.cells #[] 70))
            refine ⟨HK2.out, ?_⟩
            clear HK1 HX1
            generalize W1.alloc (.cells #[] 70) = W2 at *
            generalize W1.heap.size = b1 at *
            refine lexP_step rfl rfl ?_
            refine wp_append_src _ _ _ 63 rfl b1 70 i0 _ 2 16 Try.underlying63 hi hz0 hz1 hz2 rfl (by decide) _ _ _ HO2.out HB2.out D.a k D.c (recV encP ((plsR D.g A.L).take k)) rfl rfl (by rw [recV_len encP_len, List.length_take, plsR_len, Nat.min_eq_left hk]) (HP1.out _ HK2.out) (recV_one encP_one _) (by omega) (by decide) ?_
            intro v3 W3 hown ho _
            have HO3 := Lib.hid hown
            have HK3 := Lib.hid (show Below V0.heap.size V0 W3 from ho.below HK2.out HK2.out.size (fun q hq => by have := (HO2.out.lt q hq).1; have := HC1.out; omega))
            have HB3 := Lib.hid (Nat.le_trans HB2.out ho.size)
            have HX3 := Lib.hid (HX2.out.only ho (fun e => by have h := (HO2.out.lt _ e).1; have := HXL.out; omega))
            refine ⟨HK3.out, ?_⟩
            clear hown ho HK2 HO2 HB2 HX2
            simp only [List.getElem_toArray, List.getElem_cons_succ, List.getElem_cons_zero, Act.put, List.setIfInBounds_toArray, List.set_cons_zero, List.set_cons_succ]
            refine lexP_step rfl rfl ?_
            refine wp_append_src _ _ _ 63 rfl b1 70 i0 _ 2 16 Try.underlying63 hi hz0 hz1 hz2 rfl (by decide) _ _ _ HO3.out HB3.out (some ⟨cb, 0, none⟩) 1 1 (encP (x, r)) rfl rfl rfl (fun _ => ⟨_, rfl, fun q uu hq => place_src HX3.out q uu hq⟩) (encP_one _) (by omega) (by decide) ?_
            intro v8 W8 hown ho _
            have HO8 := Lib.hid hown
            have HK8 := Lib.hid (show Below V0.heap.size V0 W8 from ho.below HK3.out HK3.out.size (fun q hq => by have := (HO3.out.lt q hq).1; have := HC1.out; omega))
            have HB8 := Lib.hid (Nat.le_trans HB3.out ho.size)
            refine ⟨HK8.out, ?_⟩
            clear hown ho HK3 HO3 HB3 HX3
            simp only [List.getElem_toArray, List.getElem_cons_succ, List.getElem_cons_zero, Act.put, List.setIfInBounds_toArray, List.set_cons_zero, List.set_cons_succ]
            refine lexP_step rfl rfl ?_
            refine wp_append_src _ _ _ 63 rfl b1 70 i0 _ 2 16 Try.underlying63 hi hz0 hz1 hz2 rfl (by decide) _ _ _ HO8.out HB8.out A2 (A.L.length - k) (D.c - k) (recV encP ((plsR D.g A.L).drop k)) rfl rfl (by rw [recV_len encP_len, List.length_drop, plsR_len]) (HP2.out _ HK8.out) (recV_one encP_one _) (by omega) (by decide) ?_
            intro v9 W9 hown ho _
            have HK9 := Lib.hid (show Below V0.heap.size V0 W9 from ho.below HK8.out HK8.out.size (fun q hq => by have := (HO8.out.lt q hq).1; have := HC1.out; omega))
            obtain ⟨a9, cap9, hv9, _⟩ := owns_slice hown
            subst hv9
            have hq9 : 0 + k + 1 + (A.L.length - k) = A.L.length + 1 := by omega
            rw [hq9] at hown ⊢
            have hO9 : W9.ownsRow V0.heap.size 70 2 (.slice a9 (A.L.length + 1) cap9) (A.L.length + 1) (recV encP (plsR (updI D.g x ⟨r, bb, bc, v⟩) (A.added x f).L)) := by
              rw [show (A.added x f).L = insL A.L ⟨x, Sl.new A.sz A.co f⟩ from rfl, HEN.out ⟨r, bb, bc, v⟩, recV_append, recV_append, recV_single]
              exact owns_base (by simpa using hown) (fun q hq => by have := (hown.lt q hq).1; have := HC1.out; omega)
            have HT := Lib.hid (show DAdd w D A x f bb (.returned (.int .i64 0)) (W9.setCell ⟨D.d, 2, none⟩ (.slice a9 (A.L.length + 1) cap9)) from ⟨rfl, _, HU.out.done HR.out HBB.out hx HN.out HK9.out hO9⟩)
            refine ⟨HK9.out, ?_⟩
            have d2 : W9.cell? ⟨D.d, 2, none⟩ = some (.slice D.a A.L.length D.c) := (HU.out.row.later HK9.out).cell 2 (by decide)
            have z2 : W9.frozen? ⟨D.d, 2, none⟩ = false := (HU.out.row.later HK9.out).frozen 2
            clear hO9 hown ho HO8 HK8 HB8 HK9 HP1 HP2 HEN hq9
            simp only [List.getElem_toArray, List.getElem_cons_succ, List.getElem_cons_zero, Act.put, List.setIfInBounds_toArray, List.set_cons_zero, List.set_cons_succ]
            refine lexP_yieldE rfl rfl ?_
            apply Exists.intro
            refine ⟨fun W hW => ?_, ?_⟩
            focus (go_simp; exact rfl)
            simp only [List.getElem_toArray, List.getElem_cons_succ, List.getElem_cons_zero, Act.put, List.setIfInBounds_toArray, List.set_cons_zero, List.set_cons_succ]
            refine lexP_yieldE rfl rfl ?_
            apply Exists.intro
            refine ⟨fun W hW => ?_, ?_⟩
            focus (go_simp; exact rfl)
            simp only [List.getElem_toArray, List.getElem_cons_succ, List.getElem_cons_zero, Act.put, List.setIfInBounds_toArray, List.set_cons_zero, List.set_cons_succ]
            refine lexP_last rfl rfl ?_
            unfold Oper.wp
            go_simp
            go_wp2_with (fail)
            go_ret
            exact HT.out
      · obtain rfl : k = A.L.length := by omega
        have HEN := HEX.out (fun h => absurd h hlt)
        clear HEX HJ
        obtain ⟨k, hkk⟩ : ∃ k, k = A.L.length := ⟨_, rfl⟩
        rw [← hkk] at HEN
        go_wp2_with (fail)
        rw [show (A.L.length : Int) = (k : Int) by rw [hkk]]
        have hk : k ≤ A.L.length := by omega
        clear hlt hkk
        have hcap := HR.out.cap
        have L1 := Lib.hid (show ∀ W, Kept V0.heap.size V0 W → (loadVar 63 ⟨D.d, 2, none⟩).run Try.prog W = .ok (.slice D.a A.L.length D.c) W from fun W hW => run_loadVar_cell (fun _ => by kernel_rfl) ((HU.out.row.later hW.below).cell 2 (by decide)))
        have S1 := Lib.hid (fun W (_ : Kept V0.heap.size V0 W) => run_sub_toN (P := Try.prog) Try.underlying63 sizePlace D.a A.L.length D.c k (by omega) W)
        have S2 := Lib.hid (fun W (_ : Kept V0.heap.size V0 W) => run_sub_fromN (P := Try.prog) Try.underlying63 sizePlace D.a A.L.length D.c k hk W)
        have HSRC := Lib.hid (HU.out.lst.src encP_len)
        have HP1 := Lib.hid (show ∀ W, Below V0.heap.size V0 W → (0 < k → ∃ ad, D.a = some ad ∧ ∀ j u, (recV encP ((plsR D.g A.L).take k))[j]? = some u → W.cell? (ad.add j) = some u) from fun W hW hp => by
          obtain ⟨ad, e, h⟩ := HSRC.out (by rw [plsR_len]; omega)
          refine ⟨ad, e, fun j u hj => ?_⟩
          rw [← recV_take encP_len] at hj
          have hj2 : (recV encP (plsR D.g A.L))[j]? = some u := by
            rw [List.getElem?_take] at hj
            split at hj
            · exact hj
            · cases hj
          have hc := h j u hj2
          rw [World.cell?_of_block (hW.block _ (World.block_lt_of_cell? _ _ hc))]
          exact hc)
        have HP2 := Lib.hid (show ∀ W, Below V0.heap.size V0 W → (0 < A.L.length - k → ∃ ad, (if D.c = k then D.a else D.a.map fun x => x.add (k * 2)) = some ad ∧ ∀ j u, (recV encP ((plsR D.g A.L).drop k))[j]? = some u → W.cell? (ad.add j) = some u) from fun W hW hp => by
          obtain ⟨g, e, _, _, B, t, hB, hx⟩ := HU.out.lst (by rw [plsR_len]; omega)
          refine ⟨⟨g, k * 2, none⟩, by rw [if_neg (by omega), e, Option.map_some, Addr.add_lit, Nat.zero_add], fun j u hj => ?_⟩
          rw [← recV_drop encP_len, List.getElem?_drop] at hj
          have hlt := (List.getElem?_eq_some_iff.1 hj).1
          rw [recV_len encP_len] at hlt
          have hc : V0.cell? ⟨g, k * 2 + j, none⟩ = some u := by rw [cell_of_row _ _ _ _ _ _ hB, hx _ hlt]; exact hj
          rw [Addr.add_lit, hW.cell (World.block_lt_of_cell? _ _ hc)]
          exact hc)
        clear HSRC
        generalize (if D.c = k then D.a else D.a.map fun x => x.add (k * 2)) = A2 at S2 HP2
        refine wp_region_plan (Kept V0.heap.size V0) (.take 0 (.take 2 (.take 3 (.take 4 (.take 5 (.take 6 (.take 7 (.take 9 (.take 10 (.take 11 (.take 14 (.take 15 (.take 16 (.take 17 (.take 18 (.take 19 (.step 1 (.step 8 (.step 12 (.step 13 (.step 20 (.take 21 (.take 22 .fin)) .fin) .fin) .fin) (.step 12 (.step 8 (.step 13 (.step 20 (.take 21 (.take 22 .fin)) .fin) .fin) .fin) .fin)) (.step 12 (.step 1 (.step 8 (.step 13 (.step 20 (.take 21 (.take 22 .fin)) .fin) .fin) .fin) .fin) .fin)))))))))))))))))) 23
          (by kernel_rfl) (by kernel_rfl) (by kernel_rfl) (Below.refl _ V0).drew ?_
        intro W0 hW0 hK0
        clear hW0
        refine lexP_yieldE rfl rfl ?_
        apply Exists.intro
        refine ⟨fun W hW => ?_, ?_⟩
        focus (go_simp; exact rfl)
        simp only [List.getElem_toArray, List.getElem_cons_zero, Act.put, List.setIfInBounds_toArray, List.set_cons_zero, List.set_cons_succ]
        refine lexP_yieldE rfl rfl ?_
        apply Exists.intro
        refine ⟨fun W hW => ?_, ?_⟩
        focus (go_simp; exact rfl)
        simp only [List.getElem_toArray, List.getElem_cons_succ, List.getElem_cons_zero, Act.put, List.setIfInBounds_toArray, List.set_cons_zero, List.set_cons_succ]
        refine lexP_yieldE rfl rfl ?_
        apply Exists.intro
        refine ⟨fun W hW => ?_, ?_⟩
        focus (go_simp; exact rfl)
        simp only [List.getElem_toArray, List.getElem_cons_succ, List.getElem_cons_zero, Act.put, List.setIfInBounds_toArray, List.set_cons_zero, List.set_cons_succ]
        refine lexP_yieldE rfl rfl ?_
        apply Exists.intro
        refine ⟨fun W hW => ?_, ?_⟩
        focus (go_simp; exact rfl)
        simp only [List.getElem_toArray, List.getElem_cons_succ, List.getElem_cons_zero, Act.put, List.setIfInBounds_toArray, List.set_cons_zero, List.set_cons_succ]
        refine lexP_load rfl rfl _ _ rfl rfl L1.out ?_
        simp only [List.getElem_toArray, List.getElem_cons_succ, List.getElem_cons_zero, Act.put, List.setIfInBounds_toArray, List.set_cons_zero, List.set_cons_succ]
        refine lexP_yieldE rfl rfl ?_
        apply Exists.intro
        refine ⟨fun W hW => ?_, ?_⟩
        focus (go_simp; exact rfl)
        simp only [List.getElem_toArray, List.getElem_cons_succ, List.getElem_cons_zero, Act.put, List.setIfInBounds_toArray, List.set_cons_zero, List.set_cons_succ]
        refine lexP_slice rfl rfl _ _ _ _ _ rfl S1.out ?_
        simp only [List.getElem_toArray, List.getElem_cons_succ, List.getElem_cons_zero, Act.put, List.setIfInBounds_toArray, List.set_cons_zero, List.set_cons_succ]
        refine lexP_yieldE rfl rfl ?_
        apply Exists.intro
        refine ⟨fun W hW => ?_, ?_⟩
        focus (go_simp; exact rfl)
        simp only [List.getElem_toArray, List.getElem_cons_succ, List.getElem_cons_zero, Act.put, List.setIfInBounds_toArray, List.set_cons_zero, List.set_cons_succ]
        refine lexP_yieldE rfl rfl ?_
        apply Exists.intro
        refine ⟨fun W hW => ?_, ?_⟩
        focus (go_simp; exact rfl)
        simp only [List.getElem_toArray, List.getElem_cons_succ, List.getElem_cons_zero, Act.put, List.setIfInBounds_toArray, List.set_cons_zero, List.set_cons_succ]
        refine lexP_yieldE rfl rfl ?_
        apply Exists.intro
        refine ⟨fun W hW => ?_, ?_⟩
        focus (go_simp; exact rfl)
        simp only [List.getElem_toArray, List.getElem_cons_succ, List.getElem_cons_zero, Act.put, List.setIfInBounds_toArray, List.set_cons_zero, List.set_cons_succ]
        refine lexP_yieldE rfl rfl ?_
        apply Exists.intro
        refine ⟨fun W hW => ?_, ?_⟩
        focus (go_simp; exact rfl)
        simp only [List.getElem_toArray, List.getElem_cons_succ, List.getElem_cons_zero, Act.put, List.setIfInBounds_toArray, List.set_cons_zero, List.set_cons_succ]
        refine lexP_yieldE rfl rfl ?_
        apply Exists.intro
        refine ⟨fun W hW => ?_, ?_⟩
        focus (go_simp; exact rfl)
        simp only [List.getElem_toArray, List.getElem_cons_succ, List.getElem_cons_zero, Act.put, List.setIfInBounds_toArray, List.set_cons_zero, List.set_cons_succ]
        refine lexP_yieldE rfl rfl ?_
        apply Exists.intro
        refine ⟨fun W hW => ?_, ?_⟩
        focus (go_simp; exact rfl)
        simp only [List.getElem_toArray, List.getElem_cons_succ, List.getElem_cons_zero, Act.put, List.setIfInBounds_toArray, List.set_cons_zero, List.set_cons_succ]
        refine lexP_load rfl rfl _ _ rfl rfl L1.out ?_
        simp only [List.getElem_toArray, List.getElem_cons_succ, List.getElem_cons_zero, Act.put, List.setIfInBounds_toArray, List.set_cons_zero, List.set_cons_succ]
        refine lexP_yieldE rfl rfl ?_
        apply Exists.intro
        refine ⟨fun W hW => ?_, ?_⟩
        focus (go_simp; exact rfl)
        simp only [List.getElem_toArray, List.getElem_cons_succ, List.getElem_cons_zero, Act.put, List.setIfInBounds_toArray, List.set_cons_zero, List.set_cons_succ]
        refine lexP_slice rfl rfl _ _ _ _ _ rfl S2.out ?_
        simp only [List.getElem_toArray, List.getElem_cons_succ, List.getElem_cons_zero, Act.put, List.setIfInBounds_toArray, List.set_cons_zero, List.set_cons_succ]
        have HK0 := Lib.hid (show Below V0.heap.size V0 W0 from hK0.below)
        clear hK0 L1 S1 S2
        refine lexP_or rfl rfl ?_ ?_
        · unfold Oper.wp
          go_simp
          have HK1 := Lib.hid (show Below V0.heap.size V0 (W0.alloc (.cells #[] 70)) from HK0.out.alloc HK0.out.size _)
          have HO1 := Lib.hid (World.ownsRow_made W0 (e := 70) (base := W0.heap.size) (size := 2) #[] 0 (Nat.le_refl _) (Nat.zero_le _) (by simp))
          have HB1 := Lib.hid (show W0.heap.size ≤ (W0.alloc (.cells #[] 70)).heap.size by simp)
          have HC1 := Lib.hid HK0.out.size
          refine ⟨HK1.out, ?_⟩
          clear HK0 
          generalize W0.alloc (.cells #[] 70) = W1 at *
          generalize W0.heap.size = b1 at *
          refine lexP_or rfl rfl ?_ ?_
          · refine wp_append_src _ _ _ 63 rfl b1 70 i0 _ 2 16 Try.underlying63 hi hz0 hz1 hz2 rfl (by decide) _ _ _ HO1.out HB1.out D.a k D.c (recV encP ((plsR D.g A.L).take k)) rfl rfl (by rw [recV_len encP_len, List.length_take, plsR_len, Nat.min_eq_left hk]) (HP1.out _ HK1.out) (recV_one encP_one _) (by omega) (by decide) ?_
            intro v2 W2 hown ho _
            have HO2 := Lib.hid hown
            have HK2 := Lib.hid (show Below V0.heap.size V0 W2 from ho.below HK1.out HK1.out.size (fun q hq => by have := (HO1.out.lt q hq).1; have := HC1.out; omega))
            have HB2 := Lib.hid (Nat.le_trans HB1.out ho.size)
            refine ⟨HK2.out, ?_⟩
            clear hown ho HK1 HO1 HB1
            simp only [List.getElem_toArray, List.getElem_cons_succ, List.getElem_cons_zero, Act.put, List.setIfInBounds_toArray, List.set_cons_zero, List.set_cons_succ]
            refine lexP_step rfl rfl ?_
            unfold Oper.wp
            go_simp
            have HK3 := Lib.hid (show Below V0.heap.size V0 (W2.alloc (.cells #[.int .i64 x, .pointer (some ⟨r, 0, none⟩)] 70)) from HK2.out.alloc HK2.out.size _)
            have HX3 := Lib.hid (place_row W2 x r)
            have HO3 := Lib.hid (HO2.out.alloc (.cells #[.int .i64 x, .pointer (some ⟨r, 0, none⟩)] 70))
            have HB3 := Lib.hid (show b1 ≤ (W2.alloc (.cells #[.int .i64 x, .pointer (some ⟨r, 0, none⟩)] 70)).heap.size from Nat.le_trans HB2.out (by simp))
            have HE := Lib.hid (fun q hq => (HO2.out.lt q hq).2)
            refine ⟨HK3.out, ?_⟩
            clear HK2 HO2 HB2
            generalize W2.alloc (.cells #[.int .i64 x, .pointer (some ⟨r, 0, none⟩)] 70) = W3 at *
            generalize W2.heap.size = cb at *
            refine lexP_step rfl rfl ?_
            refine wp_append_src _ _ _ 63 rfl b1 70 i0 _ 2 16 Try.underlying63 hi hz0 hz1 hz2 rfl (by decide) _ _ _ HO3.out HB3.out (some ⟨cb, 0, none⟩) 1 1 (encP (x, r)) rfl rfl rfl (fun _ => ⟨_, rfl, fun q uu hq => place_src HX3.out q uu hq⟩) (encP_one _) (by omega) (by decide) ?_
            intro v8 W8 hown ho _
            have HO8 := Lib.hid hown
            have HK8 := Lib.hid (show Below V0.heap.size V0 W8 from ho.below HK3.out HK3.out.size (fun q hq => by have := (HO3.out.lt q hq).1; have := HC1.out; omega))
            have HB8 := Lib.hid (Nat.le_trans HB3.out ho.size)
            refine ⟨HK8.out, ?_⟩
            clear hown ho HK3 HO3 HB3 HX3
            simp only [List.getElem_toArray, List.getElem_cons_succ, List.getElem_cons_zero, Act.put, List.setIfInBounds_toArray, List.set_cons_zero, List.set_cons_succ]
            refine lexP_step rfl rfl ?_
            refine wp_append_src _ _ _ 63 rfl b1 70 i0 _ 2 16 Try.underlying63 hi hz0 hz1 hz2 rfl (by decide) _ _ _ HO8.out HB8.out A2 (A.L.length - k) (D.c - k) (recV encP ((plsR D.g A.L).drop k)) rfl rfl (by rw [recV_len encP_len, List.length_drop, plsR_len]) (HP2.out _ HK8.out) (recV_one encP_one _) (by omega) (by decide) ?_
            intro v9 W9 hown ho _
            have HK9 := Lib.hid (show Below V0.heap.size V0 W9 from ho.below HK8.out HK8.out.size (fun q hq => by have := (HO8.out.lt q hq).1; have := HC1.out; omega))
            obtain ⟨a9, cap9, hv9, _⟩ := owns_slice hown
            subst hv9
            have hq9 : 0 + k + 1 + (A.L.length - k) = A.L.length + 1 := by omega
            rw [hq9] at hown ⊢
            have hO9 : W9.ownsRow V0.heap.size 70 2 (.slice a9 (A.L.length + 1) cap9) (A.L.length + 1) (recV encP (plsR (updI D.g x ⟨r, bb, bc, v⟩) (A.added x f).L)) := by
              rw [show (A.added x f).L = insL A.L ⟨x, Sl.new A.sz A.co f⟩ from rfl, HEN.out ⟨r, bb, bc, v⟩, recV_append, recV_append, recV_single]
              exact owns_base (by simpa using hown) (fun q hq => by have := (hown.lt q hq).1; have := HC1.out; omega)
            have HT := Lib.hid (show DAdd w D A x f bb (.returned (.int .i64 0)) (W9.setCell ⟨D.d, 2, none⟩ (.slice a9 (A.L.length + 1) cap9)) from ⟨rfl, _, HU.out.done HR.out HBB.out hx HN.out HK9.out hO9⟩)
            refine ⟨HK9.out, ?_⟩
            have d2 : W9.cell? ⟨D.d, 2, none⟩ = some (.slice D.a A.L.length D.c) := (HU.out.row.later HK9.out).cell 2 (by decide)
            have z2 : W9.frozen? ⟨D.d, 2, none⟩ = false := (HU.out.row.later HK9.out).frozen 2
            clear hO9 hown ho HO8 HK8 HB8 HK9 HP1 HP2 HEN hq9
            simp only [List.getElem_toArray, List.getElem_cons_succ, List.getElem_cons_zero, Act.put, List.setIfInBounds_toArray, List.set_cons_zero, List.set_cons_succ]
            refine lexP_yieldE rfl rfl ?_
            apply Exists.intro
            refine ⟨fun W hW => ?_, ?_⟩
            focus (go_simp; exact rfl)
            simp only [List.getElem_toArray, List.getElem_cons_succ, List.getElem_cons_zero, Act.put, List.setIfInBounds_toArray, List.set_cons_zero, List.set_cons_succ]
            refine lexP_yieldE rfl rfl ?_
            apply Exists.intro
            refine ⟨fun W hW => ?_, ?_⟩
            focus (go_simp; exact rfl)
            simp only [List.getElem_toArray, List.getElem_cons_succ, List.getElem_cons_zero, Act.put, List.setIfInBounds_toArray, List.set_cons_zero, List.set_cons_succ]
            refine lexP_last rfl rfl ?_
            unfold Oper.wp
            go_simp
            go_wp2_with (fail)
            go_ret
            exact HT.out
          · refine lexP_step rfl rfl ?_
            unfold Oper.wp
            go_simp
            have HK2 := Lib.hid (show Below V0.heap.size V0 (W1.alloc (.cells #[.int .i64 x, .pointer (some ⟨r, 0, none⟩)] 70)) from HK1.out.alloc HK1.out.size _)
            have HX2 := Lib.hid (place_row W1 x r)
            have HO2 := Lib.hid (HO1.out.alloc (.cells #[.int .i64 x, .pointer (some ⟨r, 0, none⟩)] 70))
            have HB2 := Lib.hid (show b1 ≤ (W1.alloc (.cells #[.int .i64 x, .pointer (some ⟨r, 0, none⟩)] 70)).heap.size from Nat.le_trans HB1.out (by simp))
            have HE := Lib.hid (fun q hq => (HO1.out.lt q hq).2)
            refine ⟨HK2.out, ?_⟩
            clear HK1 HO1 HB1
            generalize W1.alloc (.cells #[.int .i64 x, .pointer (some ⟨r, 0, none⟩)] 70) = W2 at *
            generalize W1.heap.size = cb at *
            refine lexP_step rfl rfl ?_
            refine wp_append_src _ _ _ 63 rfl b1 70 i0 _ 2 16 Try.underlying63 hi hz0 hz1 hz2 rfl (by decide) _ _ _ HO2.out HB2.out D.a k D.c (recV encP ((plsR D.g A.L).take k)) rfl rfl (by rw [recV_len encP_len, List.length_take, plsR_len, Nat.min_eq_left hk]) (HP1.out _ HK2.out) (recV_one encP_one _) (by omega) (by decide) ?_
            intro v3 W3 hown ho _
            have HO3 := Lib.hid hown
            have HK3 := Lib.hid (show Below V0.heap.size V0 W3 from ho.below HK2.out HK2.out.size (fun q hq => by have := (HO2.out.lt q hq).1; have := HC1.out; omega))
            have HB3 := Lib.hid (Nat.le_trans HB2.out ho.size)
            have HX3 := Lib.hid (HX2.out.only ho (fun e => absurd (HE.out _ e) (Nat.lt_irrefl _)))
            refine ⟨HK3.out, ?_⟩
            clear hown ho HK2 HO2 HB2 HX2
            simp only [List.getElem_toArray, List.getElem_cons_succ, List.getElem_cons_zero, Act.put, List.setIfInBounds_toArray, List.set_cons_zero, List.set_cons_succ]
            refine lexP_step rfl rfl ?_
            refine wp_append_src _ _ _ 63 rfl b1 70 i0 _ 2 16 Try.underlying63 hi hz0 hz1 hz2 rfl (by decide) _ _ _ HO3.out HB3.out (some ⟨cb, 0, none⟩) 1 1 (encP (x, r)) rfl rfl rfl (fun _ => ⟨_, rfl, fun q uu hq => place_src HX3.out q uu hq⟩) (encP_one _) (by omega) (by decide) ?_
            intro v8 W8 hown ho _
            have HO8 := Lib.hid hown
            have HK8 := Lib.hid (show Below V0.heap.size V0 W8 from ho.below HK3.out HK3.out.size (fun q hq => by have := (HO3.out.lt q hq).1; have := HC1.out; omega))
            have HB8 := Lib.hid (Nat.le_trans HB3.out ho.size)
            refine ⟨HK8.out, ?_⟩
            clear hown ho HK3 HO3 HB3 HX3
            simp only [List.getElem_toArray, List.getElem_cons_succ, List.getElem_cons_zero, Act.put, List.setIfInBounds_toArray, List.set_cons_zero, List.set_cons_succ]
            refine lexP_step rfl rfl ?_
            refine wp_append_src _ _ _ 63 rfl b1 70 i0 _ 2 16 Try.underlying63 hi hz0 hz1 hz2 rfl (by decide) _ _ _ HO8.out HB8.out A2 (A.L.length - k) (D.c - k) (recV encP ((plsR D.g A.L).drop k)) rfl rfl (by rw [recV_len encP_len, List.length_drop, plsR_len]) (HP2.out _ HK8.out) (recV_one encP_one _) (by omega) (by decide) ?_
            intro v9 W9 hown ho _
            have HK9 := Lib.hid (show Below V0.heap.size V0 W9 from ho.below HK8.out HK8.out.size (fun q hq => by have := (HO8.out.lt q hq).1; have := HC1.out; omega))
            obtain ⟨a9, cap9, hv9, _⟩ := owns_slice hown
            subst hv9
            have hq9 : 0 + k + 1 + (A.L.length - k) = A.L.length + 1 := by omega
            rw [hq9] at hown ⊢
            have hO9 : W9.ownsRow V0.heap.size 70 2 (.slice a9 (A.L.length + 1) cap9) (A.L.length + 1) (recV encP (plsR (updI D.g x ⟨r, bb, bc, v⟩) (A.added x f).L)) := by
              rw [show (A.added x f).L = insL A.L ⟨x, Sl.new A.sz A.co f⟩ from rfl, HEN.out ⟨r, bb, bc, v⟩, recV_append, recV_append, recV_single]
              exact owns_base (by simpa using hown) (fun q hq => by have := (hown.lt q hq).1; have := HC1.out; omega)
            have HT := Lib.hid (show DAdd w D A x f bb (.returned (.int .i64 0)) (W9.setCell ⟨D.d, 2, none⟩ (.slice a9 (A.L.length + 1) cap9)) from ⟨rfl, _, HU.out.done HR.out HBB.out hx HN.out HK9.out hO9⟩)
            refine ⟨HK9.out, ?_⟩
            have d2 : W9.cell? ⟨D.d, 2, none⟩ = some (.slice D.a A.L.length D.c) := (HU.out.row.later HK9.out).cell 2 (by decide)
            have z2 : W9.frozen? ⟨D.d, 2, none⟩ = false := (HU.out.row.later HK9.out).frozen 2
            clear hO9 hown ho HO8 HK8 HB8 HK9 HP1 HP2 HEN hq9
            simp only [List.getElem_toArray, List.getElem_cons_succ, List.getElem_cons_zero, Act.put, List.setIfInBounds_toArray, List.set_cons_zero, List.set_cons_succ]
            refine lexP_yieldE rfl rfl ?_
            apply Exists.intro
            refine ⟨fun W hW => ?_, ?_⟩
            focus (go_simp; exact rfl)
            simp only [List.getElem_toArray, List.getElem_cons_succ, List.getElem_cons_zero, Act.put, List.setIfInBounds_toArray, List.set_cons_zero, List.set_cons_succ]
            refine lexP_yieldE rfl rfl ?_
            apply Exists.intro
            refine ⟨fun W hW => ?_, ?_⟩
            focus (go_simp; exact rfl)
            simp only [List.getElem_toArray, List.getElem_cons_succ, List.getElem_cons_zero, Act.put, List.setIfInBounds_toArray, List.set_cons_zero, List.set_cons_succ]
            refine lexP_last rfl rfl ?_
            unfold Oper.wp
            go_simp
            go_wp2_with (fail)
            go_ret
            exact HT.out
        · refine lexP_step rfl rfl ?_
          unfold Oper.wp
          go_simp
          have HK1 := Lib.hid (show Below V0.heap.size V0 (W0.alloc (.cells #[.int .i64 x, .pointer (some ⟨r, 0, none⟩)] 70)) from HK0.out.alloc HK0.out.size _)
          have HX1 := Lib.hid (place_row W0 x r)
          refine ⟨HK1.out, ?_⟩
          clear HK0
          generalize W0.alloc (.cells #[.int .i64 x, .pointer (some ⟨r, 0, none⟩)] 70) = W1 at *
          generalize W0.heap.size = cb at *
          have HXL := Lib.hid HX1.out.lt
          refine lexP_step rfl rfl ?_
          unfold Oper.wp
          go_simp
          have HK2 := Lib.hid (show Below V0.heap.size V0 (W1.alloc (.cells #[] 70)) from HK1.out.alloc HK1.out.size _)
          have HO2 := Lib.hid (World.ownsRow_made W1 (e := 70) (base := W1.heap.size) (size := 2) #[] 0 (Nat.le_refl _) (Nat.zero_le _) (by simp))
          have HB2 := Lib.hid (show W1.heap.size ≤ (W1.alloc (.cells #[] 70)).heap.size by simp)
          have HC1 := Lib.hid HK1.out.size
          have HX2 := Lib.hid (HX1.out.alloc (.cells #[] 70))
          refine ⟨HK2.out, ?_⟩
          clear HK1 HX1
          generalize W1.alloc (.cells #[] 70) = W2 at *
          generalize W1.heap.size = b1 at *
          refine lexP_step rfl rfl ?_
          refine wp_append_src _ _ _ 63 rfl b1 70 i0 _ 2 16 Try.underlying63 hi hz0 hz1 hz2 rfl (by decide) _ _ _ HO2.out HB2.out D.a k D.c (recV encP ((plsR D.g A.L).take k)) rfl rfl (by rw [recV_len encP_len, List.length_take, plsR_len, Nat.min_eq_left hk]) (HP1.out _ HK2.out) (recV_one encP_one _) (by omega) (by decide) ?_
          intro v3 W3 hown ho _
          have HO3 := Lib.hid hown
          have HK3 := Lib.hid (show Below V0.heap.size V0 W3 from ho.below HK2.out HK2.out.size (fun q hq => by have := (HO2.out.lt q hq).1; have := HC1.out; omega))
          have HB3 := Lib.hid (Nat.le_trans HB2.out ho.size)
          have HX3 := Lib.hid (HX2.out.only ho (fun e => by have h := (HO2.out.lt _ e).1; have := HXL.out; omega))
          refine ⟨HK3.out, ?_⟩
          clear hown ho HK2 HO2 HB2 HX2
          simp only [List.getElem_toArray, List.getElem_cons_succ, List.getElem_cons_zero, Act.put, List.setIfInBounds_toArray, List.set_cons_zero, List.set_cons_succ]
          refine lexP_step rfl rfl ?_
          refine wp_append_src _ _ _ 63 rfl b1 70 i0 _ 2 16 Try.underlying63 hi hz0 hz1 hz2 rfl (by decide) _ _ _ HO3.out HB3.out (some ⟨cb, 0, none⟩) 1 1 (encP (x, r)) rfl rfl rfl (fun _ => ⟨_, rfl, fun q uu hq => place_src HX3.out q uu hq⟩) (encP_one _) (by omega) (by decide) ?_
          intro v8 W8 hown ho _
          have HO8 := Lib.hid hown
          have HK8 := Lib.hid (show Below V0.heap.size V0 W8 from ho.below HK3.out HK3.out.size (fun q hq => by have := (HO3.out.lt q hq).1; have := HC1.out; omega))
          have HB8 := Lib.hid (Nat.le_trans HB3.out ho.size)
          refine ⟨HK8.out, ?_⟩
          clear hown ho HK3 HO3 HB3 HX3
          simp only [List.getElem_toArray, List.getElem_cons_succ, List.getElem_cons_zero, Act.put, List.setIfInBounds_toArray, List.set_cons_zero, List.set_cons_succ]
          refine lexP_step rfl rfl ?_
          refine wp_append_src _ _ _ 63 rfl b1 70 i0 _ 2 16 Try.underlying63 hi hz0 hz1 hz2 rfl (by decide) _ _ _ HO8.out HB8.out A2 (A.L.length - k) (D.c - k) (recV encP ((plsR D.g A.L).drop k)) rfl rfl (by rw [recV_len encP_len, List.length_drop, plsR_len]) (HP2.out _ HK8.out) (recV_one encP_one _) (by omega) (by decide) ?_
          intro v9 W9 hown ho _
          have HK9 := Lib.hid (show Below V0.heap.size V0 W9 from ho.below HK8.out HK8.out.size (fun q hq => by have := (HO8.out.lt q hq).1; have := HC1.out; omega))
          obtain ⟨a9, cap9, hv9, _⟩ := owns_slice hown
          subst hv9
          have hq9 : 0 + k + 1 + (A.L.length - k) = A.L.length + 1 := by omega
          rw [hq9] at hown ⊢
          have hO9 : W9.ownsRow V0.heap.size 70 2 (.slice a9 (A.L.length + 1) cap9) (A.L.length + 1) (recV encP (plsR (updI D.g x ⟨r, bb, bc, v⟩) (A.added x f).L)) := by
            rw [show (A.added x f).L = insL A.L ⟨x, Sl.new A.sz A.co f⟩ from rfl, HEN.out ⟨r, bb, bc, v⟩, recV_append, recV_append, recV_single]
            exact owns_base (by simpa using hown) (fun q hq => by have := (hown.lt q hq).1; have := HC1.out; omega)
          have HT := Lib.hid (show DAdd w D A x f bb (.returned (.int .i64 0)) (W9.setCell ⟨D.d, 2, none⟩ (.slice a9 (A.L.length + 1) cap9)) from ⟨rfl, _, HU.out.done HR.out HBB.out hx HN.out HK9.out hO9⟩)
          refine ⟨HK9.out, ?_⟩
          have d2 : W9.cell? ⟨D.d, 2, none⟩ = some (.slice D.a A.L.length D.c) := (HU.out.row.later HK9.out).cell 2 (by decide)
          have z2 : W9.frozen? ⟨D.d, 2, none⟩ = false := (HU.out.row.later HK9.out).frozen 2
          clear hO9 hown ho HO8 HK8 HB8 HK9 HP1 HP2 HEN hq9
          simp only [List.getElem_toArray, List.getElem_cons_succ, List.getElem_cons_zero, Act.put, List.setIfInBounds_toArray, List.set_cons_zero, List.set_cons_succ]
          refine lexP_yieldE rfl rfl ?_
          apply Exists.intro
          refine ⟨fun W hW => ?_, ?_⟩
          focus (go_simp; exact rfl)
          simp only [List.getElem_toArray, List.getElem_cons_succ, List.getElem_cons_zero, Act.put, List.setIfInBounds_toArray, List.set_cons_zero, List.set_cons_succ]
          refine lexP_yieldE rfl rfl ?_
          apply Exists.intro
          refine ⟨fun W hW => ?_, ?_⟩
          focus (go_simp; exact rfl)
          simp only [List.getElem_toArray, List.getElem_cons_succ, List.getElem_cons_zero, Act.put, List.setIfInBounds_toArray, List.set_cons_zero, List.set_cons_succ]
          refine lexP_last rfl rfl ?_
          unfold Oper.wp
          go_simp
          go_wp2_with (fail)
          go_ret
          exact HT.out
  | false =>
    have HM5 := Lib.hid (HM4.out.set HR.out HBB.out 0)
    have f1 : V0.frozen? ⟨D.d, 1, none⟩ = false := HM4.out.row.frozen 1
    have c1 : V0.cell? ⟨D.d, 1, none⟩ = some (.int .i64 ((cx : Int) + 8)) := HM4.out.row.cell 1 (by decide)
    have HU := HFX.out 0 (V0.setCell ⟨D.d, 1, none⟩ (.int .i64 0)) (by rw [HNX.out, if_neg (by rw [Int.natCast_add]; intro h; rw [show ((cx : Int) + ((8 : Nat) : Int)) = (cx : Int) + 8 from rfl, hmy] at h; cases h)]) HM5
    clear HM4 HM5 HFX HNX hmy HCX
    go_wp2_with (fail)
    clear f1 c1
    generalize V0.setCell ⟨D.d, 1, none⟩ (.int .i64 0) = V0 at *
    have c2 : V0.cell? ⟨D.d, 2, none⟩ = some (.slice D.a A.L.length D.c) := HU.out.row.cell 2 (by decide)
    go_loop [9] (fun i => ∃ k : Nat, k ≤ A.L.length ∧ i = .int .i64 k ∧ Hid (∀ j (h : j < A.L.length), j < k → A.L[j].fr < x)) (fun i => A.L.length - (intOf i).toNat)
    case atStart => exact ⟨0, Nat.zero_le _, rfl, Lib.hid fun j _ h => absurd h (Nat.not_lt_zero _)⟩
    case round =>
      obtain ⟨k, hk, rfl, HJ⟩ := hrel
      have HEND : (∀ h : k < A.L.length, ¬ A.L[k].fr < x) → Hid (∀ C : SD, ∀ S, plsR (updI D.g x C) (insL A.L ⟨x, S⟩) = (plsR D.g A.L).take k ++ [(x, C.r)] ++ (plsR D.g A.L).drop k) := fun h => Lib.hid fun C S => plsR_ins D.g x C S A.L (findL_none HN.out) k hk HJ.out h
      have HEX := Lib.hid HEND
      clear HEND
      by_cases hlt : k < A.L.length
      · have hm := List.getElem_mem hlt
        obtain ⟨b, hab, _, _, hrg⟩ := HU.out.lst.get encP_len k (by rw [plsR_len]; exact hlt)
        have e2 : (plsR D.g A.L)[k]'(by rw [plsR_len]; exact hlt) = (A.L[k].fr, (D.g A.L[k].fr).r) := by
          unfold plsR
          rw [List.getElem_map]
        rw [e2] at hrg
        have k0 : V0.cell? ⟨b, k * 2, none⟩ = some (.int .i64 A.L[k].fr) := hrg 0 _ rfl
        have hltI : (k : Int) < (A.L.length : Int) := by omega
        have HJM := Lib.hid (fun (h : A.L[k].fr < x) => show ∀ j (h : j < A.L.length), j < k + 1 → A.L[j].fr < x from fun j h2 hj => by
          by_cases e : j < k
          · exact HJ.out j h2 e
          · obtain rfl : j = k := by omega
            exact h)
        clear e2 hrg hm
        by_cases hfx : A.L[k].fr < x
        · have HJ2 := Lib.hid (HJM.out hfx)
          have c2b := c2
          rw [hab] at c2b
          clear HJM HJ HEX c2 hab
          generalize A.L[k].fr = fq at *
          go_wp2_with (fail)
          go_round
          case rel => exact ⟨k + 1, hlt, by go_num, HJ2⟩
          case measure => simp [intOf]; omega
        · have HEN := HEX.out (fun _ => hfx)
          have c2b := c2
          rw [hab] at c2b
          clear HJM HJ HEX
          generalize A.L[k].fr = fq at *
          have HAB := Lib.hid hab
          clear c2 hab
          go_wp2_with (fail)
          clear c2b k0 hltI
          have hcap := HR.out.cap
          have L1 := Lib.hid (show ∀ W, Kept V0.heap.size V0 W → (loadVar 63 ⟨D.d, 2, none⟩).run Try.prog W = .ok (.slice D.a A.L.length D.c) W from fun W hW => run_loadVar_cell (fun _ => by kernel_rfl) ((HU.out.row.later hW.below).cell 2 (by decide)))
          have S1 := Lib.hid (fun W (_ : Kept V0.heap.size V0 W) => run_sub_toN (P := Try.prog) Try.underlying63 sizePlace D.a A.L.length D.c k (by omega) W)
          have S2 := Lib.hid (fun W (_ : Kept V0.heap.size V0 W) => run_sub_fromN (P := Try.prog) Try.underlying63 sizePlace D.a A.L.length D.c k hk W)
          have HSRC := Lib.hid (HU.out.lst.src encP_len)
          have HP1 := Lib.hid (show ∀ W, Below V0.heap.size V0 W → (0 < k → ∃ ad, D.a = some ad ∧ ∀ j u, (recV encP ((plsR D.g A.L).take k))[j]? = some u → W.cell? (ad.add j) = some u) from fun W hW hp => by
            obtain ⟨ad, e, h⟩ := HSRC.out (by rw [plsR_len]; omega)
            refine ⟨ad, e, fun j u hj => ?_⟩
            rw [← recV_take encP_len] at hj
            have hj2 : (recV encP (plsR D.g A.L))[j]? = some u := by
              rw [List.getElem?_take] at hj
              split at hj
              · exact hj
              · cases hj
            have hc := h j u hj2
            rw [World.cell?_of_block (hW.block _ (World.block_lt_of_cell? _ _ hc))]
            exact hc)
          have HP2 := Lib.hid (show ∀ W, Below V0.heap.size V0 W → (0 < A.L.length - k → ∃ ad, (if D.c = k then D.a else D.a.map fun x => x.add (k * 2)) = some ad ∧ ∀ j u, (recV encP ((plsR D.g A.L).drop k))[j]? = some u → W.cell? (ad.add j) = some u) from fun W hW hp => by
            obtain ⟨g, e, _, _, B, t, hB, hx⟩ := HU.out.lst (by rw [plsR_len]; omega)
            refine ⟨⟨g, k * 2, none⟩, by rw [if_neg (by omega), e, Option.map_some, Addr.add_lit, Nat.zero_add], fun j u hj => ?_⟩
            rw [← recV_drop encP_len, List.getElem?_drop] at hj
            have hlt := (List.getElem?_eq_some_iff.1 hj).1
            rw [recV_len encP_len] at hlt
            have hc : V0.cell? ⟨g, k * 2 + j, none⟩ = some u := by rw [cell_of_row _ _ _ _ _ _ hB, hx _ hlt]; exact hj
            rw [Addr.add_lit, hW.cell (World.block_lt_of_cell? _ _ hc)]
            exact hc)
          clear HSRC
          generalize (if D.c = k then D.a else D.a.map fun x => x.add (k * 2)) = A2 at S2 HP2
          refine wp_region_plan (Kept V0.heap.size V0) (.take 0 (.take 2 (.take 3 (.take 4 (.take 5 (.take 6 (.take 7 (.take 9 (.take 10 (.take 11 (.take 14 (.take 15 (.take 16 (.take 17 (.take 18 (.take 19 (.step 1 (.step 8 (.step 12 (.step 13 (.step 20 (.take 21 (.take 22 .fin)) .fin) .fin) .fin) (.step 12 (.step 8 (.step 13 (.step 20 (.take 21 (.take 22 .fin)) .fin) .fin) .fin) .fin)) (.step 12 (.step 1 (.step 8 (.step 13 (.step 20 (.take 21 (.take 22 .fin)) .fin) .fin) .fin) .fin) .fin)))))))))))))))))) 23
            (by kernel_rfl) (by kernel_rfl) (by kernel_rfl) (Below.refl _ V0).drew ?_
          intro W0 hW0 hK0
          clear hW0
          refine lexP_yieldE rfl rfl ?_
          apply Exists.intro
          refine ⟨fun W hW => ?_, ?_⟩
          focus (go_simp; exact rfl)
          simp only [List.getElem_toArray, List.getElem_cons_zero, Act.put, List.setIfInBounds_toArray, List.set_cons_zero, List.set_cons_succ]
          refine lexP_yieldE rfl rfl ?_
          apply Exists.intro
          refine ⟨fun W hW => ?_, ?_⟩
          focus (go_simp; exact rfl)
          simp only [List.getElem_toArray, List.getElem_cons_succ, List.getElem_cons_zero, Act.put, List.setIfInBounds_toArray, List.set_cons_zero, List.set_cons_succ]
          refine lexP_yieldE rfl rfl ?_
          apply Exists.intro
          refine ⟨fun W hW => ?_, ?_⟩
          focus (go_simp; exact rfl)
          simp only [List.getElem_toArray, List.getElem_cons_succ, List.getElem_cons_zero, Act.put, List.setIfInBounds_toArray, List.set_cons_zero, List.set_cons_succ]
          refine lexP_yieldE rfl rfl ?_
          apply Exists.intro
          refine ⟨fun W hW => ?_, ?_⟩
          focus (go_simp; exact rfl)
          simp only [List.getElem_toArray, List.getElem_cons_succ, List.getElem_cons_zero, Act.put, List.setIfInBounds_toArray, List.set_cons_zero, List.set_cons_succ]
          refine lexP_load rfl rfl _ _ rfl rfl L1.out ?_
          simp only [List.getElem_toArray, List.getElem_cons_succ, List.getElem_cons_zero, Act.put, List.setIfInBounds_toArray, List.set_cons_zero, List.set_cons_succ]
          refine lexP_yieldE rfl rfl ?_
          apply Exists.intro
          refine ⟨fun W hW => ?_, ?_⟩
          focus (go_simp; exact rfl)
          simp only [List.getElem_toArray, List.getElem_cons_succ, List.getElem_cons_zero, Act.put, List.setIfInBounds_toArray, List.set_cons_zero, List.set_cons_succ]
          refine lexP_slice rfl rfl _ _ _ _ _ rfl S1.out ?_
          simp only [List.getElem_toArray, List.getElem_cons_succ, List.getElem_cons_zero, Act.put, List.setIfInBounds_toArray, List.set_cons_zero, List.set_cons_succ]
          refine lexP_yieldE rfl rfl ?_
          apply Exists.intro
          refine ⟨fun W hW => ?_, ?_⟩
          focus (go_simp; exact rfl)
          simp only [List.getElem_toArray, List.getElem_cons_succ, List.getElem_cons_zero, Act.put, List.setIfInBounds_toArray, List.set_cons_zero, List.set_cons_succ]
          refine lexP_yieldE rfl rfl ?_
          apply Exists.intro
          refine ⟨fun W hW => ?_, ?_⟩
          focus (go_simp; exact rfl)
          simp only [List.getElem_toArray, List.getElem_cons_succ, List.getElem_cons_zero, Act.put, List.setIfInBounds_toArray, List.set_cons_zero, List.set_cons_succ]
          refine lexP_yieldE rfl rfl ?_
          apply Exists.intro
          refine ⟨fun W hW => ?_, ?_⟩
          focus (go_simp; exact rfl)
          simp only [List.getElem_toArray, List.getElem_cons_succ, List.getElem_cons_zero, Act.put, List.setIfInBounds_toArray, List.set_cons_zero, List.set_cons_succ]
          refine lexP_yieldE rfl rfl ?_
          apply Exists.intro
          refine ⟨fun W hW => ?_, ?_⟩
          focus (go_simp; exact rfl)
          simp only [List.getElem_toArray, List.getElem_cons_succ, List.getElem_cons_zero, Act.put, List.setIfInBounds_toArray, List.set_cons_zero, List.set_cons_succ]
          refine lexP_yieldE rfl rfl ?_
          apply Exists.intro
          refine ⟨fun W hW => ?_, ?_⟩
          focus (go_simp; exact rfl)
          simp only [List.getElem_toArray, List.getElem_cons_succ, List.getElem_cons_zero, Act.put, List.setIfInBounds_toArray, List.set_cons_zero, List.set_cons_succ]
          refine lexP_yieldE rfl rfl ?_
          apply Exists.intro
          refine ⟨fun W hW => ?_, ?_⟩
          focus (go_simp; exact rfl)
          simp only [List.getElem_toArray, List.getElem_cons_succ, List.getElem_cons_zero, Act.put, List.setIfInBounds_toArray, List.set_cons_zero, List.set_cons_succ]
          refine lexP_load rfl rfl _ _ rfl rfl L1.out ?_
          simp only [List.getElem_toArray, List.getElem_cons_succ, List.getElem_cons_zero, Act.put, List.setIfInBounds_toArray, List.set_cons_zero, List.set_cons_succ]
          refine lexP_yieldE rfl rfl ?_
          apply Exists.intro
          refine ⟨fun W hW => ?_, ?_⟩
          focus (go_simp; exact rfl)
          simp only [List.getElem_toArray, List.getElem_cons_succ, List.getElem_cons_zero, Act.put, List.setIfInBounds_toArray, List.set_cons_zero, List.set_cons_succ]
          refine lexP_slice rfl rfl _ _ _ _ _ rfl S2.out ?_
          simp only [List.getElem_toArray, List.getElem_cons_succ, List.getElem_cons_zero, Act.put, List.setIfInBounds_toArray, List.set_cons_zero, List.set_cons_succ]
          have HK0 := Lib.hid (show Below V0.heap.size V0 W0 from hK0.below)
          clear hK0 L1 S1 S2
          refine lexP_or rfl rfl ?_ ?_
          · unfold Oper.wp
            go_simp
            have HK1 := Lib.hid (show Below V0.heap.size V0 (W0.alloc (.cells #[] 70)) from HK0.out.alloc HK0.out.size _)
            have HO1 := Lib.hid (World.ownsRow_made W0 (e := 70) (base := W0.heap.size) (size := 2) #[] 0 (Nat.le_refl _) (Nat.zero_le _) (by simp))
            have HB1 := Lib.hid (show W0.heap.size ≤ (W0.alloc (.cells #[] 70)).heap.size by simp)
            have HC1 := Lib.hid HK0.out.size
            refine ⟨HK1.out, ?_⟩
            clear HK0 
            generalize W0.alloc (.cells #[] 70) = W1 at *
            generalize W0.heap.size = b1 at *
            refine lexP_or rfl rfl ?_ ?_
            · refine wp_append_src _ _ _ 63 rfl b1 70 i0 _ 2 16 Try.underlying63 hi hz0 hz1 hz2 rfl (by decide) _ _ _ HO1.out HB1.out D.a k D.c (recV encP ((plsR D.g A.L).take k)) rfl rfl (by rw [recV_len encP_len, List.length_take, plsR_len, Nat.min_eq_left hk]) (HP1.out _ HK1.out) (recV_one encP_one _) (by omega) (by decide) ?_
              intro v2 W2 hown ho _
              have HO2 := Lib.hid hown
              have HK2 := Lib.hid (show Below V0.heap.size V0 W2 from ho.below HK1.out HK1.out.size (fun q hq => by have := (HO1.out.lt q hq).1; have := HC1.out; omega))
              have HB2 := Lib.hid (Nat.le_trans HB1.out ho.size)
              refine ⟨HK2.out, ?_⟩
              clear hown ho HK1 HO1 HB1
              simp only [List.getElem_toArray, List.getElem_cons_succ, List.getElem_cons_zero, Act.put, List.setIfInBounds_toArray, List.set_cons_zero, List.set_cons_succ]
              refine lexP_step rfl rfl ?_
              unfold Oper.wp
              go_simp
              have HK3 := Lib.hid (show Below V0.heap.size V0 (W2.alloc (.cells #[.int .i64 x, .pointer (some ⟨r, 0, none⟩)] 70)) from HK2.out.alloc HK2.out.size _)
              have HX3 := Lib.hid (place_row W2 x r)
              have HO3 := Lib.hid (HO2.out.alloc (.cells #[.int .i64 x, .pointer (some ⟨r, 0, none⟩)] 70))
              have HB3 := Lib.hid (show b1 ≤ (W2.alloc (.cells #[.int .i64 x, .pointer (some ⟨r, 0, none⟩)] 70)).heap.size from Nat.le_trans HB2.out (by simp))
              have HE := Lib.hid (fun q hq => (HO2.out.lt q hq).2)
              refine ⟨HK3.out, ?_⟩
              clear HK2 HO2 HB2
              generalize W2.alloc (.cells #[.int .i64 x, .pointer (some ⟨r, 0, none⟩)] 70) = W3 at *
              generalize W2.heap.size = cb at *
              refine lexP_step rfl rfl ?_
              refine wp_append_src _ _ _ 63 rfl b1 70 i0 _ 2 16 Try.underlying63 hi hz0 hz1 hz2 rfl (by decide) _ _ _ HO3.out HB3.out (some ⟨cb, 0, none⟩) 1 1 (encP (x, r)) rfl rfl rfl (fun _ => ⟨_, rfl, fun q uu hq => place_src HX3.out q uu hq⟩) (encP_one _) (by omega) (by decide) ?_
              intro v8 W8 hown ho _
              have HO8 := Lib.hid hown
              have HK8 := Lib.hid (show Below V0.heap.size V0 W8 from ho.below HK3.out HK3.out.size (fun q hq => by have := (HO3.out.lt q hq).1; have := HC1.out; omega))
              have HB8 := Lib.hid (Nat.le_trans HB3.out ho.size)
              refine ⟨HK8.out, ?_⟩
              clear hown ho HK3 HO3 HB3 HX3
              simp only [List.getElem_toArray, List.getElem_cons_succ, List.getElem_cons_zero, Act.put, List.setIfInBounds_toArray, List.set_cons_zero, List.set_cons_succ]
              refine lexP_step rfl rfl ?_
              refine wp_append_src _ _ _ 63 rfl b1 70 i0 _ 2 16 Try.underlying63 hi hz0 hz1 hz2 rfl (by decide) _ _ _ HO8.out HB8.out A2 (A.L.length - k) (D.c - k) (recV encP ((plsR D.g A.L).drop k)) rfl rfl (by rw [recV_len encP_len, List.length_drop, plsR_len]) (HP2.out _ HK8.out) (recV_one encP_one _) (by omega) (by decide) ?_
              intro v9 W9 hown ho _
              have HK9 := Lib.hid (show Below V0.heap.size V0 W9 from ho.below HK8.out HK8.out.size (fun q hq => by have := (HO8.out.lt q hq).1; have := HC1.out; omega))
              obtain ⟨a9, cap9, hv9, _⟩ := owns_slice hown
              subst hv9
              have hq9 : 0 + k + 1 + (A.L.length - k) = A.L.length + 1 := by omega
              rw [hq9] at hown ⊢
              have hO9 : W9.ownsRow V0.heap.size 70 2 (.slice a9 (A.L.length + 1) cap9) (A.L.length + 1) (recV encP (plsR (updI D.g x ⟨r, bb, bc, v⟩) (A.added x f).L)) := by
                rw [show (A.added x f).L = insL A.L ⟨x, Sl.new A.sz A.co f⟩ from rfl, HEN.out ⟨r, bb, bc, v⟩, recV_append, recV_append, recV_single]
                exact owns_base (by simpa using hown) (fun q hq => by have := (hown.lt q hq).1; have := HC1.out; omega)
              have HT := Lib.hid (show DAdd w D A x f bb (.returned (.int .i64 0)) (W9.setCell ⟨D.d, 2, none⟩ (.slice a9 (A.L.length + 1) cap9)) from ⟨rfl, _, HU.out.done HR.out HBB.out hx HN.out HK9.out hO9⟩)
              refine ⟨HK9.out, ?_⟩
              have d2 : W9.cell? ⟨D.d, 2, none⟩ = some (.slice D.a A.L.length D.c) := (HU.out.row.later HK9.out).cell 2 (by decide)
              have z2 : W9.frozen? ⟨D.d, 2, none⟩ = false := (HU.out.row.later HK9.out).frozen 2
              clear hO9 hown ho HO8 HK8 HB8 HK9 HP1 HP2 HEN hq9
              simp only [List.getElem_toArray, List.getElem_cons_succ, List.getElem_cons_zero, Act.put, List.setIfInBounds_toArray, List.set_cons_zero, List.set_cons_succ]
              refine lexP_yieldE rfl rfl ?_
              apply Exists.intro
              refine ⟨fun W hW => ?_, ?_⟩
              focus (go_simp; exact rfl)
              simp only [List.getElem_toArray, List.getElem_cons_succ, List.getElem_cons_zero, Act.put, List.setIfInBounds_toArray, List.set_cons_zero, List.set_cons_succ]
              refine lexP_yieldE rfl rfl ?_
              apply Exists.intro
              refine ⟨fun W hW => ?_, ?_⟩
              focus (go_simp; exact rfl)
              simp only [List.getElem_toArray, List.getElem_cons_succ, List.getElem_cons_zero, Act.put, List.setIfInBounds_toArray, List.set_cons_zero, List.set_cons_succ]
              refine lexP_last rfl rfl ?_
              unfold Oper.wp
              go_simp
              go_wp2_with (fail)
              go_ret
              exact HT.out
            · refine lexP_step rfl rfl ?_
              unfold Oper.wp
              go_simp
              have HK2 := Lib.hid (show Below V0.heap.size V0 (W1.alloc (.cells #[.int .i64 x, .pointer (some ⟨r, 0, none⟩)] 70)) from HK1.out.alloc HK1.out.size _)
              have HX2 := Lib.hid (place_row W1 x r)
              have HO2 := Lib.hid (HO1.out.alloc (.cells #[.int .i64 x, .pointer (some ⟨r, 0, none⟩)] 70))
              have HB2 := Lib.hid (show b1 ≤ (W1.alloc (.cells #[.int .i64 x, .pointer (some ⟨r, 0, none⟩)] 70)).heap.size from Nat.le_trans HB1.out (by simp))
              have HE := Lib.hid (fun q hq => (HO1.out.lt q hq).2)
              refine ⟨HK2.out, ?_⟩
              clear HK1 HO1 HB1
              generalize W1.alloc (.cells #[.int .i64 x, .pointer (some ⟨r, 0, none⟩)] 70) = W2 at *
              generalize W1.heap.size = cb at *
              refine lexP_step rfl rfl ?_
              refine wp_append_src _ _ _ 63 rfl b1 70 i0 _ 2 16 Try.underlying63 hi hz0 hz1 hz2 rfl (by decide) _ _ _ HO2.out HB2.out D.a k D.c (recV encP ((plsR D.g A.L).take k)) rfl rfl (by rw [recV_len encP_len, List.length_take, plsR_len, Nat.min_eq_left hk]) (HP1.out _ HK2.out) (recV_one encP_one _) (by omega) (by decide) ?_
              intro v3 W3 hown ho _
              have HO3 := Lib.hid hown
              have HK3 := Lib.hid (show Below V0.heap.size V0 W3 from ho.below HK2.out HK2.out.size (fun q hq => by have := (HO2.out.lt q hq).1; have := HC1.out; omega))
              have HB3 := Lib.hid (Nat.le_trans HB2.out ho.size)
              have HX3 := Lib.hid (HX2.out.only ho (fun e => absurd (HE.out _ e) (Nat.lt_irrefl _)))
              refine ⟨HK3.out, ?_⟩
              clear hown ho HK2 HO2 HB2 HX2
              simp only [List.getElem_toArray, List.getElem_cons_succ, List.getElem_cons_zero, Act.put, List.setIfInBounds_toArray, List.set_cons_zero, List.set_cons_succ]
              refine lexP_step rfl rfl ?_
              refine wp_append_src _ _ _ 63 rfl b1 70 i0 _ 2 16 Try.underlying63 hi hz0 hz1 hz2 rfl (by decide) _ _ _ HO3.out HB3.out (some ⟨cb, 0, none⟩) 1 1 (encP (x, r)) rfl rfl rfl (fun _ => ⟨_, rfl, fun q uu hq => place_src HX3.out q uu hq⟩) (encP_one _) (by omega) (by decide) ?_
              intro v8 W8 hown ho _
              have HO8 := Lib.hid hown
              have HK8 := Lib.hid (show Below V0.heap.size V0 W8 from ho.below HK3.out HK3.out.size (fun q hq => by have := (HO3.out.lt q hq).1; have := HC1.out; omega))
              have HB8 := Lib.hid (Nat.le_trans HB3.out ho.size)
              refine ⟨HK8.out, ?_⟩
              clear hown ho HK3 HO3 HB3 HX3
              simp only [List.getElem_toArray, List.getElem_cons_succ, List.getElem_cons_zero, Act.put, List.setIfInBounds_toArray, List.set_cons_zero, List.set_cons_succ]
              refine lexP_step rfl rfl ?_
              refine wp_append_src _ _ _ 63 rfl b1 70 i0 _ 2 16 Try.underlying63 hi hz0 hz1 hz2 rfl (by decide) _ _ _ HO8.out HB8.out A2 (A.L.length - k) (D.c - k) (recV encP ((plsR D.g A.L).drop k)) rfl rfl (by rw [recV_len encP_len, List.length_drop, plsR_len]) (HP2.out _ HK8.out) (recV_one encP_one _) (by omega) (by decide) ?_
              intro v9 W9 hown ho _
              have HK9 := Lib.hid (show Below V0.heap.size V0 W9 from ho.below HK8.out HK8.out.size (fun q hq => by have := (HO8.out.lt q hq).1; have := HC1.out; omega))
              obtain ⟨a9, cap9, hv9, _⟩ := owns_slice hown
              subst hv9
              have hq9 : 0 + k + 1 + (A.L.length - k) = A.L.length + 1 := by omega
              rw [hq9] at hown ⊢
              have hO9 : W9.ownsRow V0.heap.size 70 2 (.slice a9 (A.L.length + 1) cap9) (A.L.length + 1) (recV encP (plsR (updI D.g x ⟨r, bb, bc, v⟩) (A.added x f).L)) := by
                rw [show (A.added x f).L = insL A.L ⟨x, Sl.new A.sz A.co f⟩ from rfl, HEN.out ⟨r, bb, bc, v⟩, recV_append, recV_append, recV_single]
                exact owns_base (by simpa using hown) (fun q hq => by have := (hown.lt q hq).1; have := HC1.out; omega)
              have HT := Lib.hid (show DAdd w D A x f bb (.returned (.int .i64 0)) (W9.setCell ⟨D.d, 2, none⟩ (.slice a9 (A.L.length + 1) cap9)) from ⟨rfl, _, HU.out.done HR.out HBB.out hx HN.out HK9.out hO9⟩)
              refine ⟨HK9.out, ?_⟩
              have d2 : W9.cell? ⟨D.d, 2, none⟩ = some (.slice D.a A.L.length D.c) := (HU.out.row.later HK9.out).cell 2 (by decide)
              have z2 : W9.frozen? ⟨D.d, 2, none⟩ = false := (HU.out.row.later HK9.out).frozen 2
              clear hO9 hown ho HO8 HK8 HB8 HK9 HP1 HP2 HEN hq9
              simp only [List.getElem_toArray, List.getElem_cons_succ, List.getElem_cons_zero, Act.put, List.setIfInBounds_toArray, List.set_cons_zero, List.set_cons_succ]
              refine lexP_yieldE rfl rfl ?_
              apply Exists.intro
              refine ⟨fun W hW => ?_, ?_⟩
              focus (go_simp; exact rfl)
              simp only [List.getElem_toArray, List.getElem_cons_succ, List.getElem_cons_zero, Act.put, List.setIfInBounds_toArray, List.set_cons_zero, List.set_cons_succ]
              refine lexP_yieldE rfl rfl ?_
              apply Exists.intro
              refine ⟨fun W hW => ?_, ?_⟩
              focus (go_simp; exact rfl)
              simp only [List.getElem_toArray, List.getElem_cons_succ, List.getElem_cons_zero, Act.put, List.setIfInBounds_toArray, List.set_cons_zero, List.set_cons_succ]
              refine lexP_last rfl rfl ?_
              unfold Oper.wp
              go_simp
              go_wp2_with (fail)
              go_ret
              exact HT.out
          · refine lexP_step rfl rfl ?_
            unfold Oper.wp
            go_simp
            have HK1 := Lib.hid (show Below V0.heap.size V0 (W0.alloc (.cells #[.int .i64 x, .pointer (some ⟨r, 0, none⟩)] 70)) from HK0.out.alloc HK0.out.size _)
            have HX1 := Lib.hid (place_row W0 x r)
            refine ⟨HK1.out, ?_⟩
            clear HK0
            generalize W0.alloc (.cells #[.int .i64 x, .pointer (some ⟨r, 0, none⟩)] 70) = W1 at *
            generalize W0.heap.size = cb at *
            have HXL := Lib.hid HX1.out.lt
            refine lexP_step rfl rfl ?_
            unfold Oper.wp
            go_simp
            have HK2 := Lib.hid (show Below V0.heap.size V0 (W1.alloc (.cells #[] 70)) from HK1.out.alloc HK1.out.size _)
            have HO2 := Lib.hid (World.ownsRow_made W1 (e := 70) (base := W1.heap.size) (size := 2) #[] 0 (Nat.le_refl _) (Nat.zero_le _) (by simp))
            have HB2 := Lib.hid (show W1.heap.size ≤ (W1.alloc (.cells #[] 70)).heap.size by simp)
            have HC1 := Lib.hid HK1.out.size
            have HX2 := Lib.hid (HX1.out.alloc (.cells #[] 70))
            refine ⟨HK2.out, ?_⟩
            clear HK1 HX1
            generalize W1.alloc (.cells #[] 70) = W2 at *
            generalize W1.heap.size = b1 at *
            refine lexP_step rfl rfl ?_
            refine wp_append_src _ _ _ 63 rfl b1 70 i0 _ 2 16 Try.underlying63 hi hz0 hz1 hz2 rfl (by decide) _ _ _ HO2.out HB2.out D.a k D.c (recV encP ((plsR D.g A.L).take k)) rfl rfl (by rw [recV_len encP_len, List.length_take, plsR_len, Nat.min_eq_left hk]) (HP1.out _ HK2.out) (recV_one encP_one _) (by omega) (by decide) ?_
            intro v3 W3 hown ho _
            have HO3 := Lib.hid hown
            have HK3 := Lib.hid (show Below V0.heap.size V0 W3 from ho.below HK2.out HK2.out.size (fun q hq => by have := (HO2.out.lt q hq).1; have := HC1.out; omega))
            have HB3 := Lib.hid (Nat.le_trans HB2.out ho.size)
            have HX3 := Lib.hid (HX2.out.only ho (fun e => by have h := (HO2.out.lt _ e).1; have := HXL.out; omega))
            refine ⟨HK3.out, ?_⟩
            clear hown ho HK2 HO2 HB2 HX2
            simp only [List.getElem_toArray, List.getElem_cons_succ, List.getElem_cons_zero, Act.put, List.setIfInBounds_toArray, List.set_cons_zero, List.set_cons_succ]
            refine lexP_step rfl rfl ?_
            refine wp_append_src _ _ _ 63 rfl b1 70 i0 _ 2 16 Try.underlying63 hi hz0 hz1 hz2 rfl (by decide) _ _ _ HO3.out HB3.out (some ⟨cb, 0, none⟩) 1 1 (encP (x, r)) rfl rfl rfl (fun _ => ⟨_, rfl, fun q uu hq => place_src HX3.out q uu hq⟩) (encP_one _) (by omega) (by decide) ?_
            intro v8 W8 hown ho _
            have HO8 := Lib.hid hown
            have HK8 := Lib.hid (show Below V0.heap.size V0 W8 from ho.below HK3.out HK3.out.size (fun q hq => by have := (HO3.out.lt q hq).1; have := HC1.out; omega))
            have HB8 := Lib.hid (Nat.le_trans HB3.out ho.size)
            refine ⟨HK8.out, ?_⟩
            clear hown ho HK3 HO3 HB3 HX3
            simp only [List.getElem_toArray, List.getElem_cons_succ, List.getElem_cons_zero, Act.put, List.setIfInBounds_toArray, List.set_cons_zero, List.set_cons_succ]
            refine lexP_step rfl rfl ?_
            refine wp_append_src _ _ _ 63 rfl b1 70 i0 _ 2 16 Try.underlying63 hi hz0 hz1 hz2 rfl (by decide) _ _ _ HO8.out HB8.out A2 (A.L.length - k) (D.c - k) (recV encP ((plsR D.g A.L).drop k)) rfl rfl (by rw [recV_len encP_len, List.length_drop, plsR_len]) (HP2.out _ HK8.out) (recV_one encP_one _) (by omega) (by decide) ?_
            intro v9 W9 hown ho _
            have HK9 := Lib.hid (show Below V0.heap.size V0 W9 from ho.below HK8.out HK8.out.size (fun q hq => by have := (HO8.out.lt q hq).1; have := HC1.out; omega))
            obtain ⟨a9, cap9, hv9, _⟩ := owns_slice hown
            subst hv9
            have hq9 : 0 + k + 1 + (A.L.length - k) = A.L.length + 1 := by omega
            rw [hq9] at hown ⊢
            have hO9 : W9.ownsRow V0.heap.size 70 2 (.slice a9 (A.L.length + 1) cap9) (A.L.length + 1) (recV encP (plsR (updI D.g x ⟨r, bb, bc, v⟩) (A.added x f).L)) := by
              rw [show (A.added x f).L = insL A.L ⟨x, Sl.new A.sz A.co f⟩ from rfl, HEN.out ⟨r, bb, bc, v⟩, recV_append, recV_append, recV_single]
              exact owns_base (by simpa using hown) (fun q hq => by have := (hown.lt q hq).1; have := HC1.out; omega)
            have HT := Lib.hid (show DAdd w D A x f bb (.returned (.int .i64 0)) (W9.setCell ⟨D.d, 2, none⟩ (.slice a9 (A.L.length + 1) cap9)) from ⟨rfl, _, HU.out.done HR.out HBB.out hx HN.out HK9.out hO9⟩)
            refine ⟨HK9.out, ?_⟩
            have d2 : W9.cell? ⟨D.d, 2, none⟩ = some (.slice D.a A.L.length D.c) := (HU.out.row.later HK9.out).cell 2 (by decide)
            have z2 : W9.frozen? ⟨D.d, 2, none⟩ = false := (HU.out.row.later HK9.out).frozen 2
            clear hO9 hown ho HO8 HK8 HB8 HK9 HP1 HP2 HEN hq9
            simp only [List.getElem_toArray, List.getElem_cons_succ, List.getElem_cons_zero, Act.put, List.setIfInBounds_toArray, List.set_cons_zero, List.set_cons_succ]
            refine lexP_yieldE rfl rfl ?_
            apply Exists.intro
            refine ⟨fun W hW => ?_, ?_⟩
            focus (go_simp; exact rfl)
            simp only [List.getElem_toArray, List.getElem_cons_succ, List.getElem_cons_zero, Act.put, List.setIfInBounds_toArray, List.set_cons_zero, List.set_cons_succ]
            refine lexP_yieldE rfl rfl ?_
            apply Exists.intro
            refine ⟨fun W hW => ?_, ?_⟩
            focus (go_simp; exact rfl)
            simp only [List.getElem_toArray, List.getElem_cons_succ, List.getElem_cons_zero, Act.put, List.setIfInBounds_toArray, List.set_cons_zero, List.set_cons_succ]
            refine lexP_last rfl rfl ?_
            unfold Oper.wp
            go_simp
            go_wp2_with (fail)
            go_ret
            exact HT.out
      · obtain rfl : k = A.L.length := by omega
        have HEN := HEX.out (fun h => absurd h hlt)
        clear HEX HJ
        obtain ⟨k, hkk⟩ : ∃ k, k = A.L.length := ⟨_, rfl⟩
        rw [← hkk] at HEN
        go_wp2_with (fail)
        rw [show (A.L.length : Int) = (k : Int) by rw [hkk]]
        have hk : k ≤ A.L.length := by omega
        clear hlt hkk
        have hcap := HR.out.cap
        have L1 := Lib.hid (show ∀ W, Kept V0.heap.size V0 W → (loadVar 63 ⟨D.d, 2, none⟩).run Try.prog W = .ok (.slice D.a A.L.length D.c) W from fun W hW => run_loadVar_cell (fun _ => by kernel_rfl) ((HU.out.row.later hW.below).cell 2 (by decide)))
        have S1 := Lib.hid (fun W (_ : Kept V0.heap.size V0 W) => run_sub_toN (P := Try.prog) Try.underlying63 sizePlace D.a A.L.length D.c k (by omega) W)
        have S2 := Lib.hid (fun W (_ : Kept V0.heap.size V0 W) => run_sub_fromN (P := Try.prog) Try.underlying63 sizePlace D.a A.L.length D.c k hk W)
        have HSRC := Lib.hid (HU.out.lst.src encP_len)
        have HP1 := Lib.hid (show ∀ W, Below V0.heap.size V0 W → (0 < k → ∃ ad, D.a = some ad ∧ ∀ j u, (recV encP ((plsR D.g A.L).take k))[j]? = some u → W.cell? (ad.add j) = some u) from fun W hW hp => by
          obtain ⟨ad, e, h⟩ := HSRC.out (by rw [plsR_len]; omega)
          refine ⟨ad, e, fun j u hj => ?_⟩
          rw [← recV_take encP_len] at hj
          have hj2 : (recV encP (plsR D.g A.L))[j]? = some u := by
            rw [List.getElem?_take] at hj
            split at hj
            · exact hj
            · cases hj
          have hc := h j u hj2
          rw [World.cell?_of_block (hW.block _ (World.block_lt_of_cell? _ _ hc))]
          exact hc)
        have HP2 := Lib.hid (show ∀ W, Below V0.heap.size V0 W → (0 < A.L.length - k → ∃ ad, (if D.c = k then D.a else D.a.map fun x => x.add (k * 2)) = some ad ∧ ∀ j u, (recV encP ((plsR D.g A.L).drop k))[j]? = some u → W.cell? (ad.add j) = some u) from fun W hW hp => by
          obtain ⟨g, e, _, _, B, t, hB, hx⟩ := HU.out.lst (by rw [plsR_len]; omega)
          refine ⟨⟨g, k * 2, none⟩, by rw [if_neg (by omega), e, Option.map_some, Addr.add_lit, Nat.zero_add], fun j u hj => ?_⟩
          rw [← recV_drop encP_len, List.getElem?_drop] at hj
          have hlt := (List.getElem?_eq_some_iff.1 hj).1
          rw [recV_len encP_len] at hlt
          have hc : V0.cell? ⟨g, k * 2 + j, none⟩ = some u := by rw [cell_of_row _ _ _ _ _ _ hB, hx _ hlt]; exact hj
          rw [Addr.add_lit, hW.cell (World.block_lt_of_cell? _ _ hc)]
          exact hc)
        clear HSRC
        generalize (if D.c = k then D.a else D.a.map fun x => x.add (k * 2)) = A2 at S2 HP2
        refine wp_region_plan (Kept V0.heap.size V0) (.take 0 (.take 2 (.take 3 (.take 4 (.take 5 (.take 6 (.take 7 (.take 9 (.take 10 (.take 11 (.take 14 (.take 15 (.take 16 (.take 17 (.take 18 (.take 19 (.step 1 (.step 8 (.step 12 (.step 13 (.step 20 (.take 21 (.take 22 .fin)) .fin) .fin) .fin) (.step 12 (.step 8 (.step 13 (.step 20 (.take 21 (.take 22 .fin)) .fin) .fin) .fin) .fin)) (.step 12 (.step 1 (.step 8 (.step 13 (.step 20 (.take 21 (.take 22 .fin)) .fin) .fin) .fin) .fin) .fin)))))))))))))))))) 23
          (by kernel_rfl) (by kernel_rfl) (by kernel_rfl) (Below.refl _ V0).drew ?_
        intro W0 hW0 hK0
        clear hW0
        refine lexP_yieldE rfl rfl ?_
        apply Exists.intro
        refine ⟨fun W hW => ?_, ?_⟩
        focus (go_simp; exact rfl)
        simp only [List.getElem_toArray, List.getElem_cons_zero, Act.put, List.setIfInBounds_toArray, List.set_cons_zero, List.set_cons_succ]
        refine lexP_yieldE rfl rfl ?_
        apply Exists.intro
        refine ⟨fun W hW => ?_, ?_⟩
        focus (go_simp; exact rfl)
        simp only [List.getElem_toArray, List.getElem_cons_succ, List.getElem_cons_zero, Act.put, List.setIfInBounds_toArray, List.set_cons_zero, List.set_cons_succ]
        refine lexP_yieldE rfl rfl ?_
        apply Exists.intro
        refine ⟨fun W hW => ?_, ?_⟩
        focus (go_simp; exact rfl)
        simp only [List.getElem_toArray, List.getElem_cons_succ, List.getElem_cons_zero, Act.put, List.setIfInBounds_toArray, List.set_cons_zero, List.set_cons_succ]
        refine lexP_yieldE rfl rfl ?_
        apply Exists.intro
        refine ⟨fun W hW => ?_, ?_⟩
        focus (go_simp; exact rfl)
        simp only [List.getElem_toArray, List.getElem_cons_succ, List.getElem_cons_zero, Act.put, List.setIfInBounds_toArray, List.set_cons_zero, List.set_cons_succ]
        refine lexP_load rfl rfl _ _ rfl rfl L1.out ?_
        simp only [List.getElem_toArray, List.getElem_cons_succ, List.getElem_cons_zero, Act.put, List.setIfInBounds_toArray, List.set_cons_zero, List.set_cons_succ]
        refine lexP_yieldE rfl rfl ?_
        apply Exists.intro
        refine ⟨fun W hW => ?_, ?_⟩
        focus (go_simp; exact rfl)
        simp only [List.getElem_toArray, List.getElem_cons_succ, List.getElem_cons_zero, Act.put, List.setIfInBounds_toArray, List.set_cons_zero, List.set_cons_succ]
        refine lexP_slice rfl rfl _ _ _ _ _ rfl S1.out ?_
        simp only [List.getElem_toArray, List.getElem_cons_succ, List.getElem_cons_zero, Act.put, List.setIfInBounds_toArray, List.set_cons_zero, List.set_cons_succ]
        refine lexP_yieldE rfl rfl ?_
        apply Exists.intro
        refine ⟨fun W hW => ?_, ?_⟩
        focus (go_simp; exact rfl)
        simp only [List.getElem_toArray, List.getElem_cons_succ, List.getElem_cons_zero, Act.put, List.setIfInBounds_toArray, List.set_cons_zero, List.set_cons_succ]
        refine lexP_yieldE rfl rfl ?_
        apply Exists.intro
        refine ⟨fun W hW => ?_, ?_⟩
        focus (go_simp; exact rfl)
        simp only [List.getElem_toArray, List.getElem_cons_succ, List.getElem_cons_zero, Act.put, List.setIfInBounds_toArray, List.set_cons_zero, List.set_cons_succ]
        refine lexP_yieldE rfl rfl ?_
        apply Exists.intro
        refine ⟨fun W hW => ?_, ?_⟩
        focus (go_simp; exact rfl)
        simp only [List.getElem_toArray, List.getElem_cons_succ, List.getElem_cons_zero, Act.put, List.setIfInBounds_toArray, List.set_cons_zero, List.set_cons_succ]
        refine lexP_yieldE rfl rfl ?_
        apply Exists.intro
        refine ⟨fun W hW => ?_, ?_⟩
        focus (go_simp; exact rfl)
        simp only [List.getElem_toArray, List.getElem_cons_succ, List.getElem_cons_zero, Act.put, List.setIfInBounds_toArray, List.set_cons_zero, List.set_cons_succ]
        refine lexP_yieldE rfl rfl ?_
        apply Exists.intro
        refine ⟨fun W hW => ?_, ?_⟩
        focus (go_simp; exact rfl)
        simp only [List.getElem_toArray, List.getElem_cons_succ, List.getElem_cons_zero, Act.put, List.setIfInBounds_toArray, List.set_cons_zero, List.set_cons_succ]
        refine lexP_yieldE rfl rfl ?_
        apply Exists.intro
        refine ⟨fun W hW => ?_, ?_⟩
        focus (go_simp; exact rfl)
        simp only [List.getElem_toArray, List.getElem_cons_succ, List.getElem_cons_zero, Act.put, List.setIfInBounds_toArray, List.set_cons_zero, List.set_cons_succ]
        refine lexP_load rfl rfl _ _ rfl rfl L1.out ?_
        simp only [List.getElem_toArray, List.getElem_cons_succ, List.getElem_cons_zero, Act.put, List.setIfInBounds_toArray, List.set_cons_zero, List.set_cons_succ]
        refine lexP_yieldE rfl rfl ?_
        apply Exists.intro
        refine ⟨fun W hW => ?_, ?_⟩
        focus (go_simp; exact rfl)
        simp only [List.getElem_toArray, List.getElem_cons_succ, List.getElem_cons_zero, Act.put, List.setIfInBounds_toArray, List.set_cons_zero, List.set_cons_succ]
        refine lexP_slice rfl rfl _ _ _ _ _ rfl S2.out ?_
        simp only [List.getElem_toArray, List.getElem_cons_succ, List.getElem_cons_zero, Act.put, List.setIfInBounds_toArray, List.set_cons_zero, List.set_cons_succ]
        have HK0 := Lib.hid (show Below V0.heap.size V0 W0 from hK0.below)
        clear hK0 L1 S1 S2
        refine lexP_or rfl rfl ?_ ?_
        · unfold Oper.wp
          go_simp
          have HK1 := Lib.hid (show Below V0.heap.size V0 (W0.alloc (.cells #[] 70)) from HK0.out.alloc HK0.out.size _)
          have HO1 := Lib.hid (World.ownsRow_made W0 (e := 70) (base := W0.heap.size) (size := 2) #[] 0 (Nat.le_refl _) (Nat.zero_le _) (by simp))
          have HB1 := Lib.hid (show W0.heap.size ≤ (W0.alloc (.cells #[] 70)).heap.size by simp)
          have HC1 := Lib.hid HK0.out.size
          refine ⟨HK1.out, ?_⟩
          clear HK0 
          generalize W0.alloc (.cells #[] 70) = W1 at *
          generalize W0.heap.size = b1 at *
          refine lexP_or rfl rfl ?_ ?_
          · refine wp_append_src _ _ _ 63 rfl b1 70 i0 _ 2 16 Try.underlying63 hi hz0 hz1 hz2 rfl (by decide) _ _ _ HO1.out HB1.out D.a k D.c (recV encP ((plsR D.g A.L).take k)) rfl rfl (by rw [recV_len encP_len, List.length_take, plsR_len, Nat.min_eq_left hk]) (HP1.out _ HK1.out) (recV_one encP_one _) (by omega) (by decide) ?_
            intro v2 W2 hown ho _
            have HO2 := Lib.hid hown
            have HK2 := Lib.hid (show Below V0.heap.size V0 W2 from ho.below HK1.out HK1.out.size (fun q hq => by have := (HO1.out.lt q hq).1; have := HC1.out; omega))
            have HB2 := Lib.hid (Nat.le_trans HB1.out ho.size)
            refine ⟨HK2.out, ?_⟩
            clear hown ho HK1 HO1 HB1
            simp only [List.getElem_toArray, List.getElem_cons_succ, List.getElem_cons_zero, Act.put, List.setIfInBounds_toArray, List.set_cons_zero, List.set_cons_succ]
            refine lexP_step rfl rfl ?_
            unfold Oper.wp
            go_simp
            have HK3 := Lib.hid (show Below V0.heap.size V0 (W2.alloc (.cells #[.int .i64 x, .pointer (some ⟨r, 0, none⟩)] 70)) from HK2.out.alloc HK2.out.size _)
            have HX3 := Lib.hid (place_row W2 x r)
            have HO3 := Lib.hid (HO2.out.alloc (.cells #[.int .i64 x, .pointer (some ⟨r, 0, none⟩)] 70))
            have HB3 := Lib.hid (show b1 ≤ (W2.alloc (.cells #[.int .i64 x, .pointer (some ⟨r, 0, none⟩)] 70)).heap.size from Nat.le_trans HB2.out (by simp))
            have HE := Lib.hid (fun q hq => (HO2.out.lt q hq).2)
            refine ⟨HK3.out, ?_⟩
            clear HK2 HO2 HB2
            generalize W2.alloc (.cells #[.int .i64 x, .pointer (some ⟨r, 0, none⟩)] 70) = W3 at *
            generalize W2.heap.size = cb at *
            refine lexP_step rfl rfl ?_
            refine wp_append_src _ _ _ 63 rfl b1 70 i0 _ 2 16 Try.underlying63 hi hz0 hz1 hz2 rfl (by decide) _ _ _ HO3.out HB3.out (some ⟨cb, 0, none⟩) 1 1 (encP (x, r)) rfl rfl rfl (fun _ => ⟨_, rfl, fun q uu hq => place_src HX3.out q uu hq⟩) (encP_one _) (by omega) (by decide) ?_
            intro v8 W8 hown ho _
            have HO8 := Lib.hid hown
            have HK8 := Lib.hid (show Below V0.heap.size V0 W8 from ho.below HK3.out HK3.out.size (fun q hq => by have := (HO3.out.lt q hq).1; have := HC1.out; omega))
            have HB8 := Lib.hid (Nat.le_trans HB3.out ho.size)
            refine ⟨HK8.out, ?_⟩
            clear hown ho HK3 HO3 HB3 HX3
            simp only [List.getElem_toArray, List.getElem_cons_succ, List.getElem_cons_zero, Act.put, List.setIfInBounds_toArray, List.set_cons_zero, List.set_cons_succ]
            refine lexP_step rfl rfl ?_
            refine wp_append_src _ _ _ 63 rfl b1 70 i0 _ 2 16 Try.underlying63 hi hz0 hz1 hz2 rfl (by decide) _ _ _ HO8.out HB8.out A2 (A.L.length - k) (D.c - k) (recV encP ((plsR D.g A.L).drop k)) rfl rfl (by rw [recV_len encP_len, List.length_drop, plsR_len]) (HP2.out _ HK8.out) (recV_one encP_one _) (by omega) (by decide) ?_
            intro v9 W9 hown ho _
            have HK9 := Lib.hid (show Below V0.heap.size V0 W9 from ho.below HK8.out HK8.out.size (fun q hq => by have := (HO8.out.lt q hq).1; have := HC1.out; omega))
            obtain ⟨a9, cap9, hv9, _⟩ := owns_slice hown
            subst hv9
            have hq9 : 0 + k + 1 + (A.L.length - k) = A.L.length + 1 := by omega
            rw [hq9] at hown ⊢
            have hO9 : W9.ownsRow V0.heap.size 70 2 (.slice a9 (A.L.length + 1) cap9) (A.L.length + 1) (recV encP (plsR (updI D.g x ⟨r, bb, bc, v⟩) (A.added x f).L)) := by
              rw [show (A.added x f).L = insL A.L ⟨x, Sl.new A.sz A.co f⟩ from rfl, HEN.out ⟨r, bb, bc, v⟩, recV_append, recV_append, recV_single]
              exact owns_base (by simpa using hown) (fun q hq => by have := (hown.lt q hq).1; have := HC1.out; omega)
            have HT := Lib.hid (show DAdd w D A x f bb (.returned (.int .i64 0)) (W9.setCell ⟨D.d, 2, none⟩ (.slice a9 (A.L.length + 1) cap9)) from ⟨rfl, _, HU.out.done HR.out HBB.out hx HN.out HK9.out hO9⟩)
            refine ⟨HK9.out, ?_⟩
            have d2 : W9.cell? ⟨D.d, 2, none⟩ = some (.slice D.a A.L.length D.c) := (HU.out.row.later HK9.out).cell 2 (by decide)
            have z2 : W9.frozen? ⟨D.d, 2, none⟩ = false := (HU.out.row.later HK9.out).frozen 2
            clear hO9 hown ho HO8 HK8 HB8 HK9 HP1 HP2 HEN hq9
            simp only [List.getElem_toArray, List.getElem_cons_succ, List.getElem_cons_zero, Act.put, List.setIfInBounds_toArray, List.set_cons_zero, List.set_cons_succ]
            refine lexP_yieldE rfl rfl ?_
            apply Exists.intro
            refine ⟨fun W hW => ?_, ?_⟩
            focus (go_simp; exact rfl)
            simp only [List.getElem_toArray, List.getElem_cons_succ, List.getElem_cons_zero, Act.put, List.setIfInBounds_toArray, List.set_cons_zero, List.set_cons_succ]
            refine lexP_yieldE rfl rfl ?_
            apply Exists.intro
            refine ⟨fun W hW => ?_, ?_⟩
            focus (go_simp; exact rfl)
            simp only [List.getElem_toArray, List.getElem_cons_succ, List.getElem_cons_zero, Act.put, List.setIfInBounds_toArray, List.set_cons_zero, List.set_cons_succ]
            refine lexP_last rfl rfl ?_
            unfold Oper.wp
            go_simp
            go_wp2_with (fail)
            go_ret
            exact HT.out
          · refine lexP_step rfl rfl ?_
            unfold Oper.wp
            go_simp
            have HK2 := Lib.hid (show Below V0.heap.size V0 (W1.alloc (.cells #[.int .i64 x, .pointer (some ⟨r, 0, none⟩)] 70)) from HK1.out.alloc HK1.out.size _)
            have HX2 := Lib.hid (place_row W1 x r)
            have HO2 := Lib.hid (HO1.out.alloc (.cells #[.int .i64 x, .pointer (some ⟨r, 0, none⟩)] 70))
            have HB2 := Lib.hid (show b1 ≤ (W1.alloc (.cells #[.int .i64 x, .pointer (some ⟨r, 0, none⟩)] 70)).heap.size from Nat.le_trans HB1.out (by simp))
            have HE := Lib.hid (fun q hq => (HO1.out.lt q hq).2)
            refine ⟨HK2.out, ?_⟩
            clear HK1 HO1 HB1
            generalize W1.alloc (.cells #[.int .i64 x, .pointer (some ⟨r, 0, none⟩)] 70) = W2 at *
            generalize W1.heap.size = cb at *
            refine lexP_step rfl rfl ?_
            refine wp_append_src _ _ _ 63 rfl b1 70 i0 _ 2 16 Try.underlying63 hi hz0 hz1 hz2 rfl (by decide) _ _ _ HO2.out HB2.out D.a k D.c (recV encP ((plsR D.g A.L).take k)) rfl rfl (by rw [recV_len encP_len, List.length_take, plsR_len, Nat.min_eq_left hk]) (HP1.out _ HK2.out) (recV_one encP_one _) (by omega) (by decide) ?_
            intro v3 W3 hown ho _
            have HO3 := Lib.hid hown
            have HK3 := Lib.hid (show Below V0.heap.size V0 W3 from ho.below HK2.out HK2.out.size (fun q hq => by have := (HO2.out.lt q hq).1; have := HC1.out; omega))
            have HB3 := Lib.hid (Nat.le_trans HB2.out ho.size)
            have HX3 := Lib.hid (HX2.out.only ho (fun e => absurd (HE.out _ e) (Nat.lt_irrefl _)))
            refine ⟨HK3.out, ?_⟩
            clear hown ho HK2 HO2 HB2 HX2
            simp only [List.getElem_toArray, List.getElem_cons_succ, List.getElem_cons_zero, Act.put, List.setIfInBounds_toArray, List.set_cons_zero, List.set_cons_succ]
            refine lexP_step rfl rfl ?_
            refine wp_append_src _ _ _ 63 rfl b1 70 i0 _ 2 16 Try.underlying63 hi hz0 hz1 hz2 rfl (by decide) _ _ _ HO3.out HB3.out (some ⟨cb, 0, none⟩) 1 1 (encP (x, r)) rfl rfl rfl (fun _ => ⟨_, rfl, fun q uu hq => place_src HX3.out q uu hq⟩) (encP_one _) (by omega) (by decide) ?_
            intro v8 W8 hown ho _
            have HO8 := Lib.hid hown
            have HK8 := Lib.hid (show Below V0.heap.size V0 W8 from ho.below HK3.out HK3.out.size (fun q hq => by have := (HO3.out.lt q hq).1; have := HC1.out; omega))
            have HB8 := Lib.hid (Nat.le_trans HB3.out ho.size)
            refine ⟨HK8.out, ?_⟩
            clear hown ho HK3 HO3 HB3 HX3
            simp only [List.getElem_toArray, List.getElem_cons_succ, List.getElem_cons_zero, Act.put, List.setIfInBounds_toArray, List.set_cons_zero, List.set_cons_succ]
            refine lexP_step rfl rfl ?_
            refine wp_append_src _ _ _ 63 rfl b1 70 i0 _ 2 16 Try.underlying63 hi hz0 hz1 hz2 rfl (by decide) _ _ _ HO8.out HB8.out A2 (A.L.length - k) (D.c - k) (recV encP ((plsR D.g A.L).drop k)) rfl rfl (by rw [recV_len encP_len, List.length_drop, plsR_len]) (HP2.out _ HK8.out) (recV_one encP_one _) (by omega) (by decide) ?_
            intro v9 W9 hown ho _
            have HK9 := Lib.hid (show Below V0.heap.size V0 W9 from ho.below HK8.out HK8.out.size (fun q hq => by have := (HO8.out.lt q hq).1; have := HC1.out; omega))
            obtain ⟨a9, cap9, hv9, _⟩ := owns_slice hown
            subst hv9
            have hq9 : 0 + k + 1 + (A.L.length - k) = A.L.length + 1 := by omega
            rw [hq9] at hown ⊢
            have hO9 : W9.ownsRow V0.heap.size 70 2 (.slice a9 (A.L.length + 1) cap9) (A.L.length + 1) (recV encP (plsR (updI D.g x ⟨r, bb, bc, v⟩) (A.added x f).L)) := by
              rw [show (A.added x f).L = insL A.L ⟨x, Sl.new A.sz A.co f⟩ from rfl, HEN.out ⟨r, bb, bc, v⟩, recV_append, recV_append, recV_single]
              exact owns_base (by simpa using hown) (fun q hq => by have := (hown.lt q hq).1; have := HC1.out; omega)
            have HT := Lib.hid (show DAdd w D A x f bb (.returned (.int .i64 0)) (W9.setCell ⟨D.d, 2, none⟩ (.slice a9 (A.L.length + 1) cap9)) from ⟨rfl, _, HU.out.done HR.out HBB.out hx HN.out HK9.out hO9⟩)
            refine ⟨HK9.out, ?_⟩
            have d2 : W9.cell? ⟨D.d, 2, none⟩ = some (.slice D.a A.L.length D.c) := (HU.out.row.later HK9.out).cell 2 (by decide)
            have z2 : W9.frozen? ⟨D.d, 2, none⟩ = false := (HU.out.row.later HK9.out).frozen 2
            clear hO9 hown ho HO8 HK8 HB8 HK9 HP1 HP2 HEN hq9
            simp only [List.getElem_toArray, List.getElem_cons_succ, List.getElem_cons_zero, Act.put, List.setIfInBounds_toArray, List.set_cons_zero, List.set_cons_succ]
            refine lexP_yieldE rfl rfl ?_
            apply Exists.intro
            refine ⟨fun W hW => ?_, ?_⟩
            focus (go_simp; exact rfl)
            simp only [List.getElem_toArray, List.getElem_cons_succ, List.getElem_cons_zero, Act.put, List.setIfInBounds_toArray, List.set_cons_zero, List.set_cons_succ]
            refine lexP_yieldE rfl rfl ?_
            apply Exists.intro
            refine ⟨fun W hW => ?_, ?_⟩
            focus (go_simp; exact rfl)
            simp only [List.getElem_toArray, List.getElem_cons_succ, List.getElem_cons_zero, Act.put, List.setIfInBounds_toArray, List.set_cons_zero, List.set_cons_succ]
            refine lexP_last rfl rfl ?_
            unfold Oper.wp
            go_simp
            go_wp2_with (fail)
            go_ret
            exact HT.out
        · refine lexP_step rfl rfl ?_
          unfold Oper.wp
          go_simp
          have HK1 := Lib.hid (show Below V0.heap.size V0 (W0.alloc (.cells #[.int .i64 x, .pointer (some ⟨r, 0, none⟩)] 70)) from HK0.out.alloc HK0.out.size _)
          have HX1 := Lib.hid (place_row W0 x r)
          refine ⟨HK1.out, ?_⟩
          clear HK0
          generalize W0.alloc (.cells #[.int .i64 x, .pointer (some ⟨r, 0, none⟩)] 70) = W1 at *
          generalize W0.heap.size = cb at *
          have HXL := Lib.hid HX1.out.lt
          refine lexP_step rfl rfl ?_
          unfold Oper.wp
          go_simp
          have HK2 := Lib.hid (show Below V0.heap.size V0 (W1.alloc (.cells #[] 70)) from HK1.out.alloc HK1.out.size _)
          have HO2 := Lib.hid (World.ownsRow_made W1 (e := 70) (base := W1.heap.size) (size := 2) #[] 0 (Nat.le_refl _) (Nat.zero_le _) (by simp))
          have HB2 := Lib.hid (show W1.heap.size ≤ (W1.alloc (.cells #[] 70)).heap.size by simp)
          have HC1 := Lib.hid HK1.out.size
          have HX2 := Lib.hid (HX1.out.alloc (.cells #[] 70))
          refine ⟨HK2.out, ?_⟩
          clear HK1 HX1
          generalize W1.alloc (.cells #[] 70) = W2 at *
          generalize W1.heap.size = b1 at *
          refine lexP_step rfl rfl ?_
          refine wp_append_src _ _ _ 63 rfl b1 70 i0 _ 2 16 Try.underlying63 hi hz0 hz1 hz2 rfl (by decide) _ _ _ HO2.out HB2.out D.a k D.c (recV encP ((plsR D.g A.L).take k)) rfl rfl (by rw [recV_len encP_len, List.length_take, plsR_len, Nat.min_eq_left hk]) (HP1.out _ HK2.out) (recV_one encP_one _) (by omega) (by decide) ?_
          intro v3 W3 hown ho _
          have HO3 := Lib.hid hown
          have HK3 := Lib.hid (show Below V0.heap.size V0 W3 from ho.below HK2.out HK2.out.size (fun q hq => by have := (HO2.out.lt q hq).1; have := HC1.out; omega))
          have HB3 := Lib.hid (Nat.le_trans HB2.out ho.size)
          have HX3 := Lib.hid (HX2.out.only ho (fun e => by have h := (HO2.out.lt _ e).1; have := HXL.out; omega))
          refine ⟨HK3.out, ?_⟩
          clear hown ho HK2 HO2 HB2 HX2
          simp only [List.getElem_toArray, List.getElem_cons_succ, List.getElem_cons_zero, Act.put, List.setIfInBounds_toArray, List.set_cons_zero, List.set_cons_succ]
          refine lexP_step rfl rfl ?_
          refine wp_append_src _ _ _ 63 rfl b1 70 i0 _ 2 16 Try.underlying63 hi hz0 hz1 hz2 rfl (by decide) _ _ _ HO3.out HB3.out (some ⟨cb, 0, none⟩) 1 1 (encP (x, r)) rfl rfl rfl (fun _ => ⟨_, rfl, fun q uu hq => place_src HX3.out q uu hq⟩) (encP_one _) (by omega) (by decide) ?_
          intro v8 W8 hown ho _
          have HO8 := Lib.hid hown
          have HK8 := Lib.hid (show Below V0.heap.size V0 W8 from ho.below HK3.out HK3.out.size (fun q hq => by have := (HO3.out.lt q hq).1; have := HC1.out; omega))
          have HB8 := Lib.hid (Nat.le_trans HB3.out ho.size)
          refine ⟨HK8.out, ?_⟩
          clear hown ho HK3 HO3 HB3 HX3
          simp only [List.getElem_toArray, List.getElem_cons_succ, List.getElem_cons_zero, Act.put, List.setIfInBounds_toArray, List.set_cons_zero, List.set_cons_succ]
          refine lexP_step rfl rfl ?_
          refine wp_append_src _ _ _ 63 rfl b1 70 i0 _ 2 16 Try.underlying63 hi hz0 hz1 hz2 rfl (by decide) _ _ _ HO8.out HB8.out A2 (A.L.length - k) (D.c - k) (recV encP ((plsR D.g A.L).drop k)) rfl rfl (by rw [recV_len encP_len, List.length_drop, plsR_len]) (HP2.out _ HK8.out) (recV_one encP_one _) (by omega) (by decide) ?_
          intro v9 W9 hown ho _
          have HK9 := Lib.hid (show Below V0.heap.size V0 W9 from ho.below HK8.out HK8.out.size (fun q hq => by have := (HO8.out.lt q hq).1; have := HC1.out; omega))
          obtain ⟨a9, cap9, hv9, _⟩ := owns_slice hown
          subst hv9
          have hq9 : 0 + k + 1 + (A.L.length - k) = A.L.length + 1 := by omega
          rw [hq9] at hown ⊢
          have hO9 : W9.ownsRow V0.heap.size 70 2 (.slice a9 (A.L.length + 1) cap9) (A.L.length + 1) (recV encP (plsR (updI D.g x ⟨r, bb, bc, v⟩) (A.added x f).L)) := by
            rw [show (A.added x f).L = insL A.L ⟨x, Sl.new A.sz A.co f⟩ from rfl, HEN.out ⟨r, bb, bc, v⟩, recV_append, recV_append, recV_single]
            exact owns_base (by simpa using hown) (fun q hq => by have := (hown.lt q hq).1; have := HC1.out; omega)
          have HT := Lib.hid (show DAdd w D A x f bb (.returned (.int .i64 0)) (W9.setCell ⟨D.d, 2, none⟩ (.slice a9 (A.L.length + 1) cap9)) from ⟨rfl, _, HU.out.done HR.out HBB.out hx HN.out HK9.out hO9⟩)
          refine ⟨HK9.out, ?_⟩
          have d2 : W9.cell? ⟨D.d, 2, none⟩ = some (.slice D.a A.L.length D.c) := (HU.out.row.later HK9.out).cell 2 (by decide)
          have z2 : W9.frozen? ⟨D.d, 2, none⟩ = false := (HU.out.row.later HK9.out).frozen 2
          clear hO9 hown ho HO8 HK8 HB8 HK9 HP1 HP2 HEN hq9
          simp only [List.getElem_toArray, List.getElem_cons_succ, List.getElem_cons_zero, Act.put, List.setIfInBounds_toArray, List.set_cons_zero, List.set_cons_succ]
          refine lexP_yieldE rfl rfl ?_
          apply Exists.intro
          refine ⟨fun W hW => ?_, ?_⟩
          focus (go_simp; exact rfl)
          simp only [List.getElem_toArray, List.getElem_cons_succ, List.getElem_cons_zero, Act.put, List.setIfInBounds_toArray, List.set_cons_zero, List.set_cons_succ]
          refine lexP_yieldE rfl rfl ?_
          apply Exists.intro
          refine ⟨fun W hW => ?_, ?_⟩
          focus (go_simp; exact rfl)
          simp only [List.getElem_toArray, List.getElem_cons_succ, List.getElem_cons_zero, Act.put, List.setIfInBounds_toArray, List.set_cons_zero, List.set_cons_succ]
          refine lexP_last rfl rfl ?_
          unfold Oper.wp
          go_simp
          go_wp2_with (fail)
          go_ret
          exact HT.out
end
end Go.Proofs.Ytlimbcpghfddkaa
