/-
  areas: the landed New, Copy; slices.Clone of runs.
-/
import Derived.Test.YthnkbipdlepbaaaArFun
namespace Go.Proofs.Ythnkbipdlepbaaa
open Go.RowKit Go.Shelf Go
attribute [local go_sem] Oper.semAt_some

theorem arL_one (L : Rns) : ∀ v ∈ arL L, v.oneCell' = true := fun v hv => by
  rcases List.mem_cons.1 hv with rfl | h
  · rfl
  · exact recV_one encR_one _ v h
theorem arL_at {L : Rns} (h : L.length ≤ 32) {i : Nat} (hi : i < 97) : (arL L)[i]? = some (arV L i) := by
  rw [arV, List.getD, List.getElem?_eq_getElem (by rw [arL_len h]; exact hi)]
  rfl
theorem infoAr : (Try.prog.info? 42).map (·.size) = some 97 := by kernel_rfl
/-- Areas without a page. -/
def zcA : Array Value := (arL []).toArray
theorem zero_areas (W : World) : (zeroValue 42).run Try.prog W = .ok (.agg zcA) W := by kernel_rfl
theorem isA_new {f : Nat → Nat} {L : Rns} (w : World) (hL : rns f = L) (hl : L.length ≤ 32) : AAt (w.alloc (.cells (arL L).toArray 42)) w.heap.size (rns f) := by
  rw [hL]
  refine RowAt.new w _ _ 97 _ fun i hi => ?_
  rw [List.getElem?_toArray]
  exact arL_at hl hi
theorem runs_zero : ∀ n, runsTo (fun _ => 0) n = []
  | 0 => rfl
  | n + 1 => by rw [runsTo, if_pos rfl, runs_zero n]
theorem isAr_zero (d : Nat) : IsAr (thA d []) d (fun _ => 0) := ⟨by rw [rns, runs_zero], fun _ => Nat.zero_le _, fun _ _ => rfl, by rw [rns, runs_zero]; exact Nat.zero_le _⟩
/-- A build whose run is known. -/
theorem wpList_build_run {P : Program} {ops : Array Oper} {rest : List Oper} {op : Oper} {a : Act} {w : World} {Q : Exit → Act → World → Prop} (hgd : op.guard = none) (ty : TypeId) (xs : Array (Nat × Operand)) (_ : op.op = .build ty xs) (v : Value) (hr : (execOp a.eval op).run P w = .ok (.value v) w)
    (h : wpList P ops Q rest (a.put op.dst v) w) : wpList P ops Q (op :: rest) a w :=
  wpList_plain hgd fun _ hK => by
    unfold Oper.wp
    simp only [hr]
    exact hK _ _ h
/-- What New and Copy leave. -/
def NewQ (w : World) (f : Nat → Nat) (e : Ending) (w' : World) : Prop := ∃ d Y, e = .returned (.pointer (some ⟨d, 0, none⟩)) ∧ IsAr Y d f ∧ TTurn w Thg.no w' Y
section
variable {w w' : World} {d : Nat} {f : Nat → Nat}
theorem newQ_of (h : IsAr (thA w.heap.size (rns f)) w.heap.size f) (ob : Obj) (hA : AAt (w.alloc ob) w.heap.size (rns f)) : NewQ w f (.returned (.pointer (some ⟨w.heap.size, 0, none⟩))) (w.alloc ob) :=
  ⟨w.heap.size, _, rfl, h, hA, Only.alloc _ w ob, fun _ hk => .inr (Nat.le_of_eq (Eq.symm hk))⟩
set_option maxRecDepth 100000 in
set_option maxHeartbeats 2000000 in
theorem anew_any (w : World) : Calls Try.prog 9 #[] w (NewQ w (fun _ => 0)) := by
  have HN := Lib.hid (newQ_of (w := w) (f := fun _ => 0) ⟨rfl, (isAr_zero 0).2⟩ (.cells zcA 42) (isA_new w (runs_zero 1024) (Nat.zero_le _)))
  go_enter Try.func9, Try.ntmps9
  go_wp2_with (first | (refine wpList_build_run rfl _ _ rfl (.agg zcA) (by kernel_rfl) ?_) | fail)
  go_ret
  exact HN.out
set_option maxRecDepth 100000 in
set_option maxHeartbeats 2000000 in
theorem acopy_any (h : IsAr (thA d (rns f)) d f) (hA : AAt w d (rns f)) : Calls Try.prog 21 #[.pointer (some ⟨d, 0, none⟩)] w (NewQ w f) := by
  have hl := h.2.2.2
  have HG := Lib.hid (hA.range 0 (arL (rns f)) (fun j v hv => by
    have hj : j < 97 := by have := (List.getElem?_eq_some_iff.1 hv).1; rwa [arL_len hl] at this
    rw [arL_at hl hj] at hv
    exact ⟨by omega, by rw [Nat.zero_add]; exact Option.some.inj hv⟩))
  have HN := Lib.hid (newQ_of (w := w) (f := f) ⟨rfl, h.2⟩ (.cells (arL (rns f)).toArray 42) (isA_new w rfl hl))
  have HST := Lib.hid (run_storeVar_new (P := Try.prog) w 42 zcA (arL (rns f)).toArray (by rw [infoAr, List.size_toArray, arL_len hl]) (Eq.trans (show zcA.size = 97 from rfl) (by rw [List.size_toArray, arL_len hl])) (all_oneCell_toArray (arL_one _)))
  have HI := Lib.hid (show (Try.prog.info? 42).map (·.size) = some (arL (rns f)).length from by rw [infoAr, arL_len hl])
  clear h hA hl
  generalize arL (rns f) = A at *
  have hz := zero_areas
  go_enter Try.func21, Try.ntmps21
  go_wp2_with (first | refine wpList_store_run rfl 42 _ _ rfl w.heap.size _ _ rfl rfl HST.out ?_ | refine wpList_load_mid rfl 42 _ rfl d 0 rfl A _ HG.out Try.underlying42 rfl HI.out ?_ | fail)
  go_ret
  exact HN.out
set_option maxRecDepth 100000 in
theorem acopy_no (w : World) : Calls Try.prog 21 #[.pointer none] w fun e w' => e = .returned (.pointer none) ∧ Below w.heap.size w w' := by
  go_enter Try.func21, Try.ntmps21
  go_wp2_with (fail)
  go_ret
  exact ⟨rfl, Below.refl _ _⟩
theorem slice_not (ad : Addr) (n c : Nat) (W : World) : (binOp .eql 49 (.slice (some ad) n c) (.slice none 0 0)).run Try.prog W = .ok (.bool false) W := by kernel_rfl
set_option maxRecDepth 100000 in
set_option maxHeartbeats 4000000 in
theorem clone_runs {ad : Addr} {L : Rns} {c : Nat} (hs : ∀ j u, (recV encR L)[j]? = some u → w.cell? (ad.add j) = some u) (hn : L.length ≤ 1000) :
    Calls Try.prog 37 #[.slice (some ad) L.length c] w (RunsP w L) := by
  obtain ⟨i0, hi, hz0, hz1, hz2⟩ := info_parts infoRun
  have hba : Below w.heap.size w (w.alloc (.cells #[] TRun)) := (Below.refl _ _).alloc (Nat.le_refl _) _
  have HW := Lib.hid (World.ownsRow_made w (e := TRun) (base := w.heap.size) (size := 3) #[] 0 (Nat.le_refl _) (Nat.zero_le _) (by simp))
  have HB := Lib.hid hba
  have HSR := Lib.hid (show 0 < L.length → ∃ ad', some ad = some ad' ∧ ∀ j u, (recV encR L)[j]? = some u → (w.alloc (.cells #[] TRun)).cell? (ad'.add j) = some u from
    fun _ => ⟨ad, rfl, fun j u hj => by
      have h := hs j u hj
      rw [hba.cell (World.block_lt_of_cell? _ _ h)]
      exact h⟩)
  have HLE := Lib.hid hba.size
  clear hba hs
  have hne := slice_not
  go_enter Try.func37, Try.ntmps37
  go_wp2_with (first | (at_builtin; refine wpList_append_src _ rfl _ _ 49 rfl w.heap.size 39 i0 _ 3 24 Try.underlying49 hi hz0 hz1 hz2 rfl (by decide) _ _ _ rfl HW.out (some ad) L.length c (recV encR L) rfl (recV_len encR_len _) HSR.out (recV_one encR_one _) (by unfold maxLen; omega) (by omega) HLE.out ?_; intro v3 w3 hown3 hgr3 _) | fail)
  have HP := Lib.hid (show RunsP w L (.returned v3) w3 from ⟨_, rfl, by rw [Nat.zero_add, List.nil_append] at hown3; exact hown3, (Only.of_grown hgr3).below HB.out HB.out.size (fun k hk => (HW.out.lt k hk).1)⟩)
  clear hown3 hgr3 HB HW HSR HLE
  go_wp2_with (fail)
  go_ret
  exact HP.out
set_option maxRecDepth 100000 in
theorem slice_nothing (W : World) : (binOp .eql 49 (.slice none 0 0) (.slice none 0 0)).run Try.prog W = .ok (.bool true) W := by kernel_rfl
set_option maxRecDepth 100000 in
theorem clone_none (w : World) : Calls Try.prog 37 #[.slice none 0 0] w fun e w' => e = .returned (.slice none 0 0) ∧ Below w.heap.size w w' := by
  have hsn := slice_nothing
  go_enter Try.func37, Try.ntmps37
  go_wp2_with (fail)
  go_ret
  exact ⟨rfl, Below.refl _ _⟩
theorem AAt.src {L : Rns} (hA : AAt w d L) (hl : L.length ≤ 32) : ∀ j u, (recV encR L)[j]? = some u → w.cell? ((⟨d, 1, none⟩ : Addr).add j) = some u := fun j u hj => by
  have hlt := (List.getElem?_eq_some_iff.1 hj).1
  have h1 := recV_len encR_len L
  rw [Addr.add_lit, hA.cell (1 + j) (by omega), arV, List.getD, arL, Nat.add_comm 1 j, List.getElem?_cons_succ, padR, recV_append, List.getElem?_append_left hlt, hj]
  rfl
end
end Go.Proofs.Ythnkbipdlepbaaa
