/-
  magazine: Get of the document's pair.
-/
import Derived.Test.YtaadjgnfihkaeaaMgPut
namespace Go.Proofs.Ytaadjgnfihkaeaa
open Go.RowKit Go
theorem wpList_slice_run {P : Program} {w : World} {ops : Array Oper} {rest : List Oper} {o : Oper} {a : Act} {Q : Exit → Act → World → Prop} (hgd : o.guard = none) (t : TypeId) (x : Operand) (lo hh mx : Option Operand) (ho : o.op = .slice t x lo hh mx) (v : Value)
    (hv : (Instr.sliceAt t (a.eval x) (lo.map a.eval) (hh.map a.eval) (mx.map a.eval)).run P w = .ok v w) (h : wpList P ops Q rest (a.put o.dst v) w) : wpList P ops Q (o :: rest) a w :=
  wpList_plain hgd fun _ hK => by
    unfold Oper.wp execOp
    simp only [ho, Sem.run_bind, Sem.run_pure, Result.andThen_ok, hv]
    exact hK _ _ h
theorem wpList_alloc_obj {w : World} {ops : Array Oper} {rest : List Oper} {o : Oper} {a : Act} {Q : Exit → Act → World → Prop} (hgd : o.guard = none) (ho : o.op = .alloc TO)
    (h : ∀ W, W = w.alloc (.cells #[.int .i64 0, .int .i64 0] TO) → wpList Try.prog ops Q rest (a.put o.dst (.pointer (some ⟨w.heap.size, 0, none⟩))) W) : wpList Try.prog ops Q (o :: rest) a w :=
  wpList_plain hgd fun _ hK => by
    unfold Oper.wp execOp
    simp only [ho]
    go_simp
    exact hK _ _ (h _ rfl)
section
variable {w w' w1 w2 : World} {M M1 M2 : MP} {N X : Nat} {L O L' O' : Obs} {x y : Int}
/-- A list that is not empty, cut by its last, in whatever later world. -/
theorem MAt.cutB {n : Nat} (h : MAt w M N L O) (hn : L.length = n + 1) : ∃ g c, M.l = .slice (some ⟨g, 0, none⟩) L.length c ∧ w.cell? ⟨g, n * 2, none⟩ = some (.int .i64 (L.getD n (0, 0)).1) ∧ w.cell? ⟨g, n * 2 + 1, none⟩ = some (.int .i64 (L.getD n (0, 0)).2) ∧ g ≠ M.p ∧ n ≤ c ∧ n < 32 ∧
    ∀ W, Below w.heap.size w W → MAt (W.setCell ⟨M.p, 1, none⟩ (.slice (some ⟨g, 0, none⟩) n c)) ⟨M.p, .slice (some ⟨g, 0, none⟩) n c, M.o⟩ N (L.take n) O ∧ MTurn w M (W.setCell ⟨M.p, 1, none⟩ (.slice (some ⟨g, 0, none⟩) n c)) ⟨M.p, .slice (some ⟨g, 0, none⟩) n c, M.o⟩ := by
  obtain ⟨g, c, hl, hgb, _, hgl, d0, d1⟩ := owns_get h.lo n (by omega)
  have hlo := h.lo
  rw [hl] at hlo
  have hq : L.getD n (0, 0) = L[n] := by rw [List.getD_eq_getElem?_getD, List.getElem?_eq_getElem (by omega)]; rfl
  rw [hq]
  have hcap : n ≤ c := by
    obtain ⟨_, ⟨e1, hn⟩ | ⟨g2, cap, cur, e1, _, _, h1, _⟩⟩ := hlo
    · cases e1
    · injection e1 with _ _ e3
      omega
  have hln := h.hl
  have hn2 := h.n2
  refine ⟨g, c, hl, d0, d1, fun e => h.pl (by rw [hgb, e]), hcap, by omega, fun W hW => ?_⟩
  have hown := owns_later (owns_takeO (k := n) hlo (by omega)) hW
  exact h.setL (S := fun _ => False) (Only.of_below hW) (fun k hk => hk.elim) hown (by rw [List.length_take]; have := h.hl; omega) (fun k hk => .inl (by rw [← hk, hl]; rfl))
set_option maxRecDepth 100000 in
set_option maxHeartbeats 8000000 in
theorem rget_any (h : MAt w M N L O) : Calls Try.prog 15 #[.pointer (some ⟨M.p, 0, none⟩)] w (GetP w M N L O) := by
  have hba : Below w.heap.size w (w.alloc (.cells #[.int .i64 0, .int .i64 0] 33)) := (Below.refl w.heap.size w).alloc (Nat.le_refl _) _
  have HM := Lib.hid (h.later hba)
  have HT := Lib.hid (MTurn.of_below (M := M) hba)
  have HX := Lib.hid (obj_row w 0 0)
  have HN := Lib.hid (show ¬ M.has w.heap.size from fun e => by have := h.lt e; omega)
  clear h hba
  obtain ⟨p, l, o⟩ := M
  by_cases hL : L.length = 0
  · have eL := len_0 hL
    by_cases hO : O.length = 0
    · have eO : ¬ (0 < (O.length : Int)) := by omega
      have HG := Lib.hid (getM_none hL hO)
      clear hL hO
      go_enter Try.func15, Try.ntmps15
      go_wp2_with (first
        | (refine wpList_alloc_obj rfl rfl ?_
           intro w1 hw1
           rw [← hw1] at HM HT HX
           clear hw1
           generalize hXX : w.heap.size = X at HX HN ⊢
           have HLE : Hid (w.heap.size ≤ X) := Lib.hid (Nat.le_of_eq hXX)
           clear hXX
           obtain ⟨c0, c1, c2⟩ := lens HM.out
           obtain ⟨la1, lc1, c1⟩ := c1
           obtain ⟨la2, lc2, c2⟩ := c2
           dsimp only at c0 c1 c2
           have b0 := HX.out.cell 0 (by decide)
           have b1 := HX.out.cell 1 (by decide)
           have g0 := HX.out.frozen 0
           have g1 := HX.out.frozen 1
           have e0 : obV 0 0 0 = .int .i64 0 := rfl
           have e1 : obV 0 0 1 = .int .i64 0 := rfl
           rw [e0] at b0
           rw [e1] at b1
           clear e0 e1
           have HF := Lib.hid (GetP.of HT.out HM.out HLE.out HN.out HG.out)
           have HX4 := Lib.hid (set_obj HX.out 0 0)
           clear HX HT HM HN HG HLE)
        | fail)
      exact ret_obj (b := .bool false) rfl rfl rfl rfl HX4.out HF.out
    · have eO : 0 < (O.length : Int) := by omega
      obtain ⟨n, hlen⟩ : ∃ n, O.length = n + 1 := ⟨O.length - 1, by omega⟩
      have HGM := Lib.hid (getM_chg hL hlen)
      go_enter Try.func15, Try.ntmps15
      go_wp2_with (first
        | (refine wpList_alloc_obj rfl rfl ?_
           intro w1 hw1
           rw [← hw1] at HM HT HX
           clear hw1
           generalize hXX : w.heap.size = X at HX HN ⊢
           have HLE : Hid (w.heap.size ≤ X) := Lib.hid (Nat.le_of_eq hXX)
           clear hXX
           obtain ⟨c0, c1, c2⟩ := lens HM.out
           obtain ⟨la1, lc1, c1⟩ := c1
           obtain ⟨la2, lc2, c2⟩ := c2
           dsimp only at c0 c1 c2)
        | fail)
      refine (rchange_any HM.out).mono ?_
      rintro e w2 ⟨M2, rfl, hM2, hT2⟩
      have HP := Lib.hid hT2.pp
      have HN2 := Lib.hid (hT2.off1 HN.out HX.out.lt)
      have HX2 := Lib.hid (HX.out.only hT2.only HN.out)
      have HT2 := Lib.hid (HT.out.trans hT2)
      have HM2 := Lib.hid hM2
      obtain ⟨p2, l2, o2⟩ := M2
      have hpp : p2 = p := HP.out
      subst hpp
      clear hM2 hT2 HM HT HX HN HP hL hO eL eO c0 c1 c2
      obtain ⟨g, c, hl, d0, d1, hgp, hcn, hn32, hcut⟩ := HM2.out.cutB hlen
      dsimp only at hl hgp hcut
      subst hl
      have hlx := HX2.out.lt
      obtain ⟨Y, hY⟩ : ∃ Y, w2.heap.size = Y := ⟨_, rfl⟩
      generalize O.getD n (0, 0) = q at *
      obtain ⟨x, y⟩ := q
      dsimp only at d0 d1
      have hba : Below w2.heap.size w2 (w2.alloc (.cells #[.int .i64 x, .int .i64 y] TO)) := (Below.refl _ _).alloc (Nat.le_refl _) _
      have HST := Lib.hid (store_obj w2 #[.int .i64 0, .int .i64 0] rfl x y)
      have hm9 := HM2.out.later hba
      have hR := obj_row w2 x y
      have hX9 := HX2.out.later hba
      obtain ⟨hm3, ht3⟩ := hcut _ hba
      rw [hY] at hR HST
      generalize w2.alloc (.cells #[.int .i64 x, .int .i64 y] TO) = w9 at *
      have c1 := HM2.out.c1
      have c9 := hm9.c1
      have f9 := hm9.fz 1
      dsimp only at c1 c9 f9
      rw [hlen] at c1 c9
      have hst : Only (Eq p2) w9 (w9.setCell ⟨p2, 1, none⟩ (.slice (some ⟨g, 0, none⟩) n c)) := Only.setCell (S := Eq p2) _ ⟨p2, 1, none⟩ rfl _
      have hnp : ¬ p2 = Y := fun e => by
        have := HM2.out.row.lt
        dsimp only at this
        omega
      have hxp : ¬ p2 = X := fun e => HN2.out (.inl e.symm)
      have r0 := hst.cell hnp (hR.cell 0 (by decide))
      have r1 := hst.cell hnp (hR.cell 1 (by decide))
      have hX3 := hX9.only hst hxp
      have b0 := hX3.cell 0 (by decide)
      have b1 := hX3.cell 1 (by decide)
      have g0 := hX3.frozen 0
      have g1 := hX3.frozen 1
      have e0 : obV 0 0 0 = .int .i64 0 := rfl
      have e1 : obV 0 0 1 = .int .i64 0 := rfl
      have e2 : obV x y 0 = .int .i64 x := rfl
      have e3 : obV x y 1 = .int .i64 y := rfl
      rw [e0] at b0
      rw [e1] at b1
      rw [e2] at r0
      rw [e3] at r1
      have HF := Lib.hid (GetP.of (HT2.out.trans ht3) hm3 HLE.out (ht3.off1 HN2.out hlx) (HGM.out))
      have HX4 := Lib.hid (set_obj hX3 x y)
      have S1 := Lib.hid (show ∀ V : World, (Instr.sliceAt 29 (.slice (some ⟨g, 0, none⟩) (n + 1) c) none (some (.int .i64 n)) none).run Try.prog V = .ok (.slice (some ⟨g, 0, none⟩) n c) V from fun V => run_sub_toN (P := Try.prog) (t := 29) (e := TO) (s := 2) Try.underlying29 (fun _ => by kernel_rfl) _ _ _ n hcn V)
      clear e0 e1 e2 e3 hst hnp hxp hX3 hX9 hm3 ht3 hm9 hR hba hcut hgp hcn hlx HM2 HT2 HX2 HN2 hlen HGM
      go_wp2_with (first | (refine wpList_slice_run rfl 29 _ _ _ _ rfl _ (S1.out _) ?_) | (refine wpList_store_run rfl TO _ _ rfl _ _ _ rfl rfl HST.out ?_) | fail)
      exact ret_obj (b := .bool true) rfl rfl rfl rfl HX4.out HF.out
  · have eL := len_p hL
    obtain ⟨n, hlen⟩ : ∃ n, L.length = n + 1 := ⟨L.length - 1, by omega⟩
    have HGM := Lib.hid (getM_some (O := O) hlen)
    clear hL
    go_enter Try.func15, Try.ntmps15
    go_wp2_with (first
      | (refine wpList_alloc_obj rfl rfl ?_
         intro w1 hw1
         rw [← hw1] at HM HT HX
         clear hw1
         generalize hXX : w.heap.size = X at HX HN ⊢
         have HLE : Hid (w.heap.size ≤ X) := Lib.hid (Nat.le_of_eq hXX)
         clear hXX
         obtain ⟨c0, c1, c2⟩ := lens HM.out
         obtain ⟨la1, lc1, c1⟩ := c1
         obtain ⟨la2, lc2, c2⟩ := c2
         dsimp only at c0 c1 c2
         clear c0 c1 c2
         obtain ⟨g, c, hl, d0, d1, hgp, hcn, hn32, hcut⟩ := HM.out.cutB hlen
         dsimp only at hl hgp hcut
         subst hl
         have hlx := HX.out.lt
         obtain ⟨Y, hY⟩ : ∃ Y, w1.heap.size = Y := ⟨_, rfl⟩
         generalize L.getD n (0, 0) = q at *
         obtain ⟨x, y⟩ := q
         dsimp only at d0 d1
         have hba : Below w1.heap.size w1 (w1.alloc (.cells #[.int .i64 x, .int .i64 y] TO)) := (Below.refl _ _).alloc (Nat.le_refl _) _
         have HST := Lib.hid (store_obj w1 #[.int .i64 0, .int .i64 0] rfl x y)
         have hm9 := HM.out.later hba
         have hR := obj_row w1 x y
         have hX9 := HX.out.later hba
         obtain ⟨hm3, ht3⟩ := hcut _ hba
         rw [hY] at hR HST
         generalize w1.alloc (.cells #[.int .i64 x, .int .i64 y] TO) = w9 at *
         have c1 := HM.out.c1
         have c9 := hm9.c1
         have f9 := hm9.fz 1
         dsimp only at c1 c9 f9
         rw [hlen] at c1 c9
         have hst : Only (Eq p) w9 (w9.setCell ⟨p, 1, none⟩ (.slice (some ⟨g, 0, none⟩) n c)) := Only.setCell (S := Eq p) _ ⟨p, 1, none⟩ rfl _
         have hnp : ¬ p = Y := fun e => by
           have := HM.out.row.lt
           dsimp only at this
           omega
         have hxp : ¬ p = X := fun e => HN.out (.inl e.symm)
         have r0 := hst.cell hnp (hR.cell 0 (by decide))
         have r1 := hst.cell hnp (hR.cell 1 (by decide))
         have hX3 := hX9.only hst hxp
         have b0 := hX3.cell 0 (by decide)
         have b1 := hX3.cell 1 (by decide)
         have g0 := hX3.frozen 0
         have g1 := hX3.frozen 1
         have e0 : obV 0 0 0 = .int .i64 0 := rfl
         have e1 : obV 0 0 1 = .int .i64 0 := rfl
         have e2 : obV x y 0 = .int .i64 x := rfl
         have e3 : obV x y 1 = .int .i64 y := rfl
         rw [e0] at b0
         rw [e1] at b1
         rw [e2] at r0
         rw [e3] at r1
         have HF := Lib.hid (GetP.of (HT.out.trans ht3) hm3 HLE.out (ht3.off1 HN.out hlx) (HGM.out))
         have HX4 := Lib.hid (set_obj hX3 x y)
         have S1 := Lib.hid (show ∀ V : World, (Instr.sliceAt 29 (.slice (some ⟨g, 0, none⟩) (n + 1) c) none (some (.int .i64 n)) none).run Try.prog V = .ok (.slice (some ⟨g, 0, none⟩) n c) V from fun V => run_sub_toN (P := Try.prog) (t := 29) (e := TO) (s := 2) Try.underlying29 (fun _ => by kernel_rfl) _ _ _ n hcn V)
         clear e0 e1 e2 e3 hst hnp hxp hX3 hX9 hm3 ht3 hm9 hR hba hcut hgp hcn hlx HM HT HX HN hlen HGM)
      | (refine wpList_slice_run rfl 29 _ _ _ _ rfl _ (S1.out _) ?_) | (refine wpList_store_run rfl TO _ _ rfl _ _ _ rfl rfl HST.out ?_) | fail)
    exact ret_obj (b := .bool true) rfl rfl rfl rfl HX4.out HF.out
end
end Go.Proofs.Ytaadjgnfihkaeaa
