/-
  buddy: Copy.
-/
import Derived.Test.YtilcdnkjfbkpnaaBuFree
namespace Go.Proofs.Ytilcdnkjfbkpnaa
open Go.RowKit Go

/-- The row while its maps are cloned. -/
def rowC (n tb : Nat) (mb : Nat → Nat) (k : Nat) (i : Nat) : Value := if i = 0 then .int .i64 n else if i = 12 then .map (some tb) else if i ≤ k then .map (some (mb (i - 1))) else .map none
def setN (mb : Nat → Nat) (k b : Nat) (o : Nat) : Nat := if o = k then b else mb o
theorem rowC_next {w : World} {d n tb k b : Nat} {mb : Nat → Nat} (R : RowAt w d 13 (rowC n tb mb k)) (hk : k < 11) : RowAt (w.setCell ⟨d, 1 + k, none⟩ (.map (some b))) d 13 (rowC n tb (setN mb k b) (k + 1)) :=
  (R.setCell (1 + k) _).ext fun i hi => by
    unfold updV rowC setN
    by_cases e : i = 1 + k
    · subst e
      rw [if_pos rfl, if_neg (by omega), if_neg (by omega), if_pos (by omega), if_pos (by omega)]
    · rw [if_neg e]
      by_cases e0 : i = 0
      · rw [if_pos e0, if_pos e0]
      · rw [if_neg e0, if_neg e0]
        by_cases e2 : i = 12
        · rw [if_pos e2, if_pos e2]
        · rw [if_neg e2, if_neg e2]
          by_cases e3 : i ≤ k
          · rw [if_pos e3, if_pos (by omega), if_neg (by omega)]
          · rw [if_neg e3, if_neg (by omega)]
section
variable {w : World} {d n : Nat} {mb : Nat → Nat} {tb : Nat} {L T : List (Int × Int)}
def Copy6 (w : World) (n : Nat) (L T : List (Int × Int)) (e : Ending) (w' : World) : Prop := ∃ d2 mb2 tb2, e = .returned (.pointer (some ⟨d2, 0, none⟩)) ∧ NodeAt w' d2 n mb2 tb2 L T ∧ w.heap.size ≤ d2 ∧ (∀ k, own6 mb2 tb2 k → w.heap.size ≤ k) ∧ Below w.heap.size w w'
/-- What has been cloned. -/
structure CpAt (w : World) (n d2 tb2 k : Nat) (L T : List (Int × Int)) (mb2 : Nat → Nat) (wr : World) : Prop where
  row : RowAt wr d2 13 (rowC n tb2 mb2 k)
  tk : FMap Try.prog 3 EI wr tb2 (tkL T)
  fr : ∀ o, o < k → FMap Try.prog 3 EU wr (mb2 o) (frL L o) ∧ w.heap.size ≤ mb2 o ∧ mb2 o ≠ tb2
  inj : ∀ o p, o < k → p < k → mb2 o = mb2 p → o = p
  bel : Below w.heap.size w wr
  d1 : w.heap.size ≤ d2
  t1 : w.heap.size ≤ tb2
theorem CpAt.later {w wr w' : World} {n d2 tb2 k : Nat} {mb2 : Nat → Nat} (C : CpAt w n d2 tb2 k L T mb2 wr) (h : Below wr.heap.size wr w') : CpAt w n d2 tb2 k L T mb2 w' :=
  ⟨C.row.later h, C.tk.later h, fun o ho => ⟨(C.fr o ho).1.later h, (C.fr o ho).2⟩, C.inj, C.bel.trans (h.mono C.bel.size), C.d1, C.t1⟩
theorem CpAt.next {w wr : World} {n d2 tb2 k b : Nat} {mb2 : Nat → Nat} (C : CpAt w n d2 tb2 k L T mb2 wr) (hk : k < 11) (hF : FMap Try.prog 3 EU wr b (frL L k)) (hb : w.heap.size ≤ b) (ht : b ≠ tb2) (hn : ∀ o, o < k → mb2 o ≠ b) :
    CpAt w n d2 tb2 (k + 1) L T (setN mb2 k b) (wr.setCell ⟨d2, 1 + k, none⟩ (.map (some b))) := by
  have ho := Only.setCell (S := fun j => j = d2) wr ⟨d2, 1 + k, none⟩ rfl (.map (some b))
  refine ⟨rowC_next C.row hk, C.tk.only ho (fun e => map_row C.tk C.row e), fun o hlo => ?_, fun o p hlo hp e => ?_, ho.below C.bel C.bel.size (fun j hj => by have := C.d1; omega), C.d1, C.t1⟩
  · unfold setN
    by_cases e : o = k
    · rw [if_pos e, e]
      exact ⟨hF.only ho (fun e => map_row hF C.row e), hb, ht⟩
    · rw [if_neg e]
      obtain ⟨h1, h2⟩ := C.fr o (by omega)
      exact ⟨h1.only ho (fun e => map_row h1 C.row e), h2⟩
  · unfold setN at e
    by_cases e1 : o = k
    · by_cases e2 : p = k
      · omega
      · rw [if_pos e1, if_neg e2] at e
        exact absurd e.symm (hn p (by omega))
    · by_cases e2 : p = k
      · rw [if_neg e1, if_pos e2] at e
        exact absurd e (hn o (by omega))
      · rw [if_neg e1, if_neg e2] at e
        exact C.inj o p (by omega) (by omega) e
set_option maxRecDepth 100000 in
set_option maxHeartbeats 2000000 in
theorem copy6_any (N : NodeAt w d n mb tb L T) (hn : 1 ≤ n) :
    Calls Try.prog 18 #[.pointer (some ⟨d, 0, none⟩)] w (Copy6 w n L T) := by
  have HN := Lib.hid N
  have L0 := Lib.hid (show ∀ W, Kept w.heap.size w W → (loadVar 3 ⟨d, 0, none⟩).run Try.prog W = .ok (.int .i64 n) W from
    fun W hW => run_loadVar_cell (fun _ => by kernel_rfl) (HN.out.later hW.below).c0)
  have L1 := Lib.hid (show ∀ W, Kept w.heap.size w W → (loadVar 47 ⟨d, 12, none⟩).run Try.prog W = .ok (.map (some tb)) W from
    fun W hW => run_loadVar_cell (fun _ => by kernel_rfl) (HN.out.later hW.below).c12)
  go_enter Try.func18, Try.ntmps18
  go_wp2_with (fail)
  refine (missing_any HN.out hn).mono ?_
  rintro e w' ⟨rfl, rfl⟩
  go_wp2_with (fail)
  refine wp_region_lex (Kept w.heap.size w) [(0, false), (1, false), (2, false), (3, false), (4, false), (5, false), (6, false), (7, false), (8, true), (9, false), (10, true), (11, false)]
    (by kernel_rfl) (by kernel_rfl) rfl (by kernel_rfl) ⟨rfl, rfl, rfl, Nat.le_refl _, fun _ _ => rfl⟩ ?_
  intro W0 hK0
  refine lexH_yieldE rfl rfl ?_
  apply Exists.intro
  refine ⟨fun W hW => ?_, ?_⟩
  focus (go_simp; exact rfl)
  simp only [List.getElem_toArray, List.getElem_cons_zero, Act.put, List.setIfInBounds_toArray, List.set_cons_zero, List.set_cons_succ]
  refine lexH_yieldE rfl rfl ?_
  apply Exists.intro
  refine ⟨fun W hW => ?_, ?_⟩
  focus (go_simp; exact rfl)
  simp only [List.getElem_toArray, List.getElem_cons_succ, List.getElem_cons_zero, Act.put, List.setIfInBounds_toArray, List.set_cons_zero, List.set_cons_succ]
  refine lexH_yieldE rfl rfl ?_
  apply Exists.intro
  refine ⟨fun W hW => ?_, ?_⟩
  focus (go_simp; exact rfl)
  simp only [List.getElem_toArray, List.getElem_cons_succ, List.getElem_cons_zero, Act.put, List.setIfInBounds_toArray, List.set_cons_zero, List.set_cons_succ]
  refine lexH_load rfl rfl _ _ rfl rfl L0.out ?_
  simp only [List.getElem_toArray, List.getElem_cons_succ, List.getElem_cons_zero, Act.put, List.setIfInBounds_toArray, List.set_cons_zero, List.set_cons_succ]
  refine lexH_yieldE rfl rfl ?_
  apply Exists.intro
  refine ⟨fun W hW => ?_, ?_⟩
  focus (go_simp; exact rfl)
  simp only [List.getElem_toArray, List.getElem_cons_succ, List.getElem_cons_zero, Act.put, List.setIfInBounds_toArray, List.set_cons_zero, List.set_cons_succ]
  refine lexH_yieldE rfl rfl ?_
  apply Exists.intro
  refine ⟨fun W hW => ?_, ?_⟩
  focus (go_simp; exact rfl)
  simp only [List.getElem_toArray, List.getElem_cons_succ, List.getElem_cons_zero, Act.put, List.setIfInBounds_toArray, List.set_cons_zero, List.set_cons_succ]
  refine lexH_yieldE rfl rfl ?_
  apply Exists.intro
  refine ⟨fun W hW => ?_, ?_⟩
  focus (go_simp; exact rfl)
  simp only [List.getElem_toArray, List.getElem_cons_succ, List.getElem_cons_zero, Act.put, List.setIfInBounds_toArray, List.set_cons_zero, List.set_cons_succ]
  refine lexH_load rfl rfl _ _ rfl rfl L1.out ?_
  simp only [List.getElem_toArray, List.getElem_cons_succ, List.getElem_cons_zero, Act.put, List.setIfInBounds_toArray, List.set_cons_zero, List.set_cons_succ]
  refine lexH_call 34 #[.map (some tb)] rfl rfl ?_ ?_
  focus (go_simp; done)
  refine (cloneT_any (HN.out.later hK0.below).tkn).mono ?_
  rintro e w1 ⟨rfl, hF, hb⟩
  have HB1 := Lib.hid (hK0.below.trans (hb.mono hK0.below.size))
  have HT1 := Lib.hid hF
  have HLE := Lib.hid hK0.below.size
  clear hF hb
  generalize W0.heap.size = tb2 at *
  refine ⟨_, rfl, HB1.out, ?_⟩
  simp only [List.getElem_toArray, List.getElem_cons_succ, List.getElem_cons_zero, Act.put, List.setIfInBounds_toArray, List.set_cons_zero, List.set_cons_succ]
  refine lexH_yieldE rfl rfl ?_
  apply Exists.intro
  refine ⟨fun W hW => ?_, ?_⟩
  focus (go_simp; exact rfl)
  simp only [List.getElem_toArray, List.getElem_cons_succ, List.getElem_cons_zero, Act.put, List.setIfInBounds_toArray, List.set_cons_zero, List.set_cons_succ]
  have ha : Below w1.heap.size w1 (w1.alloc (.cells #[Value.int IntKind.i64 ↑n, Value.map none, Value.map none, Value.map none, Value.map none, Value.map none, Value.map none, Value.map none, Value.map none, Value.map none, Value.map none, Value.map none, Value.map (some tb2)] 49)) := (Below.refl _ w1).alloc (Nat.le_refl _) _
  have HC0 := Lib.hid (show CpAt w n w1.heap.size tb2 0 L T (fun _ => 0) (w1.alloc (.cells #[Value.int IntKind.i64 ↑n, Value.map none, Value.map none, Value.map none, Value.map none, Value.map none, Value.map none, Value.map none, Value.map none, Value.map none, Value.map none, Value.map none, Value.map (some tb2)] 49)) from
    ⟨RowAt.new w1 _ 49 13 _ (fun i hi => by
      rcases (show i = 0 ∨ i = 1 ∨ i = 2 ∨ i = 3 ∨ i = 4 ∨ i = 5 ∨ i = 6 ∨ i = 7 ∨ i = 8 ∨ i = 9 ∨ i = 10 ∨ i = 11 ∨ i = 12 by omega) with rfl | rfl | rfl | rfl | rfl | rfl | rfl | rfl | rfl | rfl | rfl | rfl | rfl <;> rfl),
     HT1.out.later ha, fun o h => absurd h (Nat.not_lt_zero _), fun o p h => absurd h (Nat.not_lt_zero _), HB1.out.trans (ha.mono HB1.out.size), HB1.out.size, HLE.out⟩)
  refine lexH_eff rfl rfl ?_
  unfold Oper.wp
  go_simp
  refine ⟨HC0.out.bel, ?_⟩
  clear ha HT1 HB1 HLE hK0 L0 L1
  generalize w1.heap.size = d2 at *
  generalize w1.alloc (.cells _ 49) = w2 at *
  refine lexH_yieldE rfl rfl ?_
  apply Exists.intro
  refine ⟨fun W hW => ?_, ?_⟩
  focus (go_simp; exact rfl)
  simp only [List.getElem_toArray, List.getElem_cons_succ, List.getElem_cons_zero, Act.put, List.setIfInBounds_toArray, List.set_cons_zero, List.set_cons_succ]
  refine lexH_nil ?_
  obtain ⟨A, hA, hAs, hAi⟩ := load_maps (HN.out.later HC0.out.bel)
  have HA := Lib.hid hA
  have HAI := Lib.hid hAi
  clear hA hAi
  go_wp2_with (refine wpList_load_run rfl 46 _ rfl rfl HA.out ?_)
  go_loopw [23] (fun i wr => ∃ (k : Nat) (mb2 : Nat → Nat), i = .int .i64 k ∧ k ≤ 11 ∧ CpAt w n d2 tb2 k L T mb2 wr) (fun i _ => 11 - (intOf i).toNat)
  case atStart => exact ⟨0, _, rfl, by decide, HC0.out⟩
  case round =>
    clear HC0 HA
    obtain ⟨k, mb2, rfl, hk, hC⟩ := hrel
    have HC := Lib.hid hC
    clear hC
    by_cases hlt : k < 11
    · have hlt2 : (k : Int) < 11 := by omega
      have hix := index_maps hlt2 (HAI.out k hlt)
      go_wp2_with (fail)
      refine wp_region_lex1 (fun _ => True) [(0, false), (1, false), (2, false), (4, false), (5, false), (3, true), (6, false), (7, true)] (by kernel_rfl) (by kernel_rfl) rfl (by kernel_rfl) trivial ?_
      intro W0 hW0 _
      have HC1 := Lib.hid (show CpAt w n d2 tb2 k L T mb2 W0 by rw [hW0]; exact HC.out.later (Below.refl _ wr).drew)
      clear hW0 HC hix
      refine lexH_yieldE rfl rfl ?_
      apply Exists.intro
      refine ⟨fun W hW => ?_, ?_⟩
      focus (go_simp; exact rfl)
      simp only [List.getElem_toArray, List.getElem_cons_zero, Act.put, List.setIfInBounds_toArray, List.set_cons_zero, List.set_cons_succ]
      refine lexH_yieldE rfl rfl ?_
      apply Exists.intro
      refine ⟨fun W hW => ?_, ?_⟩
      focus (go_simp; exact rfl)
      simp only [List.getElem_toArray, List.getElem_cons_succ, List.getElem_cons_zero, Act.put, List.setIfInBounds_toArray, List.set_cons_zero, List.set_cons_succ]
      refine lexH_yieldE rfl rfl ?_
      apply Exists.intro
      refine ⟨fun W hW => ?_, ?_⟩
      focus (go_simp; exact rfl)
      simp only [List.getElem_toArray, List.getElem_cons_succ, List.getElem_cons_zero, Act.put, List.setIfInBounds_toArray, List.set_cons_zero, List.set_cons_succ]
      refine lexH_yieldE rfl rfl ?_
      apply Exists.intro
      refine ⟨fun W hW => ?_, ?_⟩
      focus (go_simp; exact rfl)
      simp only [List.getElem_toArray, List.getElem_cons_succ, List.getElem_cons_zero, Act.put, List.setIfInBounds_toArray, List.set_cons_zero, List.set_cons_succ]
      refine lexH_yieldE rfl rfl ?_
      apply Exists.intro
      refine ⟨fun W hW => ?_, ?_⟩
      focus (go_simp; exact rfl)
      simp only [List.getElem_toArray, List.getElem_cons_succ, List.getElem_cons_zero, Act.put, List.setIfInBounds_toArray, List.set_cons_zero, List.set_cons_succ]
      refine lexH_call 35 #[.map (some (mb k))] rfl rfl ?_ ?_
      focus (go_simp; done)
      refine (cloneF_any ((HN.out.later HC1.out.bel).free k hlt)).mono ?_
      rintro e w3 ⟨rfl, hF, hb⟩
      have HC3 := Lib.hid (HC1.out.later hb)
      have HF3 := Lib.hid hF
      have HSZ := Lib.hid (show (∀ o, o < k → mb2 o ≠ W0.heap.size) ∧ W0.heap.size ≠ tb2 ∧ w.heap.size ≤ W0.heap.size ∧ d2 ≠ W0.heap.size from
        ⟨fun o ho => by have := (HC1.out.fr o ho).1.lt; omega, by have := HC1.out.tk.lt; omega, HC1.out.bel.size, by have := HC1.out.row.lt; omega⟩)
      clear hF hb HC1
      generalize W0.heap.size = b at *
      refine ⟨_, rfl, trivial, ?_⟩
      simp only [List.getElem_toArray, List.getElem_cons_succ, List.getElem_cons_zero, Act.put, List.setIfInBounds_toArray, List.set_cons_zero, List.set_cons_succ]
      refine lexH_yieldE rfl rfl ?_
      apply Exists.intro
      refine ⟨fun W hW => ?_, ?_⟩
      focus (go_simp; exact rfl)
      simp only [List.getElem_toArray, List.getElem_cons_succ, List.getElem_cons_zero, Act.put, List.setIfInBounds_toArray, List.set_cons_zero, List.set_cons_succ]
      have c1 : w3.cell? ⟨d2, 1 + k, none⟩ = some (.map none) := by
        have h := HC3.out.row.cell (1 + k) (by omega)
        unfold rowC at h
        rw [if_neg (by omega), if_neg (by omega), if_neg (by omega)] at h
        exact h
      have f1 : w3.frozen? ⟨d2, 1 + k, none⟩ = false := HC3.out.row.frozen _
      have HC4 := Lib.hid (HC3.out.next hlt HF3.out HSZ.out.2.2.1 HSZ.out.2.1 HSZ.out.1)
      refine lexH_eff rfl rfl ?_
      unfold Oper.wp
      go_simp
      clear c1 f1 HC3 HF3 HSZ
      refine lexH_nil ?_
      go_wp2_with (fail)
      go_roundw
      case rel => exact ⟨k + 1, _, by go_num, hlt, HC4.out⟩
      case measure => simp [intOf]; omega
    · obtain rfl : k = 11 := by omega
      rw [show ((11 : Nat) : Int) = 11 from rfl]
      have HF := Lib.hid (show Copy6 w n L T (.returned (.pointer (some ⟨d2, 0, none⟩))) wr from
        ⟨d2, mb2, tb2, rfl, ⟨HC.out.row.ext (fun i hi => by
          unfold rowC ndV
          by_cases e0 : i = 0
          · rw [if_pos e0, if_pos e0]
          · rw [if_neg e0, if_neg e0]
            by_cases e2 : i = 12
            · rw [if_pos e2, if_pos e2]
            · rw [if_neg e2, if_neg e2, if_pos (by omega)]), fun o ho => (HC.out.fr o ho).1, HC.out.tk, fun o p ho hp => HC.out.inj o p ho hp, fun o ho => (HC.out.fr o ho).2.2, N.bnd, N.tbnd⟩, HC.out.d1, fun k hk => by
          rcases hk with rfl | ⟨o, ho, rfl⟩
          · exact HC.out.t1
          · exact (HC.out.fr o ho).2.1, HC.out.bel⟩)
      clear HC
      go_wp2_with (fail)
      go_ret
      exact HF.out
end
end Go.Proofs.Ytilcdnkjfbkpnaa
