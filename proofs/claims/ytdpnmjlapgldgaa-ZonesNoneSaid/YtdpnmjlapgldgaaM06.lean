/-
  Texts that this claim builds on, merged.
-/
import Derived.Test.YtdpnmjlapgldgaaM05
import Derived.Maps.AppendAt
import Derived.RangeFuncNested
import Derived.Test.YtdpnmjlapgldgaaM01
import Derived.Deep.LoopGhost
import Derived.WalkMore
import Derived.Laws.EntriesVeiled
import Derived.Test.YtdpnmjlapgldgaaM04
import Derived.Test.YtdpnmjlapgldgaaM02
namespace Go.Proofs.Ytdpnmjlapgldgaa
/-! buddy: Copy. -/
section
open Go.RowKit Go

/-- The row while its maps are cloned. -/
def rowC (n tb : Nat) (mb : Nat → Nat) (k : Nat) (i : Nat) : Value := if i = 0 then .int .i64 n else if i = 12 then .map (some tb) else if i ≤ k then .map (some (mb (i - 1))) else .map none
def setN (mb : Nat → Nat) (k b : Nat) (o : Nat) : Nat := if o = k then b else mb o
theorem rowC_next {w : World} {d n tb k b : Nat} {mb : Nat → Nat} (R : RowAt w d 13 (rowC n tb mb k)) (hk : k < 11) : RowAt (w.setCell ⟨d, 1 + k, none⟩ (.map (some b))) d 13 (rowC n tb (setN mb k b) (k + 1)) :=
  (R.setCell (1 + k) _).ext fun i hi => by
    unfold updV rowC setN
    by_cases e : i = 1 + k
    · subst e
      rw [if_pos rfl, if_neg (by omega), if_neg (by omega), if_pos (by omega), if_pos (by omega)]
    · rw [if_neg e]
      by_cases e0 : i = 0
      · rw [if_pos e0, if_pos e0]
      · rw [if_neg e0, if_neg e0]
        by_cases e2 : i = 12
        · rw [if_pos e2, if_pos e2]
        · rw [if_neg e2, if_neg e2]
          by_cases e3 : i ≤ k
          · rw [if_pos e3, if_pos (by omega), if_neg (by omega)]
          · rw [if_neg e3, if_neg (by omega)]
section
variable {w : World} {d n : Nat} {mb : Nat → Nat} {tb : Nat} {L T : List (Int × Int)}
def Copy6 (w : World) (n : Nat) (L T : List (Int × Int)) (e : Ending) (w' : World) : Prop := ∃ d2 mb2 tb2, e = .returned (.pointer (some ⟨d2, 0, none⟩)) ∧ NodeAt w' d2 n mb2 tb2 L T ∧ w.heap.size ≤ d2 ∧ (∀ k, own6 mb2 tb2 k → w.heap.size ≤ k) ∧ Below w.heap.size w w'
/-- What has been cloned. -/
structure CpAt (w : World) (n d2 tb2 k : Nat) (L T : List (Int × Int)) (mb2 : Nat → Nat) (wr : World) : Prop where
  row : RowAt wr d2 13 (rowC n tb2 mb2 k)
  tk : FMap Try.prog 3 EI wr tb2 (tkL T)
  fr : ∀ o, o < k → FMap Try.prog 3 EU wr (mb2 o) (frL L o) ∧ w.heap.size ≤ mb2 o ∧ mb2 o ≠ tb2
  inj : ∀ o p, o < k → p < k → mb2 o = mb2 p → o = p
  bel : Below w.heap.size w wr
  d1 : w.heap.size ≤ d2
  t1 : w.heap.size ≤ tb2
theorem CpAt.later {w wr w' : World} {n d2 tb2 k : Nat} {mb2 : Nat → Nat} (C : CpAt w n d2 tb2 k L T mb2 wr) (h : Below wr.heap.size wr w') : CpAt w n d2 tb2 k L T mb2 w' :=
  ⟨C.row.later h, C.tk.later h, fun o ho => ⟨(C.fr o ho).1.later h, (C.fr o ho).2⟩, C.inj, C.bel.trans (h.mono C.bel.size), C.d1, C.t1⟩
theorem CpAt.next {w wr : World} {n d2 tb2 k b : Nat} {mb2 : Nat → Nat} (C : CpAt w n d2 tb2 k L T mb2 wr) (hk : k < 11) (hF : FMap Try.prog 3 EU wr b (frL L k)) (hb : w.heap.size ≤ b) (ht : b ≠ tb2) (hn : ∀ o, o < k → mb2 o ≠ b) :
    CpAt w n d2 tb2 (k + 1) L T (setN mb2 k b) (wr.setCell ⟨d2, 1 + k, none⟩ (.map (some b))) := by
  have ho := Only.setCell (S := fun j => j = d2) wr ⟨d2, 1 + k, none⟩ rfl (.map (some b))
  refine ⟨rowC_next C.row hk, C.tk.only ho (fun e => map_row C.tk C.row e), fun o hlo => ?_, fun o p hlo hp e => ?_, ho.below C.bel C.bel.size (fun j hj => by have := C.d1; omega), C.d1, C.t1⟩
  · unfold setN
    by_cases e : o = k
    · rw [if_pos e, e]
      exact ⟨hF.only ho (fun e => map_row hF C.row e), hb, ht⟩
    · rw [if_neg e]
      obtain ⟨h1, h2⟩ := C.fr o (by omega)
      exact ⟨h1.only ho (fun e => map_row h1 C.row e), h2⟩
  · unfold setN at e
    by_cases e1 : o = k
    · by_cases e2 : p = k
      · omega
      · rw [if_pos e1, if_neg e2] at e
        exact absurd e.symm (hn p (by omega))
    · by_cases e2 : p = k
      · rw [if_neg e1, if_pos e2] at e
        exact absurd e (hn o (by omega))
      · rw [if_neg e1, if_neg e2] at e
        exact C.inj o p (by omega) (by omega) e
set_option maxRecDepth 100000 in
set_option maxHeartbeats 2000000 in
theorem copy6_any (N : NodeAt w d n mb tb L T) (hn : 1 ≤ n) :
    Calls Try.prog 41 #[.pointer (some ⟨d, 0, none⟩)] w (Copy6 w n L T) := by
  have HN := Lib.hid N
  have L0 := Lib.hid (show ∀ W, Kept w.heap.size w W → (loadVar 3 ⟨d, 0, none⟩).run Try.prog W = .ok (.int .i64 n) W from
    fun W hW => run_loadVar_cell (fun _ => by kernel_rfl) (HN.out.later hW.below).c0)
  have L1 := Lib.hid (show ∀ W, Kept w.heap.size w W → (loadVar 58 ⟨d, 12, none⟩).run Try.prog W = .ok (.map (some tb)) W from
    fun W hW => run_loadVar_cell (fun _ => by kernel_rfl) (HN.out.later hW.below).c12)
  go_enter Try.func41, Try.ntmps41
  go_wp2_with (fail)
  refine (missing_any HN.out hn).mono ?_
  rintro e w' ⟨rfl, rfl⟩
  go_wp2_with (fail)
  refine wp_region_lex (Kept w.heap.size w) [(0, false), (1, false), (2, false), (3, false), (4, false), (5, false), (6, false), (7, false), (8, true), (9, false), (10, true), (11, false)]
    (by kernel_rfl) (by kernel_rfl) rfl (by kernel_rfl) ⟨rfl, rfl, rfl, Nat.le_refl _, fun _ _ => rfl⟩ ?_
  intro W0 hK0
  refine lexH_yieldE rfl rfl ?_
  apply Exists.intro
  refine ⟨fun W hW => ?_, ?_⟩
  focus (go_simp; exact rfl)
  simp only [List.getElem_toArray, List.getElem_cons_zero, Act.put, List.setIfInBounds_toArray, List.set_cons_zero, List.set_cons_succ]
  refine lexH_yieldE rfl rfl ?_
  apply Exists.intro
  refine ⟨fun W hW => ?_, ?_⟩
  focus (go_simp; exact rfl)
  simp only [List.getElem_toArray, List.getElem_cons_succ, List.getElem_cons_zero, Act.put, List.setIfInBounds_toArray, List.set_cons_zero, List.set_cons_succ]
  refine lexH_yieldE rfl rfl ?_
  apply Exists.intro
  refine ⟨fun W hW => ?_, ?_⟩
  focus (go_simp; exact rfl)
  simp only [List.getElem_toArray, List.getElem_cons_succ, List.getElem_cons_zero, Act.put, List.setIfInBounds_toArray, List.set_cons_zero, List.set_cons_succ]
  refine lexH_load rfl rfl _ _ rfl rfl L0.out ?_
  simp only [List.getElem_toArray, List.getElem_cons_succ, List.getElem_cons_zero, Act.put, List.setIfInBounds_toArray, List.set_cons_zero, List.set_cons_succ]
  refine lexH_yieldE rfl rfl ?_
  apply Exists.intro
  refine ⟨fun W hW => ?_, ?_⟩
  focus (go_simp; exact rfl)
  simp only [List.getElem_toArray, List.getElem_cons_succ, List.getElem_cons_zero, Act.put, List.setIfInBounds_toArray, List.set_cons_zero, List.set_cons_succ]
  refine lexH_yieldE rfl rfl ?_
  apply Exists.intro
  refine ⟨fun W hW => ?_, ?_⟩
  focus (go_simp; exact rfl)
  simp only [List.getElem_toArray, List.getElem_cons_succ, List.getElem_cons_zero, Act.put, List.setIfInBounds_toArray, List.set_cons_zero, List.set_cons_succ]
  refine lexH_yieldE rfl rfl ?_
  apply Exists.intro
  refine ⟨fun W hW => ?_, ?_⟩
  focus (go_simp; exact rfl)
  simp only [List.getElem_toArray, List.getElem_cons_succ, List.getElem_cons_zero, Act.put, List.setIfInBounds_toArray, List.set_cons_zero, List.set_cons_succ]
  refine lexH_load rfl rfl _ _ rfl rfl L1.out ?_
  simp only [List.getElem_toArray, List.getElem_cons_succ, List.getElem_cons_zero, Act.put, List.setIfInBounds_toArray, List.set_cons_zero, List.set_cons_succ]
  refine lexH_call 62 #[.map (some tb)] rfl rfl ?_ ?_
  focus (go_simp; done)
  refine (cloneT_any (HN.out.later hK0.below).tkn).mono ?_
  rintro e w1 ⟨rfl, hF, hb⟩
  have HB1 := Lib.hid (hK0.below.trans (hb.mono hK0.below.size))
  have HT1 := Lib.hid hF
  have HLE := Lib.hid hK0.below.size
  clear hF hb
  generalize W0.heap.size = tb2 at *
  refine ⟨_, rfl, HB1.out, ?_⟩
  simp only [List.getElem_toArray, List.getElem_cons_succ, List.getElem_cons_zero, Act.put, List.setIfInBounds_toArray, List.set_cons_zero, List.set_cons_succ]
  refine lexH_yieldE rfl rfl ?_
  apply Exists.intro
  refine ⟨fun W hW => ?_, ?_⟩
  focus (go_simp; exact rfl)
  simp only [List.getElem_toArray, List.getElem_cons_succ, List.getElem_cons_zero, Act.put, List.setIfInBounds_toArray, List.set_cons_zero, List.set_cons_succ]
  have ha : Below w1.heap.size w1 (w1.alloc (.cells #[Value.int IntKind.i64 ↑n, Value.map none, Value.map none, Value.map none, Value.map none, Value.map none, Value.map none, Value.map none, Value.map none, Value.map none, Value.map none, Value.map none, Value.map (some tb2)] 90)) := (Below.refl _ w1).alloc (Nat.le_refl _) _
  have HC0 := Lib.hid (show CpAt w n w1.heap.size tb2 0 L T (fun _ => 0) (w1.alloc (.cells #[Value.int IntKind.i64 ↑n, Value.map none, Value.map none, Value.map none, Value.map none, Value.map none, Value.map none, Value.map none, Value.map none, Value.map none, Value.map none, Value.map none, Value.map (some tb2)] 90)) from
    ⟨RowAt.new w1 _ 90 13 _ (fun i hi => by
      rcases (show i = 0 ∨ i = 1 ∨ i = 2 ∨ i = 3 ∨ i = 4 ∨ i = 5 ∨ i = 6 ∨ i = 7 ∨ i = 8 ∨ i = 9 ∨ i = 10 ∨ i = 11 ∨ i = 12 by omega) with rfl | rfl | rfl | rfl | rfl | rfl | rfl | rfl | rfl | rfl | rfl | rfl | rfl <;> rfl),
     HT1.out.later ha, fun o h => absurd h (Nat.not_lt_zero _), fun o p h => absurd h (Nat.not_lt_zero _), HB1.out.trans (ha.mono HB1.out.size), HB1.out.size, HLE.out⟩)
  refine lexH_eff rfl rfl ?_
  unfold Oper.wp
  go_simp
  refine ⟨HC0.out.bel, ?_⟩
  clear ha HT1 HB1 HLE hK0 L0 L1
  generalize w1.heap.size = d2 at *
  generalize w1.alloc (.cells _ 90) = w2 at *
  refine lexH_yieldE rfl rfl ?_
  apply Exists.intro
  refine ⟨fun W hW => ?_, ?_⟩
  focus (go_simp; exact rfl)
  simp only [List.getElem_toArray, List.getElem_cons_succ, List.getElem_cons_zero, Act.put, List.setIfInBounds_toArray, List.set_cons_zero, List.set_cons_succ]
  refine lexH_nil ?_
  obtain ⟨A, hA, hAs, hAi⟩ := load_maps (HN.out.later HC0.out.bel)
  have HA := Lib.hid hA
  have HAI := Lib.hid hAi
  clear hA hAi
  go_wp2_with (refine wpList_load_run rfl 88 _ rfl rfl HA.out ?_)
  go_loopw [23] (fun i wr => ∃ (k : Nat) (mb2 : Nat → Nat), i = .int .i64 k ∧ k ≤ 11 ∧ CpAt w n d2 tb2 k L T mb2 wr) (fun i _ => 11 - (intOf i).toNat)
  case atStart => exact ⟨0, _, rfl, by decide, HC0.out⟩
  case round =>
    clear HC0 HA
    obtain ⟨k, mb2, rfl, hk, hC⟩ := hrel
    have HC := Lib.hid hC
    clear hC
    by_cases hlt : k < 11
    · have hlt2 : (k : Int) < 11 := by omega
      have hix := index_maps hlt2 (HAI.out k hlt)
      go_wp2_with (fail)
      refine wp_region_lex1 (fun _ => True) [(0, false), (1, false), (2, false), (4, false), (5, false), (3, true), (6, false), (7, true)] (by kernel_rfl) (by kernel_rfl) rfl (by kernel_rfl) trivial ?_
      intro W0 hW0 _
      have HC1 := Lib.hid (show CpAt w n d2 tb2 k L T mb2 W0 by rw [hW0]; exact HC.out.later (Below.refl _ wr).drew)
      clear hW0 HC hix
      refine lexH_yieldE rfl rfl ?_
      apply Exists.intro
      refine ⟨fun W hW => ?_, ?_⟩
      focus (go_simp; exact rfl)
      simp only [List.getElem_toArray, List.getElem_cons_zero, Act.put, List.setIfInBounds_toArray, List.set_cons_zero, List.set_cons_succ]
      refine lexH_yieldE rfl rfl ?_
      apply Exists.intro
      refine ⟨fun W hW => ?_, ?_⟩
      focus (go_simp; exact rfl)
      simp only [List.getElem_toArray, List.getElem_cons_succ, List.getElem_cons_zero, Act.put, List.setIfInBounds_toArray, List.set_cons_zero, List.set_cons_succ]
      refine lexH_yieldE rfl rfl ?_
      apply Exists.intro
      refine ⟨fun W hW => ?_, ?_⟩
      focus (go_simp; exact rfl)
      simp only [List.getElem_toArray, List.getElem_cons_succ, List.getElem_cons_zero, Act.put, List.setIfInBounds_toArray, List.set_cons_zero, List.set_cons_succ]
      refine lexH_yieldE rfl rfl ?_
      apply Exists.intro
      refine ⟨fun W hW => ?_, ?_⟩
      focus (go_simp; exact rfl)
      simp only [List.getElem_toArray, List.getElem_cons_succ, List.getElem_cons_zero, Act.put, List.setIfInBounds_toArray, List.set_cons_zero, List.set_cons_succ]
      refine lexH_yieldE rfl rfl ?_
      apply Exists.intro
      refine ⟨fun W hW => ?_, ?_⟩
      focus (go_simp; exact rfl)
      simp only [List.getElem_toArray, List.getElem_cons_succ, List.getElem_cons_zero, Act.put, List.setIfInBounds_toArray, List.set_cons_zero, List.set_cons_succ]
      refine lexH_call 63 #[.map (some (mb k))] rfl rfl ?_ ?_
      focus (go_simp; done)
      refine (cloneF_any ((HN.out.later HC1.out.bel).free k hlt)).mono ?_
      rintro e w3 ⟨rfl, hF, hb⟩
      have HC3 := Lib.hid (HC1.out.later hb)
      have HF3 := Lib.hid hF
      have HSZ := Lib.hid (show (∀ o, o < k → mb2 o ≠ W0.heap.size) ∧ W0.heap.size ≠ tb2 ∧ w.heap.size ≤ W0.heap.size ∧ d2 ≠ W0.heap.size from
        ⟨fun o ho => by have := (HC1.out.fr o ho).1.lt; omega, by have := HC1.out.tk.lt; omega, HC1.out.bel.size, by have := HC1.out.row.lt; omega⟩)
      clear hF hb HC1
      generalize W0.heap.size = b at *
      refine ⟨_, rfl, trivial, ?_⟩
      simp only [List.getElem_toArray, List.getElem_cons_succ, List.getElem_cons_zero, Act.put, List.setIfInBounds_toArray, List.set_cons_zero, List.set_cons_succ]
      refine lexH_yieldE rfl rfl ?_
      apply Exists.intro
      refine ⟨fun W hW => ?_, ?_⟩
      focus (go_simp; exact rfl)
      simp only [List.getElem_toArray, List.getElem_cons_succ, List.getElem_cons_zero, Act.put, List.setIfInBounds_toArray, List.set_cons_zero, List.set_cons_succ]
      have c1 : w3.cell? ⟨d2, 1 + k, none⟩ = some (.map none) := by
        have h := HC3.out.row.cell (1 + k) (by omega)
        unfold rowC at h
        rw [if_neg (by omega), if_neg (by omega), if_neg (by omega)] at h
        exact h
      have f1 : w3.frozen? ⟨d2, 1 + k, none⟩ = false := HC3.out.row.frozen _
      have HC4 := Lib.hid (HC3.out.next hlt HF3.out HSZ.out.2.2.1 HSZ.out.2.1 HSZ.out.1)
      refine lexH_eff rfl rfl ?_
      unfold Oper.wp
      go_simp
      clear c1 f1 HC3 HF3 HSZ
      refine lexH_nil ?_
      go_wp2_with (fail)
      go_roundw
      case rel => exact ⟨k + 1, _, by go_num, hlt, HC4.out⟩
      case measure => simp [intOf]; omega
    · obtain rfl : k = 11 := by omega
      rw [show ((11 : Nat) : Int) = 11 from rfl]
      have HF := Lib.hid (show Copy6 w n L T (.returned (.pointer (some ⟨d2, 0, none⟩))) wr from
        ⟨d2, mb2, tb2, rfl, ⟨HC.out.row.ext (fun i hi => by
          unfold rowC ndV
          by_cases e0 : i = 0
          · rw [if_pos e0, if_pos e0]
          · rw [if_neg e0, if_neg e0]
            by_cases e2 : i = 12
            · rw [if_pos e2, if_pos e2]
            · rw [if_neg e2, if_neg e2, if_pos (by omega)]), fun o ho => (HC.out.fr o ho).1, HC.out.tk, fun o p ho hp => HC.out.inj o p ho hp, fun o ho => (HC.out.fr o ho).2.2, N.bnd, N.tbnd⟩, HC.out.d1, fun k hk => by
          rcases hk with rfl | ⟨o, ho, rfl⟩
          · exact HC.out.t1
          · exact (HC.out.fr o ho).2.1, HC.out.bel⟩)
      clear HC
      go_wp2_with (fail)
      go_ret
      exact HF.out
end
end
/-! buddy: a node that is not there, or was not made. -/
section
open Go.RowKit Go.Shelf Go
attribute [local go_sem] Oper.semAt_some

def zeroN (i : Nat) : Value := if i = 0 then .int .i64 0 else .map none
def BGone (W : World) (q : Option Addr) : Prop := q = none ∨ ∃ d, q = some ⟨d, 0, none⟩ ∧ RowAt W d 13 zeroN
theorem BGone.later {W W' : World} {q : Option Addr} (h : BGone W q) (hb : Below W.heap.size W W') : BGone W' q := by
  rcases h with rfl | ⟨d, rfl, R⟩
  · exact .inl rfl
  · exact .inr ⟨d, rfl, R.later hb⟩
section
variable {w : World} {q : Option Addr}
theorem missing_gone (h : BGone w q) : Calls Try.prog 54 #[.pointer q] w fun e w' => e = .returned (.bool true) ∧ w = w' := by
  rcases h with rfl | ⟨d, rfl, R⟩
  · go_enter Try.func54, Try.ntmps54
    go_wp2_with (fail)
    go_ret
    exact ⟨rfl, rfl⟩
  · have c0 : w.cell? ⟨d, 0, none⟩ = some (.int .i64 0) := R.cell 0 (by decide)
    go_enter Try.func54, Try.ntmps54
    go_wp2_with (fail)
    go_ret
    exact ⟨rfl, rfl⟩
theorem take_gone (h : BGone w q) (order : Int) (high : Bool) : Calls Try.prog 34 #[.pointer q, .int .i64 order, .bool high] w fun e w' => e = .returned (.tuple #[.int .i64 0, .int .i64 1]) ∧ w = w' := by
  go_enter Try.func34, Try.ntmps34
  go_wp2_with (fail)
  refine (missing_gone h).mono ?_
  rintro e w' ⟨rfl, rfl⟩
  go_wp2_with (fail)
  go_ret2
  exact ⟨rfl, rfl⟩
theorem give_gone (h : BGone w q) (x o : Int) : Calls Try.prog 39 #[.pointer q, .int .i64 x, .int .i64 o] w fun e w' => e = .returned (.int .i64 1) ∧ w = w' := by
  go_enter Try.func39, Try.ntmps39
  go_wp2_with (fail)
  refine (missing_gone h).mono ?_
  rintro e w' ⟨rfl, rfl⟩
  go_wp2_with (fail)
  go_ret
  exact ⟨rfl, rfl⟩
theorem copy_gone (h : BGone w q) : Calls Try.prog 41 #[.pointer q] w fun e w' => e = .returned (.pointer none) ∧ w = w' := by
  go_enter Try.func41, Try.ntmps41
  go_wp2_with (fail)
  refine (missing_gone h).mono ?_
  rintro e w' ⟨rfl, rfl⟩
  go_wp2_with (fail)
  go_ret
  exact ⟨rfl, rfl⟩
theorem frames_gone (h : BGone w q) : Calls Try.prog 74 #[.pointer q] w fun e w' => e = .returned (.int .i64 0) ∧ w = w' := by
  rcases h with rfl | ⟨d, rfl, R⟩
  · go_enter Try.func74, Try.ntmps74
    go_wp2_with (fail)
    go_ret
    exact ⟨rfl, rfl⟩
  · have c0 : w.cell? ⟨d, 0, none⟩ = some (.int .i64 0) := R.cell 0 (by decide)
    go_enter Try.func74, Try.ntmps74
    go_wp2_with (fail)
    go_ret
    exact ⟨rfl, rfl⟩
theorem look_nil (x : Int) (W : World) : (Instr.lookup 58 (.map none) (.int .i64 x) true).run Try.prog W = .ok (.tuple #[.int .i64 0, .bool false]) W := by kernel_rfl
set_option maxRecDepth 100000 in
theorem taken_gone (h : BGone w q) (x : Int) : Calls Try.prog 60 #[.pointer q, .int .i64 x] w fun e w' => e = .returned (.tuple #[.int .i64 0, .bool false]) ∧ w = w' := by
  rcases h with rfl | ⟨d, rfl, R⟩
  · go_enter Try.func60, Try.ntmps60
    go_wp2_with (fail)
    go_ret2
    exact ⟨rfl, rfl⟩
  · have c0 : w.cell? ⟨d, 12, none⟩ = some (.map none) := R.cell 12 (by decide)
    have hlk := look_nil x w
    go_enter Try.func60, Try.ntmps60
    go_wp2_with (fail)
    go_ret2
    exact ⟨rfl, rfl⟩
set_option maxRecDepth 100000 in
theorem free_gone (h : BGone w q) : Calls Try.prog 44 #[.pointer q] w fun e w' => e = .returned (.int .i64 0) ∧ w = w' := by
  rcases h with rfl | ⟨d, rfl, R⟩
  · go_enter Try.func44, Try.ntmps44
    go_wp2_with (fail)
    go_ret
    exact ⟨rfl, rfl⟩
  · obtain ⟨A, hA, hAi⟩ : ∃ A : Array Value, (loadVar 88 ⟨d, 1, none⟩).run Try.prog w = .ok (.agg A) w ∧ ∀ i, i < 11 → A[i]? = some (.map none) := by
      refine ⟨((List.range 11).map fun _ => Value.map none).toArray, run_loadVar_mid (P := Try.prog) w d 1 88 _ _ (fun j v hj => ?_) Try.underlying88 rfl (by
        rw [List.length_map, List.length_range]; kernel_rfl), fun i hi => by simp [hi]⟩
      have hj2 : j < 11 := by have := (List.getElem?_eq_some_iff.1 hj).1; simpa using this
      rw [List.getElem?_map, List.getElem?_range hj2] at hj
      simp at hj
      subst hj
      have h := R.cell (1 + j) (by omega)
      unfold zeroN at h
      rw [if_neg (by omega)] at h
      exact h
    have HA := Lib.hid hA
    have HAI := Lib.hid hAi
    clear hA hAi
    go_enter Try.func44, Try.ntmps44
    go_wp2_with (refine wpList_load_run rfl 88 _ rfl rfl HA.out ?_)
    go_loop [3, 12] (fun t i => ∃ k : Nat, t = .int .i64 0 ∧ i = .int .i64 k ∧ k ≤ 11) (fun _ i => 11 - (intOf i).toNat)
    case atStart => exact ⟨0, rfl, rfl, by decide⟩
    case round =>
      obtain ⟨k, rfl, rfl, hk⟩ := hrel
      by_cases hlt : k < 11
      · have hlt2 : (k : Int) < 11 := by omega
        have hix := index_maps hlt2 (HAI.out k hlt)
        obtain ⟨p, hp⟩ : ∃ p, 2 ^ k = p := ⟨_, rfl⟩
        have hp2 := two_pow_small (k := k) (by omega)
        rw [hp] at hp2
        obtain ⟨p1, p2⟩ := hp2
        have HP := Lib.hid hp
        clear hp
        go_wp2_with (fail)
        refine (size_of (k := k) rfl (by omega) HP.out _).mono ?_
        rintro e w' ⟨rfl, rfl⟩
        go_wp2_with (fail)
        go_round
        case rel => exact ⟨k + 1, rfl, by go_num, by omega⟩
        case measure => simp [intOf]; omega
      · obtain rfl : k = 11 := by omega
        rw [show ((11 : Nat) : Int) = 11 from rfl]
        go_wp2_with (fail)
        go_ret
        exact ⟨rfl, rfl⟩
set_option maxRecDepth 100000 in
theorem next_gone (h : BGone w q) : Calls Try.prog 65 #[.pointer q, .int .i64 0] w fun e w' => e = .returned (.tuple #[.agg #[.int .i64 0, .int .i64 0], .bool false]) ∧ Below w.heap.size w w' := by
  have HG0 := Lib.hid (h.later ((Below.refl _ w).alloc (Nat.le_refl _) (.cells #[.int .i64 0, .int .i64 0] 77)))
  have HB0 := Lib.hid ((Below.refl w.heap.size w).alloc (Nat.le_refl _) (.cells #[.int .i64 0, .int .i64 0] 77))
  have HX0 := Lib.hid (block_row w 0 0)
  go_enter Try.func65, Try.ntmps65
  go_wp2_with (fail)
  go_loopw [6] (fun h wr => h = .int .i64 0 ∧ wr = w.alloc (.cells #[.int .i64 0, .int .i64 0] 77)) (fun _ _ => 0)
  case atStart => exact ⟨rfl, rfl⟩
  case round =>
    obtain ⟨rfl, rfl⟩ := hrel
    go_wp2_with (fail)
    refine (frames_gone HG0.out).mono ?_
    rintro e w' ⟨rfl, rfl⟩
    go_wp2_with (fail)
    exact ret_block (b := .bool false) rfl rfl rfl rfl HX0.out ⟨rfl, HB0.out⟩
end
end
/-! buddy's laws: ranges over Blocks: of a node that is not there; what a function that holds ranges leaves by. -/
section
open Go.RowKit Go.Shelf Go
attribute [local go_sem] Oper.semAt_some

set_option maxRecDepth 100000 in
theorem gone_in (m : Nat) (_hm : 1 ≤ m) (l Bn : Nat) (q : Option Addr) (w0 : World) (h : BGone w0 q) (hc : w0.cell? ⟨Bn, 0, none⟩ = some (.pointer q)) :
    CallsIn Fence.wide m Try.prog 64 #[.func (.yield l) #[] #[], .pointer (some ⟨Bn, 0, none⟩)] w0 fun e W' => (∃ v, e = .returned v) ∧ Below w0.heap.size w0 W' := by
  refine callsIn_of_wp Try.func64 rfl trivial ?_ rfl
  simp only [Try.ntmps64, List.size_toArray, List.length_cons, List.length_nil, Nat.reduceAdd, Nat.reduceSub, Array.replicate_succ, Array.replicate_zero, List.push_toArray, List.append_toArray, List.nil_append, List.cons_append]
  gi_wp2_with (fail)
  refine ⟨trivial, (callsIn_wide.2 (next_gone h)).mono ?_⟩
  rintro e w1 ⟨rfl, hb1⟩
  have HB := Lib.hid (hb1.trans (((Below.refl _ w1).alloc (Nat.le_refl _) (.cells #[.int .i64 0, .int .i64 0] 77)).mono hb1.size))
  clear hb1
  gi_wp2_with (fail)
  refine wpIn_loop_rounds 1 ?_
  rw [roundsIn_succ]
  gi_wp2_with (fail)
  go_end0
  exact ⟨⟨_, rfl⟩, HB.out⟩

/-- A range over Blocks of a node that is not there: its body is never come to. -/
theorem range_gone (m : Nat) (hm : 3 ≤ m) (Bn : Nat) (q : Option Addr) {g : Operand} {ps : Array Tmp} {assign body : Code} {Q : Exit → Act → World → Prop} {a : Act} {w : World}
    (hg : a.eval g = .func (.func 64) #[] #[.pointer (some ⟨Bn, 0, none⟩)]) (hBn : w.cell? ⟨Bn, 0, none⟩ = some (.pointer q)) (hG : BGone w q)
    (hdone : ∀ (D : Nat) (W : World), w.heap.size ≤ D → Below w.heap.size w W → W.heap[D]? = some (.deferred (some [])) → Q .normal { a with defers := { target := .collected D, args := #[] } :: a.defers } W) :
    (Code.rangeFunc g ps assign body).wpIn Fence.wide m Try.prog Q a w := by
  have h1 : 1 ≤ m := by omega
  have hlt : Bn < w.heap.size := World.block_lt_of_cell? w ⟨Bn, 0, none⟩ hBn
  have hseq : SeqStopsK Fence.wide (m - 1) Try.prog 64 #[.pointer (some ⟨Bn, 0, none⟩)] (fun x : Empty => (nomatch x : Array Value)) (Below w.heap.size) (fun xs => xs = []) (fun _ => False) 0 w := by
    intro l J Jx W hW hJ _ _ hJ0
    refine (gone_in (m - 1) (by omega) l Bn q W (hG.later hW) (by rw [hW.cell (p := ⟨Bn, 0, none⟩) hlt]; exact hBn)).mono ?_
    rintro e W' ⟨h1, hb⟩
    exact ⟨h1, .inl ⟨[], rfl, hJ [] W _ none hJ0 (grown_none hb) (fun r e => by cases e)⟩⟩
  refine wpIn_rangeFunc_ownF rfl h1 (gf := 64) hg trivial (enters_of Try.func64 (by kernel_rfl) rfl) hseq belowK_t (belowK_b (Nat.le_refl _)) (Below.refl _ _) (fun x => nomatch x)
    (fun _ W => Below w.heap.size w W) (fun _ _ _ => False) (ownFrom_below (Nat.le_refl _) (Nat.le_refl _)) (fun _ _ _ _ _ hs _ _ => hs) (Below.refl _ _) (fun x => nomatch x)
    (fun _ x => nomatch x) (fun _ _ x => nomatch x) (fun D xs W hD _ hI hK => hdone D W hD hI hK) (fun _ _ _ _ _ _ h => h.elim)
end
/-! buddy: Blocks told to a body that lets a boxed slice grow: whatever relation the body keeps. -/
section
open Go.RowKit Go.Shelf Go
attribute [local go_sem] Oper.semAt_some

section
variable {d n : Nat} {mb : Nat → Nat} {tb : Nat} {L T : List (Int × Int)}
set_option maxRecDepth 100000 in
set_option maxHeartbeats 4000000 in
theorem blocks_inK (m : Nat) (hm : 1 ≤ m) (l Bn : Nat) (Kp : World → World → Prop) (P : Nat → World → Prop) (I : Inv n L T) (J Jx : List (Fin L.length) → World → Prop) (w0 : World)
    (hJ : AbidesFrom w0.heap.size J)
    (hY : ∀ pre (x : Fin L.length) W, J pre W → pre.length < L.length → YieldAt Fence.wide (m - 1) Try.prog l #[blk (L[x.val]'x.isLt)] W fun e W' =>
      (e = .returned (.bool true) ∧ J (pre ++ [x]) W' ∧ Kp W W') ∨ (e = .returned (.bool false) ∧ Jx (pre ++ [x]) W'))
    (N : NodeAt w0 d n mb tb L T) (hc : w0.cell? ⟨Bn, 0, none⟩ = some (.pointer (some ⟨d, 0, none⟩))) 
    (hKt : ∀ {A B C : World}, Kp A B → Kp B C → Kp A C) (hKb : ∀ W W', w0.heap.size ≤ W.heap.size → Below W.heap.size W W' → Kp W W') (hKs : ∀ {W W'}, Kp W W' → W.heap.size ≤ W'.heap.size)
    (hKx : ∀ {W W' : World} {xb : Nat} {y1 y2 : Int}, Kp W W' → P xb W → RowAt W xb 2 (blkV y1 y2) → RowAt W' xb 2 (blkV y1 y2)) (hKp : ∀ {W W' : World}, Kp w0 W → Below W.heap.size W W' → P W.heap.size W')
    (hKn : ∀ {W : World}, Kp w0 W → NodeAt W d n mb tb L T) (hKc : ∀ {W : World}, Kp w0 W → W.cell? ⟨Bn, 0, none⟩ = some (.pointer (some ⟨d, 0, none⟩))) (h0 : J [] w0) :
    CallsIn Fence.wide m Try.prog 64 #[.func (.yield l) #[] #[], .pointer (some ⟨Bn, 0, none⟩)] w0 fun e W' => (∃ v, e = .returned v) ∧
      ((∃ xs : List (Fin L.length), xs.map Fin.val = List.range L.length ∧ J xs W') ∨ (∃ pre : List (Fin L.length), (∃ k, k ≤ L.length ∧ pre.map Fin.val = List.range k) ∧ Jx pre W')) := by
  have HY := Lib.hid hY
  have HJ := Lib.hid hJ
  have HC := Lib.hid hc
  clear hY hJ hc
  refine callsIn_of_wp Try.func64 rfl trivial ?_ rfl
  simp only [Try.ntmps64, List.size_toArray, List.length_cons, List.length_nil, Nat.reduceAdd, Nat.reduceSub, Array.replicate_succ, Array.replicate_zero, List.push_toArray, List.append_toArray, List.nil_append, List.cons_append]
  have h1 := HC.out
  gi_wp2_with (fail)
  clear h1
  refine ⟨trivial, (callsIn_wide.2 (next_of N I (z := 0) (i := 0) (j := 0) rfl (by decide) (fun k _ h => absurd h (Nat.not_lt_zero _)) (fun hj => (N.bnd _ (List.getElem_mem hj)).1))).mono ?_⟩
  rintro e w1 ⟨rfl, hb1⟩
  have ha : Below w1.heap.size w1 (w1.alloc (.cells #[.int .i64 (nextA L 0).1, .int .i64 (nextA L 0).2] 77)) := (Below.refl _ w1).alloc (Nat.le_refl _) _
  have hb2 := hb1.trans (ha.mono hb1.size)
  have HX := Lib.hid (block_row w1 (nextA L 0).1 (nextA L 0).2)
  have HK := Lib.hid (hKb _ _ (Nat.le_refl _) hb2)
  have HP := Lib.hid (hKp (hKb _ _ (Nat.le_refl _) hb1) ha)
  have HJ0 := Lib.hid (HJ.out [] w0 _ none h0 (grown_none hb2) (fun r e => by cases e))
  have HLE := Lib.hid hb1.size
  obtain ⟨b, hb⟩ : ∃ b, decide (0 < L.length) = b := ⟨_, rfl⟩
  rw [hb]
  have HBD := Lib.hid hb
  have HNX := Lib.hid (show nextA L 0 = ((nextA L 0).1, (nextA L 0).2) from rfl)
  generalize (nextA L 0).1 = y1 at *
  generalize (nextA L 0).2 = y2 at *
  clear ha hb1 hb2 h0 hb
  gi_wp2_with (fail)
  generalize w1.heap.size = xb at *
  generalize w1.alloc (.cells #[.int .i64 y1, .int .i64 y2] 77) = w2 at *
  gi_loopw [3, 4] (fun x y wr => ∃ (j : Nat) (pre : List (Fin L.length)) (xb : Nat) (b : Bool) (y1 y2 : Int), x = .pointer (some ⟨xb, 0, none⟩) ∧ y = .bool b ∧ j ≤ L.length ∧ w0.heap.size ≤ xb ∧ Hid (decide (j < L.length) = b) ∧ Hid (nextA L j = (y1, y2)) ∧ Hid (pre.map Fin.val = List.range j) ∧ Hid (J pre wr) ∧ Hid (RowAt wr xb 2 (blkV y1 y2)) ∧ Hid (Kp w0 wr) ∧ Hid (P xb wr))
    (fun x y wr => seqM x y wr)
  case atStart => exact ⟨0, [], xb, b, y1, y2, rfl, rfl, Nat.zero_le _, HLE.out, HBD, HNX, rfl, HJ0.out, HX, HK, HP⟩
  case round =>
    clear HJ0 HX HK HP HBD HNX HLE
    obtain ⟨j, pre, xb, b, y1, y2, rfl, rfl, hj, hxb, HBD, HNX, HPR, HJJ, HX, HK, HP⟩ := hrel
    cases b with
    | false =>
      gi_wp2_with (fail)
      go_end0
      have : j = L.length := by have := of_decide_eq_false HBD.out; omega
      subst this
      exact ⟨⟨_, rfl⟩, .inl ⟨pre, HPR.out, HJJ.out⟩⟩
    | true =>
      have hjl : j < L.length := of_decide_eq_true HBD.out
      have c0 : wr.cell? ⟨xb, 0, none⟩ = some (.int .i64 y1) := HX.out.cell 0 (by decide)
      have c1 : wr.cell? ⟨xb, 1, none⟩ = some (.int .i64 y2) := HX.out.cell 1 (by decide)
      have hy : (y1, y2) = L[j] := by rw [← HNX.out]; exact getD_at hjl
      have hlen : pre.length < L.length := by
        have := congrArg List.length HPR.out
        simp at this
        omega
      have hbk : blk (L[j]'hjl) = .agg #[.int .i64 y1, .int .i64 y2] := by rw [← hy]; rfl
      have hYj := HY.out pre ⟨j, hjl⟩ wr HJJ.out hlen
      dsimp only at hYj
      rw [hbk] at hYj
      obtain ⟨fn, tmps, assign, body, hyy, hR⟩ := hYj
      have hM := seqM_yes c0
      have HM := Lib.hid hM
      have HP2 := Lib.hid (show (pre ++ [(⟨j, hjl⟩ : Fin L.length)]).map Fin.val = List.range (j + 1) by
        rw [List.map_append, HPR.out, List.range_succ]; rfl)
      clear hbk hM
      gi_wp2_with (fail)
      clear c0 c1
      refine hR.mono ?_
      rintro e W3 (⟨rfl, hJ3, hk3⟩ | ⟨rfl, hJx3⟩)
      · have HX3 := Lib.hid (hKx hk3 HP.out HX.out)
        have HK3 := Lib.hid (hKt HK.out hk3)
        have HJ3 := Lib.hid hJ3
        have HHY := Lib.hid hy
        have hy1 : 0 ≤ y1 ∧ y1 < 128 := by have h := N.bnd _ (List.getElem_mem hjl); rw [← hy] at h; exact h
        have c0 : W3.cell? ⟨xb, 0, none⟩ = some (.int .i64 y1) := HX3.out.cell 0 (by decide)
        have c1 : W3.cell? ⟨xb, 1, none⟩ = some (.int .i64 y2) := HX3.out.cell 1 (by decide)
        have cB : (W3.alloc (.cells #[.int .i64 y1, .int .i64 y2] 77)).cell? ⟨Bn, 0, none⟩ = some (.pointer (some ⟨d, 0, none⟩)) := by
          have h := hKc HK3.out
          rw [((Below.refl W3.heap.size W3).alloc (Nat.le_refl _) _).cell (p := ⟨Bn, 0, none⟩) (World.block_lt_of_cell? _ _ h)]
          exact h
        have ha : Below W3.heap.size W3 (W3.alloc (.cells #[.int .i64 y1, .int .i64 y2] 77)) := (Below.refl _ W3).alloc (Nat.le_refl _) _
        have HA := Lib.hid ha
        have HX4 := Lib.hid (block_row W3 y1 y2)
        have HN4 := Lib.hid ((hKn HK3.out).later ha)
        clear hJ3 hk3 hyy hR HX HJJ HX3 HP ha hy
        gi_wp2_with (fail)
        clear c0 c1 cB
        have hyj : ∀ k, ∀ hk : k < L.length, k < j + 1 → L[k].1 < ((y1.toNat + 1 : Nat) : Int) := fun k hk h => by
          have h2 := (I.ris.index hk hjl).1 (by omega)
          rw [← HHY.out] at h2
          have h2 : L[k].1 ≤ y1 := h2
          omega
        have hyk : ∀ hj : j + 1 < L.length, ((y1.toNat + 1 : Nat) : Int) ≤ L[j + 1].1 := fun h => by
          have h2 := List.pairwise_iff_getElem.1 I.ris j (j + 1) hjl h (by omega)
          rw [← HHY.out] at h2
          have h2 : y1 < L[j + 1].1 := h2
          omega
        have HYK := Lib.hid hyk
        refine ⟨trivial, (callsIn_wide.2 (next_of HN4.out I (z := y1 + 1) (i := y1.toNat + 1) (j := j + 1) (by omega) (by omega) hyj hyk)).mono ?_⟩
        rintro e W5 ⟨rfl, hb5⟩
        have hbX : Below W3.heap.size W3 W5 := HA.out.trans (hb5.mono HA.out.size)
        have HX5 := Lib.hid (HX4.out.later hb5)
        have HL3 := Lib.hid (show w0.heap.size ≤ W3.heap.size from hKs HK3.out)
        generalize hXB : W3.heap.size = xb2 at *
        have HXB := Lib.hid hXB
        clear hXB
        have b0 : W5.cell? ⟨xb2, 0, none⟩ = some (.int .i64 y1) := HX5.out.cell 0 (by decide)
        have b1 : W5.cell? ⟨xb2, 1, none⟩ = some (.int .i64 y2) := HX5.out.cell 1 (by decide)
        have f0 := HX5.out.frozen 0
        have f1 := HX5.out.frozen 1
        obtain ⟨b', hb'⟩ : ∃ b', decide (j + 1 < L.length) = b' := ⟨_, rfl⟩
        rw [hb']
        have HBD2 := Lib.hid hb'
        have HNX2 := Lib.hid (show nextA L (j + 1) = ((nextA L (j + 1)).1, (nextA L (j + 1)).2) from rfl)
        generalize (nextA L (j + 1)).1 = z1 at *
        generalize (nextA L (j + 1)).2 = z2 at *
        have hb6 : Below W3.heap.size W3 ((W5.setCell ⟨xb2, 0, none⟩ (.int .i64 z1)).setCell ⟨xb2, 1, none⟩ (.int .i64 z2)) := by
          rw [HXB.out]
          exact (hbX.setCell (p := ⟨xb2, 0, none⟩) (Nat.le_refl _) _).setCell (p := ⟨xb2, 1, none⟩) (Nat.le_refl _) _
        have HX6 := Lib.hid (set_block HX5.out z1 z2)
        have HJ6 := Lib.hid (HJ.out _ W3 _ none HJ3.out (grown_none hb6) (fun r e => by cases e))
        have HK6 := Lib.hid (hKt HK3.out (hKb _ _ (hKs HK3.out) hb6))
        have HP6 := Lib.hid (show P xb2 _ by
          have h := hKp HK3.out hb6
          rw [HXB.out] at h
          exact h)
        have HLT := Lib.hid (show seqM (.pointer (some ⟨xb2, 0, none⟩)) (.bool b') ((W5.setCell ⟨xb2, 0, none⟩ (.int .i64 z1)).setCell ⟨xb2, 1, none⟩ (.int .i64 z2)) < 200 - y1.toNat by
          cases b' with
          | false => rw [seqM_no]; omega
          | true =>
            have h := of_decide_eq_true HBD2.out
            rw [seqM_yes (HX6.out.cell 0 (by decide))]
            have h2 := HYK.out h
            have h3 : nextA L (j + 1) = L[j + 1] := getD_at h
            rw [← h3, HNX2.out] at h2
            have h2 : ((y1.toNat + 1 : Nat) : Int) ≤ z1 := h2
            omega)
        clear hb5 hb6 hbX hb' HX4 HX5 HJ3 HK3 HA HN4
        gi_wp2_with (fail)
        go_roundw
        case rel => exact ⟨j + 1, pre ++ [⟨j, hjl⟩], xb2, b', z1, z2, rfl, rfl, hjl, HL3.out, HBD2, HNX2, HP2, HJ6, HX6, HK6, HP6⟩
        case measure => rw [HM.out]; exact HLT.out
      · clear hyy hR
        gi_wp2_with (fail)
        refine bodyPost_ret (results_none rfl _ _ _) rfl ?_
        exact ⟨⟨_, rfl⟩, .inr ⟨_, ⟨j + 1, hjl, HP2.out⟩, hJx3⟩⟩
end
end
/-! buddy: Blocks told to a body that appends what it is told to a boxed slice. -/
section
open Go.RowKit Go.Shelf Go

/-- The block that a boxed slice owns. -/
def boxOwn (bx : Nat) (W : World) : Option Nat := match W.cell? ⟨bx, 0, none⟩ with
  | some v => v.ownBlock
  | none => none
theorem boxOwn_of {bx : Nat} {W : World} {v : Value} (h : W.cell? ⟨bx, 0, none⟩ = some v) : boxOwn bx W = v.ownBlock := by simp [boxOwn, h]
theorem boxOwn_eq {bx : Nat} {W W' : World} (h : W'.cell? ⟨bx, 0, none⟩ = W.cell? ⟨bx, 0, none⟩) : boxOwn bx W' = boxOwn bx W := by simp [boxOwn, h]
/-- What a round may turn: the box, the block that its slice owns, what is no cells from B on. -/
structure KpG (bx B : Nat) (W W' : World) : Prop where
  size : W.heap.size ≤ W'.heap.size
  low : ∀ k o, W.heap[k]? = some o → k < B → k ≠ bx → W'.heap[k]? = some o
  keep : ∀ k o, W.heap[k]? = some o → o.isCells = true → k ≠ bx → boxOwn bx W ≠ some k → W'.heap[k]? = some o ∧ boxOwn bx W' ≠ some k
  val : (∀ g, boxOwn bx W = some g → g < W.heap.size) → ∀ g, boxOwn bx W' = some g → g < W'.heap.size
section
variable {bx B : Nat} {W W' W'' : World}
theorem KpG.trans (h : KpG bx B W W') (k : KpG bx B W' W'') : KpG bx B W W'' :=
  ⟨Nat.le_trans h.size k.size, fun i o hi hB hb => k.low i o (h.low i o hi hB hb) hB hb, fun i o hi hc hb ho => by
    obtain ⟨h1, h2⟩ := h.keep i o hi hc hb ho
    exact k.keep i o h1 hc hb h2, fun hv => k.val (h.val hv)⟩
theorem KpG.of_below (hbx : bx < W.heap.size) (h : Below W.heap.size W W') : KpG bx B W W' := by
  have e : boxOwn bx W' = boxOwn bx W := boxOwn_eq (h.cell (p := ⟨bx, 0, none⟩) hbx)
  refine ⟨h.size, fun k o hk _ _ => (h.block k (Array.getElem?_eq_some_iff.1 hk).1).trans hk, fun k o hk _ _ ho => ⟨(h.block k (Array.getElem?_eq_some_iff.1 hk).1).trans hk, by rw [e]; exact ho⟩, fun hv g hg => ?_⟩
  rw [e] at hg
  exact Nat.lt_of_lt_of_le (hv g hg) h.size
theorem KpG.put (l : Nat) {o : Obj} (o' : Obj) (hbx : bx < B) (hB : B ≤ l) (hl : W.heap[l]? = some o) (ho : o.isCells = false) : KpG bx B W (W.putObj l o') := by
  have e : boxOwn bx (W.putObj l o') = boxOwn bx W := boxOwn_eq (cell_putObj W l o' ⟨bx, 0, none⟩ (by show bx ≠ l; omega))
  have hs : (W.putObj l o').heap.size = W.heap.size := by simp [World.putObj]
  refine ⟨by omega, fun k x hk hkB _ => (World.putObj_heap_other (by omega)).trans hk, fun k x hk hc _ hne => ⟨(World.putObj_heap_other (fun e => by
    subst e
    rw [hl] at hk
    injection hk with hk
    subst hk
    rw [ho] at hc; cases hc)).trans hk, by rw [e]; exact hne⟩, fun hv g hg => ?_⟩
  rw [e] at hg
  rw [hs]
  exact hv g hg
end
section
variable {w : World} {d n : Nat} {mb : Nat → Nat} {tb : Nat} {L T : List (Int × Int)}
theorem KpG.node {bx B : Nat} {W W' : World} (h : KpG bx B W W') (N : NodeAt W d n mb tb L T) (hdB : d < B) (hd : d ≠ bx) (ho : ∀ k, own6 mb tb k → k < B ∧ k ≠ bx) : NodeAt W' d n mb tb L T := by
  have key : ∀ {α : Type} {R : Value → Option (MDat × List MemPlace)} {E : Elem R α} {b : Nat} {g : Int → Option α}, FMap Try.prog 3 E W b g → b < B ∧ b ≠ bx → FMap Try.prog 3 E W' b g := fun M hb => by
    obtain ⟨D, l, ⟨es, clock, hm, r⟩, q⟩ := M
    exact ⟨D, l, ⟨es, clock, h.low _ _ hm hb.1 hb.2, r⟩, q⟩
  obtain ⟨A, t, hA, hf⟩ := N.row
  exact ⟨⟨A, t, h.low d _ hA hdB hd, hf⟩, fun o hlo => key (N.free o hlo) (ho _ (.inr ⟨o, hlo, rfl⟩)), key N.tkn (ho _ (.inl rfl)), N.inj, N.ntb, N.bnd, N.tbnd⟩
theorem blocks_grow (m : Nat) (hm : 1 ≤ m) (Bn bx : Nat) (I : Inv n L T) (N : NodeAt w d n mb tb L T) (hc : w.cell? ⟨Bn, 0, none⟩ = some (.pointer (some ⟨d, 0, none⟩))) (hd : d ≠ bx) (ho : ∀ k, own6 mb tb k → k ≠ bx) (hBn : Bn ≠ bx) (hbx : bx < w.heap.size) (hv : boxOwn bx w = none) :
    SeqStopsK Fence.wide m Try.prog 64 #[.pointer (some ⟨Bn, 0, none⟩)] (fun x : Fin L.length => #[blk (L[x.val]'x.isLt)]) (KpG bx w.heap.size)
      (fun xs => xs.map Fin.val = List.range L.length) (fun pre => ∃ k, k ≤ L.length ∧ pre.map Fin.val = List.range k) L.length w := by
  intro l J Jx W hW hJ _ hY h0
  have hsz := hW.size
  have eW : boxOwn bx W = none := (boxOwn_eq (hW.cell (p := ⟨bx, 0, none⟩) hbx)).trans hv
  have hBl := World.block_lt_of_cell? _ _ hc
  have hcW : W.cell? ⟨Bn, 0, none⟩ = some (.pointer (some ⟨d, 0, none⟩)) := by rw [hW.cell hBl]; exact hc
  refine blocks_inK m hm l Bn (KpG bx w.heap.size) (fun xb V => boxOwn bx V ≠ some xb ∧ xb ≠ bx) I J Jx W hJ hY (N.later hW) hcW KpG.trans
    (fun V V' hs hb => KpG.of_below (by omega) hb) (fun h => h.size) ?_ ?_ ?_ ?_ h0
  · rintro V V' xb y1 y2 hk ⟨hp, hx⟩ ⟨A, t, hA, hf⟩
    exact ⟨A, t, (hk.keep xb _ hA rfl hx hp).1, hf⟩
  · intro V V' hk hb
    have h1 := hk.size
    refine ⟨fun e => ?_, by omega⟩
    rw [boxOwn_eq (hb.cell (p := ⟨bx, 0, none⟩) (by show bx < V.heap.size; omega))] at e
    exact Nat.lt_irrefl _ (hk.val (fun g hg => by rw [eW] at hg; cases hg) _ e)
  · intro V hk
    exact hk.node (N.later hW) N.lt hd (fun k hk => ⟨N.own_lt hk, ho k hk⟩)
  · intro V hk
    obtain ⟨x, hx, _⟩ := cells_of_cell hcW
    exact (World.cell?_of_block (a := ⟨Bn, 0, none⟩) ((hk.low Bn x hx hBl hBn).trans hx.symm)).trans hcW
end
/-- append(s, x) behind the slice of x alone, inside a fence; and where the new row lies. -/
theorem wpListIn_append_one {F : Fence} {nF : Nat} {P : Program} (w : World) {ops : Array Oper} {rest : List Oper} {o : Oper} {a : Act} {Q : Exit → Act → World → Prop} (hgd : o.guard = none) (s x : Operand) (t : TypeId)
    (ho : o.op = .call { callee := .builtin .append, args := #[s, x], argTypes := #[t, t] })
    (base : Nat) (e : TypeId) (i : TypeInfo) (z : Value) (size bytes : Nat) (ht : P.underlying t = some (.slice e)) (hi : P.info? e = some i) (hz : i.zero = some z)
    (hsize : i.size = size) (hby : i.bytes = bytes) (hzs : z.cells.size = size) (hsz : 0 < size)
    (v : Value) (n : Nat) (xs : List Value) (us : Array Value) (hown : w.ownsRow base e size v n xs) (hbase : base ≤ w.heap.size) (hs : a.eval s = v) (hx : a.eval x = .slice (some ⟨w.heap.size, 0, none⟩) 1 1)
    (hus : us.size = size) (h1 : ∀ u ∈ us.toList, u.oneCell' = true) (hn : n ≤ 1000) (hb : bytes ≤ 1000)
    (h : ∀ v' w', w'.ownsRow base e size v' (n + 1) (xs ++ us.toList) → (w.alloc (.cells us e)).grownBy w' v.ownBlock → (v'.ownBlock = v.ownBlock ∨ v'.ownBlock = some (w.heap.size + 1)) → wpListIn F nF P ops Q rest (a.put o.dst v') w') :
    wpListIn F nF P ops Q (o :: rest) a (w.alloc (.cells us e)) := by
  refine wpListIn_plain hgd fun K' hK' => ?_
  obtain ⟨v', w', hrun, r1, r2, _, r4⟩ := run_append_own_at (P := P) (w.alloc (.cells us e)) base t o.type e i z size bytes ht hi hz hsize hby hzs hsz v n xs (hown.alloc _) ⟨w.heap.size, 0, none⟩ 1 1 us.toList (by simp; omega) (fun j u hj => by
    have hadd : (⟨w.heap.size, 0, none⟩ : Addr).add j = ⟨w.heap.size, j, none⟩ := by unfold Addr.add; split <;> simp_all
    rw [hadd, cell_of_row _ _ _ _ _ _ (heap_alloc_new w _)]
    simpa using hj) h1 (by unfold maxLen; omega) (Nat.le_trans (Nat.mul_le_mul (show n + 1 ≤ 1001 by omega) hb) (by decide)) (by simp; omega)
  unfold Oper.wpIn
  refine ⟨by simp [Oper.about, ho, resolve, Target.leads, Sem.run_pure], ?_⟩
  rw [Oper.semAt_plain F _ _ (by rw [ho]; intro c hc'; cases hc')]
  simp [execOp, ho, resolve, invoke, builtin, hs, hx, hrun, Result.andThen]
  exact hK' _ _ (h v' w' r1 r2 (by simpa using r4))
/-- 'out = append(out, x)': what lies behind it. -/
theorem grow_step {w W w1 : World} {bx : Nat} {t e : TypeId} {size k m : Nat} {v v' : Value} {xs ys : List Value} {tmp : Obj} (hv : Boxed W bx t v) (hte : t ≠ e) (hrow : W.ownsRow w.heap.size e size v k xs) (hO : Only (fun k => k = bx) w W)
    (hown' : w1.ownsRow w.heap.size e size v' m ys) (hg : (W.alloc tmp).grownBy w1 v.ownBlock) (hat : v'.ownBlock = v.ownBlock ∨ v'.ownBlock = some (W.heap.size + 1)) :
    Boxed w1 bx t v ∧ (Boxed (w1.setCell ⟨bx, 0, none⟩ v') bx t v' ∧ (w1.setCell ⟨bx, 0, none⟩ v').ownsRow w.heap.size e size v' m ys ∧ Only (fun k => k = bx) w (w1.setCell ⟨bx, 0, none⟩ v')) ∧
      KeepsFrom w.heap.size W (w1.setCell ⟨bx, 0, none⟩ v') ∧ KpG bx w.heap.size W (w1.setCell ⟨bx, 0, none⟩ v') := by
  have hv1 : Boxed w1 bx t v := (hv.alloc tmp).kept hg (hv.not_row hte hrow)
  have hW := hO.size
  have hvo : ∀ g, v.ownBlock = some g → w.heap.size ≤ g ∧ g < W.heap.size := fun g hg => by
    rcases hrow.2 with ⟨rfl, _⟩ | ⟨g', cap, cur, rfl, hb, hgb, _⟩
    · simp [Value.ownBlock] at hg
    · obtain rfl : g' = g := by simpa [Value.ownBlock] using hg
      exact ⟨hb, (Array.getElem?_eq_some_iff.1 hgb).1⟩
  have hO2 : Only (fun k => k = bx ∨ v.ownBlock = some k) W (w1.setCell ⟨bx, 0, none⟩ v') := ((Only.alloc _ W tmp).trans ((Only.of_grown hg).mono fun k hk => .inr hk)).trans (Only.setCell _ _ (.inl rfl) _)
  have hb2 : Boxed (w1.setCell ⟨bx, 0, none⟩ v') bx t v' := hv1.set v'
  have hr2 : (w1.setCell ⟨bx, 0, none⟩ v').ownsRow w.heap.size e size v' m ys := hown'.kept (grownBy_setCell' w1 bx v') (.inr (hv1.not_row hte hown').symm)
  refine ⟨hv1, ⟨hb2, hr2, ?_⟩, ?_, ?_⟩
  · exact ⟨hO2.os.trans hO.os, hO2.tape.trans hO.tape, hO2.output.trans hO.output, Nat.le_trans hO.size hO2.size, fun k hk hs => (hO2.block k (by omega) (by
      rintro (h | h)
      · exact hs h
      · have := (hvo k h).1; omega)).trans (hO.block k hk hs)⟩
  · refine (((KeepsOthers.alloc W tmp).trans (KeepsOthers.of_grownBy hg fun j o ej hj => ?_)).trans (KeepsOthers.setCell _ _ _)).from _
    rcases (hrow.alloc tmp).2 with ⟨rfl, _⟩ | ⟨g, cap, cur, rfl, _, hgb, _⟩
    · simp [Value.ownBlock] at ej
    · obtain rfl : g = j := by simpa [Value.ownBlock] using ej
      rw [hgb] at hj; cases hj; rfl
  · have e1 : boxOwn bx W = v.ownBlock := boxOwn_of hv.cell
    have e2 : boxOwn bx (w1.setCell ⟨bx, 0, none⟩ v') = v'.ownBlock := boxOwn_of hb2.cell
    refine ⟨hO2.size, fun k o hk hkB hkb => (hO2.block k (Array.getElem?_eq_some_iff.1 hk).1 (by
      rintro (h | h)
      · exact hkb h
      · have := (hvo k h).1; omega)).trans hk, fun k o hk _ hkb hne => ?_, fun _ g hg2 => ?_⟩
    · have hlt := (Array.getElem?_eq_some_iff.1 hk).1
      rw [e1] at hne
      refine ⟨(hO2.block k hlt (by
        rintro (h | h)
        · exact hkb h
        · exact hne h)).trans hk, ?_⟩
      rw [e2]
      rcases hat with h | h
      · rw [h]; exact hne
      · rw [h]
        intro h2
        injection h2 with h2
        omega
    · rw [e2] at hg2
      rcases hr2.2 with ⟨rfl, _⟩ | ⟨g', cap, cur, rfl, hb, hgb, _⟩
      · simp [Value.ownBlock] at hg2
      · obtain rfl : g' = g := by simpa [Value.ownBlock] using hg2
        exact (Array.getElem?_eq_some_iff.1 hgb).1
/-- What has been told. -/
def told (L : List (Int × Int)) (xs : List (Fin L.length)) : List (Int × Int) := xs.map fun x => L[x.val]'x.isLt
theorem told_all {L : List (Int × Int)} {xs : List (Fin L.length)} (h : xs.map Fin.val = List.range L.length) : told L xs = L := by
  have h2 : told L xs = (xs.map Fin.val).map fun i => nextA L i := by
    unfold told
    rw [List.map_map]
    exact List.map_congr_left fun x _ => (getD_at x.isLt).symm
  rw [h2, h]
  refine List.ext_getElem (by simp) fun i h1 h3 => ?_
  rw [List.getElem_map, List.getElem_range]
  exact getD_at h3
theorem told_one (L : List (Int × Int)) (pre : List (Fin L.length)) (x : Fin L.length) : told L (pre ++ [x]) = told L pre ++ [L[x.val]'x.isLt] := by simp [told]
theorem told_len (L : List (Int × Int)) (xs : List (Fin L.length)) : (told L xs).length = xs.length := by simp [told]
/-- The boxed slice holds what has been told. -/
def GrowAt (w : World) (bx : Nat) (L : List (Int × Int)) (pre : List (Fin L.length)) (W : World) : Prop :=
  ∃ v, Boxed W bx 74 v ∧ W.ownsRow w.heap.size 77 2 v pre.length (recV encB (told L pre)) ∧ Only (fun k => k = bx) w W
theorem grow_own {w : World} {bx : Nat} (L : List (Int × Int)) (hbx : bx < w.heap.size) : OwnFrom w.heap.size (GrowAt w bx L) := by
  rintro s X Y row ⟨v, hv, hr, ho⟩ hg hrow
  refine ⟨v, hv.kept hg (fun e => ?_), hr.kept hg ?_, hg.os.trans ho.os, hg.tape.trans ho.tape, hg.output.trans ho.output, Nat.le_trans ho.size hg.size, fun k hk hs => (hg.block k (by have := ho.size; omega) (fun e => by have := (hrow k e.symm).1; omega)).trans (ho.block k hk hs)⟩
  · have := (hrow bx e.symm).1
    omega
  · rcases hr.2 with ⟨rfl, _⟩ | ⟨g, cap, cur, rfl, _, hgb, _⟩
    · exact .inl rfl
    · refine .inr fun e' => ?_
      obtain ⟨_, o, ho, hc⟩ := hrow g (by simpa [Value.ownBlock] using e'.symm)
      rw [hgb] at ho; cases ho; cases hc
theorem row_grown {X Y : World} {row : Option Nat} {b n : Nat} {f : Nat → Value} (R : RowAt X b n f) (hg : X.grownBy Y row) (hr : ∀ r, row = some r → ∃ o : Obj, X.heap[r]? = some o ∧ o.isCells = false) : RowAt Y b n f := by
  obtain ⟨A, t, hA, hf⟩ := R
  refine ⟨A, t, (hg.block b (Array.getElem?_eq_some_iff.1 hA).1 (fun e => ?_)).trans hA, hf⟩
  obtain ⟨o, ho, hc⟩ := hr b e.symm
  rw [hA] at ho; cases ho; cases hc
theorem GrowAt.le {w W : World} {bx : Nat} {L : List (Int × Int)} {pre : List (Fin L.length)} (h : GrowAt w bx L pre W) : w.heap.size ≤ W.heap.size := by
  obtain ⟨v, hv, hr, ho⟩ := h
  exact ho.size
theorem GrowAt.later {w W W' : World} {bx : Nat} {L : List (Int × Int)} {pre : List (Fin L.length)} (h : GrowAt w bx L pre W) (hb : Below W.heap.size W W') : GrowAt w bx L pre W' := by
  obtain ⟨v, hv, hr, ho⟩ := h
  exact ⟨v, (hb.block bx hv.lt).trans hv, owns_later hr hb, ho.trans (Only.of_below hb)⟩
/-- A range over a function whose variable is boxed: the assign code lays its box, slot sl points at it. -/
theorem range_boxed {F : Fence} {n : Nat} {P : Program} {w : World} {α : Type} {g : Operand} {ps : Array Tmp} {assign body : Code} {Q : Exit → Act → World → Prop} {a : Act}
    (hro : F.round = none) (h1 : 1 ≤ n) {gf : Nat} {lb : Array Value} (hg : a.eval g = .func (.func gf) #[] lb) (hFg : F.fn gf) (eg : ∀ args w, (callFunc gf args).run P w = .ok (.enter gf args) w)
    {encs : α → Array Value} {Kp : World → World → Prop} {S Sp : List α → Prop} {N : Nat} (hseq : SeqStopsK F (n - 1) P gf lb encs Kp S Sp N w)
    (hKt : ∀ {A B C : World}, Kp A B → Kp B C → Kp A C) (hKb : ∀ (W : World) (l : Nat) (o o' : Obj), w.heap.size ≤ l → W.heap[l]? = some o → o.isCells = false → o.isWalk = false → Kp W (W.putObj l o')) (hps : ∀ x, (encs x).size = ps.size)
    (I : List α → World → Prop) (Ix : Code → List α → World → Prop) (hI : OwnFrom w.heap.size I) (hIx : ∀ c, OwnFrom w.heap.size (Ix c)) (h0 : I [] w) (sl : Nat) (R : α → Nat → World → Prop) (hR : ∀ x zb, OwnFrom w.heap.size (fun (_ : Unit) W => R x zb W))
    (hassign : ∀ (l : Nat) (pre : List α) (x : α) (W : World) (K : Act → World → Prop), I pre W →
      (∀ zb W', KeepsFrom w.heap.size W W' → Kp W W' → I pre W' → R x zb W' → K { tmps := ((ps.zip (encs x)).foldl (fun t (p, v) => t.setIfInBounds p v) a.tmps).setIfInBounds sl (.pointer (some ⟨zb, 0, none⟩)), defers := [] } W') →
      assign.wpIn (F.inRound l) (n - 1 - 1) P (Exit.then K (fun _ _ _ => False)) { tmps := (ps.zip (encs x)).foldl (fun t (p, v) => t.setIfInBounds p v) a.tmps, defers := [] } W)
    (hbody : ∀ (l : Nat) (pre : List α) (x : α) (zb : Nat) (W : World), I pre W → R x zb W → pre.length < N →
      body.wpIn (F.inRound l) (n - 1 - 1) P (ownPostG w.heap.size Kp I Ix (pre ++ [x]) W) { tmps := ((ps.zip (encs x)).foldl (fun t (p, v) => t.setIfInBounds p v) a.tmps).setIfInBounds sl (.pointer (some ⟨zb, 0, none⟩)), defers := [] } W)
    (hdone : ∀ (D : Nat) (xs : List α) (W : World), w.heap.size ≤ D → S xs → I xs W → W.heap[D]? = some (.deferred (some [])) → Q .normal { a with defers := { target := .collected D, args := #[] } :: a.defers } W)
    (hstop : ∀ (D : Nat) (c : Code) (pre : List α) (W : World), w.heap.size ≤ D → Sp pre → Ix c pre W → W.heap[D]? = some (.deferred (some [])) → c.wpIn F n P Q { a with defers := { target := .collected D, args := #[] } :: a.defers } W) :
    (Code.rangeFunc g ps assign body).wpIn F n P Q a w :=
  wpIn_rangeFunc_ownH hro h1 hg hFg eg hseq hKt hKb (Below.refl _ _) hps I Ix hI hIx h0
    (fun x a' W' => ∃ zb : Nat, a' = { tmps := ((ps.zip (encs x)).foldl (fun t (p, v) => t.setIfInBounds p v) a.tmps).setIfInBounds sl (.pointer (some ⟨zb, 0, none⟩)), defers := [] } ∧ R x zb W')
    (fun x _ s X Y row h hg hr => by obtain ⟨zb, e, r⟩ := h; exact ⟨zb, e, hR x zb s X Y row r hg hr⟩)
    (fun l pre x W K hi hK => hassign l pre x W K hi fun zb W' k1 k2 k3 k4 => hK _ _ k1 k2 k3 ⟨zb, rfl, k4⟩)
    (fun l pre x a' W _ _ hi hax hlen => by obtain ⟨zb, rfl, r⟩ := hax; exact hbody l pre x zb W hi r hlen) hdone hstop
end
/-! A range over an iterator of which only the loop's own block may turn beside what the body says: so an iterator that ranges over another one inside keeps its own inner loop. Of no program. -/
section
open Go.RowKit Go

/-- What abides whatever turns in what was made since. -/
def OwnOnly {β : Type} (B : Nat) (I : β → World → Prop) : Prop := ∀ s X Y, I s X → Only (fun k => B ≤ k) X Y → I s Y
section
variable {β : Type} {B C : Nat} {I J : β → World → Prop}
theorem OwnOnly.owns (h : OwnOnly B I) : OwnFrom B I := fun s X Y _ hs hg hr => h s X Y hs ((Only.of_grown hg).mono fun k e => (hr k e).1)
theorem OwnOnly.up (h : OwnOnly B I) (hc : B ≤ C) : OwnOnly C I := fun s X Y hs ho => h s X Y hs (ho.mono fun _ hk => Nat.le_trans hc hk)
theorem OwnOnly.both (h : OwnOnly B I) (k : OwnOnly B J) : OwnOnly B (fun s W => I s W ∧ J s W) := fun s X Y hs ho => ⟨h s X Y hs.1 ho, k s X Y hs.2 ho⟩
theorem OwnOnly.pure (p : β → Prop) : OwnOnly B (fun s (_ : World) => p s) := fun _ _ _ h _ => h
theorem OwnOnly.below {w : World} (hB : B = w.heap.size) : OwnOnly B (fun (_ : β) W => Below w.heap.size w W) := fun _ X Y h ho => by
  subst hB
  exact ho.below h h.size (fun _ hk => hk)
theorem OwnOnly.only {w : World} {S : Nat → Prop} (hB : w.heap.size ≤ B) : OwnOnly B (fun (_ : β) W => Only S w W) := fun _ X Y h ho =>
  ⟨ho.os.trans h.os, ho.tape.trans h.tape, ho.output.trans h.output, Nat.le_trans h.size ho.size, fun k hk hs => (ho.block k (Nat.lt_of_lt_of_le hk h.size) (by omega)).trans (h.block k hk hs)⟩
theorem OwnOnly.cell {p : Addr} {v : β → Value} (hp : p.block < B) : OwnOnly B (fun s W => W.cell? p = some (v s)) := fun s X Y h ho => by
  show Y.cell? p = some (v s)
  rw [World.cell?_of_block (a := p) (ho.block _ (World.block_lt_of_cell? _ _ h) (by omega))]
  exact h
end
/-- An iterator's contract: Kp l tells what a round of the loop in block l keeps; the caller's facts abide whatever is no cells and made since. -/
def SeqSolo {α : Type} (F : Fence) (n : Nat) (P : Program) (g : Nat) (lb : Array Value) (encs : α → Array Value) (Kp : Nat → World → World → Prop) (S Sp : List α → Prop) (N : Nat) (w : World) : Prop :=
  ∀ (l : Nat) (J Jx : List α → World → Prop) (W : World), Below w.heap.size w W → w.heap.size ≤ l → l < W.heap.size → OwnOnly W.heap.size J → OwnOnly W.heap.size Jx →
    (∀ pre x W1, J pre W1 → pre.length < N → YieldAt F (n - 1) P l (encs x) W1 fun e W' =>
      (e = .returned (.bool true) ∧ J (pre ++ [x]) W' ∧ Kp l W1 W') ∨ (e = .returned (.bool false) ∧ Jx (pre ++ [x]) W' ∧ Kp l W1 W')) →
    J [] W →
    CallsIn F n P g (#[.func (.yield l) #[] #[]] ++ lb) W fun e W' => (∃ v, e = .returned v) ∧ ((∃ xs, S xs ∧ J xs W') ∨ (∃ pre, Sp pre ∧ Jx pre W'))

/-- The loop's record in block D + 1, the block of the rounds' deferred calls in D. -/
def Book (D : Nat) (r : Loop) (W : World) : Prop := W.heap[D + 1]? = some (.loop r) ∧ W.heap[D]? = some (.deferred (some []))
section
variable {D : Nat} {r r' : Loop} {W W' : World}
theorem Book.lt (h : Book D r W) : D + 1 < W.heap.size := (Array.getElem?_eq_some_iff.1 h.1).1
theorem Book.keeps (h : Book D r W) (k : KeepsFrom D W W') : Book D r W' := ⟨k.same _ _ (by omega) h.1 rfl, k.same _ _ (Nat.le_refl _) h.2 rfl⟩
theorem Book.put (h : Book D r W) (r' : Loop) : Book D r' (W.putObj (D + 1) (.loop r')) := ⟨World.putObj_heap_same h.lt, (World.putObj_heap_other (by omega)).trans h.2⟩
theorem Book.own {β : Type} (D : Nat) (r : Loop) {B : Nat} (hB : D + 2 ≤ B) : OwnFrom B (fun (_ : β) W => Book D r W) := fun _ X Y row hs hg hr => by
  have hl := hs.lt
  have hne : ∀ k, k < D + 2 → some k ≠ row := fun k hk e => by have := (hr k e.symm).1; omega
  exact ⟨(hg.block _ hl (hne _ (by omega))).trans hs.1, (hg.block _ (by omega) (hne _ (by omega))).trans hs.2⟩
theorem Book.onlyB {β : Type} (D : Nat) (r : Loop) {B : Nat} (hB : D + 2 ≤ B) : OwnOnly B (fun (_ : β) W => Book D r W) := fun _ X Y hs ho => by
  have hl := hs.lt
  exact ⟨(ho.block _ hl (by omega)).trans hs.1, (ho.block _ (by omega) (by omega)).trans hs.2⟩
theorem Book.new (w : World) (r : Loop) : Book w.heap.size r ((w.alloc (.deferred (some []))).alloc (.loop r)) := by
  have h1 := World.alloc_heap_new (w.alloc (.deferred (some []))) (.loop r)
  rw [World.size_alloc] at h1
  exact ⟨h1, (Below.heap_alloc _ _ _ (by simp)).trans (World.alloc_heap_new w _)⟩
end
theorem own_below {β : Type} {B C : Nat} {I : β → World → Prop} (h : OwnFrom B I) (hc : B ≤ C) : OwnFrom C I := fun s X Y row hs hg hr => h s X Y row hs hg fun r e => ⟨Nat.le_trans hc (hr r e).1, (hr r e).2⟩

/-- How a round ends: it goes on, or leaves; either way Kp holds. -/
def soloPost {α : Type} (B : Nat) (Kp : World → World → Prop) (I : List α → World → Prop) (Ix : Code → List α → World → Prop) (xs : List α) (W : World) : Exit → Act → World → Prop
  | .normal, _, W' => KeepsFrom B W W' ∧ Kp W W' ∧ I xs W'
  | .ret, _, W' => KeepsFrom B W W' ∧ Kp W W' ∧ Ix .ret xs W'
  | .exit id, _, W' => KeepsFrom B W W' ∧ Kp W W' ∧ Ix (.exit id) xs W'
  | .goto t, _, W' => KeepsFrom B W W' ∧ Kp W W' ∧ Ix (.goto t) xs W'
  | .panic _, _, _ => False
  | .outgrown, _, _ => False
/-- The law. The loop's variable is boxed by the assign code: slot sl points at it. -/
theorem range_solo {F : Fence} {n : Nat} {P : Program} {w : World} {α : Type} {g : Operand} {ps : Array Tmp} {assign body : Code} {Q : Exit → Act → World → Prop} {a : Act}
    (hro : F.round = none) (h1 : 1 ≤ n) {gf : Nat} {lb : Array Value} (hg : a.eval g = .func (.func gf) #[] lb) (hFg : F.fn gf) (eg : ∀ args w, (callFunc gf args).run P w = .ok (.enter gf args) w)
    {encs : α → Array Value} {Kp : Nat → World → World → Prop} {S Sp : List α → Prop} {N : Nat} (hseq : SeqSolo F (n - 1) P gf lb encs Kp S Sp N w)
    (hKt : ∀ {l : Nat} {A B C : World}, Kp l A B → Kp l B C → Kp l A C) (hKb : ∀ (W : World) (l : Nat) (o' : Obj), Kp l W (W.putObj l o')) (hps : ∀ x, (encs x).size = ps.size)
    (I : List α → World → Prop) (Ix : Code → List α → World → Prop) (hI : OwnOnly w.heap.size I) (hIx : ∀ c, OwnOnly w.heap.size (Ix c)) (h0 : I [] w)
    (Ax : Nat → World → α → Act → World → Prop) (hAx : ∀ l W0 x a' W o o', w.heap.size ≤ l → Ax l W0 x a' W → W.heap[l]? = some o → o.isCells = false → Ax l W0 x a' (W.putObj l o'))
    (hassign : ∀ (l : Nat) (pre : List α) (x : α) (W : World) (K : Act → World → Prop), w.heap.size ≤ l → I pre W → (∀ a' W', KeepsFrom w.heap.size W W' → I pre W' → Ax l W x a' W' → K a' W') →
      assign.wpIn (F.inRound l) (n - 1 - 1) P (Exit.then K (fun _ _ _ => False)) { tmps := (ps.zip (encs x)).foldl (fun t (p, v) => t.setIfInBounds p v) a.tmps, defers := [] } W)
    (hbody : ∀ (l : Nat) (pre : List α) (x : α) (a' : Act) (W0 W : World), w.heap.size ≤ l → I pre W → Ax l W0 x a' W → pre.length < N → body.wpIn (F.inRound l) (n - 1 - 1) P (soloPost w.heap.size (fun _ => Kp l W0) I Ix (pre ++ [x]) W) a' W)
    (hdone : ∀ (D : Nat) (xs : List α) (W : World), w.heap.size ≤ D → S xs → I xs W → W.heap[D]? = some (.deferred (some [])) → Q .normal { a with defers := { target := .collected D, args := #[] } :: a.defers } W)
    (hstop : ∀ (D : Nat) (c : Code) (pre : List α) (W : World), w.heap.size ≤ D → Sp pre → Ix c pre W → W.heap[D]? = some (.deferred (some [])) → c.wpIn F n P Q { a with defers := { target := .collected D, args := #[] } :: a.defers } W) :
    (Code.rangeFunc g ps assign body).wpIn F n P Q a w := by
  refine wpIn_rangeFunc fun fn hfn => ?_
  rw [hro]
  obtain ⟨R, hR⟩ : ∃ R : LoopState → Option Code → Loop, R = fun st pe => { state := st, pending := pe, fn, tmps := a.tmps, params := ps, assign, body, defers := w.heap.size } := ⟨_, rfl⟩
  obtain ⟨W1, hW1⟩ : ∃ W1, (w.alloc (.deferred (some []))).alloc (.loop (R .ready none)) = W1 := ⟨_, rfl⟩
  have hbk : Book w.heap.size (R .ready none) W1 := by rw [← hW1]; exact Book.new w _
  have hb1 : Below w.heap.size w W1 := by rw [← hW1]; exact ((Below.refl _ w).alloc (Nat.le_refl _) _).alloc (by simp) _
  have hs1 : W1.heap.size = w.heap.size + 2 := by rw [← hW1]; simp
  have hi1 : I [] W1 := by rw [← hW1]; exact hI.owns.alloc _ (hI.owns.alloc _ h0)
  -- a turn of the loop's own block
  have turn : ∀ {β : Type} {J : β → World → Prop} (_ : OwnFrom w.heap.size J) {s : β} {W : World} {r : Loop} (o' : Obj), J s W → Book w.heap.size r W → J s (W.putObj (w.heap.size + 1) o') :=
    @fun β J hJ s W r o' hs hb => hJ.putObj o' hs (by omega) hb.1 rfl
  refine ⟨w.heap.size + 1, [{ target := .collected w.heap.size, args := #[] }], W1, { target := .fn (.func gf) lb, args := #[.func (.yield (w.heap.size + 1)) #[] #[]] }, W1, gf,
    #[.func (.yield (w.heap.size + 1)) #[] #[]] ++ lb, W1, by rw [← hW1, hR]; exact run_enterLoop_outer _ _ _ _ _, by simp only [resolve, hg]; simp [go_sem], fun f' hf' => by simp [Target.leads] at hf'; subst hf'; exact hFg,
    by simp [invoke, go_sem, eg], fun _ => h1, ?_⟩
  refine (hseq (w.heap.size + 1) (fun pre W => I pre W ∧ Book w.heap.size (R .ready none) W) (fun pre W => ∃ c, Ix c pre W ∧ Book w.heap.size (R .done (some c)) W) W1 hb1 (by omega) (by omega)
    (fun s X Y hs ho => ⟨hI.up (by omega) s X Y hs.1 ho, Book.onlyB (β := Unit) _ _ (by omega) () X Y hs.2 ho⟩)
    (fun s X Y hs ho => by
      obtain ⟨c, hc, hb⟩ := hs
      exact ⟨c, (hIx c).up (by omega) s X Y hc ho, Book.onlyB (β := Unit) _ _ (by omega) () X Y hb ho⟩) ?_ ⟨hi1, hbk⟩).mono ?_
  · -- a round
    rintro pre x W ⟨hi, hb⟩ hlen
    have hy := run_yield (P := P) (args := encs x) hb.1 (by rw [hR]; exact hps x)
    rw [hR] at hy
    refine ⟨fn, _, assign, body, hy, roundIn_of_wpIn hfn (hassign _ pre x W _ (by omega) hi fun a' Wa hk1 hi' hax => ?_)⟩
    have hba := hb.keeps hk1
    have hbb : Book w.heap.size { R .ready none with state := .busy } (Wa.putObj (w.heap.size + 1) (.loop { R .ready none with state := .busy })) := hba.put _
    refine ⟨_, run_beginRound hba.1 (by rw [hR]), ?_⟩
    refine wpIn_mono (hbody _ pre x a' W _ (by omega) (turn hI.owns _ hi' hba) (hAx _ _ _ _ _ _ _ (by omega) hax hba.1 rfl) hlen) ?_
    -- the round's end
    have fin : ∀ (jump : Option Code) (W3 : World), KeepsFrom w.heap.size (Wa.putObj (w.heap.size + 1) (.loop { R .ready none with state := .busy })) W3 →
        (Instr.endRound (w.heap.size + 1) jump).run P W3 = .ok (.bool jump.isNone) (W3.putObj (w.heap.size + 1) (.loop (R (if jump.isNone then .ready else .done) jump))) ∧
        Book w.heap.size { R .ready none with state := .busy } W3 ∧ Book w.heap.size (R (if jump.isNone then .ready else .done) jump) (W3.putObj (w.heap.size + 1) (.loop (R (if jump.isNone then .ready else .done) jump))) := fun jump W3 hk3 => by
      have hb3 := hbb.keeps hk3
      refine ⟨?_, hb3, hb3.put _⟩
      have h := run_endRound (P := P) jump hb3.1
      rw [hR] at h ⊢
      exact h
    have jumps : ∀ (c : Code) (W3 : World), KeepsFrom w.heap.size (Wa.putObj (w.heap.size + 1) (.loop { R .ready none with state := .busy })) W3 ∧ Kp (w.heap.size + 1) W W3 ∧ Ix c (pre ++ [x]) W3 →
        ∃ v W4, (Instr.endRound (w.heap.size + 1) (some c)).run P W3 = .ok v W4 ∧ ((Ending.returned v = .returned (.bool true) ∧ (I (pre ++ [x]) W4 ∧ Book w.heap.size (R .ready none) W4) ∧ Kp (w.heap.size + 1) W W4) ∨
          (Ending.returned v = .returned (.bool false) ∧ (∃ c, Ix c (pre ++ [x]) W4 ∧ Book w.heap.size (R .done (some c)) W4) ∧ Kp (w.heap.size + 1) W W4)) := fun c W3 h => by
      obtain ⟨hr, hb3, hb4⟩ := fin (some c) W3 h.1
      exact ⟨_, _, hr, .inr ⟨rfl, ⟨c, turn (hIx c).owns _ h.2.2 hb3, hb4⟩, hKt h.2.1 (hKb _ _ _)⟩⟩
    rintro e a3 W3 hp
    cases e with
    | normal =>
      obtain ⟨hk3, hp3, hi3⟩ := hp
      obtain ⟨hr, hb3, hb4⟩ := fin none W3 hk3
      exact ⟨_, _, hr, .inl ⟨rfl, ⟨turn hI.owns _ hi3 hb3, hb4⟩, hKt hp3 (hKb _ _ _)⟩⟩
    | ret => exact jumps .ret W3 hp
    | exit id => exact jumps (.exit id) W3 hp
    | goto t => exact jumps (.goto t) W3 hp
    | panic ch => exact hp.elim
    | outgrown => exact hp.elim
  · -- behind the iterator
    rintro e W2 ⟨⟨v, rfl⟩, (⟨xs, hS, hi, hb⟩ | ⟨pre, hSp, c, hi, hb⟩)⟩
    · refine ⟨none, _, ?_, hdone _ xs _ (Nat.le_refl _) hS (turn hI.owns _ hi hb) (hb.put { R .ready none with state := .exhausted }).2⟩
      have h := run_endLoop (P := P) hb.1 (by rw [hR]; simp)
      rw [hR] at h ⊢
      exact h
    · refine ⟨some c, _, ?_, hstop _ c pre _ (Nat.le_refl _) hSp (turn (hIx c).owns _ hi hb) (hb.put { R .done (some c) with state := .exhausted }).2⟩
      have h := run_endLoop (P := P) hb.1 (by rw [hR]; simp)
      rw [hR] at h ⊢
      exact h
/-- Where the loop's variable is boxed by the assign code: slot sl points at its box zb, of which R speaks. -/
theorem range_soloB {F : Fence} {n : Nat} {P : Program} {w : World} {α : Type} {g : Operand} {ps : Array Tmp} {assign body : Code} {Q : Exit → Act → World → Prop} {a : Act}
    (hro : F.round = none) (h1 : 1 ≤ n) {gf : Nat} {lb : Array Value} (hg : a.eval g = .func (.func gf) #[] lb) (hFg : F.fn gf) (eg : ∀ args w, (callFunc gf args).run P w = .ok (.enter gf args) w)
    {encs : α → Array Value} {Kp : Nat → World → World → Prop} {S Sp : List α → Prop} {N : Nat} (hseq : SeqSolo F (n - 1) P gf lb encs Kp S Sp N w)
    (hKt : ∀ {l : Nat} {A B C : World}, Kp l A B → Kp l B C → Kp l A C) (hKb : ∀ (W : World) (l : Nat) (o' : Obj), Kp l W (W.putObj l o')) (hps : ∀ x, (encs x).size = ps.size)
    (I : List α → World → Prop) (Ix : Code → List α → World → Prop) (hI : OwnOnly w.heap.size I) (hIx : ∀ c, OwnOnly w.heap.size (Ix c)) (h0 : I [] w) (sl : Nat) (R : Nat → World → α → Nat → World → Prop) (hR : ∀ l W0 x zb W o o', w.heap.size ≤ l → R l W0 x zb W → W.heap[l]? = some o → o.isCells = false → R l W0 x zb (W.putObj l o'))
    (hassign : ∀ (l : Nat) (pre : List α) (x : α) (W : World) (K : Act → World → Prop), w.heap.size ≤ l → I pre W →
      (∀ zb W', KeepsFrom w.heap.size W W' → I pre W' → R l W x zb W' → K { tmps := ((ps.zip (encs x)).foldl (fun t (p, v) => t.setIfInBounds p v) a.tmps).setIfInBounds sl (.pointer (some ⟨zb, 0, none⟩)), defers := [] } W') →
      assign.wpIn (F.inRound l) (n - 1 - 1) P (Exit.then K (fun _ _ _ => False)) { tmps := (ps.zip (encs x)).foldl (fun t (p, v) => t.setIfInBounds p v) a.tmps, defers := [] } W)
    (hbody : ∀ (l : Nat) (pre : List α) (x : α) (zb : Nat) (W0 W : World), w.heap.size ≤ l → I pre W → R l W0 x zb W → pre.length < N →
      body.wpIn (F.inRound l) (n - 1 - 1) P (soloPost w.heap.size (fun _ => Kp l W0) I Ix (pre ++ [x]) W) { tmps := ((ps.zip (encs x)).foldl (fun t (p, v) => t.setIfInBounds p v) a.tmps).setIfInBounds sl (.pointer (some ⟨zb, 0, none⟩)), defers := [] } W)
    (hdone : ∀ (D : Nat) (xs : List α) (W : World), w.heap.size ≤ D → S xs → I xs W → W.heap[D]? = some (.deferred (some [])) → Q .normal { a with defers := { target := .collected D, args := #[] } :: a.defers } W)
    (hstop : ∀ (D : Nat) (c : Code) (pre : List α) (W : World), w.heap.size ≤ D → Sp pre → Ix c pre W → W.heap[D]? = some (.deferred (some [])) → c.wpIn F n P Q { a with defers := { target := .collected D, args := #[] } :: a.defers } W) :
    (Code.rangeFunc g ps assign body).wpIn F n P Q a w :=
  range_solo hro h1 hg hFg eg hseq hKt hKb hps I Ix hI hIx h0
    (fun l W0 x a' W' => ∃ zb : Nat, a' = { tmps := ((ps.zip (encs x)).foldl (fun t (p, v) => t.setIfInBounds p v) a.tmps).setIfInBounds sl (.pointer (some ⟨zb, 0, none⟩)), defers := [] } ∧ R l W0 x zb W')
    (fun l W0 x _ W o o' hl h hb ho => by obtain ⟨zb, e, r⟩ := h; exact ⟨zb, e, hR l W0 x zb W o o' hl r hb ho⟩)
    (fun l pre x W K hl hi hK => hassign l pre x W K hl hi fun zb W' k1 k3 k4 => hK _ _ k1 k3 ⟨zb, rfl, k4⟩)
    (fun l pre x a' W0 W hl hi hax hlen => by obtain ⟨zb, rfl, r⟩ := hax; exact hbody l pre x zb W0 W hl hi r hlen) hdone hstop
end
/-! zones: as they lie: missing, has, first. -/
section
open Go.RowKit Go

/-- The blocks of zones. -/
structure ZC where
  z : Nat
  zb : Nat
  zc : Nat
  N : Nat
  ds : Nat → Nat
  mbs : Nat → Nat → Nat
  tbs : Nat → Nat
def znV (Z : ZC) (g : Nat → Int) (i : Nat) : Value := if i < 94 then .int .i64 (g i) else .slice (some ⟨Z.zb, 0, none⟩) Z.N Z.zc
structure ZnAt (w : World) (Z : ZC) (g : Nat → Int) (L T : Nat → List (Int × Int)) : Prop where
  row : RowAt w Z.z 95 (znV Z g)
  lst : RowAt w Z.zb Z.N (fun i => .pointer (some ⟨Z.ds i, 0, none⟩))
  nd : ∀ i, i < Z.N → NodeAt w (Z.ds i) (frN g i) (Z.mbs i) (Z.tbs i) (L i) (T i)
  inv : ∀ i, i < Z.N → Inv (frN g i) (L i) (T i)
  dj : ∀ i j, i < Z.N → j < Z.N → i ≠ j → Z.ds i ≠ Z.ds j ∧ ∀ k, own6 (Z.mbs i) (Z.tbs i) k → ¬ own6 (Z.mbs j) (Z.tbs j) k
  good : Good g
  num : g 0 = (Z.N : Int)
/-- All blocks of zones. -/
def ZC.all (Z : ZC) (k : Nat) : Prop := k = Z.z ∨ k = Z.zb ∨ ∃ i, i < Z.N ∧ (k = Z.ds i ∨ own6 (Z.mbs i) (Z.tbs i) k)
section
variable {w w' : World} {Z : ZC} {g : Nat → Int} {L T : Nat → List (Int × Int)}
theorem ZnAt.only {S : Nat → Prop} (A : ZnAt w Z g L T) (h : Only S w w') (hs : ∀ k, Z.all k → ¬ S k) : ZnAt w' Z g L T :=
  ⟨A.row.only h (hs _ (.inl rfl)), A.lst.only h (hs _ (.inr (.inl rfl))), fun i hi => (A.nd i hi).only h (hs _ (.inr (.inr ⟨i, hi, .inl rfl⟩))) (fun _ hk => hs _ (.inr (.inr ⟨i, hi, .inr hk⟩))), A.inv, A.dj, A.good, A.num⟩
theorem ZnAt.later (A : ZnAt w Z g L T) (h : Below w.heap.size w w') : ZnAt w' Z g L T := A.only (S := fun _ => False) (Only.of_below h) (fun _ _ h => h)
theorem ZnAt.n8 (A : ZnAt w Z g L T) : 1 ≤ Z.N ∧ Z.N ≤ 8 := by
  have h1 := A.good.n1
  have h2 := A.good.n2
  have := A.num
  omega
theorem ZnAt.lt (A : ZnAt w Z g L T) {k : Nat} (h : Z.all k) : k < w.heap.size := by
  rcases h with rfl | rfl | ⟨i, hi, rfl | h⟩
  · exact A.row.lt
  · exact A.lst.lt
  · exact (A.nd i hi).lt
  · exact (A.nd i hi).own_lt h
theorem ZnAt.c94 (A : ZnAt w Z g L T) : w.cell? ⟨Z.z, 94, none⟩ = some (.slice (some ⟨Z.zb, 0, none⟩) Z.N Z.zc) := A.row.cell 94 (by decide)
theorem ZnAt.cb (A : ZnAt w Z g L T) {k : Nat} (hk : k < Z.N) : w.cell? ⟨Z.zb, k, none⟩ = some (.pointer (some ⟨Z.ds k, 0, none⟩)) := A.lst.cell k hk
theorem ZnAt.pos (A : ZnAt w Z g L T) : ∀ i, i < Z.N → 0 ≤ g (18 + i) ∧ g (18 + i) ≤ 128 := fun i hi => by
  have h := A.good.frames i (by have := A.num; omega)
  omega
theorem ZnAt.sum (A : ZnAt w Z g L T) {k : Nat} (hk : k ≤ Z.N) : 0 ≤ sumF g k ∧ sumF g k ≤ 1024 := by
  have h2 := sumF_bd g k (fun i hi => A.pos i (by omega))
  have h3 := A.n8
  omega
theorem zmissing_any (A : ZnAt w Z g L T) : Calls Try.prog 31 #[.pointer (some ⟨Z.z, 0, none⟩)] w fun e w' => e = .returned (.bool false) ∧ w = w' := by
  have c94 := A.c94
  have h8 := A.n8
  have h0 : ((Z.N : Int) == 0) = false := by simp; omega
  clear A
  go_enter Try.func31, Try.ntmps31
  go_wp2_with (fail)
  go_ret
  exact ⟨rfl, rfl⟩
/-- What first is to answer. -/
def FirstOk (Z : ZC) (g : Nat → Int) (L T : Nat → List (Int × Int)) : Prop := ∀ (w : World), ZnAt w Z g L T → ∀ k : Nat, k < Z.N →
  Calls Try.prog 35 #[.pointer (some ⟨Z.z, 0, none⟩), .int .i64 k] w fun e w' => e = .returned (.int .i64 (sumF g k)) ∧ Below w.heap.size w w'
end
end
/-! zones: Blocks as an iterator: it ranges over each node's blocks and tells them on. -/
section
open Go.RowKit Go.Shelf Go
attribute [local go_sem] Oper.semAt_some

/-- The iterator's frame at the head of a node. -/
def ziF (u : Nat → Value) (Bn yb zb N zc k : Nat) : List Value := [u 0, .pointer (some ⟨Bn, 0, none⟩), .pointer (some ⟨yb, 0, none⟩), u 3, u 4, u 5, u 6, u 7, u 8, u 9, u 10, u 11, .slice (some ⟨zb, 0, none⟩) N zc, .int .i64 N, .int .i64 k, u 15, u 16, u 17, u 18, u 19, u 20, u 21, u 22, u 23, u 24, u 25, u 26, u 27, u 28, u 29, u 30, u 31, u 32, u 33, u 34]
theorem zi_frame {t : Array Value} {Bn yb zb N zc k : Nat} (hs : t.size = 35) (h1 : t[1]? = some (Value.pointer (some ⟨Bn, 0, none⟩))) (h2 : t[2]? = some (Value.pointer (some ⟨yb, 0, none⟩))) (h12 : t[12]? = some (Value.slice (some ⟨zb, 0, none⟩) N zc)) (h13 : t[13]? = some (Value.int .i64 N)) (h14 : t[14]? = some (Value.int .i64 k)) : ∃ u, t = (ziF u Bn yb zb N zc k).toArray := by
  refine ⟨fun i => t.getD i undef, ?_⟩
  have hu : ∀ i v, t[i]? = some v → t.getD i undef = v := fun i v h => by
    obtain ⟨hl, rfl⟩ := Array.getElem?_eq_some_iff.1 h
    simp [Array.getD, hl]
  have e : t = ((List.range 35).map fun i => t.getD i undef).toArray := by
    apply Array.ext
    · simp [hs]
    · intro i h1 h2
      simp [Array.getD, h1]
  refine e.trans ?_
  congr 1
  obtain ⟨u, hu2⟩ : ∃ u : Nat → Value, u = fun i => t.getD i undef := ⟨_, rfl⟩
  rw [← hu2]
  unfold ziF
  rw [← (show u 1 = Value.pointer (some ⟨Bn, 0, none⟩) by rw [hu2]; exact hu 1 _ h1)]
  rw [← (show u 2 = Value.pointer (some ⟨yb, 0, none⟩) by rw [hu2]; exact hu 2 _ h2)]
  rw [← (show u 12 = Value.slice (some ⟨zb, 0, none⟩) N zc by rw [hu2]; exact hu 12 _ h12)]
  rw [← (show u 13 = Value.int .i64 N by rw [hu2]; exact hu 13 _ h13)]
  rw [← (show u 14 = Value.int .i64 k by rw [hu2]; exact hu 14 _ h14)]
  rfl
/-- All blocks but those of C and the loop's own stay. -/
structure KpZ (C : Nat → Prop) (l : Nat) (W W' : World) : Prop where
  size : W.heap.size ≤ W'.heap.size
  same : ∀ k o, W.heap[k]? = some o → ¬ C k → k ≠ l → W'.heap[k]? = some o
section
variable {C : Nat → Prop} {l : Nat} {W W' W'' : World}
theorem KpZ.trans (h : KpZ C l W W') (k : KpZ C l W' W'') : KpZ C l W W'' := ⟨Nat.le_trans h.size k.size, fun i o hi hc hl => k.same i o (h.same i o hi hc hl) hc hl⟩
theorem KpZ.of_only (h : Only C W W') : KpZ C l W W' := ⟨h.size, fun k _ hk hc _ => (h.block k (Array.getElem?_eq_some_iff.1 hk).1 hc).trans hk⟩
theorem KpZ.of_below (h : Below W.heap.size W W') : KpZ C l W W' := KpZ.of_only (Only.of_below h)
theorem KpZ.put (W : World) (l : Nat) (o' : Obj) : KpZ C l W (W.putObj l o') := ⟨by simp [World.putObj], fun _ _ hk _ hl => (World.putObj_heap_other hl).trans hk⟩
theorem KpZ.block (h : KpZ C l W W') {k : Nat} (hk : k < W.heap.size) (hc : ¬ C k) (hl : k ≠ l) : W'.heap[k]? = W.heap[k]? := by
  rw [h.same k _ (Array.getElem?_eq_getElem hk) hc hl, Array.getElem?_eq_getElem hk]
theorem KpZ.cell (h : KpZ C l W W') {b o : Nat} {v : Value} (hv : W.cell? ⟨b, o, none⟩ = some v) (hc : ¬ C b) (hl : b ≠ l) : W'.cell? ⟨b, o, none⟩ = some v := by
  rw [World.cell?_of_block (a := ⟨b, o, none⟩) (h.block (World.block_lt_of_cell? _ _ hv) hc hl)]; exact hv
theorem KpZ.row (h : KpZ C l W W') {b n : Nat} {f : Nat → Value} (R : RowAt W b n f) (hc : ¬ C b) (hl : b ≠ l) : RowAt W' b n f := R.block (h.block R.lt hc hl)
theorem KpZ.fmap (h : KpZ C l W W') {α : Type} {R : Value → Option (MDat × List MemPlace)} {E : Elem R α} {b : Nat} {f : Int → Option α} (M : FMap Try.prog 3 E W b f) (hc : ¬ C b) (hl : b ≠ l) : FMap Try.prog 3 E W' b f := by
  obtain ⟨D, x, ⟨es, clock, hm, r⟩, q⟩ := M
  exact ⟨D, x, ⟨es, clock, h.same b _ hm hc hl, r⟩, q⟩
theorem KpZ.node (h : KpZ C l W W') {d n : Nat} {mb : Nat → Nat} {tb : Nat} {L T : List (Int × Int)} (N : NodeAt W d n mb tb L T) (hd : ¬ C d ∧ d ≠ l) (ho : ∀ k, own6 mb tb k → ¬ C k ∧ k ≠ l) : NodeAt W' d n mb tb L T :=
  ⟨h.row N.row hd.1 hd.2, fun o hlo => h.fmap (N.free o hlo) (ho _ (.inr ⟨o, hlo, rfl⟩)).1 (ho _ (.inr ⟨o, hlo, rfl⟩)).2, h.fmap N.tkn (ho _ (.inl rfl)).1 (ho _ (.inl rfl)).2, N.inj, N.ntb, N.bnd, N.tbnd⟩
theorem KpZ.zones (h : KpZ C l W W') {Z : ZC} {g : Nat → Int} {L T : Nat → List (Int × Int)} (A : ZnAt W Z g L T) (ho : ∀ k, Z.all k → ¬ C k ∧ k ≠ l) : ZnAt W' Z g L T :=
  ⟨h.row A.row (ho _ (.inl rfl)).1 (ho _ (.inl rfl)).2, h.row A.lst (ho _ (.inr (.inl rfl))).1 (ho _ (.inr (.inl rfl))).2, fun i hi => h.node (A.nd i hi) (ho _ (.inr (.inr ⟨i, hi, .inl rfl⟩))) (fun _ hk => ho _ (.inr (.inr ⟨i, hi, .inr hk⟩))), A.inv, A.dj, A.good, A.num⟩
/-- Within a round of a loop that began at B or later. -/
theorem KpZ.kpc (h : KpZ C l W W') (B : Nat) : KpC (fun k => C k ∨ k = l) B W W' := ⟨h.size, fun k o hk hc _ => h.same k o hk (fun h => hc (.inl h)) (fun h => hc (.inr h))⟩
theorem KpZ.from {B : Nat} (h : KpZ C l W W') (hC : ∀ k, C k → k < B) (hl : l < B) : KeepsFrom B W W' := ⟨h.size, fun k o hB hk _ => h.same k o hk (fun hc => by have := hC k hc; omega) (by omega)⟩
end
section
variable {C : Nat → Prop} {l : Nat} {W W' W'' : World}
/-- What was made since may turn. -/
theorem KpZ.onlyB {β : Type} {B : Nat} (hB : W.heap.size ≤ B) : OwnOnly B (fun (_ : β) V => KpZ C l W V) := fun _ X Y h ho =>
  ⟨Nat.le_trans h.size ho.size, fun k o hk hc hl => by
    have h2 := h.same k o hk hc hl
    exact (ho.block k (Array.getElem?_eq_some_iff.1 h2).1 (by have := (Array.getElem?_eq_some_iff.1 hk).1; omega)).trans h2⟩
theorem KpZ.wide {C' : Nat → Prop} {l' : Nat} (h : KpZ C l W W') (hc : ∀ k, C k → C' k) (hl : C' l) : KpZ C' l' W W' :=
  ⟨h.size, fun k o hk h1 _ => h.same k o hk (fun e => h1 (hc k e)) (fun e => h1 (by rw [e]; exact hl))⟩
/-- A box's cell turns. -/
theorem setCell_only (V : World) (zb : Nat) (v : Value) {B : Nat} (h : B ≤ zb) : Only (fun k => B ≤ k) V (V.setCell ⟨zb, 0, none⟩ v) := Only.setCell (S := fun k => B ≤ k) _ ⟨zb, 0, none⟩ h _
theorem setCell_from (V : World) {zb n : Nat} {f : Nat → Value} (R : RowAt V zb n f) (v : Value) (B : Nat) : KeepsFrom B V (V.setCell ⟨zb, 0, none⟩ v) := by
  have ho : Only (fun k => k = zb) V (V.setCell ⟨zb, 0, none⟩ v) := Only.setCell (S := fun k => k = zb) _ ⟨zb, 0, none⟩ rfl _
  refine ⟨ho.size, fun k o _ hk hc => (ho.block k (Array.getElem?_eq_some_iff.1 hk).1 (fun e => ?_)).trans hk⟩
  subst e
  obtain ⟨A, t, hA, _⟩ := R
  rw [hA] at hk
  injection hk with hk
  subst hk
  cases hc
theorem row_put {X : World} {b n l : Nat} {f : Nat → Value} {o : Obj} (o' : Obj) (R : RowAt X b n f) (hl : X.heap[l]? = some o) (ho : o.isCells = false) : RowAt (X.putObj l o') b n f :=
  row_grown R (grownBy_putObj' X l o') (fun r e => by cases e; exact ⟨o, hl, ho⟩)
end
section
variable {w : World} {d n : Nat} {mb : Nat → Nat} {tb : Nat} {L T : List (Int × Int)}
/-- A node's Blocks, where all blocks but C's and the loop's own stay. -/
theorem blocks_solo (m : Nat) (hm : 1 ≤ m) (Bn : Nat) (C : Nat → Prop) (I : Inv n L T) (N : NodeAt w d n mb tb L T) (hc : w.cell? ⟨Bn, 0, none⟩ = some (.pointer (some ⟨d, 0, none⟩))) (hd : ¬ C d) (ho : ∀ k, own6 mb tb k → ¬ C k) (hBn : ¬ C Bn) (hC : ∀ k, C k → k < w.heap.size) :
    SeqSolo Fence.wide m Try.prog 64 #[.pointer (some ⟨Bn, 0, none⟩)] (fun x : Fin L.length => #[blk (L[x.val]'x.isLt)]) (KpZ C)
      (fun xs => xs.map Fin.val = List.range L.length) (fun pre => ∃ k, k ≤ L.length ∧ pre.map Fin.val = List.range k) L.length w := by
  intro l J Jx W hW hl hlW hJ _ hY h0
  have hsz := hW.size
  have hBl := World.block_lt_of_cell? _ _ hc
  have hBl : Bn < w.heap.size := hBl
  have hcW : W.cell? ⟨Bn, 0, none⟩ = some (.pointer (some ⟨d, 0, none⟩)) := by rw [hW.cell hBl]; exact hc
  have NW := N.later hW
  refine blocks_inK m hm l Bn (KpZ C l) (fun xb _ => ¬ C xb ∧ xb ≠ l) I J Jx W (fun s X Y row hs hg hr => hJ.owns s X Y row hs hg (fun r e => by
      obtain ⟨h1, o, h2, h3⟩ := hr r e
      exact ⟨h1, o, h2, by cases o <;> first | rfl | cases h3⟩)) (fun pre x V hj hlen => by
      obtain ⟨fn, tm, ag, bo, h1, h2⟩ := hY pre x V hj hlen
      exact ⟨fn, tm, ag, bo, h1, h2.mono (fun e W' h => h.imp id (fun h => ⟨h.1, h.2.1⟩))⟩) NW hcW KpZ.trans
    (fun V V' hs hb => KpZ.of_below hb) (fun h => h.size) ?_ ?_ ?_ ?_ h0
  · rintro V V' xb y1 y2 hk ⟨hp, hx⟩ R
    exact hk.row R hp hx
  · intro V V' hk hb
    have := hk.size
    exact ⟨fun h => by have := hC _ h; omega, by omega⟩
  · intro V hk
    exact hk.node NW ⟨hd, fun e => by have := N.lt; omega⟩ (fun k hk => ⟨ho k hk, fun e => by have := N.own_lt hk; omega⟩)
  · intro V hk
    exact hk.cell hcW hBn (by omega)
end
/-- The number of a block among all that are told. -/
theorem zBlocks_pre (g : Nat → Int) (L : Nat → List (Int × Int)) (k : Nat) : ∀ d, ∃ R, zBlocks g L (k + d) = zBlocks g L k ++ R
  | 0 => ⟨[], by simp⟩
  | d + 1 => by
    obtain ⟨R, h⟩ := zBlocks_pre g L k d
    exact ⟨R ++ shiftL (sumF g (k + d)) (L (k + d)), by show zBlocks g L (k + d) ++ _ = _; rw [h, List.append_assoc]; rfl⟩
theorem zBlocks_at (g : Nat → Int) (L : Nat → List (Int × Int)) {k N : Nat} (hk : k < N) (x : Nat) (hx : x < (L k).length) :
    (zBlocks g L k).length + x < (zBlocks g L N).length ∧ (zBlocks g L N)[(zBlocks g L k).length + x]? = some (sumF g k + ((L k)[x]).1, ((L k)[x]).2) := by
  obtain ⟨R, h⟩ := zBlocks_pre g L (k + 1) (N - (k + 1))
  rw [show k + 1 + (N - (k + 1)) = N by omega] at h
  have h2 : zBlocks g L (k + 1) = zBlocks g L k ++ shiftL (sumF g k) (L k) := rfl
  rw [h, h2]
  refine ⟨by simp [shiftL_len]; omega, ?_⟩
  rw [List.append_assoc, List.getElem?_append_right (by omega), Nat.add_sub_cancel_left, List.getElem?_append_left (by rw [shiftL_len]; exact hx)]
  unfold shiftL
  rw [List.getElem?_map, List.getElem?_eq_getElem hx]
  rfl
/-- In the wide fence no depth is asked, and a round is nothing that is asked of a machine. -/
theorem round_any {l2 m m' : Nat} {P : Program} {l : Nat} {f : FuncId} {tmps : Array Value} {assign body : Code} {w : World} {R : Ending → World → Prop} (h : RoundIn Fence.wide m P l f tmps assign body w R) : RoundIn (Fence.wide.inRound l2) m' P l f tmps assign body w R :=
  ⟨h.1, fun c cs _ => h.2 c cs (fun d h => by cases h)⟩
/-- The way out past the ranges' blocks, with what abides. -/
theorem leaves_own {m B : Nat} {fn : Func} {tmps : Array Value} {R : Ending → World → Prop} {I : World → Prop} (hI : OwnFrom B (fun (_ : Unit) W => I W)) : ∀ (Ds : List Nat) (W : World), Ds.Nodup → (∀ D ∈ Ds, W.heap[D]? = some (.deferred (some [])) ∧ B ≤ D) → I W →
    (∀ W', I W' → LeavesInM Fence.wide m Try.prog fn tmps R [] .returning W') → LeavesInM Fence.wide m Try.prog fn tmps R (colls Ds) .returning W
  | [], W, _, _, hi, h => h W hi
  | D :: Ds, W, hn, h1, hi, h => by
    obtain ⟨hn1, hn2⟩ := List.nodup_cons.1 hn
    obtain ⟨hd, hB⟩ := h1 D List.mem_cons_self
    refine ⟨by simp, .inl ⟨D, _, rfl, run_takeDeferred hd, leaves_own hI Ds (W.putObj D (.deferred none)) hn2 (fun E hE => ⟨?_, (h1 E (List.mem_cons_of_mem _ hE)).2⟩) (hI.putObj (s := ()) _ hi hB hd rfl) h⟩⟩
    rw [World.putObj_heap_other (fun e => hn1 (by rw [← e]; exact hE))]
    exact (h1 E (List.mem_cons_of_mem _ hE)).1
theorem KpZ.own {β : Type} {C : Nat → Prop} {l : Nat} {W4 : World} : OwnFrom W4.heap.size (fun (_ : β) V => KpZ C l W4 V) := by
  rintro s X Y row h hg hr
  refine ⟨Nat.le_trans h.size hg.size, fun k o hk hc hl => ?_⟩
  have h2 := h.same k o hk hc hl
  refine (hg.block k (Array.getElem?_eq_some_iff.1 h2).1 (fun e => ?_)).trans h2
  have h3 := (hr k e.symm).1
  have h4 := (Array.getElem?_eq_some_iff.1 hk).1
  omega
section
variable {w : World} {Z : ZC} {g : Nat → Int} {L T : Nat → List (Int × Int)}
set_option maxRecDepth 100000 in
set_option maxHeartbeats 8000000 in
theorem zblocks_solo (m : Nat) (hm : 4 ≤ m) (Bn : Nat) (C : Nat → Prop) (hfirst : FirstOk Z g L T) (A : ZnAt w Z g L T) (hBn : w.cell? ⟨Bn, 0, none⟩ = some (.pointer (some ⟨Z.z, 0, none⟩))) (hC : ∀ k, C k → k < w.heap.size) (hCB : ¬ C Bn) (hCA : ∀ k, Z.all k → ¬ C k) :
    SeqSolo Fence.wide m Try.prog 42 #[.pointer (some ⟨Bn, 0, none⟩)] (fun x : Fin (zBlocks g L Z.N).length => #[blk ((zBlocks g L Z.N)[x.val]'x.isLt)]) (KpZ C)
      (fun xs => xs.map Fin.val = List.range (zBlocks g L Z.N).length) (fun pre => ∃ k, k ≤ (zBlocks g L Z.N).length ∧ pre.map Fin.val = List.range k) (zBlocks g L Z.N).length w := by
  intro l J Jx W hW hwl hlW hJ hJx hY h0
  have h1 : 1 ≤ m := by omega
  have hBl := World.block_lt_of_cell? _ _ hBn
  have hcB : W.cell? ⟨Bn, 0, none⟩ = some (.pointer (some ⟨Z.z, 0, none⟩)) := by rw [hW.cell hBl]; exact hBn
  have HY := Lib.hid hY
  have HJ := Lib.hid hJ
  have HJX := Lib.hid hJx
  have HA := Lib.hid (A.later hW)
  have HAL := Lib.hid (fun k (hk : Z.all k) => A.lt hk)
  have hwW := hW.size
  have h8 := A.n8
  clear hY hJ hJx A hBn
  refine callsIn_of_wp_marks Try.func42 rfl trivial ?_ rfl
  simp only [Try.ntmps42, List.size_toArray, List.length_cons, List.length_nil, Nat.reduceAdd, Nat.reduceSub, Array.replicate_succ, Array.replicate_zero, List.push_toArray, List.append_toArray, List.nil_append, List.cons_append]
  refine wpIn_wide.2 ?_
  have ha : Below W.heap.size W (W.alloc (.cells #[.func (.yield l) #[] #[]] 83)) := (Below.refl _ W).alloc (Nat.le_refl _) _
  have HYB := Lib.hid (show (W.alloc (.cells #[.func (.yield l) #[] #[]] 83)).cell? ⟨W.heap.size, 0, none⟩ = some (.func (.yield l) #[] #[]) by simp [go_sem])
  have c1 : (W.alloc (.cells #[.func (.yield l) #[] #[]] 83)).cell? ⟨Bn, 0, none⟩ = some (.pointer (some ⟨Z.z, 0, none⟩)) := by rw [ha.cell (World.block_lt_of_cell? _ _ hcB)]; exact hcB
  have HA1 := Lib.hid (HA.out.later ha)
  have HJ1 := Lib.hid (HJ.out.owns [] W _ none h0 (grown_none ha) (fun r e => by cases e))
  have hs1 : (W.alloc (.cells #[.func (.yield l) #[] #[]] 83)).heap.size = W.heap.size + 1 := by simp
  clear ha h0 hcB
  go_wp2_with (fail)
  generalize W.alloc (.cells #[.func (.yield l) #[] #[]] 83) = W1 at *
  go_step3
  go_wp2_with (fail)
  have c94 := HA1.out.c94
  go_step3
  go_wp2_with (fail)
  have hyb : ¬ C W.heap.size := fun h => by have := hC _ h; omega
  refine wp_loop_ghost (fun j a' V => ∃ (k : Nat) (pre : List (Fin (zBlocks g L Z.N).length)) (Ds : List Nat), j = Z.N - k ∧ k ≤ Z.N ∧ a'.tmps.size = 35 ∧ a'.tmps[1]? = some (.pointer (some ⟨Bn, 0, none⟩)) ∧ a'.tmps[2]? = some (.pointer (some ⟨W.heap.size, 0, none⟩)) ∧
    a'.tmps[12]? = some (.slice (some ⟨Z.zb, 0, none⟩) Z.N Z.zc) ∧ a'.tmps[13]? = some (.int .i64 Z.N) ∧ a'.tmps[14]? = some (.int .i64 k) ∧ a'.defers = colls Ds ∧ Hid (pre.map Fin.val = List.range (zBlocks g L k).length) ∧ Hid (J pre V) ∧ Hid (KpZ C l W1 V) ∧ Hid (Ds.Nodup ∧ ∀ D ∈ Ds, V.heap[D]? = some (.deferred (some [])) ∧ W1.heap.size ≤ D)) Z.N
    ⟨0, [], [], rfl, Nat.zero_le _, rfl, rfl, rfl, rfl, rfl, rfl, rfl, rfl, HJ1.out, KpZ.of_below (Below.refl _ _), List.nodup_nil, fun D hD => absurd hD List.not_mem_nil⟩ ?_
  clear HJ1 c94
  rintro j ⟨tm, df⟩ wr ⟨k, pre, Ds, rfl, hk, s0, t1, t2, t12, t13, t14, rfl, HPR, HJJ, HK, HD⟩
  dsimp only at s0 t1 t2 t12 t13 t14
  obtain ⟨u, rfl⟩ := zi_frame s0 t1 t2 t12 t13 t14
  clear s0 t1 t2 t12 t13 t14
  unfold ziF
  have hlC : ∀ q, Z.all q → ¬ C q ∧ q ≠ l := fun q hq => ⟨hCA q hq, fun e => by have := HAL.out q hq; omega⟩
  have HAW := Lib.hid (HK.out.zones HA1.out hlC)
  by_cases hlt : k < Z.N
  · have hltI : (k : Int) < (Z.N : Int) := by omega
    have ck := HAW.out.cb hlt
    have cB : wr.cell? ⟨Bn, 0, none⟩ = some (.pointer (some ⟨Z.z, 0, none⟩)) := HK.out.cell c1 hCB (fun e => by omega)
    go_wp2_with (fail)
    refine (hfirst wr HAW.out k hlt).mono ?_
    rintro e w3 ⟨rfl, hb3⟩
    have HB3 := Lib.hid hb3
    clear hb3 cB ck
    go_wp2_with (fail)
    refine (blocks_any _ _).mono ?_
    rintro e w' ⟨rfl, rfl⟩
    go_wp2_with (fail)
    obtain ⟨W4, hW4⟩ : ∃ W4, ((w3.alloc (.cells #[.int .i64 (sumF g k)] 3)).alloc (.cells #[.pointer (some ⟨Z.ds k, 0, none⟩)] 63)) = W4 := ⟨_, rfl⟩
    have hb4 : Below wr.heap.size wr W4 := by
      rw [← hW4]
      exact (HB3.out.alloc HB3.out.size _).alloc (by simp; have := HB3.out.size; omega) _
    have hs4 : W4.heap.size = w3.heap.size + 2 := by rw [← hW4]; simp
    have hbb : W4.cell? ⟨w3.heap.size + 1, 0, none⟩ = some (.pointer (some ⟨Z.ds k, 0, none⟩)) := by rw [← hW4]; simp [go_sem]
    have hfb : W4.cell? ⟨w3.heap.size, 0, none⟩ = some (.int .i64 (sumF g k)) := by rw [← hW4]; simp [go_sem]
    rw [hW4]
    have HFB := Lib.hid hfb
    have HJ4 := Lib.hid (HJ.out.owns pre wr W4 none HJJ.out (grown_none hb4) (fun r e => by cases e))
    have HK4 := Lib.hid (HK.out.trans (KpZ.of_below hb4))
    have HN4 := Lib.hid ((HAW.out.nd k hlt).later hb4)
    have hw4 := HK4.out.size
    have hw3 := HB3.out.size
    have hwr := HK.out.size
    have HD4 := Lib.hid (fun D (hD : D ∈ Ds) => (⟨(hb4.block D (Array.getElem?_eq_some_iff.1 (HD.out.2 D hD).1).1).trans (HD.out.2 D hD).1, (HD.out.2 D hD).2, (Array.getElem?_eq_some_iff.1 (HD.out.2 D hD).1).1⟩ : W4.heap[D]? = some (.deferred (some [])) ∧ W1.heap.size ≤ D ∧ D < wr.heap.size))
    have hyc : W4.cell? ⟨W.heap.size, 0, none⟩ = some (.func (.yield l) #[] #[]) := HK4.out.cell HYB.out hyb (by omega)
    have HYC := Lib.hid hyc
    have hseq := blocks_solo (m - 1) (by omega) (w3.heap.size + 1) (fun q => C q ∨ q = l) (HAW.out.inv k hlt) HN4.out hbb (fun h => h.elim (hCA _ (.inr (.inr ⟨k, hlt, .inl rfl⟩))) (hlC _ (.inr (.inr ⟨k, hlt, .inl rfl⟩))).2)
      (fun q hq h => h.elim (hCA _ (.inr (.inr ⟨k, hlt, .inr hq⟩))) (hlC _ (.inr (.inr ⟨k, hlt, .inr hq⟩))).2) (fun h => h.elim (fun h => by have := hC _ h; omega) (fun h => by omega)) (fun q h => h.elim (fun h => by have := hC _ h; omega) (fun h => by omega))
    obtain ⟨out, hout⟩ : ∃ out : Fin (L k).length → Fin (zBlocks g L Z.N).length, ∀ x, (out x).val = (zBlocks g L k).length + x.val ∧ (zBlocks g L Z.N)[(out x).val]'(out x).isLt = (sumF g k + ((L k)[x.val]'x.isLt).1, ((L k)[x.val]'x.isLt).2) :=
      ⟨fun x => ⟨_, (zBlocks_at g L hlt x.val x.isLt).1⟩, fun x => ⟨rfl, (List.getElem?_eq_some_iff.1 (zBlocks_at g L hlt x.val x.isLt).2).2⟩⟩
    clear hW4 hb4 hbb hfb hyc
    refine (wpIn_wide (n := m)).1 ?_
    refine range_soloB rfl h1 (gf := 64) (lb := #[.pointer (some ⟨w3.heap.size + 1, 0, none⟩)]) (by simp [go_sem]) trivial (enters_of Try.func64 (by kernel_rfl) rfl) hseq KpZ.trans
      KpZ.put (fun x => rfl)
      (fun pre' V => J (pre ++ pre'.map out) V ∧ KpZ C l W4 V) (fun c pre' V => c = Code.exit 0 ∧ Jx (pre ++ pre'.map out) V ∧ KpZ C l W4 V)
      (fun s X Y hs ho => ⟨HJ.out.up (by omega) _ X Y hs.1 ho, KpZ.onlyB (β := Unit) (Nat.le_refl _) () X Y hs.2 ho⟩)
      (fun c s X Y hs ho => ⟨hs.1, HJX.out.up (by omega) _ X Y hs.2.1 ho, KpZ.onlyB (β := Unit) (Nat.le_refl _) () X Y hs.2.2 ho⟩)
      ⟨by simpa using HJ4.out, KpZ.of_below (Below.refl _ _)⟩
      6 (fun l2 W0 x zb W' => RowAt W' zb 2 (blkV ((L k)[x.val]'x.isLt).1 ((L k)[x.val]'x.isLt).2) ∧ W0.heap.size ≤ zb ∧ W4.heap.size ≤ W0.heap.size ∧ KpZ (fun q => C q ∨ q = l) l2 W0 W')
      (fun l2 W0 x zb W o o' _ R hl ho => ⟨row_put o' R.1 hl ho, R.2.1, R.2.2.1, R.2.2.2.trans (KpZ.put _ _ _)⟩) ?assign ?body ?done ?stop
    case assign =>
      intro l2 pre' x V K _ hI hK
      have HK := Lib.hid hK
      have HI := Lib.hid hI
      have HR := Lib.hid (block_row V ((L k)[x.val]'x.isLt).1 ((L k)[x.val]'x.isLt).2)
      have HW := Lib.hid ((Below.refl _ V).alloc (Nat.le_refl _) (.cells #[.int .i64 ((L k)[x.val]'x.isLt).1, .int .i64 ((L k)[x.val]'x.isLt).2] 77))
      clear hK hI hseq
      simp only [blk]
      gi_wp2_with (fail)
      have h9 := HK.out V.heap.size _ ((KeepsOthers.alloc V _).from _) ⟨HJ.out.owns _ V _ none HI.out.1 (grown_none HW.out) (fun r e => by cases e), HI.out.2.trans (KpZ.of_below HW.out)⟩ ⟨HR.out, Nat.le_refl _, HI.out.2.size, KpZ.of_below HW.out⟩
      simpa [blk] using h9
    case body =>
      rintro l2 pre' x zb W0 V _ ⟨hj, hkz⟩ ⟨hz, hzb, hW04, hk0⟩ hlen
      obtain ⟨o1, o2⟩ := hout x
      have hlp : (pre ++ pre'.map out).length < (zBlocks g L Z.N).length := by
        have h2 := congrArg List.length HPR.out
        have h3 := (zBlocks_at g L hlt pre'.length hlen).1
        simp only [List.length_map, List.length_range] at h2
        rw [List.length_append, List.length_map, h2]
        exact h3
      obtain ⟨xa, xo, ex, ho10, hfit⟩ := (HAW.out.inv k hlt).frz (List.getElem_mem x.isLt)
      have hn := (HAW.out.inv k hlt).n2
      have hsm := HAW.out.sum (k := k) (by omega)
      have hxa : xa < 128 := by have := Nat.one_le_two_pow (n := xo); omega
      have HVO := Lib.hid (setCell_only V zb (.int .i64 ((xa : Int) + sumF g k)) (B := W0.heap.size) hzb)
      have HVF := Lib.hid (setCell_from V hz (.int .i64 ((xa : Int) + sumF g k)) W4.heap.size)
      have HJV := Lib.hid (HJ.out.up (by omega) _ V _ hj HVO.out)
      have HKV := Lib.hid (KpZ.onlyB (β := Unit) hW04 () V _ hkz HVO.out)
      have HK0V := Lib.hid (KpZ.onlyB (β := Unit) (Nat.le_refl _) () V _ hk0 HVO.out)
      have hYx := HY.out (pre ++ pre'.map out) (out x) _ HJV.out hlp
      rw [o2, ex] at hYx
      rw [ex] at hz
      dsimp only at hYx
      rw [show sumF g k + (xa : Int) = (xa : Int) + sumF g k from Int.add_comm _ _] at hYx
      have hw9 : wrap64 ((xa : Int) + sumF g k) = (xa : Int) + sumF g k := IntWalk.wrap64_in _ ⟨by omega, by omega⟩
      have yc : V.cell? ⟨W.heap.size, 0, none⟩ = some (.func (.yield l) #[] #[]) := hkz.cell HYC.out hyb (by omega)
      have fc : V.cell? ⟨w3.heap.size, 0, none⟩ = some (.int .i64 (sumF g k)) := hkz.cell HFB.out (fun h => by have := hC _ h; omega) (by omega)
      have z0 : V.cell? ⟨zb, 0, none⟩ = some (.int .i64 xa) := hz.cell 0 (by decide)
      have z1 : V.cell? ⟨zb, 1, none⟩ = some (.int .i64 xo) := hz.cell 1 (by decide)
      have zf0 : V.frozen? ⟨zb, 0, none⟩ = false := hz.frozen 0
      have zf1 : V.frozen? ⟨zb, 1, none⟩ = false := hz.frozen 1
      obtain ⟨fn, tmps, asg, bod, hyy, hR⟩ := hYx
      simp only [blk] at hyy
      simp only [blk, ex]
      clear hseq hj hkz hz ex o2 hfit ho10 hlp hk0
      gi_wp2_with (fail)
      refine ⟨fun h => (by cases h), (round_any hR).mono ?_⟩
      clear yc fc z0 z1 zf0 zf1 hyy hR
      rintro e W' (⟨rfl, hJ', hk'⟩ | ⟨rfl, hJ', hk'⟩)
      · have hJ2 : J (pre ++ (pre' ++ [x]).map out) W' := by rw [List.map_append, ← List.append_assoc]; exact hJ'
        have HJ2 := Lib.hid hJ2
        have HK2 := Lib.hid hk'
        clear hJ2 hJ' hk'
        gi_wp2_with (fail)
        exact ⟨HVF.out.trans (HK2.out.from (fun q h => by have := hC _ h; omega) (by omega)), HK0V.out.trans (HK2.out.wide (fun _ h => .inl h) (.inr rfl)), HJ2.out, HKV.out.trans HK2.out⟩
      · have hJ2 : Jx (pre ++ (pre' ++ [x]).map out) W' := by rw [List.map_append, ← List.append_assoc]; exact hJ'
        have HJ2 := Lib.hid hJ2
        have HK2 := Lib.hid hk'
        clear hJ2 hJ' hk'
        gi_wp2_with (fail)
        exact ⟨HVF.out.trans (HK2.out.from (fun q h => by have := hC _ h; omega) (by omega)), HK0V.out.trans (HK2.out.wide (fun _ h => .inl h) (.inr rfl)), rfl, HJ2.out, HKV.out.trans HK2.out⟩
    case done =>
      rintro D xs V hD hxs ⟨hj, hkz⟩ hDk
      have HJV := Lib.hid hj
      have HKV := Lib.hid (HK4.out.trans hkz)
      have HPV := Lib.hid (show (pre ++ xs.map out).map Fin.val = List.range (zBlocks g L (k + 1)).length by
        have h2 : (zBlocks g L (k + 1)).length = (zBlocks g L k).length + (L k).length := by
          show (zBlocks g L k ++ shiftL (sumF g k) (L k)).length = _
          rw [List.length_append, shiftL_len]
        have h3 : (xs.map out).map Fin.val = (xs.map Fin.val).map ((zBlocks g L k).length + ·) := by
          rw [List.map_map, List.map_map]
          exact List.map_congr_left fun x _ => (hout x).1
        rw [List.map_append, HPR.out, h3, hxs, h2, List.range_add])
      have HDV := Lib.hid (show (D :: Ds).Nodup ∧ ∀ E ∈ D :: Ds, V.heap[E]? = some (.deferred (some [])) ∧ W1.heap.size ≤ E from
        ⟨List.nodup_cons.2 ⟨fun h => by have := (HD4.out D h).2.2; have := HB3.out.size; omega, HD.out.1⟩, fun E hE => by
          rcases List.mem_cons.1 hE with rfl | hE
          · exact ⟨hDk, by omega⟩
          · obtain ⟨q1, q2, q3⟩ := HD4.out E hE
            exact ⟨hkz.same E _ q1 (fun h => by have := hC _ h; omega) (by omega), q2⟩⟩)
      clear hseq hj hkz hxs
      go_wp2_with (fail)
      exact ⟨Z.N - (k + 1), by omega, k + 1, pre ++ xs.map out, D :: Ds, rfl, hlt, rfl, rfl, rfl, rfl, rfl, rfl, rfl, HPV, HJV, HKV, HDV⟩
    case stop =>
      rintro D c pre' V hD hSp ⟨rfl, hjx, hkz⟩ hDk
      refine wpIn_exit ?_
      simp only [Exit.inBlock, Exit.then, if_neg (show ¬ (0 : Nat) = 1 by decide), if_neg (show ¬ (0 : Nat) = 2 by decide)]
      obtain ⟨q, hq, hqs⟩ := hSp
      have hN1 : Ds.Nodup := HD.out.1
      have hN2 : ∀ E ∈ D :: Ds, V.heap[E]? = some (.deferred (some [])) ∧ W1.heap.size ≤ E := fun E hE => by
        rcases List.mem_cons.1 hE with rfl | hE
        · exact ⟨hDk, by omega⟩
        · obtain ⟨q1, q2, q3⟩ := HD4.out E hE
          exact ⟨hkz.same E _ q1 (fun h => by have := hC _ h; omega) (by omega), q2⟩
      show LeavesInM Fence.wide m Try.prog Try.f42 _ _ (colls (D :: Ds)) .returning V
      refine leaves_own (B := W1.heap.size) (I := fun V => Jx (pre ++ pre'.map out) V) (fun s X Y row hs hg hr => own_below HJX.out.owns (by omega) _ X Y row hs hg hr) (D :: Ds) V (List.nodup_cons.2 ⟨fun h => by have := (HD4.out D h).2.2; omega, hN1⟩) hN2 hjx (fun V' hV => ?_)
      refine ⟨.tuple #[], ?_, ⟨_, rfl⟩, .inr ⟨_, ⟨(zBlocks g L k).length + q, ?_, ?_⟩, hV⟩⟩
      · simp [results, Try.f42, go_sem]
      · rcases Nat.eq_zero_or_pos q with rfl | hq0
        · obtain ⟨R, e⟩ := zBlocks_pre g L k (Z.N - k)
          rw [show k + (Z.N - k) = Z.N by omega] at e
          rw [e, List.length_append]
          omega
        · have := (zBlocks_at g L hlt (q - 1) (by omega)).1
          omega
      · have h3 : (pre'.map out).map Fin.val = (pre'.map Fin.val).map ((zBlocks g L k).length + ·) := by
          rw [List.map_map, List.map_map]
          exact List.map_congr_left fun x _ => (hout x).1
        rw [List.map_append, HPR.out, h3, hqs, List.range_add]
  · obtain rfl : k = Z.N := by omega
    go_wp2_with (fail)
    refine leaves_own (B := W1.heap.size) (I := fun V => J pre V) (fun s X Y row hs hg hr => own_below HJ.out.owns (by omega) pre X Y row hs hg hr) Ds wr HD.out.1 HD.out.2 HJJ.out (fun V hV => ?_)
    refine ⟨.tuple #[], ?_, ⟨_, rfl⟩, .inl ⟨pre, HPR.out, hV⟩⟩
    simp [results, Try.f42, go_sem]
end
end
/-! zones' law: its own config of two nodes. -/
section
open Go.RowKit Go

def twoZ0 (i : Nat) : Int := if i = 0 then 2 else if i = 1 then 1 else if i = 91 then 1 else if i = 92 then 2 else if i = 93 then 3 else 0
def twoZ (i : Nat) : Int := if i = 0 then 2 else if i = 1 then 1 else if i = 91 then 1 else if i = 92 then 2 else if i = 93 then 3 else
  if i = 18 then 4 else if i = 19 then 4 else if i = 27 then 10 else if i = 34 then 10 else 0
set_option maxRecDepth 100000 in
theorem builtTwoZ : Try.prog.built 26 [(0, .int .i64 2), (1, .int .i64 1), (6, .int .i64 1), (7, .int .i64 2), (8, .int .i64 3)] = some (ofG twoZ0) := by kernel_rfl
theorem twoZ_may : mayB twoZ = true := by decide +kernel

set_option maxRecDepth 100000 in
theorem twoZ_any (w : World) :
    Calls Try.prog 25 #[] w fun e w' => ∃ A', e = .returned (.agg A') ∧ Cfg A' twoZ ∧ Below w.heap.size w w' := by
  obtain ⟨Z, hz, hZ⟩ := zeroCfg
  have hb := builtTwoZ
  have hL := cfg_ofG twoZ0
  generalize ofG twoZ0 = L at hb hL
  have hS1 := store_last (w.alloc (.cells Z 26)) hz hL
  rw [show (w.alloc (.cells Z 26)).heap.size = w.heap.size + 1 by simp] at hS1
  have l18 : L[18]? = some (.int .i64 0) := hL.get 18 (by decide)
  have m2 := hL.set 18 4
  obtain ⟨L2, s2⟩ : ∃ L2, L.setIfInBounds 18 (.int .i64 4) = L2 := ⟨_, rfl⟩
  rw [s2] at m2
  have l19 : L2[19]? = some (.int .i64 0) := m2.get 19 (by decide)
  have m3 := m2.set 19 4
  obtain ⟨L3, s3⟩ : ∃ L3, L2.setIfInBounds 19 (.int .i64 4) = L3 := ⟨_, rfl⟩
  rw [s3] at m3
  have l27 : L3[27]? = some (.int .i64 0) := m3.get 27 (by decide)
  have m4 := m3.set 27 10
  obtain ⟨L4, s4⟩ : ∃ L4, L3.setIfInBounds 27 (.int .i64 10) = L4 := ⟨_, rfl⟩
  rw [s4] at m4
  have l34 : L4[34]? = some (.int .i64 0) := m4.get 34 (by decide)
  have hM := m4.set 34 10
  obtain ⟨M, s5⟩ : ∃ M, L4.setIfInBounds 34 (.int .i64 10) = M := ⟨_, rfl⟩
  rw [s5] at hM
  have HE := Lib.hid (hM.ext (h := twoZ) (fun i hi => by
    have : (List.range 94).all (fun i => updG (updG (updG (updG twoZ0 18 4) 19 4) 27 10) 34 10 i == twoZ i) = true := by decide +kernel
    simpa using List.all_eq_true.1 this i (by simpa using hi)))
  have HS2 := Lib.hid (store_ahead w (.cells M 26) hz hM)
  have HR := Lib.hid (heap_alloc2_old w (.cells M 26) (.cells M 26))
  have HG := Lib.hid (heap_alloc2_new w (.cells Z 26) (.cells M 26))
  have HI := Lib.hid (cfgInfo hM)
  have HS1 := Lib.hid hS1
  have HB := Lib.hid hb
  clear hz hS1 hL hb hM m2 m3 m4
  go_enter Try.func25, Try.ntmps25
  go_wp2_with (first
    | (refine wpList_buildTo rfl 26 _ rfl (some 2) rfl L ?hb ?_; case hb => simpa [Act.eval] using HB.out)
    | (refine wpList_store_run rfl 26 _ _ rfl (w.heap.size + 1) L _ rfl rfl HS1.out ?_)
    | (refine wpList_load_row rfl 26 _ rfl (w.heap.size + 1) rfl 26 M (0, 0) _ HG.out Try.underlying26 rfl HI.out ?_)
    | (refine wpList_store_run rfl 26 _ _ rfl w.heap.size M _ rfl rfl HS2.out ?_))
  refine bodyPost_ret (v := .agg M) ?_ rfl ⟨M, rfl, HE.out, ?_⟩
  · exact results_cell_row rfl _ _ _ _ _ (0, 0) _ rfl HR.out Try.underlying26 rfl HI.out
  · exact ((Below.refl _ _).alloc (Nat.le_refl _) _).alloc (by simp) _
end
/-! Node. -/
section
open Go.RowKit Go

set_option maxRecDepth 100000 in
theorem node_no (A : Array Value) (g : Nat → Int) (f : Int) (w : World) (hA : Cfg A g) (hm : mayB g = false) :
    Calls Try.prog 38 #[.agg A, .int .i64 f] w fun e w' => e = .returned (.tuple #[.int .i64 0, .int .i64 2]) ∧ Below w.heap.size w w' := by
  have C0 := CfgAt.new w hA
  have HA := Lib.hid hA
  have HM := Lib.hid hm
  clear hA hm
  go_enter Try.func38, Try.ntmps38
  go_wp2_with (refine wpList_load_cfg rfl _ rfl _ rfl C0 ?_)
  refine (may_any A g _ HA.out).mono ?_
  rintro e w1 ⟨rfl, hb⟩
  rw [HM.out]
  have HB := Lib.hid hb
  clear hb
  go_wp2_with (fail)
  go_ret2
  exact ⟨rfl, ((Below.refl _ _).alloc (Nat.le_refl _) _).trans (HB.out.mono (by simp))⟩

/-- What Node answers of a config that may be. -/
def NodeAns (g : Nat → Int) (n : Nat) (f x y : Int) : Prop :=
  (f < 0 ∨ sumF g n ≤ f) ∧ x = 0 ∧ y = 7 ∨ ∃ k : Nat, k < n ∧ sumF g k ≤ f ∧ f < sumF g (k + 1) ∧ x = k ∧ y = 0
def NodePost (g : Nat → Int) (n : Nat) (f : Int) (w : World) (e : Ending) (w' : World) : Prop :=
  ∃ x y, e = .returned (.tuple #[.int .i64 x, .int .i64 y]) ∧ NodeAns g n f x y ∧ Below w.heap.size w w'
set_option maxRecDepth 100000 in
theorem node_any (A : Array Value) (g : Nat → Int) (f : Int) (n : Nat) (w : World) (hf : f ≤ 9223372036854775807) (hA : Cfg A g) (hn : g 0 = n) (hm : mayB g = true) :
    Calls Try.prog 38 #[.agg A, .int .i64 f] w (NodePost g n f w) := by
  have C0 := CfgAt.new w hA
  have G := (good_iff g).1 hm
  have hn8 : n ≤ 8 := by have := G.n2; omega
  have HF := Lib.hid (show ∀ i, i < n → 0 ≤ g (18 + i) ∧ g (18 + i) ≤ 128 from fun i hi => by have := G.frames i (by omega); omega)
  have HA := Lib.hid hA
  have HM := Lib.hid hm
  have HN := Lib.hid hn
  clear hA hm hn G
  have hsl := run_slice_to (P := Try.prog) Try.underlying23 size3 n hn8
  by_cases h0 : f < 0
  · go_enter Try.func38, Try.ntmps38
    go_wp2_with (refine wpList_load_cfg rfl _ rfl _ rfl C0 ?_)
    refine (may_any A g _ HA.out).mono ?_
    rintro e w1 ⟨rfl, hb⟩
    rw [HM.out]
    have HB := Lib.hid hb
    clear hb
    go_wp2_with (fail)
    go_ret2
    exact ⟨0, 7, rfl, .inl ⟨.inl h0, rfl, rfl⟩, ((Below.refl _ _).alloc (Nat.le_refl _) _).trans (HB.out.mono (by simp))⟩
  · have h0' : 0 ≤ f := by omega
    clear h0
    go_enter Try.func38, Try.ntmps38
    go_wp2_with (refine wpList_load_cfg rfl _ rfl _ rfl C0 ?_)
    refine (may_any A g _ HA.out).mono ?_
    rintro e w1 ⟨rfl, hb⟩
    rw [HM.out]
    have C1 := C0.later hb
    have c1 := C1.cell 0 (by decide)
    rw [HN.out] at c1
    have HB := Lib.hid hb
    clear hb
    go_wp2_with (fail)
    go_loop [1, 6, 7, 18] (fun r _ _ x => ∃ j : Nat, j ≤ n ∧ x = .int .i64 j ∧ r = .int .i64 (f - sumF g j) ∧ sumF g j ≤ f) (fun _ _ _ x => n - (intOf x).toNat)
    case atStart => exact ⟨0, Nat.zero_le _, rfl, by simp [sumF], h0'⟩
    case round =>
      obtain ⟨j, hj, rfl, rfl, hs⟩ := hrel
      by_cases hlt : j < n
      · have cj := C1.cell (18 + j) (by omega)
        obtain ⟨b1, b2⟩ := sumF_bd g j (fun i hi => HF.out i (by omega))
        obtain ⟨b3, b4⟩ := HF.out j hlt
        have HS := Lib.hid (show sumF g (j + 1) = sumF g j + g (18 + j) from rfl)
        obtain ⟨r, hr⟩ : ∃ r, r = f - sumF g j := ⟨_, rfl⟩
        rw [← hr]
        have hr0 : 0 ≤ r := by omega
        have HR := Lib.hid hr
        clear hr
        by_cases hin : r < g (18 + j)
        · have HI := Lib.hid (show f < sumF g (j + 1) by rw [HS.out]; have := HR.out; omega)
          generalize g (18 + j) = x at cj b3 b4 HS hin
          go_wp2_with (fail)
          go_ret2
          exact ⟨j, 0, rfl, .inr ⟨j, hlt, hs, HI.out, rfl, rfl⟩, ((Below.refl _ _).alloc (Nat.le_refl _) _).trans (HB.out.mono (by simp))⟩
        · have HI := Lib.hid (show r - g (18 + j) = f - sumF g (j + 1) ∧ sumF g (j + 1) ≤ f by rw [HS.out]; have := HR.out; omega)
          have hr2 : r ≤ 9223372036854775807 := by have := HR.out; omega
          generalize g (18 + j) = x at cj b3 b4 HS hin HI
          go_wp2_with (fail)
          go_round
          case rel => exact ⟨j + 1, hlt, by go_num, by rw [HI.out.1], HI.out.2⟩
          case measure => simp [intOf]; omega
      · obtain rfl : j = n := by omega
        go_wp2_with (fail)
        go_ret2
        exact ⟨0, 7, rfl, .inl ⟨.inr hs, rfl, rfl⟩, ((Below.refl _ _).alloc (Nat.le_refl _) _).trans (HB.out.mono (by simp))⟩
end
/-! zones, pure: blocks rise through all nodes; the node of a frame, told in two ways. -/
section
section
variable {g : Nat → Int} {L T : Nat → List (Int × Int)} {N : Nat}
/-- The first k nodes' blocks lie below the next one's first frame. -/
theorem zBlocks_lt (I : ∀ i, i < N → Inv (frN g i) (L i) (T i)) (hp : ∀ i, i < N → 0 ≤ g (18 + i)) : ∀ k, k ≤ N → ∀ p ∈ zBlocks g L k, p.1 < sumF g k
  | 0, _, p, h => by cases h
  | k + 1, hk, p, h => by
    have hg := hp k (by omega)
    have hs : sumF g (k + 1) = sumF g k + g (18 + k) := rfl
    rcases List.mem_append.1 h with h | h
    · have := zBlocks_lt I hp k (by omega) p h
      omega
    · obtain ⟨q, hq, rfl⟩ := List.mem_map.1 h
      obtain ⟨a, o, rfl⟩ := (I k (by omega)).nat q hq
      have h3 := ((I k (by omega)).stk.al o a (.inl hq)).2.2
      have := Nat.one_le_two_pow (n := o)
      unfold frN at h3
      show sumF g k + (a : Int) < _
      omega
theorem zBlocks_rise (I : ∀ i, i < N → Inv (frN g i) (L i) (T i)) (hp : ∀ i, i < N → 0 ≤ g (18 + i)) : ∀ k, k ≤ N → Rising (zBlocks g L k)
  | 0, _ => List.Pairwise.nil
  | k + 1, hk => by
    refine List.pairwise_append.2 ⟨zBlocks_rise I hp k (by omega), ?_, fun p h1 q h2 => ?_⟩
    · refine List.Pairwise.map _ (fun {p q} h => ?_) (I k (by omega)).ris
      show sumF g k + p.1 < sumF g k + q.1
      have h : p.1 < q.1 := h
      omega
    · have h3 := zBlocks_lt I hp k (by omega) p h1
      obtain ⟨r, hr, rfl⟩ := List.mem_map.1 h2
      obtain ⟨a, o, rfl⟩ := (I k (by omega)).nat r hr
      show p.1 < sumF g k + (a : Int)
      omega
end
/-- What config's Node answers is the node that has the frame. -/
theorem nodeAns_is {g : Nat → Int} {N : Nat} (hp : ∀ i, i < N → 0 ≤ g (18 + i)) {f x y : Int} (h : NodeAns g N f x y) :
    (0 ≤ f ∧ f < ((nodL g N).length : Int) ∧ x = (nodeF g N f.toNat : Int) ∧ y = 0) ∨ (¬ (0 ≤ f ∧ f < ((nodL g N).length : Int)) ∧ x = 0 ∧ y = 7) := by
  have hN := frL_length g N hp
  rcases h with ⟨h1, h2, h3⟩ | ⟨k, hk, h1, h2, h3, h4⟩
  · exact .inr ⟨by omega, h2, h3⟩
  · have hk1 := frL_length g k (fun i hi => hp i (by omega))
    have hk2 := frL_length g (k + 1) (fun i hi => hp i (by omega))
    have hf0 : 0 ≤ f := by omega
    obtain ⟨R, e, _⟩ := nodL_split g (k + 1) (N - (k + 1))
    rw [show k + 1 + (N - (k + 1)) = N by omega] at e
    have hle : (nodL g (k + 1)).length ≤ (nodL g N).length := by rw [e, List.length_append]; omega
    have hfl : f.toNat < (nodL g N).length := by omega
    have q1 := (nodL_at g (show k ≤ N by omega) hfl)
    have q2 := (nodL_at g (show k + 1 ≤ N by omega) hfl)
    obtain ⟨e1, _⟩ := nodeF_is g hfl
    refine .inl ⟨hf0, by omega, ?_, h4⟩
    rw [h3, ← e1]
    have a1 : ¬ (nodL g N).getD f.toNat 0 < (k : Int) := fun h => by have := q1.1 h; omega
    have a2 : (nodL g N).getD f.toNat 0 < ((k + 1 : Nat) : Int) := q2.2 (by omega)
    omega
/-- Each node is as a node may be; as much as c taken of each. -/
def AllInv (g : Nat → Int) (N c : Nat) (L T : Nat → List (Int × Int)) : Prop := ∀ i, i < N → Inv (frN g i) (L i) (T i) ∧ (T i).length ≤ c
section
variable {g : Nat → Int} {N c : Nat} {L T : Nat → List (Int × Int)}
theorem AllInv.upd (A : AllInv g N c L T) {k : Nat} {M U : List (Int × Int)} (h : k < N → Inv (frN g k) M U ∧ U.length ≤ c + 1) : AllInv g N (c + 1) (updN L k M) (updN T k U) := fun i hi => by
  by_cases e : i = k
  · subst e
    rw [updN_same, updN_same]
    exact h hi
  · rw [updN_other L e, updN_other T e]
    exact ⟨(A i hi).1, by have := (A i hi).2; omega⟩
theorem AllInv.mono (A : AllInv g N c L T) {c' : Nat} (h : c ≤ c') : AllInv g N c' L T := fun i hi => ⟨(A i hi).1, by have := (A i hi).2; omega⟩
theorem AllInv.takeOf (A : AllInv g N c L T) (node order : Int) (high : Bool) : AllInv g N (c + 1) (zTakeOf g N L T node order high).2.2.1 (zTakeOf g N L T node order high).2.2.2 := by
  unfold zTakeOf
  split
  · exact A.upd fun hk => ⟨(A _ hk).1.take order high, by have h1 := takeS_len (A _ hk).1 order high; have h2 := (A _ hk).2; omega⟩
  · exact A.mono (by omega)
theorem AllInv.take (A : AllInv g N c L T) (M : List Int) (floor : Int) (high : Bool) : AllInv g N (c + 1) (zTake g N L T M floor high).2.2.1 (zTake g N L T M floor high).2.2.2 := by
  unfold zTake
  split
  · exact A.mono (by omega)
  · split
    · exact A.mono (by omega)
    · split
      · exact A.takeOf _ _ _
      · exact A.mono (by omega)
theorem dropL_le (T : List (Int × Int)) (x : Int × Int) : (dropL T x).length ≤ T.length := by
  unfold dropL
  exact List.length_filter_le _ _
theorem AllInv.give (A : AllInv g N c L T) (frame order : Int) : AllInv g N (c + 1) (zGive g N L T frame order).2.1 (zGive g N L T frame order).2.2 := by
  unfold zGive
  split
  · refine A.upd fun hk => ⟨(A _ hk).1.giveAny _ _, ?_⟩
    have h2 := (A _ hk).2
    unfold giveS
    split
    · have := dropL_le (T (nodeF g N frame.toNat)) (frame - sumF g (nodeF g N frame.toNat), order)
      show (dropL _ _).length ≤ _
      omega
    · show (T _).length ≤ _
      omega
  · exact A.mono (by omega)
end
/-- At first. -/
theorem allInv_new {g : Nat → Int} {N : Nat} (hf : ∀ i, i < N → 4 ≤ g (18 + i) ∧ g (18 + i) ≤ 128) : AllInv g N 0 (fun i => newL (frN g i)) (fun _ => []) := fun i hi => by
  have h := hf i hi
  exact ⟨inv_new (by unfold frN; omega) (by unfold frN; omega), Nat.le_refl _⟩
end
/-! zones: has, haveAll, first, Free, State, TakeOf, Take, Give. -/
section
open Go.RowKit Go

theorem znV_cfg (Z : ZC) (g : Nat → Int) {i : Nat} (h : i < 94) : znV Z g i = .int .i64 (g i) := by
  unfold znV
  rw [if_pos h]
section
variable {w w' : World} {Z : ZC} {g : Nat → Int} {L T : Nat → List (Int × Int)}
theorem ZnAt.cg (A : ZnAt w Z g L T) (i : Nat) (h : i < 94) : w.cell? ⟨Z.z, i, none⟩ = some (.int .i64 (g i)) := by
  rw [← znV_cfg Z g h]
  exact A.row.cell i (by omega)
theorem ZnAt.load_cfg (A : ZnAt w Z g L T) : (loadVar 26 ⟨Z.z, 0, none⟩).run Try.prog w = .ok (.agg (ofG g)) w := by
  have h := run_loadVar_mid (P := Try.prog) w Z.z 0 26 (ofG g).toList _ (fun j v hj => ?_) Try.underlying26 rfl (by
    rw [Array.length_toList, (cfg_ofG g).size]
    kernel_rfl)
  · simpa using h
  · have hj2 : j < 94 := by
      have := (List.getElem?_eq_some_iff.1 hj).1
      rw [Array.length_toList, (cfg_ofG g).size] at this
      exact this
    rw [Array.getElem?_toList, (cfg_ofG g).get j hj2] at hj
    cases hj
    rw [Nat.zero_add]
    exact A.cg j hj2
theorem zhas_any (A : ZnAt w Z g L T) (i : Int) : Calls Try.prog 33 #[.pointer (some ⟨Z.z, 0, none⟩), .int .i64 i] w fun e w' => e = .returned (.bool (decide (0 ≤ i ∧ i < (Z.N : Int)))) ∧ w = w' := by
  have c94 := A.c94
  clear A
  by_cases h0 : 0 ≤ i
  · by_cases h1 : i < (Z.N : Int)
    · have hd : decide (0 ≤ i ∧ i < (Z.N : Int)) = true := decide_eq_true ⟨h0, h1⟩
      rw [hd]
      clear hd
      go_enter Try.func33, Try.ntmps33
      go_wp2_with (fail)
      go_ret
      exact ⟨rfl, rfl⟩
    · have hd : decide (0 ≤ i ∧ i < (Z.N : Int)) = false := decide_eq_false (fun h => h1 h.2)
      rw [hd]
      clear hd
      go_enter Try.func33, Try.ntmps33
      go_wp2_with (fail)
      go_ret
      exact ⟨rfl, rfl⟩
  · have hd : decide (0 ≤ i ∧ i < (Z.N : Int)) = false := decide_eq_false (fun h => h0 h.1)
    rw [hd]
    clear hd
    go_enter Try.func33, Try.ntmps33
    go_wp2_with (fail)
    go_ret
    exact ⟨rfl, rfl⟩
theorem zhas_yes (A : ZnAt w Z g L T) {i : Int} (h : 0 ≤ i ∧ i < (Z.N : Int)) : Calls Try.prog 33 #[.pointer (some ⟨Z.z, 0, none⟩), .int .i64 i] w fun e w' => e = .returned (.bool true) ∧ w = w' := by
  have h2 := zhas_any A i
  rw [decide_eq_true h] at h2
  exact h2
theorem zhas_no (A : ZnAt w Z g L T) {i : Int} (h : ¬ (0 ≤ i ∧ i < (Z.N : Int))) : Calls Try.prog 33 #[.pointer (some ⟨Z.z, 0, none⟩), .int .i64 i] w fun e w' => e = .returned (.bool false) ∧ w = w' := by
  have h2 := zhas_any A i
  rw [decide_eq_false h] at h2
  exact h2
theorem zhaveAll_any (A : ZnAt w Z g L T) (a : Option Addr) (len cap : Nat) (z : Nat → Int) (hl : len ≤ 1000) (hZ : IntsIn w a len z) :
    Calls Try.prog 32 #[.pointer (some ⟨Z.z, 0, none⟩), .slice a len cap] w fun e w' => e = .returned (.bool (decide (∀ i, i < len → 0 ≤ z i ∧ z i < (Z.N : Int)))) ∧ w = w' := by
  have HA := Lib.hid A
  have HZ := Lib.hid hZ
  clear A hZ
  go_enter Try.func32, Try.ntmps32
  go_wp2_with (fail)
  go_loop [9] (fun i => ∃ j : Nat, j ≤ len ∧ i = .int .i64 j ∧ Hid (∀ i, i < j → 0 ≤ z i ∧ z i < (Z.N : Int))) (fun i => len - (intOf i).toNat)
  case atStart => exact ⟨0, Nat.zero_le _, rfl, fun i h => absurd h (Nat.not_lt_zero _)⟩
  case round =>
    obtain ⟨j, hj, rfl, HOK⟩ := hrel
    by_cases hlt : j < len
    · have hltI : (j : Int) < (len : Int) := by omega
      obtain ⟨b0, o0, rfl, c, _⟩ := HZ.out j hlt
      obtain ⟨n, hn⟩ : ∃ n, z j = n := ⟨_, rfl⟩
      rw [hn] at c
      have HE := Lib.hid hn
      clear hn
      by_cases h : 0 ≤ n ∧ n < (Z.N : Int)
      · go_wp2_with (fail)
        refine (zhas_yes HA.out h).mono ?_
        rintro e w' ⟨rfl, rfl⟩
        have HO2 := Lib.hid (show ∀ i, i < j + 1 → 0 ≤ z i ∧ z i < (Z.N : Int) from fun i hi => by
          by_cases e : i = j
          · subst e; rw [HE.out]; exact h
          · exact HOK.out i (by omega))
        go_wp2_with (fail)
        go_round
        case rel => exact ⟨j + 1, hlt, by go_num, HO2⟩
        case measure => simp [intOf]; omega
      · go_wp2_with (fail)
        refine (zhas_no HA.out h).mono ?_
        rintro e w' ⟨rfl, rfl⟩
        have hd := Lib.hid (show decide (∀ i, i < len → 0 ≤ z i ∧ z i < (Z.N : Int)) = false from decide_eq_false (fun h2 => h (by rw [← HE.out]; exact h2 j hlt)))
        go_wp2_with (fail)
        go_ret
        exact ⟨by rw [hd.out]; rfl, rfl⟩
    · obtain rfl : j = len := by omega
      have hd := Lib.hid (show decide (∀ i, i < j → 0 ≤ z i ∧ z i < (Z.N : Int)) = true from decide_eq_true HOK.out)
      go_wp2_with (fail)
      go_ret
      exact ⟨by rw [hd.out]; rfl, rfl⟩
theorem firstI_ok (A : ZnAt w Z g L T) {k : Nat} (hk : k < Z.N) : firstI g k = sumF g k ∧ askI g k = 0 := by
  have h : askI g k = 0 := ask_zero.2 ⟨A.good, by omega, by have := A.num; omega⟩
  refine ⟨?_, h⟩
  unfold firstI
  rw [if_pos h, Int.toNat_natCast]
set_option maxRecDepth 100000 in
theorem zfirst6_any : FirstOk Z g L T := by
  intro w A k hk
  obtain ⟨e1, e2⟩ := firstI_ok A hk
  have LC := Lib.hid A.load_cfg
  have HC := Lib.hid (cfg_ofG g)
  have HE1 := Lib.hid e1
  have HE2 := Lib.hid e2
  clear A e1 e2
  go_enter Try.func35, Try.ntmps35
  go_wp2_with (refine wpList_load_run rfl 26 _ rfl rfl LC.out ?_)
  refine (first_any (ofG g) g k w HC.out).mono ?_
  rintro e w1 ⟨rfl, hb⟩
  rw [HE1.out, HE2.out]
  have HB := Lib.hid hb
  clear hb
  go_wp2_with (fail)
  go_ret
  exact ⟨rfl, HB.out⟩
theorem zfree6_any (A : ZnAt w Z g L T) (i : Int) :
    Calls Try.prog 21 #[.pointer (some ⟨Z.z, 0, none⟩), .int .i64 i] w fun e w' => e = .returned (.int .i64 (zFree Z.N L i)) ∧ w = w' := by
  have c94 := A.c94
  have HA := Lib.hid A
  clear A
  by_cases h : 0 ≤ i ∧ i < (Z.N : Int)
  · have hz : zFree Z.N L i = freeT (L i.toNat) := by unfold zFree; rw [if_pos h]
    obtain ⟨k, rfl⟩ : ∃ k : Nat, i = k := ⟨i.toNat, by omega⟩
    rw [Int.toNat_natCast] at hz
    have hk : k < Z.N := by omega
    have ck := HA.out.cb hk
    rw [hz]
    clear hz
    go_enter Try.func21, Try.ntmps21
    go_wp2_with (fail)
    refine (zhas_yes HA.out h).mono ?_
    rintro e w' ⟨rfl, rfl⟩
    go_wp2_with (fail)
    refine (free_any (HA.out.nd k hk) (HA.out.inv k hk)).mono ?_
    rintro e w' ⟨rfl, rfl⟩
    go_wp2_with (fail)
    go_ret
    exact ⟨rfl, rfl⟩
  · have hz : zFree Z.N L i = 0 := by unfold zFree; rw [if_neg h]
    rw [hz]
    clear hz
    go_enter Try.func21, Try.ntmps21
    go_wp2_with (fail)
    refine (zhas_no HA.out h).mono ?_
    rintro e w' ⟨rfl, rfl⟩
    go_wp2_with (fail)
    go_ret
    exact ⟨rfl, rfl⟩
end
end
/-! zones: State, TakeOf, Take, Give. -/
section
open Go.RowKit Go

/-- The maps of all nodes. -/
def ZC.maps (Z : ZC) (k : Nat) : Prop := ∃ i, i < Z.N ∧ own6 (Z.mbs i) (Z.tbs i) k
theorem ZC.maps_all {Z : ZC} {k : Nat} (h : Z.maps k) : Z.all k := by
  obtain ⟨i, hi, h⟩ := h
  exact .inr (.inr ⟨i, hi, .inr h⟩)
def ZnPost (w : World) (Z : ZC) (g : Nat → Int) (q : Int × Int × (Nat → List (Int × Int)) × (Nat → List (Int × Int))) (e : Ending) (w' : World) : Prop :=
  e = .returned (.tuple #[.int .i64 q.1, .int .i64 q.2.1]) ∧ ZnAt w' Z g q.2.2.1 q.2.2.2 ∧ Only Z.maps w w'
def ZnGPost (w : World) (Z : ZC) (g : Nat → Int) (q : Int × (Nat → List (Int × Int)) × (Nat → List (Int × Int))) (e : Ending) (w' : World) : Prop :=
  e = .returned (.int .i64 q.1) ∧ ZnAt w' Z g q.2.1 q.2.2 ∧ Only Z.maps w w'
section
variable {w w' : World} {Z : ZC} {g : Nat → Int} {L T : Nat → List (Int × Int)}
theorem ZnAt.map_rows (A : ZnAt w Z g L T) {i : Nat} (hi : i < Z.N) : ¬ own6 (Z.mbs i) (Z.tbs i) Z.z ∧ ¬ own6 (Z.mbs i) (Z.tbs i) Z.zb ∧ ∀ j, j < Z.N → ¬ own6 (Z.mbs i) (Z.tbs i) (Z.ds j) :=
  ⟨fun h => (A.nd i hi).own_row h A.row, fun h => (A.nd i hi).own_row h A.lst, fun j hj h => (A.nd i hi).own_row h (A.nd j hj).row⟩
/-- What lies beside the maps is none of them. -/
theorem ZnAt.aside (A : ZnAt w Z g L T) : ¬ Z.maps Z.z ∧ ¬ Z.maps Z.zb ∧ ∀ j, j < Z.N → ¬ Z.maps (Z.ds j) :=
  ⟨fun ⟨_, hi, h⟩ => (A.map_rows hi).1 h, fun ⟨_, hi, h⟩ => (A.map_rows hi).2.1 h, fun j hj ⟨_, hi, h⟩ => (A.map_rows hi).2.2 j hj h⟩
/-- One node has turned. -/
theorem ZnAt.turn (A : ZnAt w Z g L T) {k : Nat} (hk : k < Z.N) {M U : List (Int × Int)} (B : NodeAt w' (Z.ds k) (frN g k) (Z.mbs k) (Z.tbs k) M U) (J : Inv (frN g k) M U) (ho : Only (own6 (Z.mbs k) (Z.tbs k)) w w') : ZnAt w' Z g (updN L k M) (updN T k U) := by
  obtain ⟨a1, a2, a3⟩ := A.map_rows hk
  refine ⟨A.row.only ho a1, A.lst.only ho a2, fun i hi => ?_, fun i hi => ?_, A.dj, A.good, A.num⟩
  · by_cases e : i = k
    · subst e
      rw [updN_same, updN_same]
      exact B
    · rw [updN_other L e, updN_other T e]
      exact (A.nd i hi).only ho (a3 i hi) (fun q hq h => (A.dj i k hi hk e).2 q hq h)
  · by_cases e : i = k
    · subst e
      rw [updN_same, updN_same]
      exact J
    · rw [updN_other L e, updN_other T e]
      exact A.inv i hi
theorem only_maps {k : Nat} (hk : k < Z.N) (ho : Only (own6 (Z.mbs k) (Z.tbs k)) w w') : Only Z.maps w w' := ho.mono (fun _ h => ⟨k, hk, h⟩)
set_option maxRecDepth 100000 in
theorem zstate6_any (A : ZnAt w Z g L T) (i : Int) :
    Calls Try.prog 22 #[.pointer (some ⟨Z.z, 0, none⟩), .int .i64 i] w fun e w' => e = .returned (.int .i64 (zState g Z.N L i)) ∧ w = w' := by
  have c91 := A.cg 91 (by decide)
  have c92 := A.cg 92 (by decide)
  have c93 := A.cg 93 (by decide)
  have hG := A.good
  have HF := Lib.hid (zfree6_any A i)
  have h91 := hG.min0
  have h92 := hG.low
  have h93 := hG.high
  have hz0 : ¬ (0 ≤ i ∧ i < (Z.N : Int)) → zFree Z.N L i = 0 := fun h => by unfold zFree; rw [if_neg h]
  have hs : zState g Z.N L i = if (zFree Z.N L i : Int) ≤ g 91 then 0 else if (zFree Z.N L i : Int) ≤ g 92 then 1 else if (zFree Z.N L i : Int) ≤ g 93 then 2 else 3 := by
    unfold zState
    by_cases h : 0 ≤ i ∧ i < (Z.N : Int)
    · rw [if_pos h]
    · rw [if_neg h, hz0 h, if_pos (by omega)]
  rw [hs]
  clear A hG hs hz0
  generalize zFree Z.N L i = f at *
  generalize g 91 = x1 at *
  generalize g 92 = x2 at *
  generalize g 93 = x3 at *
  by_cases h3 : (f : Int) ≤ x3
  · by_cases h2 : (f : Int) ≤ x2
    · by_cases h1 : (f : Int) ≤ x1
      · rw [if_pos h1]
        go_enter Try.func22, Try.ntmps22
        go_wp2_with (fail)
        refine HF.out.mono ?_
        rintro e w' ⟨rfl, rfl⟩
        go_wp2_with (fail)
        go_ret
        exact ⟨rfl, rfl⟩
      · rw [if_neg h1, if_pos h2]
        go_enter Try.func22, Try.ntmps22
        go_wp2_with (fail)
        refine HF.out.mono ?_
        rintro e w' ⟨rfl, rfl⟩
        go_wp2_with (fail)
        go_ret
        exact ⟨rfl, rfl⟩
    · rw [if_neg (by omega), if_neg h2, if_pos h3]
      go_enter Try.func22, Try.ntmps22
      go_wp2_with (fail)
      refine HF.out.mono ?_
      rintro e w' ⟨rfl, rfl⟩
      go_wp2_with (fail)
      go_ret
      exact ⟨rfl, rfl⟩
  · rw [if_neg (by omega), if_neg (by omega), if_neg h3]
    go_enter Try.func22, Try.ntmps22
    go_wp2_with (fail)
    refine HF.out.mono ?_
    rintro e w' ⟨rfl, rfl⟩
    go_wp2_with (fail)
    go_ret
    exact ⟨rfl, rfl⟩
theorem takeS_small {n : Nat} {L T : List (Int × Int)} (I : Inv n L T) (order : Int) (high : Bool) : 0 ≤ (takeS L T order high).1 ∧ (takeS L T order high).1 ≤ 128 := by
  rcases take_cases I order high with ⟨y, M, e, _, h3, h4, _⟩ | ⟨z, hz, e⟩
  · rw [e]
    dsimp only
    omega
  · rw [e]
    exact ⟨Int.le_refl _, by show (0 : Int) ≤ 128; decide⟩
set_option maxRecDepth 100000 in
theorem ztakeof6_any (A : ZnAt w Z g L T) (node order : Int) (high : Bool) :
    Calls Try.prog 15 #[.pointer (some ⟨Z.z, 0, none⟩), .int .i64 node, .int .i64 order, .bool high] w (ZnPost w Z g (zTakeOf g Z.N L T node order high)) := by
  have c94 := A.c94
  have HA := Lib.hid A
  by_cases h : 0 ≤ node ∧ node < (Z.N : Int)
  · obtain ⟨k, rfl⟩ : ∃ k : Nat, node = k := ⟨node.toNat, by omega⟩
    have hk : k < Z.N := by omega
    have ck := A.cb hk
    have J := (A.inv k hk).take order high
    have hsm := takeS_small (A.inv k hk) order high
    have HT := Lib.hid (take6_any (A.nd k hk) (A.inv k hk) order high)
    have hsum := A.sum (k := k) (by omega)
    unfold zTakeOf
    rw [if_pos h, Int.toNat_natCast]
    unfold Take6 at HT
    generalize takeS (L k) (T k) order high = q at *
    obtain ⟨q1, q2, q3, q4⟩ := q
    dsimp only at HT J hsm ⊢
    have HJ := Lib.hid J
    have HS := Lib.hid (fun W (X : ZnAt W Z g (updN L k q3) (updN T k q4)) => zfirst6_any (Z := Z) (g := g) (L := updN L k q3) (T := updN T k q4) W X k hk)
    clear A J
    by_cases hq : q2 = 0
    · subst hq
      have hw : IntKind.i64.wrap (sumF g k + q1) = sumF g k + q1 := by rw [IntKind.wrap_i64]; omega
      go_enter Try.func15, Try.ntmps15
      go_wp2_with (fail)
      refine (zmissing_any HA.out).mono ?_
      rintro e w' ⟨rfl, rfl⟩
      go_wp2_with (fail)
      refine (zhas_yes HA.out h).mono ?_
      rintro e w' ⟨rfl, rfl⟩
      go_wp2_with (fail)
      refine HT.out.mono ?_
      rintro e w2 ⟨rfl, hN, ho⟩
      have HA2 := Lib.hid (HA.out.turn hk hN HJ.out ho)
      have HO := Lib.hid (only_maps hk ho)
      clear hN ho HT
      go_wp2_with (fail)
      refine (HS.out w2 HA2.out).mono ?_
      rintro e w3 ⟨rfl, hb⟩
      have HB := Lib.hid hb
      clear hb
      go_wp2_with (fail)
      go_ret2
      exact ⟨rfl, HA2.out.later HB.out, HO.out.trans (Only.of_below HB.out)⟩
    · have hqb : (q2 == 0) = false := by simpa using hq
      rw [if_neg hq]
      clear hq
      go_enter Try.func15, Try.ntmps15
      go_wp2_with (fail)
      refine (zmissing_any HA.out).mono ?_
      rintro e w' ⟨rfl, rfl⟩
      go_wp2_with (fail)
      refine (zhas_yes HA.out h).mono ?_
      rintro e w' ⟨rfl, rfl⟩
      go_wp2_with (fail)
      refine HT.out.mono ?_
      rintro e w2 ⟨rfl, hN, ho⟩
      have HA2 := Lib.hid (HA.out.turn hk hN HJ.out ho)
      have HO := Lib.hid (only_maps hk ho)
      clear hN ho HT
      go_wp2_with (fail)
      go_ret2
      exact ⟨rfl, HA2.out, HO.out⟩
  · have hz : zTakeOf g Z.N L T node order high = (0, 7, L, T) := by unfold zTakeOf; rw [if_neg h]
    rw [hz]
    clear hz A
    go_enter Try.func15, Try.ntmps15
    go_wp2_with (fail)
    refine (zmissing_any HA.out).mono ?_
    rintro e w' ⟨rfl, rfl⟩
    go_wp2_with (fail)
    refine (zhas_no HA.out h).mono ?_
    rintro e w' ⟨rfl, rfl⟩
    go_wp2_with (fail)
    go_ret2
    exact ⟨rfl, HA.out, Only.refl _ _⟩
/-- All nodes are there. -/
def allOk (N : Nat) (z : Nat → Int) (len : Nat) : Prop := ∀ i, i < len → 0 ≤ z i ∧ z i < (N : Int)
theorem allOk_no {N : Nat} {z : Nat → Int} {len : Nat} (h : ¬ allOk N z len) : ∃ j, j < len ∧ (z j < 0 ∨ (N : Int) ≤ z j) := by
  refine Classical.byContradiction fun h2 => h (fun i hi => ?_)
  have h3 : ¬ (z i < 0 ∨ (N : Int) ≤ z i) := fun h3 => h2 ⟨i, hi, h3⟩
  omega
theorem zhaveAll_yes (A : ZnAt w Z g L T) {a : Option Addr} {len cap : Nat} {z : Nat → Int} (hl : len ≤ 1000) (hZ : IntsIn w a len z) (h : allOk Z.N z len) :
    Calls Try.prog 32 #[.pointer (some ⟨Z.z, 0, none⟩), .slice a len cap] w fun e w' => e = .returned (.bool true) ∧ w = w' := by
  have h2 := zhaveAll_any A a len cap z hl hZ
  rw [decide_eq_true (show (∀ i, i < len → 0 ≤ z i ∧ z i < (Z.N : Int)) from h)] at h2
  exact h2
theorem zhaveAll_no (A : ZnAt w Z g L T) {a : Option Addr} {len cap : Nat} {z : Nat → Int} (hl : len ≤ 1000) (hZ : IntsIn w a len z) (h : ¬ allOk Z.N z len) :
    Calls Try.prog 32 #[.pointer (some ⟨Z.z, 0, none⟩), .slice a len cap] w fun e w' => e = .returned (.bool false) ∧ w = w' := by
  have h2 := zhaveAll_any A a len cap z hl hZ
  rw [decide_eq_false (show ¬ (∀ i, i < len → 0 ≤ z i ∧ z i < (Z.N : Int)) from h)] at h2
  exact h2
set_option maxRecDepth 100000 in
theorem ztake6_any (A : ZnAt w Z g L T) (a : Option Addr) (len cap : Nat) (z : Nat → Int) (hl : len ≤ 1000) (hZ : IntsIn w a len z) (floor : Int) (high : Bool) :
    Calls Try.prog 13 #[.pointer (some ⟨Z.z, 0, none⟩), .slice a len cap, .int .i64 floor, .bool high] w (ZnPost w Z g (zTake g Z.N L T (nodesL z len) floor high)) := by
  have HA := Lib.hid A
  have HZ := Lib.hid hZ
  clear A hZ
  by_cases hf : floor < 0
  · rw [zTake_low hf]
    go_enter Try.func13, Try.ntmps13
    go_wp2_with (fail)
    refine (zmissing_any HA.out).mono ?_
    rintro e w' ⟨rfl, rfl⟩
    go_wp2_with (fail)
    go_ret2
    exact ⟨rfl, HA.out, Only.refl _ _⟩
  · by_cases hok : allOk Z.N z len
    · have HOK := Lib.hid hok
      have HF := Lib.hid hf
      go_enter Try.func13, Try.ntmps13
      go_wp2_with (fail)
      refine (zmissing_any HA.out).mono ?_
      rintro e w' ⟨rfl, rfl⟩
      go_wp2_with (fail)
      refine (zhaveAll_yes HA.out hl HZ.out HOK.out).mono ?_
      rintro e w' ⟨rfl, rfl⟩
      clear hok
      go_wp2_with (fail)
      go_loop [24] (fun i => ∃ j : Nat, j ≤ len ∧ i = .int .i64 j ∧ Hid (∀ i, i < j → (zFree Z.N L (z i) : Int) ≤ floor)) (fun i => len - (intOf i).toNat)
      case atStart => exact ⟨0, Nat.zero_le _, rfl, fun i h => absurd h (Nat.not_lt_zero _)⟩
      case round =>
        obtain ⟨j, hj, rfl, HNO⟩ := hrel
        by_cases hlt : j < len
        · have hltI : (j : Int) < (len : Int) := by omega
          obtain ⟨b0, o0, rfl, c, _⟩ := HZ.out j hlt
          have HZT := Lib.hid (fun h h0 => zTake_at (g := g) (L := L) (T := T) (N := Z.N) (high := high) HOK.out (Int.not_lt.2 HF.out) hlt h h0)
          have HFR := Lib.hid (fun (h2 : (zFree Z.N L (z j) : Int) ≤ floor) => show ∀ i, i < j + 1 → (zFree Z.N L (z i) : Int) ≤ floor from fun i hi => by
            by_cases e : i = j
            · subst e; exact h2
            · exact HNO.out i (by omega))
          obtain ⟨n, hn⟩ : ∃ n, z j = n := ⟨_, rfl⟩
          rw [hn] at c HZT HFR
          obtain ⟨f, hfn⟩ : ∃ f, zFree Z.N L n = f := ⟨_, rfl⟩
          have HFF := Lib.hid hfn
          have HC := Lib.hid (zfree6_any HA.out n)
          rw [hfn] at HZT HFR HC
          clear hn hfn
          by_cases h : floor < (f : Int)
          · go_wp2_with (fail)
            refine HC.out.mono ?_
            rintro e w' ⟨rfl, rfl⟩
            have HQ := Lib.hid (HZT.out h HNO.out)
            clear HZT
            go_wp2_with (fail)
            refine (ztakeof6_any HA.out n 0 high).mono ?_
            rintro e w2 ⟨rfl, hA2, ho2⟩
            rw [← HQ.out] at hA2 ⊢
            have HA2 := Lib.hid hA2
            have HO2 := Lib.hid ho2
            clear hA2 ho2 HQ
            go_wp2_with (fail)
            go_ret2
            exact ⟨rfl, HA2.out, HO2.out⟩
          · go_wp2_with (fail)
            refine HC.out.mono ?_
            rintro e w' ⟨rfl, rfl⟩
            have HN2 := Lib.hid (HFR.out h)
            clear HZT HFR
            go_wp2_with (fail)
            go_round
            case rel => exact ⟨j + 1, hlt, by go_num, HN2⟩
            case measure => simp [intOf]; omega
        · obtain rfl : j = len := by omega
          have HQ := Lib.hid (zTake_none (g := g) (L := L) (T := T) (high := high) HOK.out (Int.not_lt.2 HF.out) (fun i hi => Int.not_lt.2 (HNO.out i hi)))
          go_wp2_with (fail)
          go_ret2
          rw [HQ.out]
          exact ⟨rfl, HA.out, Only.refl _ _⟩
    · obtain ⟨j, hj, hbad⟩ := allOk_no hok
      rw [zTake_bad hj hbad]
      have HOK := Lib.hid hok
      clear hbad hok hj
      go_enter Try.func13, Try.ntmps13
      go_wp2_with (fail)
      refine (zmissing_any HA.out).mono ?_
      rintro e w' ⟨rfl, rfl⟩
      go_wp2_with (fail)
      refine (zhaveAll_no HA.out hl HZ.out HOK.out).mono ?_
      rintro e w' ⟨rfl, rfl⟩
      go_wp2_with (fail)
      go_ret2
      exact ⟨rfl, HA.out, Only.refl _ _⟩
end
end
/-! zones: Give. -/
section
open Go.RowKit Go

section
variable {w w' : World} {Z : ZC} {g : Nat → Int} {L T : Nat → List (Int × Int)}
theorem zmissing_all (A : ZnAt w Z g L T) : Calls Try.prog 31 #[.pointer (some ⟨Z.z, 0, none⟩)] w fun e w' => e = .returned (.bool false) ∧ w = w' := zmissing_any A
theorem zgive_yes {g : Nat → Int} {N : Nat} {L T : Nat → List (Int × Int)} {frame order : Int} (h : 0 ≤ frame ∧ frame < ((nodL g N).length : Int)) :
    zGive g N L T frame order = ((giveS (L (nodeF g N frame.toNat)) (T (nodeF g N frame.toNat)) (frame - sumF g (nodeF g N frame.toNat)) order).1,
      updN L (nodeF g N frame.toNat) (giveS (L (nodeF g N frame.toNat)) (T (nodeF g N frame.toNat)) (frame - sumF g (nodeF g N frame.toNat)) order).2.1,
      updN T (nodeF g N frame.toNat) (giveS (L (nodeF g N frame.toNat)) (T (nodeF g N frame.toNat)) (frame - sumF g (nodeF g N frame.toNat)) order).2.2) := by
  unfold zGive
  rw [if_pos h]
theorem zgive_no {g : Nat → Int} {N : Nat} {L T : Nat → List (Int × Int)} {frame order : Int} (h : ¬ (0 ≤ frame ∧ frame < ((nodL g N).length : Int))) : zGive g N L T frame order = (7, L, T) := by
  unfold zGive
  rw [if_neg h]
set_option maxRecDepth 100000 in
set_option maxHeartbeats 1000000 in
theorem zgive6_any (A : ZnAt w Z g L T) (frame order : Int) (hfr : frame ≤ 9223372036854775807) :
    Calls Try.prog 17 #[.pointer (some ⟨Z.z, 0, none⟩), .int .i64 frame, .int .i64 order] w (ZnGPost w Z g (zGive g Z.N L T frame order)) := by
  have HA := Lib.hid A
  have LC := Lib.hid A.load_cfg
  have HC := Lib.hid (cfg_ofG g)
  have HM := Lib.hid ((good_iff g).2 A.good)
  have HP := Lib.hid (fun i hi => (A.pos i hi).1)
  have HN := Lib.hid A.num
  clear A
  go_enter Try.func17, Try.ntmps17
  go_wp2_with (fail)
  refine (zmissing_any HA.out).mono ?_
  rintro e w' ⟨rfl, rfl⟩
  go_wp2_with (refine wpList_load_run rfl 26 _ rfl rfl LC.out ?_)
  refine (node_any (ofG g) g frame Z.N w hfr HC.out HN.out HM.out).mono ?_
  rintro e w1 ⟨x, y, rfl, hans, hb⟩
  have HB := Lib.hid hb
  clear hb
  rcases nodeAns_is HP.out hans with ⟨h0, h1, hx, rfl⟩ | ⟨hno, rfl, rfl⟩
  · obtain ⟨f, rfl⟩ : ∃ f : Nat, frame = f := ⟨frame.toNat, by omega⟩
    have hz := zgive_yes (L := L) (T := T) (order := order) (⟨h0, h1⟩ : 0 ≤ (f : Int) ∧ (f : Int) < ((nodL g Z.N).length : Int))
    rw [Int.toNat_natCast] at hx hz
    subst hx
    have hf : f < (nodL g Z.N).length := by omega
    obtain ⟨_, e2⟩ := nodeF_is g (N := Z.N) hf
    have hlen := frL_length g Z.N HP.out
    have htot := HA.out.sum (k := Z.N) (Nat.le_refl _)
    generalize nodeF g Z.N f = k at *
    have hk : k < Z.N := e2
    have hs1 := HA.out.sum (k := k) (by omega)
    have hwr : IntKind.i64.wrap ((f : Int) - sumF g k) = (f : Int) - sumF g k := by rw [IntKind.wrap_i64]; omega
    have HA0 := Lib.hid ((HA.out.later HB.out).later (Below.refl w1.heap.size w1).drew)
    have hin : -9223372036854775808 ≤ (f : Int) - sumF g k ∧ (f : Int) - sumF g k ≤ 9223372036854775807 := by omega
    have J := (HA.out.inv k hk).giveAny ((f : Int) - sumF g k) order
    have htk := fun W (X : ZnAt W Z g L T) => give6_any (X.nd k hk) (X.inv k hk) ((f : Int) - sumF g k) order hin
    unfold Give6 at htk
    generalize giveS (L k) (T k) ((f : Int) - sumF g k) order = q at *
    obtain ⟨q1, q3, q4⟩ := q
    dsimp only at htk J hz
    have HZ := Lib.hid hz
    clear hz
    have HTK := Lib.hid htk
    have HJ := Lib.hid J
    have L0 := Lib.hid (show ∀ W, Only Z.maps w1.drew W → (loadVar 46 ⟨Z.z, 94, none⟩).run Try.prog W = .ok (.slice (some ⟨Z.zb, 0, none⟩) Z.N Z.zc) W from fun W hW => run_loadVar_cell (fun _ => by kernel_rfl) (hW.cell HA0.out.aside.1 HA0.out.c94))
    have L1 := Lib.hid (show ∀ W, Only Z.maps w1.drew W → (loadVar 63 ⟨Z.zb, k, none⟩).run Try.prog W = .ok (.pointer (some ⟨Z.ds k, 0, none⟩)) W from fun W hW => run_loadVar_cell (fun _ => by kernel_rfl) (hW.cell HA0.out.aside.2.1 (HA0.out.cb hk)))
    have hki : (k : Int) < (Z.N : Int) := by omega
    clear htk J e2 hlen htot h0 h1 hans hin hf
    go_wp2_with (fail)
    refine wp_region_lex1 (Only Z.maps w1.drew) [(0, false), (1, false), (2, false), (3, false), (4, false), (5, false), (6, false), (7, false), (8, false), (9, false), (12, false), (10, true), (11, false), (13, true), (14, false)]
      (by kernel_rfl) (by kernel_rfl) rfl (by kernel_rfl) (Only.refl _ _) ?_
    intro W0 hW0 hK0
    clear hK0
    subst hW0
    refine lexH_yieldE rfl rfl ?_
    apply Exists.intro
    refine ⟨fun W hW => ?_, ?_⟩
    focus (go_simp; exact rfl)
    simp only [List.getElem_toArray, List.getElem_cons_zero, Act.put, List.setIfInBounds_toArray, List.set_cons_zero, List.set_cons_succ]
    refine lexH_yieldE rfl rfl ?_
    apply Exists.intro
    refine ⟨fun W hW => ?_, ?_⟩
    focus (go_simp; exact rfl)
    simp only [List.getElem_toArray, List.getElem_cons_succ, List.getElem_cons_zero, Act.put, List.setIfInBounds_toArray, List.set_cons_zero, List.set_cons_succ]
    refine lexH_yieldE rfl rfl ?_
    apply Exists.intro
    refine ⟨fun W hW => ?_, ?_⟩
    focus (go_simp; exact rfl)
    simp only [List.getElem_toArray, List.getElem_cons_succ, List.getElem_cons_zero, Act.put, List.setIfInBounds_toArray, List.set_cons_zero, List.set_cons_succ]
    refine lexH_load rfl rfl _ _ rfl rfl L0.out ?_
    simp only [List.getElem_toArray, List.getElem_cons_succ, List.getElem_cons_zero, Act.put, List.setIfInBounds_toArray, List.set_cons_zero, List.set_cons_succ]
    refine lexH_yieldE rfl rfl ?_
    apply Exists.intro
    refine ⟨fun W hW => ?_, ?_⟩
    focus (go_simp; exact rfl)
    simp only [List.getElem_toArray, List.getElem_cons_succ, List.getElem_cons_zero, Act.put, List.setIfInBounds_toArray, List.set_cons_zero, List.set_cons_succ]
    refine lexH_yieldE rfl rfl ?_
    apply Exists.intro
    refine ⟨fun W hW => ?_, ?_⟩
    focus (go_simp; exact rfl)
    simp only [List.getElem_toArray, List.getElem_cons_succ, List.getElem_cons_zero, Act.put, List.setIfInBounds_toArray, List.set_cons_zero, List.set_cons_succ]
    refine lexH_load rfl rfl _ _ rfl rfl L1.out ?_
    simp only [List.getElem_toArray, List.getElem_cons_succ, List.getElem_cons_zero, Act.put, List.setIfInBounds_toArray, List.set_cons_zero, List.set_cons_succ]
    refine lexH_yieldE rfl rfl ?_
    apply Exists.intro
    refine ⟨fun W hW => ?_, ?_⟩
    focus (go_simp; exact rfl)
    simp only [List.getElem_toArray, List.getElem_cons_succ, List.getElem_cons_zero, Act.put, List.setIfInBounds_toArray, List.set_cons_zero, List.set_cons_succ]
    refine lexH_yieldE rfl rfl ?_
    apply Exists.intro
    refine ⟨fun W hW => ?_, ?_⟩
    focus (go_simp; exact rfl)
    simp only [List.getElem_toArray, List.getElem_cons_succ, List.getElem_cons_zero, Act.put, List.setIfInBounds_toArray, List.set_cons_zero, List.set_cons_succ]
    refine lexH_yieldE rfl rfl ?_
    apply Exists.intro
    refine ⟨fun W hW => ?_, ?_⟩
    focus (go_simp; exact rfl)
    simp only [List.getElem_toArray, List.getElem_cons_succ, List.getElem_cons_zero, Act.put, List.setIfInBounds_toArray, List.set_cons_zero, List.set_cons_succ]
    refine lexH_yieldE rfl rfl ?_
    apply Exists.intro
    refine ⟨fun W hW => ?_, ?_⟩
    focus (go_simp; exact rfl)
    simp only [List.getElem_toArray, List.getElem_cons_succ, List.getElem_cons_zero, Act.put, List.setIfInBounds_toArray, List.set_cons_zero, List.set_cons_succ]
    refine lexH_call 35 #[.pointer (some ⟨Z.z, 0, none⟩), .int .i64 k] rfl rfl ?_ ?_
    focus (go_simp; done)
    refine (zfirst6_any (Z := Z) (g := g) (L := L) (T := T) w1.drew HA0.out k hk).mono ?_
    rintro e w2 ⟨rfl, hb2⟩
    have HO2 := Lib.hid (show Only Z.maps w1.drew w2 from Only.of_below hb2)
    have HA2 := Lib.hid (HA0.out.later hb2)
    refine ⟨_, rfl, HO2.out, ?_⟩
    clear hb2
    simp only [List.getElem_toArray, List.getElem_cons_succ, List.getElem_cons_zero, Act.put, List.setIfInBounds_toArray, List.set_cons_zero, List.set_cons_succ]
    refine lexH_yieldE rfl rfl ?_
    apply Exists.intro
    refine ⟨fun W hW => ?_, ?_⟩
    focus (go_simp; exact rfl)
    simp only [List.getElem_toArray, List.getElem_cons_succ, List.getElem_cons_zero, Act.put, List.setIfInBounds_toArray, List.set_cons_zero, List.set_cons_succ]
    refine lexH_call 39 #[.pointer (some ⟨Z.ds k, 0, none⟩), .int .i64 ((f : Int) - sumF g k), .int .i64 order] rfl rfl ?_ ?_
    focus (go_simp; done)
    refine (HTK.out w2 HA2.out).mono ?_
    rintro e w3 ⟨rfl, hN, ho⟩
    have HA3 := Lib.hid (HA2.out.turn hk hN HJ.out ho)
    have HO3 := Lib.hid (HO2.out.trans (only_maps hk ho))
    refine ⟨_, rfl, HO3.out, ?_⟩
    clear hN ho L0 L1
    simp only [List.getElem_toArray, List.getElem_cons_succ, List.getElem_cons_zero, Act.put, List.setIfInBounds_toArray, List.set_cons_zero, List.set_cons_succ]
    refine lexH_yieldE rfl rfl ?_
    apply Exists.intro
    refine ⟨fun W hW => ?_, ?_⟩
    focus (go_simp; exact rfl)
    simp only [List.getElem_toArray, List.getElem_cons_succ, List.getElem_cons_zero, Act.put, List.setIfInBounds_toArray, List.set_cons_zero, List.set_cons_succ]
    refine lexH_nil ?_
    have HO4 := Lib.hid (show Only Z.maps w w3 from ((Only.of_below HB.out).trans (Only.of_below (Below.refl w1.heap.size w1).drew)).trans HO3.out)
    go_wp2_with (fail)
    go_ret
    rw [HZ.out]
    exact ⟨rfl, HA3.out, HO4.out⟩
  · have HZ := Lib.hid (zgive_no (L := L) (T := T) (order := order) hno)
    clear hno hans
    go_wp2_with (fail)
    go_ret
    rw [HZ.out]
    exact ⟨rfl, HA.out.later HB.out, Only.of_below HB.out⟩
end
end
end Go.Proofs.Ytdpnmjlapgldgaa
