/-
  magazine: Get of the landed pair.
-/
import Derived.Test.YtaadjgnfihkaeaaMgChg
import Derived.Test.YtaadjgnfihkaeaaLexH
namespace Go.Proofs.Ytaadjgnfihkaeaa
open Go.RowKit Go
section
variable {w w' w1 w2 : World} {M M2 : MP} {N X : Nat} {L O L' O' : Obs}
theorem MTurn.off1 (hT : MTurn w1 M w2 M2) (hX : ¬ M.has X) (hlt : X < w1.heap.size) : ¬ M2.has X := fun h => by
  rcases hT.has X h with h | h
  · exact hX h
  · omega
/-- A block of the call's own turns, too. -/
theorem MTurn.new {S : Nat → Prop} (hT : MTurn w M w2 M2) (h : Only S w2 w') (hS : ∀ k, S k → w.heap.size ≤ k) : MTurn w M w' M2 := by
  refine ⟨?_, hT.has, hT.pp⟩
  have h1 := hT.only
  exact ⟨h.os.trans h1.os, h.tape.trans h1.tape, h.output.trans h1.output, Nat.le_trans h1.size h.size, fun k hk hs => (h.block k (Nat.lt_of_lt_of_le hk h1.size) (fun e => by have := hS k e; omega)).trans (h1.block k hk hs)⟩
def GetP (w : World) (M : MP) (N : Nat) (L O : Obs) (e : Ending) (w' : World) : Prop :=
  ∃ M', e = .returned (.tuple #[objV (getM L O).2.1, .bool (getM L O).1]) ∧ MAt w' M' N (getM L O).2.2.1 (getM L O).2.2.2 ∧ MTurn w M w' M'
theorem GetP.of (HT : MTurn w M w2 M2) (HM : MAt w2 M2 N L' O') (hX : w.heap.size ≤ X) (hn : ¬ M2.has X) {x y : Int} {b : Bool} (hg : getM L O = (b, (x, y), L', O')) :
    GetP w M N L O (.returned (.tuple #[.agg #[.int .i64 x, .int .i64 y], .bool b])) ((w2.setCell ⟨X, 0, none⟩ (.int .i64 x)).setCell ⟨X, 1, none⟩ (.int .i64 y)) := by
  have ho : Only (Eq X) w2 ((w2.setCell ⟨X, 0, none⟩ (.int .i64 x)).setCell ⟨X, 1, none⟩ (.int .i64 y)) := (Only.setCell (S := Eq X) w2 ⟨X, 0, none⟩ rfl _).trans (Only.setCell (S := Eq X) _ ⟨X, 1, none⟩ rfl _)
  unfold GetP
  rw [hg]
  exact ⟨M2, rfl, HM.only ho (fun k hk e => hn (by rw [e]; exact hk)), HT.new ho (fun k e => by omega)⟩
theorem getM_none (h1 : L.length = 0) (h2 : O.length = 0) : getM L O = (false, (0, 0), L, O) := by
  unfold getM chG
  simp [h1, h2]
theorem getM_some {n : Nat} (h1 : L.length = n + 1) : getM L O = (true, L.getD n (0, 0), L.take n, O) := by
  have h2 : chG L O = (L, O) := by
    unfold chG
    rw [if_neg (by omega)]
  unfold getM
  rw [h2]
  dsimp only
  rw [if_neg (by omega), h1, Nat.add_sub_cancel]
theorem getM_chg {n : Nat} (h0 : L.length = 0) (h1 : O.length = n + 1) : getM L O = (true, O.getD n (0, 0), O.take n, L) := by
  have h2 : chG L O = (O, L) := by
    unfold chG
    rw [if_pos (by omega)]
  unfold getM
  rw [h2]
  dsimp only
  rw [if_neg (by omega), h1, Nat.add_sub_cancel]
/-- A list that is not empty, cut by its last. -/
theorem MAt.cut {n : Nat} (h : MAt w M N L O) (hn : L.length = n + 1) : ∃ g c, M.l = .slice (some ⟨g, 0, none⟩) (n + 1) c ∧ w.cell? ⟨g, n * 2, none⟩ = some (.int .i64 (L.getD n (0, 0)).1) ∧ w.cell? ⟨g, n * 2 + 1, none⟩ = some (.int .i64 (L.getD n (0, 0)).2) ∧ g ≠ M.p ∧ n ≤ c ∧ n < 32 ∧
    MAt (w.drew.setCell ⟨M.p, 1, none⟩ (.slice (some ⟨g, 0, none⟩) n c)) ⟨M.p, .slice (some ⟨g, 0, none⟩) n c, M.o⟩ N (L.take n) O ∧ MTurn w M (w.drew.setCell ⟨M.p, 1, none⟩ (.slice (some ⟨g, 0, none⟩) n c)) ⟨M.p, .slice (some ⟨g, 0, none⟩) n c, M.o⟩ := by
  obtain ⟨g, c, hl, hgb, _, hgl, d0, d1⟩ := owns_get h.lo n (by omega)
  have hlo := h.lo
  rw [hl] at hlo
  have hq : L.getD n (0, 0) = L[n] := by rw [List.getD_eq_getElem?_getD, List.getElem?_eq_getElem (by omega)]; rfl
  rw [hq]
  have hcap : n ≤ c := by
    obtain ⟨_, ⟨e1, hn⟩ | ⟨g2, cap, cur, e1, _, _, h1, _⟩⟩ := hlo
    · cases e1
    · injection e1 with _ _ e3
      omega
  have hown := owns_later (owns_takeO (k := n) hlo (by omega)) (below_drewN (Below.refl w.heap.size w) 1)
  have hs := h.setL (S := fun _ => False) (Only.drewN _ w 1) (fun k hk => hk.elim) hown (by rw [List.length_take]; have := h.hl; omega) (fun k hk => .inl (by rw [← hk, hl]; rfl))
  have hln := h.hl
  have hn2 := h.n2
  refine ⟨g, c, by rw [hl, hn], d0, d1, fun e => h.pl (by rw [hgb, e]), hcap, by omega, hs⟩
set_option maxRecDepth 100000 in
set_option maxHeartbeats 8000000 in
theorem get_any (h : MAt w M N L O) : Calls Try.prog 14 #[.pointer (some ⟨M.p, 0, none⟩)] w (GetP w M N L O) := by
  have hba : Below w.heap.size w (w.alloc (.cells #[.int .i64 0, .int .i64 0] 33)) := (Below.refl w.heap.size w).alloc (Nat.le_refl _) _
  have HM := Lib.hid (h.later hba)
  have HT := Lib.hid (MTurn.of_below (M := M) hba)
  have HX := Lib.hid (obj_row w 0 0)
  have HN := Lib.hid (show ¬ M.has w.heap.size from fun e => by have := h.lt e; omega)
  clear h hba
  obtain ⟨p, l, o⟩ := M
  go_enter Try.func14, Try.ntmps14
  go_wp2_with (fail)
  generalize w.alloc (.cells #[.int .i64 0, .int .i64 0] 33) = w1 at *
  generalize hXX : w.heap.size = X at HX HN ⊢
  have HLE : Hid (w.heap.size ≤ X) := Lib.hid (Nat.le_of_eq hXX)
  clear hXX
  refine (missing_any HM.out).mono ?_
  rintro e w' ⟨rfl, rfl⟩
  go_wp2_with (fail)
  refine (empty0_any HM.out).mono ?_
  rintro e w' ⟨rfl, rfl⟩
  by_cases hL : L.length = 0
  · have eL := len_0 hL
    by_cases hO : O.length = 0
    · have eO := len_0 hO
      have HG := Lib.hid (getM_none hL hO)
      clear hL hO
      go_wp2_with (fail)
      refine (empty1_any HM.out).mono ?_
      rintro e w' ⟨rfl, rfl⟩
      go_wp2_with (fail)
      refine (empty0_any HM.out).mono ?_
      rintro e w' ⟨rfl, rfl⟩
      have b0 := HX.out.cell 0 (by decide)
      have b1 := HX.out.cell 1 (by decide)
      have g0 := HX.out.frozen 0
      have g1 := HX.out.frozen 1
      have e0 : obV 0 0 0 = .int .i64 0 := rfl
      have e1 : obV 0 0 1 = .int .i64 0 := rfl
      rw [e0] at b0
      rw [e1] at b1
      clear e0 e1
      have HF := Lib.hid (GetP.of HT.out HM.out HLE.out HN.out HG.out)
      have HX4 := Lib.hid (set_obj HX.out 0 0)
      clear HX HT HM HN HG HLE
      go_wp2_with (fail)
      exact ret_obj (b := .bool false) rfl rfl rfl rfl HX4.out HF.out
    · have eO := len_p hO
      obtain ⟨n, hlen⟩ : ∃ n, O.length = n + 1 := ⟨O.length - 1, by omega⟩
      have HGM := Lib.hid (getM_chg hL hlen)
      go_wp2_with (fail)
      refine (empty1_any HM.out).mono ?_
      rintro e w' ⟨rfl, rfl⟩
      go_wp2_with (fail)
      refine (change_any HM.out).mono ?_
      rintro e w2 ⟨M2, rfl, hM2, hT2⟩
      have HP := Lib.hid hT2.pp
      have HN2 := Lib.hid (hT2.off1 HN.out HX.out.lt)
      have HX2 := Lib.hid (HX.out.only hT2.only HN.out)
      have HT2 := Lib.hid (HT.out.trans hT2)
      have HM2 := Lib.hid hM2
      obtain ⟨p2, l2, o2⟩ := M2
      have hpp : p2 = p := HP.out
      subst hpp
      clear hM2 hT2 HM HT HX HN HP hL hO eL
      go_wp2_with (fail)
      refine (empty0_any HM2.out).mono ?_
      rintro e w' ⟨rfl, rfl⟩
      obtain ⟨g, c, hl, d0, d1, hgp, hcn, hn32, hm3, ht3⟩ := HM2.out.cut hlen
      have c1 := HM2.out.c1
      have f1 := HM2.out.fz 1
      rw [hl] at c1
      have S1 := Lib.hid (show ∀ V : World, Hid True → (Instr.sliceAt 29 (.slice (some ⟨g, 0, none⟩) (n + 1) c) none (some (.int .i64 n)) none).run Try.prog V = .ok (.slice (some ⟨g, 0, none⟩) n c) V from fun V _ => run_sub_toN (P := Try.prog) (t := 29) (e := TO) (s := 2) Try.underlying29 (fun _ => by kernel_rfl) _ _ _ n hcn V)
      have HM3 := Lib.hid hm3
      have HT3 := Lib.hid (HT2.out.trans ht3)
      have HN3 := Lib.hid (ht3.off1 HN2.out HX2.out.lt)
      have ho3 : Only (Eq p2) w2 (w2.drew.setCell ⟨p2, 1, none⟩ (.slice (some ⟨g, 0, none⟩) n c)) := (Only.drewN _ w2 1).trans (Only.setCell (S := Eq p2) _ ⟨p2, 1, none⟩ rfl _)
      have HX3 := Lib.hid (HX2.out.only ho3 (fun e => HN2.out (.inl e.symm)))
      have HD := Lib.hid (show _ ∧ _ from ⟨ho3.cell (fun e => hgp e.symm) d0, ho3.cell (fun e => hgp e.symm) d1⟩)
      have HG := Lib.hid (HGM.out)
      clear hm3 ht3 ho3 d0 d1 hl hgp hcn HM2 HT2 HX2 HN2
      generalize O.getD n (0, 0) = q at *
      obtain ⟨x, y⟩ := q
      dsimp only at HD HG HN3 HX3 HT3 HM3
      go_wp2_with (fail)
      refine wp_region_lex1 (fun _ => Hid True) [(0, false), (1, false), (2, false), (3, false), (4, false), (5, false), (6, false), (7, true)] (by kernel_rfl) (by kernel_rfl) rfl (by kernel_rfl) (Lib.hid trivial) ?_
      intro W0 hW0 hK0
      clear hK0
      subst hW0
      have c1d : w2.drew.cell? ⟨p2, 1, none⟩ = some (.slice (some ⟨g, 0, none⟩) (n + 1) c) := c1
      have f1d : w2.drew.frozen? ⟨p2, 1, none⟩ = false := f1
      clear c1 f1
      generalize w2.drew = V0 at *
      refine lexH_yieldE rfl rfl ?_
      apply Exists.intro
      refine ⟨fun W hW => ?_, ?_⟩
      focus (go_simp; exact rfl)
      simp only [List.getElem_toArray, List.getElem_cons_zero, Act.put, List.setIfInBounds_toArray, List.set_cons_zero, List.set_cons_succ]
      refine lexH_yieldE rfl rfl ?_
      apply Exists.intro
      refine ⟨fun W hW => ?_, ?_⟩
      focus (go_simp; exact rfl)
      simp only [List.getElem_toArray, List.getElem_cons_succ, List.getElem_cons_zero, Act.put, List.setIfInBounds_toArray, List.set_cons_zero, List.set_cons_succ]
      refine lexH_yieldE rfl rfl ?_
      apply Exists.intro
      refine ⟨fun W hW => ?_, ?_⟩
      focus (go_simp; exact rfl)
      simp only [List.getElem_toArray, List.getElem_cons_succ, List.getElem_cons_zero, Act.put, List.setIfInBounds_toArray, List.set_cons_zero, List.set_cons_succ]
      refine lexH_slice rfl rfl _ _ _ _ _ rfl S1.out ?_
      simp only [List.getElem_toArray, List.getElem_cons_succ, List.getElem_cons_zero, Act.put, List.setIfInBounds_toArray, List.set_cons_zero, List.set_cons_succ]
      refine lexH_yieldE rfl rfl ?_
      apply Exists.intro
      refine ⟨fun W hW => ?_, ?_⟩
      focus (go_simp; exact rfl)
      simp only [List.getElem_toArray, List.getElem_cons_succ, List.getElem_cons_zero, Act.put, List.setIfInBounds_toArray, List.set_cons_zero, List.set_cons_succ]
      refine lexH_yieldE rfl rfl ?_
      apply Exists.intro
      refine ⟨fun W hW => ?_, ?_⟩
      focus (go_simp; exact rfl)
      simp only [List.getElem_toArray, List.getElem_cons_succ, List.getElem_cons_zero, Act.put, List.setIfInBounds_toArray, List.set_cons_zero, List.set_cons_succ]
      refine lexH_yieldE rfl rfl ?_
      apply Exists.intro
      refine ⟨fun W hW => ?_, ?_⟩
      focus (go_simp; exact rfl)
      simp only [List.getElem_toArray, List.getElem_cons_succ, List.getElem_cons_zero, Act.put, List.setIfInBounds_toArray, List.set_cons_zero, List.set_cons_succ]
      clear S1
      refine lexH_eff rfl rfl ?_
      unfold Oper.wp
      go_simp
      refine ⟨Lib.hid trivial, ?_⟩
      refine lexH_nil ?_
      clear c1d f1d
      generalize V0.setCell ⟨p2, 1, none⟩ (.slice (some ⟨g, 0, none⟩) n c) = w5 at *
      have d0 := HD.out.1
      have d1 := HD.out.2
      have b0 := HX3.out.cell 0 (by decide)
      have b1 := HX3.out.cell 1 (by decide)
      have g0 := HX3.out.frozen 0
      have g1 := HX3.out.frozen 1
      have e0 : obV 0 0 0 = .int .i64 0 := rfl
      have e1 : obV 0 0 1 = .int .i64 0 := rfl
      rw [e0] at b0
      rw [e1] at b1
      clear e0 e1
      have HF := Lib.hid (GetP.of HT3.out HM3.out HLE.out HN3.out HG.out)
      have HX4 := Lib.hid (set_obj HX3.out x y)
      clear HX3 HT3 HM3 HN3 HG HD
      go_wp2_with (fail)
      exact ret_obj (b := .bool true) rfl rfl rfl rfl HX4.out HF.out
  · have eL := len_p hL
    obtain ⟨n, hlen⟩ : ∃ n, L.length = n + 1 := ⟨L.length - 1, by omega⟩
    have HGM := Lib.hid (getM_some (O := O) hlen)
    clear hL
    go_wp2_with (fail)
    refine (empty0_any HM.out).mono ?_
    rintro e w' ⟨rfl, rfl⟩
    obtain ⟨g, c, hl, d0, d1, hgp, hcn, hn32, hm3, ht3⟩ := HM.out.cut hlen
    have c1 := HM.out.c1
    have f1 := HM.out.fz 1
    rw [hl] at c1
    have S1 := Lib.hid (show ∀ V : World, Hid True → (Instr.sliceAt 29 (.slice (some ⟨g, 0, none⟩) (n + 1) c) none (some (.int .i64 n)) none).run Try.prog V = .ok (.slice (some ⟨g, 0, none⟩) n c) V from fun V _ => run_sub_toN (P := Try.prog) (t := 29) (e := TO) (s := 2) Try.underlying29 (fun _ => by kernel_rfl) _ _ _ n hcn V)
    have HM3 := Lib.hid hm3
    have HT3 := Lib.hid (HT.out.trans ht3)
    have HN3 := Lib.hid (ht3.off1 HN.out HX.out.lt)
    have ho3 : Only (Eq p) w1 (w1.drew.setCell ⟨p, 1, none⟩ (.slice (some ⟨g, 0, none⟩) n c)) := (Only.drewN _ w1 1).trans (Only.setCell (S := Eq p) _ ⟨p, 1, none⟩ rfl _)
    have HX3 := Lib.hid (HX.out.only ho3 (fun e => HN.out (.inl e.symm)))
    have HD := Lib.hid (show _ ∧ _ from ⟨ho3.cell (fun e => hgp e.symm) d0, ho3.cell (fun e => hgp e.symm) d1⟩)
    have HG := Lib.hid (HGM.out)
    clear hm3 ht3 ho3 d0 d1 hl hgp hcn HM HT HX HN
    generalize L.getD n (0, 0) = q at *
    obtain ⟨x, y⟩ := q
    dsimp only at HD HG HN3 HX3 HT3 HM3
    go_wp2_with (fail)
    refine wp_region_lex1 (fun _ => Hid True) [(0, false), (1, false), (2, false), (3, false), (4, false), (5, false), (6, false), (7, true)] (by kernel_rfl) (by kernel_rfl) rfl (by kernel_rfl) (Lib.hid trivial) ?_
    intro W0 hW0 hK0
    clear hK0
    subst hW0
    have c1d : w1.drew.cell? ⟨p, 1, none⟩ = some (.slice (some ⟨g, 0, none⟩) (n + 1) c) := c1
    have f1d : w1.drew.frozen? ⟨p, 1, none⟩ = false := f1
    clear c1 f1
    generalize w1.drew = V0 at *
    refine lexH_yieldE rfl rfl ?_
    apply Exists.intro
    refine ⟨fun W hW => ?_, ?_⟩
    focus (go_simp; exact rfl)
    simp only [List.getElem_toArray, List.getElem_cons_zero, Act.put, List.setIfInBounds_toArray, List.set_cons_zero, List.set_cons_succ]
    refine lexH_yieldE rfl rfl ?_
    apply Exists.intro
    refine ⟨fun W hW => ?_, ?_⟩
    focus (go_simp; exact rfl)
    simp only [List.getElem_toArray, List.getElem_cons_succ, List.getElem_cons_zero, Act.put, List.setIfInBounds_toArray, List.set_cons_zero, List.set_cons_succ]
    refine lexH_yieldE rfl rfl ?_
    apply Exists.intro
    refine ⟨fun W hW => ?_, ?_⟩
    focus (go_simp; exact rfl)
    simp only [List.getElem_toArray, List.getElem_cons_succ, List.getElem_cons_zero, Act.put, List.setIfInBounds_toArray, List.set_cons_zero, List.set_cons_succ]
    refine lexH_slice rfl rfl _ _ _ _ _ rfl S1.out ?_
    simp only [List.getElem_toArray, List.getElem_cons_succ, List.getElem_cons_zero, Act.put, List.setIfInBounds_toArray, List.set_cons_zero, List.set_cons_succ]
    refine lexH_yieldE rfl rfl ?_
    apply Exists.intro
    refine ⟨fun W hW => ?_, ?_⟩
    focus (go_simp; exact rfl)
    simp only [List.getElem_toArray, List.getElem_cons_succ, List.getElem_cons_zero, Act.put, List.setIfInBounds_toArray, List.set_cons_zero, List.set_cons_succ]
    refine lexH_yieldE rfl rfl ?_
    apply Exists.intro
    refine ⟨fun W hW => ?_, ?_⟩
    focus (go_simp; exact rfl)
    simp only [List.getElem_toArray, List.getElem_cons_succ, List.getElem_cons_zero, Act.put, List.setIfInBounds_toArray, List.set_cons_zero, List.set_cons_succ]
    refine lexH_yieldE rfl rfl ?_
    apply Exists.intro
    refine ⟨fun W hW => ?_, ?_⟩
    focus (go_simp; exact rfl)
    simp only [List.getElem_toArray, List.getElem_cons_succ, List.getElem_cons_zero, Act.put, List.setIfInBounds_toArray, List.set_cons_zero, List.set_cons_succ]
    clear S1
    refine lexH_eff rfl rfl ?_
    unfold Oper.wp
    go_simp
    refine ⟨Lib.hid trivial, ?_⟩
    refine lexH_nil ?_
    clear c1d f1d
    generalize V0.setCell ⟨p, 1, none⟩ (.slice (some ⟨g, 0, none⟩) n c) = w5 at *
    have d0 := HD.out.1
    have d1 := HD.out.2
    have b0 := HX3.out.cell 0 (by decide)
    have b1 := HX3.out.cell 1 (by decide)
    have g0 := HX3.out.frozen 0
    have g1 := HX3.out.frozen 1
    have e0 : obV 0 0 0 = .int .i64 0 := rfl
    have e1 : obV 0 0 1 = .int .i64 0 := rfl
    rw [e0] at b0
    rw [e1] at b1
    clear e0 e1
    have HF := Lib.hid (GetP.of HT3.out HM3.out HLE.out HN3.out HG.out)
    have HX4 := Lib.hid (set_obj HX3.out x y)
    clear HX3 HT3 HM3 HN3 HG HD
    go_wp2_with (fail)
    exact ret_obj (b := .bool true) rfl rfl rfl rfl HX4.out HF.out
end
end Go.Proofs.Ytaadjgnfihkaeaa
