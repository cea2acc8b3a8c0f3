/-
  magazine: Unload, Len, Rounds, New (the landed pair's, the document's).
-/
import Derived.Test.YtaadjgnfihkaeaaMgRLoad
namespace Go.Proofs.Ytaadjgnfihkaeaa
open Go.RowKit Go
section
variable {w w' w1 w2 : World} {M M1 M2 : MP} {N X : Nat} {L O L' O' m : Obs} {x y : Int}
def UnlP (w : World) (M : MP) (N : Nat) (L O : Obs) (e : Ending) (w' : World) : Prop :=
  ∃ M' v, e = .returned (.tuple #[v, .int .i64 (unlM N L O).1]) ∧ w'.ownsRow 0 TO 2 v (unlM N L O).2.1.length (recV encO (unlM N L O).2.1) ∧ MAt w' M' N L (unlM N L O).2.2 ∧ MTurn w M w' M' ∧ ∀ k, v.ownBlock = some k → M.has k ∧ ¬ M'.has k
theorem UnlP.busy (HT : Below w.heap.size w w') (HM : MAt w M N L O) (h : L.length + O.length < 2 * N) : UnlP w M N L O (.returned (.tuple #[.slice none 0 0, .int .i64 80])) w' := by
  unfold UnlP
  rw [show unlM N L O = (80, [], O) by unfold unlM; rw [if_pos h]]
  exact ⟨M, _, rfl, World.ownsRow_nil _ _ _ _, HM.later HT, MTurn.of_below HT, fun k hk => by cases hk⟩
theorem UnlP.full (HT : Below w.heap.size w w1) (HM : MAt w M N L O) (h : ¬ L.length + O.length < 2 * N) : UnlP w M N L O (.returned (.tuple #[M.o, .int .i64 0])) (w1.setCell ⟨M.p, 2, none⟩ (.slice none 0 0)) := by
  unfold UnlP
  rw [show unlM N L O = (0, O, []) by unfold unlM; rw [if_neg h]]
  obtain ⟨h1, h2, h3⟩ := (HM.later HT).nilO
  refine ⟨_, _, rfl, h3, h1, (MTurn.of_below (M := M) HT).trans h2, fun k hk => ⟨.inr (.inr hk), ?_⟩⟩
  rintro (e | e | e)
  · dsimp only at e
    exact HM.po (by rw [← e]; exact hk)
  · exact HM.ap k e hk
  · cases e
set_option maxRecDepth 100000 in
set_option maxHeartbeats 8000000 in
theorem unload_any (h : MAt w M N L O) : Calls Try.prog 18 #[.pointer (some ⟨M.p, 0, none⟩)] w (UnlP w M N L O) := by
  have HM := Lib.hid h
  have hlN := h.hl
  have hoN := h.ho
  by_cases hL : L.length = N
  · have eL := len_t hL
    by_cases hO : O.length = N
    · have eO := len_t hO
      have HG := Lib.hid (show ¬ L.length + O.length < 2 * N by omega)
      clear hL hO h hlN hoN
      obtain ⟨p, l, o⟩ := M
      go_enter Try.func18, Try.ntmps18
      go_wp2_with (fail)
      refine (missing_any HM.out).mono ?_
      rintro e w' ⟨rfl, rfl⟩
      go_wp2_with (fail)
      refine (full0_any HM.out).mono ?_
      rintro e wA ⟨rfl, hb⟩
      have HB := Lib.hid hb
      have HMA := Lib.hid (HM.out.later hb)
      clear hb
      go_wp2_with (fail)
      refine (full1_any HMA.out).mono ?_
      rintro e wB ⟨rfl, hb⟩
      have HB2 := Lib.hid (HB.out.trans (hb.mono HB.out.size))
      have c2 := (HMA.out.later hb).c2
      have f2 := (HMA.out.later hb).fz 2
      have HF := Lib.hid (UnlP.full HB2.out HM.out HG.out)
      obtain ⟨oa, oc, ho⟩ := HM.out.os
      dsimp only at c2 f2 HF ho
      subst ho
      clear hb HMA HM HB HB2 HG
      go_wp2_with (fail)
      go_ret2
      exact HF.out
    · have eO := len_f hO
      have HG := Lib.hid (show L.length + O.length < 2 * N by omega)
      clear hL hO h hlN hoN
      obtain ⟨p, l, o⟩ := M
      go_enter Try.func18, Try.ntmps18
      go_wp2_with (fail)
      refine (missing_any HM.out).mono ?_
      rintro e w' ⟨rfl, rfl⟩
      go_wp2_with (fail)
      refine (full0_any HM.out).mono ?_
      rintro e wA ⟨rfl, hb⟩
      have HB := Lib.hid hb
      have HMA := Lib.hid (HM.out.later hb)
      clear hb
      go_wp2_with (fail)
      refine (full1_any HMA.out).mono ?_
      rintro e wB ⟨rfl, hb⟩
      have HF := Lib.hid (UnlP.busy (HB.out.trans (hb.mono HB.out.size)) HM.out HG.out)
      clear hb HMA HM HB HG
      go_wp2_with (fail)
      go_ret2
      exact HF.out
  · have eL := len_f hL
    have HG := Lib.hid (show L.length + O.length < 2 * N by omega)
    clear hL h hlN hoN
    obtain ⟨p, l, o⟩ := M
    go_enter Try.func18, Try.ntmps18
    go_wp2_with (fail)
    refine (missing_any HM.out).mono ?_
    rintro e w' ⟨rfl, rfl⟩
    go_wp2_with (fail)
    refine (full0_any HM.out).mono ?_
    rintro e wA ⟨rfl, hb⟩
    have HF := Lib.hid (UnlP.busy hb HM.out HG.out)
    clear hb HM HG
    go_wp2_with (fail)
    go_ret2
    exact HF.out
set_option maxRecDepth 100000 in
set_option maxHeartbeats 8000000 in
theorem runload_any (h : MAt w M N L O) : Calls Try.prog 19 #[.pointer (some ⟨M.p, 0, none⟩)] w (UnlP w M N L O) := by
  have HM := Lib.hid h
  have hlN := h.hl
  have hoN := h.ho
  have h32 : N ≤ 32 := h.n2
  obtain ⟨c0, c1, c2⟩ := lens h
  obtain ⟨la1, lc1, c1⟩ := c1
  obtain ⟨la2, lc2, c2⟩ := c2
  by_cases hL : L.length + O.length < 2 * N
  · have eL : (L.length : Int) + (O.length : Int) < 2 * (N : Int) := by omega
    have HG := Lib.hid hL
    clear hL h
    obtain ⟨p, l, o⟩ := M
    dsimp only at c0 c1 c2
    go_enter Try.func19, Try.ntmps19
    go_wp2_with (fail)
    go_quiet (fail)
    have HF := Lib.hid (UnlP.busy (below_drewN (Below.refl _ _) nq) HM.out HG.out)
    clear HM HG c0 c1 c2
    go_wp2_with (fail)
    go_ret2
    exact HF.out
  · have eL : ¬ ((L.length : Int) + (O.length : Int) < 2 * (N : Int)) := by omega
    have HG := Lib.hid hL
    clear hL h
    obtain ⟨p, l, o⟩ := M
    dsimp only at c0 c1 c2
    go_enter Try.func19, Try.ntmps19
    go_wp2_with (fail)
    go_quiet (fail)
    have hb := below_drewN (Below.refl w.heap.size w) nq
    have d2 := (HM.out.later hb).c2
    have f2 := (HM.out.later hb).fz 2
    have HF := Lib.hid (UnlP.full hb HM.out HG.out)
    obtain ⟨oa, oc, ho⟩ := HM.out.os
    dsimp only at d2 f2 HF ho
    subst ho
    clear HM HG c0 c1 c2 hb
    generalize w.drewN nq = wA at *
    go_wp2_with (fail)
    go_ret2
    exact HF.out
set_option maxRecDepth 100000 in
set_option maxHeartbeats 2000000 in
theorem rounds_any (h : MAt w M N L O) : Calls Try.prog 11 #[.pointer (some ⟨M.p, 0, none⟩)] w fun e w' => e = .returned (.int .i64 N) ∧ w = w' := by
  have c0 := h.c0
  clear h
  obtain ⟨p, l, o⟩ := M
  dsimp only at c0 ⊢
  go_enter Try.func11, Try.ntmps11
  go_wp2_with (fail)
  go_ret
  exact ⟨rfl, rfl⟩
set_option maxRecDepth 100000 in
set_option maxHeartbeats 2000000 in
theorem len_any (h : MAt w M N L O) : Calls Try.prog 23 #[.pointer (some ⟨M.p, 0, none⟩)] w fun e w' => e = .returned (.int .i64 ((L.length + O.length : Nat) : Int)) ∧ Below w.heap.size w w' := by
  have h32 : N ≤ 32 := h.n2
  have hlN := h.hl
  have hoN := h.ho
  obtain ⟨c0, c1, c2⟩ := lens h
  obtain ⟨la1, lc1, c1⟩ := c1
  obtain ⟨la2, lc2, c2⟩ := c2
  clear h c0
  obtain ⟨p, l, o⟩ := M
  dsimp only at c1 c2 ⊢
  go_enter Try.func23, Try.ntmps23
  go_wp2_with (fail)
  go_quiet (fail)
  go_wp2_with (fail)
  go_ret
  exact ⟨by first | rfl | (push_cast; rfl) | simp, below_drewN (Below.refl _ _) _⟩
/-- How many rounds. -/
def clN (n : Int) : Nat := (min (max n 1) 32).toNat
theorem clN_pos (n : Int) : 1 ≤ clN n ∧ clN n ≤ 32 := by unfold clN; omega
def NewP (w : World) (n : Int) (e : Ending) (w' : World) : Prop := ∃ p, e = .returned (.pointer (some ⟨p, 0, none⟩)) ∧ MAt w' ⟨p, .slice none 0 0, .slice none 0 0⟩ (clN n) [] [] ∧ Below w.heap.size w w' ∧ w.heap.size ≤ p
theorem new_at (w : World) (n : Int) (t : TypeId) : NewP w n (.returned (.pointer (some ⟨w.heap.size, 0, none⟩))) (w.alloc (.cells #[.int .i64 (clN n), .slice none 0 0, .slice none 0 0] t)) := by
  have n0 : ∀ k, (Value.slice none 0 0).ownBlock ≠ some k := fun k e => by cases e
  refine ⟨_, rfl, ⟨RowAt.new w _ _ _ _ fun i hi => ?_, World.ownsRow_nil _ _ _ _, World.ownsRow_nil _ _ _ _, n0 _, n0 _, fun k _ => n0 k, (clN_pos n).1, (clN_pos n).2, Nat.zero_le _, Nat.zero_le _⟩, (Below.refl _ _).alloc (Nat.le_refl _) _, Nat.le_refl _⟩
  rcases (show i = 0 ∨ i = 1 ∨ i = 2 by omega) with rfl | rfl | rfl <;> rfl
set_option maxRecDepth 100000 in
set_option maxHeartbeats 2000000 in
theorem rnew_any (n : Int) (w : World) : Calls Try.prog 10 #[.int .i64 n] w (NewP w n) := by
  have HF := Lib.hid (new_at w n 31)
  rcases (show n < 1 ∨ (¬ n < 1 ∧ 32 < n) ∨ (¬ n < 1 ∧ ¬ 32 < n) by omega) with h | ⟨h, h2⟩ | ⟨h, h2⟩
  · rw [show ((clN n : Nat) : Int) = 1 by unfold clN; omega] at HF
    go_enter Try.func10, Try.ntmps10
    go_wp2_with (fail)
    go_ret
    exact HF.out
  · rw [show ((clN n : Nat) : Int) = 32 by unfold clN; omega] at HF
    go_enter Try.func10, Try.ntmps10
    go_wp2_with (fail)
    go_ret
    exact HF.out
  · rw [show ((clN n : Nat) : Int) = n by unfold clN; omega] at HF
    go_enter Try.func10, Try.ntmps10
    go_wp2_with (fail)
    go_ret
    exact HF.out
set_option maxRecDepth 100000 in
set_option maxHeartbeats 2000000 in
theorem new_any (n : Int) (w : World) : Calls Try.prog 9 #[.int .i64 n] w (NewP w n) := by
  have HF := Lib.hid (new_at w n 50)
  rcases (show n < 1 ∨ (¬ n < 1 ∧ 32 < n) ∨ (¬ n < 1 ∧ ¬ 32 < n) by omega) with h | ⟨h, h2⟩ | ⟨h, h2⟩
  · rw [show ((clN n : Nat) : Int) = 1 by unfold clN; omega] at HF
    go_enter Try.func9, Try.ntmps9
    go_wp2_with (fail)
    go_ret
    exact HF.out
  · rw [show ((clN n : Nat) : Int) = 32 by unfold clN; omega] at HF
    go_enter Try.func9, Try.ntmps9
    go_wp2_with (fail)
    go_ret
    exact HF.out
  · rw [show ((clN n : Nat) : Int) = n by unfold clN; omega] at HF
    go_enter Try.func9, Try.ntmps9
    go_wp2_with (fail)
    go_ret
    exact HF.out
end
end Go.Proofs.Ytaadjgnfihkaeaa
