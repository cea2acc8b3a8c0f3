/-
  magazine: Load of the landed pair, and of the document's.
-/
import Derived.Test.YtaadjgnfihkaeaaMgCat
namespace Go.Proofs.Ytaadjgnfihkaeaa
open Go.RowKit Go
section
variable {w w' w1 w2 : World} {M M1 M2 : MP} {N X : Nat} {L O L' O' m : Obs} {x y : Int}
def LoadP (w : World) (M : MP) (N : Nat) (m L O : Obs) (e : Ending) (w' : World) : Prop :=
  ∃ M', e = .returned (.int .i64 (loadM N m L O).1) ∧ MAt w' M' N (loadM N m L O).2 O ∧ MTurn w M w' M'
theorem LoadP.of (HT : MTurn w M w1 M1) (HM : MAt w2 M2 N L' O) (HT2 : MTurn w1 M1 w2 M2) {b : Int} (hg : loadM N m L O = (b, L')) : LoadP w M N m L O (.returned (.int .i64 b)) w2 := by
  unfold LoadP
  rw [hg]
  exact ⟨M2, rfl, HM, HT.trans HT2⟩
theorem loadM_arg (h : m.length = 0 ∨ N < m.length) : loadM N m L O = (2, L) := by
  unfold loadM
  rw [if_pos h]
theorem loadM_busy (h : ¬ (m.length = 0 ∨ N < m.length)) (h2 : 0 < L.length + O.length) : loadM N m L O = (80, L) := by
  unfold loadM
  rw [if_neg h, if_pos h2]
theorem loadM_ok (h : ¬ (m.length = 0 ∨ N < m.length)) (h2 : ¬ 0 < L.length + O.length) : loadM N m L O = (0, m) := by
  unfold loadM
  rw [if_neg h, if_neg h2]
set_option maxRecDepth 100000 in
set_option maxHeartbeats 8000000 in
theorem load_any (h : MAt w M N L O) {v : Value} (hs : SrcO w v m) : Calls Try.prog 16 #[.pointer (some ⟨M.p, 0, none⟩), v] w (LoadP w M N m L O) := by
  have HM := Lib.hid h
  have HS := Lib.hid hs
  obtain ⟨a, c, rfl, hsrc⟩ := hs
  have h32 : N ≤ 32 := h.n2
  obtain ⟨p, l, o⟩ := M
  have c0 := h.c0
  dsimp only at c0
  clear h hsrc
  by_cases h1 : m.length = 0 ∨ N < m.length
  · have HF := Lib.hid (LoadP.of (MTurn.refl _ _) HM.out (MTurn.refl _ _) (loadM_arg (L := L) (O := O) h1))
    by_cases h2 : m.length = 0
    · have e1 := len_0 h2
      clear h1 h2
      go_enter Try.func16, Try.ntmps16
      go_wp2_with (fail)
      refine (missing_any HM.out).mono ?_
      rintro e w' ⟨rfl, rfl⟩
      go_wp2_with (fail)
      go_ret
      exact HF.out
    · have e1 := len_p h2
      have e2 : (N : Int) < (m.length : Int) := by omega
      clear h1 h2
      go_enter Try.func16, Try.ntmps16
      go_wp2_with (fail)
      refine (missing_any HM.out).mono ?_
      rintro e w' ⟨rfl, rfl⟩
      go_wp2_with (fail)
      go_ret
      exact HF.out
  · have e1 : ((m.length : Int) == 0) = false := len_p (fun e => h1 (.inl e))
    have e2 : ¬ ((N : Int) < (m.length : Int)) := by omega
    by_cases hL : L.length = 0
    · have eL := len_0 hL
      by_cases hO : O.length = 0
      · have eO := len_0 hO
        have HG := Lib.hid (loadM_ok (L := L) (O := O) h1 (by omega))
        have HC := Lib.hid (show 0 < m.length ∧ m.length ≤ N by omega)
        clear h1 hL hO
        go_enter Try.func16, Try.ntmps16
        go_wp2_with (fail)
        refine (missing_any HM.out).mono ?_
        rintro e w' ⟨rfl, rfl⟩
        go_wp2_with (fail)
        refine (empty0_any HM.out).mono ?_
        rintro e w' ⟨rfl, rfl⟩
        go_wp2_with (fail)
        refine (empty1_any HM.out).mono ?_
        rintro e w' ⟨rfl, rfl⟩
        go_wp2_with (fail)
        refine wp_region_lex1 (fun _ => Hid True) [(0, false), (1, false), (3, false), (4, false), (2, true), (5, false), (6, true)] (by kernel_rfl) (by kernel_rfl) rfl (by kernel_rfl) (Lib.hid trivial) ?_
        intro W0 hW0 hK0
        clear hK0
        have HM0 := Lib.hid (show MAt W0 _ N L O by rw [hW0]; exact HM.out.later (below_drewN (Below.refl _ _) 1))
        have HT0 := Lib.hid (show MTurn w ⟨p, l, o⟩ W0 ⟨p, l, o⟩ from MTurn.of_below (by rw [hW0]; exact below_drewN (Below.refl _ _) 1))
        have HS0 := Lib.hid (show SrcO W0 (.slice a m.length c) m by rw [hW0]; exact HS.out.later (below_drewN (Below.refl _ _) 1))
        clear hW0 HM HS c0
        refine lexH_yieldE rfl rfl ?_
        apply Exists.intro
        refine ⟨fun W hW => ?_, ?_⟩
        focus (go_simp; exact rfl)
        simp only [List.getElem_toArray, List.getElem_cons_zero, Act.put, List.setIfInBounds_toArray, List.set_cons_zero, List.set_cons_succ]
        refine lexH_yieldE rfl rfl ?_
        apply Exists.intro
        refine ⟨fun W hW => ?_, ?_⟩
        focus (go_simp; exact rfl)
        simp only [List.getElem_toArray, List.getElem_cons_succ, List.getElem_cons_zero, Act.put, List.setIfInBounds_toArray, List.set_cons_zero, List.set_cons_succ]
        refine lexH_yieldE rfl rfl ?_
        apply Exists.intro
        refine ⟨fun W hW => ?_, ?_⟩
        focus (go_simp; exact rfl)
        simp only [List.getElem_toArray, List.getElem_cons_succ, List.getElem_cons_zero, Act.put, List.setIfInBounds_toArray, List.set_cons_zero, List.set_cons_succ]
        refine lexH_yieldE rfl rfl ?_
        apply Exists.intro
        refine ⟨fun W hW => ?_, ?_⟩
        focus (go_simp; exact rfl)
        simp only [List.getElem_toArray, List.getElem_cons_succ, List.getElem_cons_zero, Act.put, List.setIfInBounds_toArray, List.set_cons_zero, List.set_cons_succ]
        refine lexH_call 29 #[.slice a m.length c] rfl rfl ?_ ?_
        focus (go_simp; done)
        refine (clone_any HS0.out HC.out.1 (by have := HC.out.2; omega)).mono ?_
        rintro e w3 ⟨v3, rfl, hown, hb⟩
        refine ⟨_, rfl, Lib.hid trivial, ?_⟩
        simp only [List.getElem_toArray, List.getElem_cons_succ, List.getElem_cons_zero, Act.put, List.setIfInBounds_toArray, List.set_cons_zero, List.set_cons_succ]
        refine lexH_yieldE rfl rfl ?_
        apply Exists.intro
        refine ⟨fun W hW => ?_, ?_⟩
        focus (go_simp; exact rfl)
        simp only [List.getElem_toArray, List.getElem_cons_succ, List.getElem_cons_zero, Act.put, List.setIfInBounds_toArray, List.set_cons_zero, List.set_cons_succ]
        have hm9 := HM0.out.setL (S := fun _ => False) (Only.of_below hb) (fun k hk => hk.elim) (owns_base hown (fun _ _ => Nat.zero_le _)) HC.out.2 (fun k hk => .inr (hown.lt k hk).1)
        obtain ⟨a9, q9, hv9⟩ := owns_len hown
        have c1 := (HM0.out.later hb).c1
        have f1 := (HM0.out.later hb).fz 1
        obtain ⟨la, lc, hl⟩ := HM0.out.ls
        have HF := Lib.hid (LoadP.of HT0.out hm9.1 hm9.2 HG.out)
        dsimp only at c1 f1 hl HF
        subst hl
        subst hv9
        clear hm9 hown hb HM0 HT0 HS0 HG
        refine lexH_eff rfl rfl ?_
        unfold Oper.wp
        go_simp
        refine ⟨Lib.hid trivial, ?_⟩
        refine lexH_nil ?_
        go_wp2_with (fail)
        go_ret
        exact HF.out
      · have eO := len_p hO
        have HF := Lib.hid (LoadP.of (MTurn.refl _ _) HM.out (MTurn.refl _ _) (loadM_busy (L := L) (O := O) h1 (by omega)))
        clear h1 hL hO
        go_enter Try.func16, Try.ntmps16
        go_wp2_with (fail)
        refine (missing_any HM.out).mono ?_
        rintro e w' ⟨rfl, rfl⟩
        go_wp2_with (fail)
        refine (empty0_any HM.out).mono ?_
        rintro e w' ⟨rfl, rfl⟩
        go_wp2_with (fail)
        refine (empty1_any HM.out).mono ?_
        rintro e w' ⟨rfl, rfl⟩
        go_wp2_with (fail)
        go_ret
        exact HF.out
    · have eL := len_p hL
      have HF := Lib.hid (LoadP.of (MTurn.refl _ _) HM.out (MTurn.refl _ _) (loadM_busy (L := L) (O := O) h1 (by omega)))
      clear h1 hL
      go_enter Try.func16, Try.ntmps16
      go_wp2_with (fail)
      refine (missing_any HM.out).mono ?_
      rintro e w' ⟨rfl, rfl⟩
      go_wp2_with (fail)
      refine (empty0_any HM.out).mono ?_
      rintro e w' ⟨rfl, rfl⟩
      go_wp2_with (fail)
      go_ret
      exact HF.out
end
end Go.Proofs.Ytaadjgnfihkaeaa
