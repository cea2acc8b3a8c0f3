/-
  magazine: Load of the document's pair.
-/
import Derived.Test.YtaadjgnfihkaeaaMgLoad
namespace Go.Proofs.Ytaadjgnfihkaeaa
open Go.RowKit Go
section
variable {w w' w1 w2 : World} {M M1 M2 : MP} {N X : Nat} {L O L' O' m : Obs} {x y : Int}
set_option maxRecDepth 100000 in
set_option maxHeartbeats 8000000 in
theorem rload_any (h : MAt w M N L O) {v : Value} (hs : SrcO w v m) : Calls Try.prog 17 #[.pointer (some ⟨M.p, 0, none⟩), v] w (LoadP w M N m L O) := by
  obtain ⟨i0, hi, hz0, hz1, hz2⟩ := info_parts infoObj
  have HM := Lib.hid h
  have HS := Lib.hid hs
  obtain ⟨a, c, rfl, hsrc⟩ := hs
  have h32 : N ≤ 32 := h.n2
  have hlN := h.hl
  have hoN := h.ho
  obtain ⟨p, l, o⟩ := M
  obtain ⟨c0, c1, c2⟩ := lens h
  obtain ⟨la1, lc1, c1⟩ := c1
  obtain ⟨la2, lc2, c2⟩ := c2
  dsimp only at c0 c1 c2
  clear h hsrc
  by_cases h1 : m.length = 0 ∨ N < m.length
  · have HF := Lib.hid (LoadP.of (MTurn.refl _ _) HM.out (MTurn.refl _ _) (loadM_arg (L := L) (O := O) h1))
    by_cases h2 : m.length = 0
    · have e1 := len_0 h2
      clear h1 h2 c1 c2
      go_enter Try.func17, Try.ntmps17
      go_wp2_with (fail)
      go_ret
      exact HF.out
    · have e1 := len_p h2
      have e2 : (N : Int) < (m.length : Int) := by omega
      clear h1 h2 c1 c2
      go_enter Try.func17, Try.ntmps17
      go_wp2_with (fail)
      go_ret
      exact HF.out
  · have e1 : ((m.length : Int) == 0) = false := len_p (fun e => h1 (.inl e))
    have e2 : ¬ ((N : Int) < (m.length : Int)) := by omega
    by_cases hL : 0 < L.length + O.length
    · have eL : 0 < (L.length : Int) + (O.length : Int) := by omega
      have HG := Lib.hid (loadM_busy (L := L) (O := O) h1 (by omega))
      clear h1 hL
      go_enter Try.func17, Try.ntmps17
      go_wp2_with (fail)
      go_quiet (fail)
      have HF := Lib.hid (LoadP.of (MTurn.of_below (below_drewN (Below.refl _ _) nq)) (HM.out.later (below_drewN (Below.refl _ _) nq)) (MTurn.refl _ _) HG.out)
      clear HM HG HS c0 c1 c2
      go_wp2_with (fail)
      go_ret
      exact HF.out
    · have eL : ¬ (0 < (L.length : Int) + (O.length : Int)) := by omega
      have HG := Lib.hid (loadM_ok (L := L) (O := O) h1 (by omega))
      have HC := Lib.hid (show 0 < m.length ∧ m.length ≤ N by omega)
      clear h1 hL
      go_enter Try.func17, Try.ntmps17
      go_wp2_with (fail)
      go_quiet (fail)
      have HMA := Lib.hid (HM.out.later (below_drewN (Below.refl _ _) nq))
      have HTA := Lib.hid (show MTurn w ⟨p, l, o⟩ (w.drewN nq) ⟨p, l, o⟩ from MTurn.of_below (below_drewN (Below.refl _ _) nq))
      have HSA := Lib.hid (HS.out.later (below_drewN (Below.refl _ _) nq))
      clear HM HS c0 c1 c2
      generalize w.drewN nq = wA at *
      have hba : Below wA.heap.size wA (wA.alloc (.cells #[] TO)) := (Below.refl _ _).alloc (Nat.le_refl _) _
      have HW := Lib.hid (World.ownsRow_made wA (e := TO) (base := wA.heap.size) (size := 2) #[] 0 (Nat.le_refl _) (Nat.zero_le _) (by simp))
      have HB := Lib.hid hba
      have HSR := Lib.hid (show 0 < m.length → ∃ ad', a = some ad' ∧ ∀ j u, (recV encO m)[j]? = some u → (wA.alloc (.cells #[] TO)).cell? (ad'.add j) = some u from by
        obtain ⟨a2, c2, e2, h2⟩ := HSA.out.later hba
        injection e2 with e2 _ _
        intro hp
        obtain ⟨ad2, e3, h3⟩ := h2 hp
        exact ⟨ad2, by rw [e2, e3], h3⟩)
      have HLE := Lib.hid hba.size
      clear hba
      go_wp2_with (first
        | (at_builtin; refine wpList_append_src _ rfl _ _ 29 rfl wA.heap.size 33 i0 _ 2 16 Try.underlying29 hi hz0 hz1 hz2 rfl (by decide) _ _ _ rfl HW.out a m.length c (recV encO m) rfl (recV_len encO_len _) HSR.out (recV_one encO_one _) (by have := HC.out.2; unfold maxLen; omega) (by have := HC.out.2; omega) HLE.out ?_
           intro v3 w3 hown3 hgr3 _
           rw [Nat.zero_add, List.nil_append] at hown3
           have hb : Below wA.heap.size wA w3 := (Only.of_grown hgr3).below HB.out HB.out.size (fun k hk => (HW.out.lt k hk).1)
           have hm9 := HMA.out.setL (S := fun _ => False) (Only.of_below hb) (fun k hk => hk.elim) (owns_base hown3 (fun _ _ => Nat.zero_le _)) HC.out.2 (fun k hk => .inr (hown3.lt k hk).1)
           obtain ⟨a9, q9, hv9⟩ := owns_len hown3
           have c1 := (HMA.out.later hb).c1
           have f1 := (HMA.out.later hb).fz 1
           obtain ⟨la, lc, hl⟩ := HMA.out.ls
           have HF := Lib.hid (LoadP.of HTA.out hm9.1 hm9.2 HG.out)
           dsimp only at c1 f1 hl HF
           subst hl
           subst hv9
           clear hm9 hown3 hb hgr3)
        | fail)
      go_ret
      exact HF.out
end
end Go.Proofs.Ytaadjgnfihkaeaa
