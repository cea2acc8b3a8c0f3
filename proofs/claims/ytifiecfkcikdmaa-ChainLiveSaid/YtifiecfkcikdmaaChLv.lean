/-
  chain, pure: an object that is live.
-/
import Derived.Test.YtifiecfkcikdmaaChTk
namespace Go.Proofs.Ytifiecfkcikdmaa

/-- The object 0 is live, and has these bytes. -/
structure Lv (t : Int) (sz : Nat) (f : Nat → UInt8) (S : Sl) : Prop where
  sz_ : S.sz = sz
  co_ : S.co = 0
  out : S.out 0 = true
  tu : S.tu 0 = t
  bt : ∀ p, p < sz → S.bt p = f p
section
variable {t : Int} {sz : Nat} {f : Nat → UInt8} {S : Sl}
theorem Lv.pos (H : Lv t sz f S) (i : Nat) : S.pos i = i * sz := by
  unfold Sl.pos
  rw [H.co_, H.sz_]
  omega
theorem Lv.far (H : Lv t sz f S) {i p : Nat} (hi : i ≠ 0) (hp : p < sz) : p < S.pos i := by
  rw [H.pos]
  have : 1 * sz ≤ i * sz := Nat.mul_le_mul_right _ (by omega)
  omega
theorem Lv.take (H : Lv t sz f S) (I : SlI S) : Lv t sz f S.take.2.2 := by
  have hn := I.parts.2.2.2.2
  unfold Sl.take
  split
  · exact H
  · rename_i i l e
    have hi : i ≠ 0 := fun h => by
      subst h
      exact (I.out 0 (by omega)).1 H.out (by rw [e]; simp)
    refine ⟨H.sz_, H.co_, ?_, H.tu, fun p hp => ?_⟩
    · show updC S.out i true 0 = true
      rw [updC_other _ (by omega)]
      exact H.out
    · show putB S.bt (S.pos i) S.sz (fun _ => 0) p = f p
      have := H.far hi hp
      unfold putB
      rw [if_neg (by omega)]
      exact H.bt p hp
theorem Lv.give (H : Lv t sz f S) {i : Int} (hi : i ≠ 0) : Lv t sz f (S.give i).2 := by
  unfold Sl.give
  split
  · exact H
  · rename_i h
    have hh : S.has i = true := by simpa using h
    have hin := has_iff.1 hh
    split
    · exact H
    · split
      · exact H
      · have hne : i.toNat ≠ 0 := by omega
        refine ⟨H.sz_, H.co_, ?_, H.tu, fun p hp => ?_⟩
        · show updC S.out i.toNat false 0 = true
          rw [updC_other _ (by omega)]
          exact H.out
        · show updC S.bt (S.pos i.toNat) _ p = f p
          have := H.far hne hp
          rw [updC_other _ (by omega)]
          exact H.bt p hp
theorem Lv.mark (H : Lv t sz f S) {i u : Int} (hi : i ≠ 0) : Lv t sz f (S.mark i u).2 := by
  unfold Sl.mark
  split
  · exact H
  · rename_i h
    have hh : S.has i = true := by
      cases h2 : S.has i with
      | true => rfl
      | false => exact absurd (.inl h2) h
    have hin := has_iff.1 hh
    split
    · exact H
    · split
      · exact H
      · refine ⟨H.sz_, H.co_, H.out, ?_, H.bt⟩
        show updC S.tu i.toNat u 0 = t
        rw [updC_other _ (by omega)]
        exact H.tu
theorem Lv.clr (H : Lv t sz f S) {i : Int} (hi : i ≠ 0) : Lv t sz f (S.clr i).2 := by
  unfold Sl.clr
  split
  · exact H
  · rename_i h
    have hh : S.has i = true := by simpa using h
    have hin := has_iff.1 hh
    split
    · exact H
    · refine ⟨H.sz_, H.co_, H.out, ?_, H.bt⟩
      show updC S.tu i.toNat 0 0 = t
      rw [updC_other _ (by omega)]
      exact H.tu
theorem Lv.live (H : Lv t sz f S) (I : SlI S) (ht : t ≠ 0) : S.live 0 = (t, true) := by
  have hn := I.parts.2.2.2.2
  unfold Sl.live
  rw [if_pos ⟨has_iff.2 (by omega), by rw [show (0 : Int).toNat = 0 from rfl, H.tu]; exact ht⟩, show (0 : Int).toNat = 0 from rfl, H.tu]
theorem Lv.busy (H : Lv t sz f S) (I : SlI S) (ht : t ≠ 0) : S.give 0 = (80, S) := by
  have hn := I.parts.2.2.2.2
  unfold Sl.give
  rw [if_neg (by rw [has_iff.2 (by omega)]; decide), show (0 : Int).toNat = 0 from rfl, if_neg (by rw [H.out]; decide), if_pos (by rw [H.tu]; exact ht)]
theorem Lv.clear (H : Lv t sz f S) (I : SlI S) (ht : t ≠ 0) : ∃ S', S.clr 0 = (0, S') ∧ (S'.give 0).1 = 0 := by
  have hn := I.parts.2.2.2.2
  have hh : S.has 0 = true := has_iff.2 (by omega)
  refine ⟨{ S with tu := updC S.tu 0 0 }, ?_, ?_⟩
  · unfold Sl.clr
    rw [if_neg (by rw [hh]; decide), show (0 : Int).toNat = 0 from rfl, if_neg (by rw [H.tu]; exact ht)]
  · have hh2 : Sl.has { S with tu := updC S.tu 0 0 } 0 = true := hh
    unfold Sl.give
    rw [if_neg (by rw [hh2]; decide), show (0 : Int).toNat = 0 from rfl, if_neg (by show ¬ S.out 0 = false; rw [H.out]; decide), if_neg (by show ¬ updC S.tu 0 0 0 ≠ 0; rw [updC_same]; exact fun h => h rfl)]
/-- A new slab's first object, taken and marked. -/
theorem lv_new {sz : Nat} (hm : mayC sz ((0 : Nat) : Int) = true) {t : Int} (ht : t ≠ 0) : ∃ S1 S2, (Sl.new sz 0 (fun _ => 0)).take = (0, 0, S1) ∧ S1.mark 0 t = (0, S2) ∧ S1.place 0 = (0, (sz : Int)) ∧ SlI S1 ∧ SlI S2 ∧ Lv t sz (fun _ => 0) S2 := by
  have I0 := SlI.new hm (fun _ => 0)
  obtain ⟨n32, n1, _⟩ := cnt_le hm
  have hch : (Sl.new sz 0 (fun _ => 0)).ch = List.range ((256 - 0) / sz) := rfl
  have h1 := tkI_take (k := 0) hch (by omega)
  have I1 := I0.take
  have h1' : (Sl.new sz 0 (fun _ => 0)).take = (0, 0, (Sl.new sz 0 (fun _ => 0)).take.2.2) := h1
  have hd := drop_range (n := (256 - 0) / sz) (k := 0) (by omega)
  rw [List.drop_zero] at hd
  have e1 := take_cons (hch.trans hd)
  have hn : (Sl.new sz 0 (fun _ => 0)).take.2.2.n = (256 - 0) / sz := by rw [e1]; rfl
  have hout : (Sl.new sz 0 (fun _ => 0)).take.2.2.out 0 = true := by
    rw [e1]
    show updC (Sl.new sz 0 (fun _ => 0)).out 0 true 0 = true
    exact updC_same _ _ _
  have htu : (Sl.new sz 0 (fun _ => 0)).take.2.2.tu 0 = 0 := by rw [e1]; rfl
  have hbt : ∀ p, p < sz → (Sl.new sz 0 (fun _ => 0)).take.2.2.bt p = 0 := fun p hp => by
    rw [e1]
    show putB (Sl.new sz 0 (fun _ => 0)).bt ((Sl.new sz 0 (fun _ => 0)).pos 0) (Sl.new sz 0 (fun _ => 0)).sz (fun _ => 0) p = 0
    unfold putB
    have hp0 : (Sl.new sz 0 (fun _ => 0)).pos 0 = 0 := by show 0 + 0 * sz = 0; omega
    have hs0 : (Sl.new sz 0 (fun _ => 0)).sz = sz := rfl
    rw [hp0, hs0, if_pos (by omega)]
  have hsc : (Sl.new sz 0 (fun _ => 0)).take.2.2.sz = sz ∧ (Sl.new sz 0 (fun _ => 0)).take.2.2.co = 0 := take_same _
  generalize (Sl.new sz 0 (fun _ => 0)).take.2.2 = S1 at *
  have hh : S1.has 0 = true := has_iff.2 (by omega)
  have hmk : S1.mark 0 t = (0, { S1 with tu := updC S1.tu 0 t }) := by
    unfold Sl.mark
    rw [if_neg (by rw [hh]; simp [ht]), show (0 : Int).toNat = 0 from rfl, if_neg (by rw [hout]; decide), if_neg (by rw [htu]; exact fun h => h rfl)]
  have I2 := I1.mark 0 t
  rw [hmk] at I2
  refine ⟨S1, _, h1', hmk, ?_, I1, I2, hsc.1, hsc.2, hout, (show updC S1.tu 0 t 0 = t from updC_same _ _ _), hbt⟩
  unfold Sl.place Sl.pos
  rw [if_pos hh, hsc.1, hsc.2, show (0 : Int).toNat = 0 from rfl]
  simp
end
end Go.Proofs.Ytifiecfkcikdmaa
