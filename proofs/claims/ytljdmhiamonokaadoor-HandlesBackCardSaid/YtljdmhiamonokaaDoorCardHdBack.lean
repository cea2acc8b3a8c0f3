/-
  PROVED: the tied card of 'byrelaw12.HandlesBack': for every input, of whatever size, the law returns true and leaves its arguments as they were.
  Its conditions: those that the card's row bears: the listed variables start as the program's text lays them (tied).
-/
import Derived.Test.YtljdmhiamonokaaDoorHdArg
import Derived.Test.YtljdmhiamonokaaDoorHdLawBack
import Derived.Test.YtljdmhiamonokaaDoorCards
import Derived.Test.YtljdmhiamonokaaDoorTie
namespace Go.Proofs.YtljdmhiamonokaaDoor
open Go.ChangeShapes Go.WideShapes Go.ChangeAt Go.RowKit

set_option maxRecDepth 100000 in
theorem handlesBack_law : Law Tryd.checked 4 Tryd.f4 (laidMetH Tryd.prog laidL) := by
  intro H enc W base args ds ps hval0 hA0 hL hwt
  have hval : ∀ (j : Nat) t v, Tryd.f4.params[j]? = some t → args[j]? = some v → Value.okWide Tryd.prog W .any base t v := hval0
  have hA : DataW.TrodAll enc Tryd.prog W 0 (fun _ => true) true Tryd.f4.params.toList args.toList ds ps := hA0
  clear hA0 hval0
  rw [Tryd.params4] at hA hval
  obtain ⟨v0, vs0, d0, ds0, p0, q0, hargs, rfl, rfl, h0, r0⟩ := trodAll_cons hA
  obtain ⟨v1, vs1, d1, ds1, p1, q1, rfl, rfl, rfl, h1, r1⟩ := trodAll_cons r0
  obtain ⟨v2, vs2, d2, ds2, p2, q2, rfl, rfl, rfl, h2, r2⟩ := trodAll_cons r1
  obtain ⟨rfl, rfl, rfl⟩ := trodAll_nil r2
  obtain rfl : args = #[v0, v1, v2] := by cases args; simp_all
  obtain ⟨t, rfl, ht⟩ := u64_arg (hval 0 22 v0 rfl rfl) h0
  obtain ⟨f, x, rfl⟩ := obj_arg (hval 1 24 v1 rfl rfl) h1
  obtain ⟨h, rfl, hh⟩ := u64_arg (hval 2 22 v2 rfl rfl) h2
  exact lawBack_any t f x h hh W (beg_of_laid hL)

set_option maxRecDepth 100000 in
theorem handlesBack_lifted (os : Os) (started : os.Started) (H : Type) (enc : TypeId × Value → H) :
    ReturnsInHanded {} Tryd.checked os 4 .any (fun w args => (Rows.handlesBackSpec.pre enc Tryd.prog Tryd.f4 [] false w args ∧ laidMetH Tryd.prog laidL w) ∧ sizedMet enc Tryd.prog Tryd.f4 (OpenSpec.ofChange Rows.handlesBackSpec) false w args)
      (Rows.handlesBackSpec.post enc Tryd.prog Tryd.f4 false true false false) :=
  law_lifted (C := Tryd.checked) (k := 4) (fn := Tryd.f4) (s := Rows.handlesBackSpec) (X := laidMetH Tryd.prog laidL) (tb := 4) (fun _ _ hh h => h.of_heap hh) own laidOut (by kernel_rfl) Tryd.func4 rfl
    (by rw [Tryd.params4]; exact fun t ht => of_decide_eq_true (List.all_eq_true.1 (show ([22, 24, 22].all fun t => decide (Tryd.prog.readableRec t = true ∧ t < Tryd.prog.types.size)) = true by kernel_rfl) t ht))
    rfl Tryd.underlying4
    (fun H ds h => by
      rw [Tryd.params4] at h
      match ds, h with
      | [_, _, _], _ => rfl)
    handlesBack_law os started H enc
    (ChangeSpec.witness_shaped (enc := enc) (C := Tryd.checked) (os := os) (X := fun w _ => laidMetH Tryd.prog laidL w) false (World.laidAll Tryd.prog os laidL) #[.int .u64 0, .agg #[.int .i64 0, .int .i64 0], .int .u64 0] 8 (World.laidAll_os _ _ _)
      (World.shaped_of_ZipB (by kernel_rfl) (by kernel_rfl)) (by kernel_rfl) (by kernel_rfl) (by kernel_rfl)
      (by rw [MakeChecks.laidMetH_plain _ _ _ (by kernel_rfl)]; exact laidMet_laidAll _ (by kernel_rfl) (by kernel_rfl)))
theorem handlesBack_said : Rows.HandlesBackSaid :=
  OpenClaim.holds_of_wide 4 Tryd.f4 rfl rfl rfl rfl rfl rfl rfl ⟨rfl, rfl, rfl, rfl, rfl⟩ rfl rfl rfl rfl rfl (by kernel_rfl) Tryd.func4 (by kernel_rfl)
    (of_decide_eq_true (by kernel_rfl)) (by unfold Func.isWrapper; first | (rw [if_pos (by decide +kernel)]; kernel_rfl) | (rw [if_neg (by decide +kernel)]; exact ⟨rfl, rfl⟩))
    (fun os started H enc _ => handlesBack_lifted os started H enc)

theorem handlesBack_card : Rows.HandlesBackCardSaid :=
  Claim7.holds_tied_plain_at .later [] [.data] true (Rows.handlesBackCard.stood.harness) false
    handlesBack_said (fun _ h => by cases h) (by kernel_rfl) (fun _ h => by cases h) handlesBack_row_tie rfl ⟨rfl, rfl⟩ (by kernel_rfl) rfl
    (fun f fn hf hfn => by
      obtain rfl : f = 4 := Option.some.inj ((show Tryd.prog.funcNamed "byre/byrelaw12.HandlesBack" = some 4 by kernel_rfl).symm.trans hf) |>.symm
      obtain rfl : fn = Tryd.f4 := (Option.some.inj (Tryd.func4.symm.trans hfn)).symm
      exact ⟨by kernel_rfl, fun j t ht => by
        rw [Tryd.params4] at ht
        have hm : t ∈ [22, 24, 22] := by simpa using Array.mem_of_getElem? ht
        have hall : ([22, 24, 22].all fun u => !Tryd.prog.wantsStandIn u) = true := by kernel_rfl
        exact (show Tryd.prog.wantsStandIn t = false by simpa using List.all_eq_true.1 hall t hm)⟩)
    (by kernel_rfl)
end Go.Proofs.YtljdmhiamonokaaDoor
