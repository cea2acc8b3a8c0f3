/-
  PROVED: the tied card of 'byrelaw19.CallsResults': for every input, of whatever size, the law returns true and leaves its arguments as they were.
  Its conditions: those that the card's row bears: the listed variables start as the program's text lays them (tied).
-/
import Derived.Test.YtkmjkkeldbocdaaDoorCsArg
import Derived.Test.YtkmjkkeldbocdaaDoorCsLawResults
import Derived.Test.YtkmjkkeldbocdaaDoorM04
import Derived.Test.YtkmjkkeldbocdaaDoorCards
import Derived.Test.YtkmjkkeldbocdaaDoorTie
namespace Go.Proofs.YtkmjkkeldbocdaaDoor
open Go.ChangeShapes Go.WideShapes Go.ChangeAt Go.RowKit

set_option maxRecDepth 100000 in
theorem callsResults_law : Law Tryd.checked 6 Tryd.f6 (laidMetH Tryd.prog laidL) := by
  intro H enc W base args ds ps hval0 hA0 hL hwt
  have hval : ∀ (j : Nat) t v, Tryd.f6.params[j]? = some t → args[j]? = some v → Value.okWide Tryd.prog W .any base t v := hval0
  have hA : DataW.TrodAll enc Tryd.prog W 0 (fun _ => true) true Tryd.f6.params.toList args.toList ds ps := hA0
  clear hA0 hval0
  rw [Tryd.params6] at hA hval
  obtain ⟨v0, vs0, d0, ds0, p0, q0, hargs, rfl, rfl, h0, r0⟩ := trodAll_cons hA
  obtain ⟨v1, vs1, d1, ds1, p1, q1, rfl, rfl, rfl, h1, r1⟩ := trodAll_cons r0
  obtain ⟨rfl, rfl, rfl⟩ := trodAll_nil r1
  obtain rfl : args = #[v0, v1] := by cases args; simp_all
  obtain ⟨e1, u1, a, n, c, x, rfl, he1, hu1, hx⟩ := res_arg (hval 0 41 v0 rfl rfl) h0
  obtain ⟨e2, u2, b, m, d, y, rfl, he2, hu2, hy⟩ := res_arg (hval 1 41 v1 rfl rfl) h1
  exact lresults_any cs_ok (fld_of_laid hL) he1 hu1 hx.1 hy.1

set_option maxRecDepth 100000 in
theorem callsResults_lifted (os : Os) (started : os.Started) (H : Type) (enc : TypeId × Value → H) :
    ReturnsInHanded {} Tryd.checked os 6 .any (fun w args => (Rows.callsResultsSpec.pre enc Tryd.prog Tryd.f6 [] false w args ∧ laidMetH Tryd.prog laidL w) ∧ sizedMet enc Tryd.prog Tryd.f6 (OpenSpec.ofChange Rows.callsResultsSpec) false w args)
      (Rows.callsResultsSpec.post enc Tryd.prog Tryd.f6 false true false false) :=
  law_lifted (C := Tryd.checked) (k := 6) (fn := Tryd.f6) (s := Rows.callsResultsSpec) (X := laidMetH Tryd.prog laidL) (tb := 4) (fun _ _ hh h => h.of_heap hh) own laidOut (by kernel_rfl) Tryd.func6 rfl
    (by rw [Tryd.params6]; exact fun t ht => of_decide_eq_true (List.all_eq_true.1 (show ([41, 41].all fun t => decide (Tryd.prog.readableRec t = true ∧ t < Tryd.prog.types.size)) = true by kernel_rfl) t ht))
    rfl Tryd.underlying4
    (fun H ds h => by
      rw [Tryd.params6] at h
      match ds, h with
      | [_, _], _ => rfl)
    callsResults_law os started H enc
    (ChangeSpec.witness_shaped (enc := enc) (C := Tryd.checked) (os := os) (X := fun w _ => laidMetH Tryd.prog laidL w) false (World.laidAll Tryd.prog os laidL) #[.agg #[.int .i64 0, .int .u64 0, .slice none 0 0], .agg #[.int .i64 0, .int .u64 0, .slice none 0 0]] 8 (World.laidAll_os _ _ _)
      (World.shaped_of_ZipB (by kernel_rfl) (by kernel_rfl)) (by kernel_rfl) (by kernel_rfl) (by kernel_rfl)
      (by rw [MakeChecks.laidMetH_plain _ _ _ (by kernel_rfl)]; exact laidMet_laidAll _ (by kernel_rfl) (by kernel_rfl)))
theorem callsResults_said : Rows.CallsResultsSaid :=
  OpenClaim.holds_of_wide 6 Tryd.f6 rfl rfl rfl rfl rfl rfl rfl ⟨rfl, rfl, rfl, rfl, rfl⟩ rfl rfl rfl rfl rfl (by kernel_rfl) Tryd.func6 (by kernel_rfl)
    (of_decide_eq_true (by kernel_rfl)) (by unfold Func.isWrapper; first | (rw [if_pos (by decide +kernel)]; kernel_rfl) | (rw [if_neg (by decide +kernel)]; exact ⟨rfl, rfl⟩))
    (fun os started H enc _ => callsResults_lifted os started H enc)

theorem callsResults_card : Rows.CallsResultsCardSaid :=
  Claim7.holds_tied_plain_at .later [] [.data] true (Rows.callsResultsCard.stood.harness) false
    callsResults_said (fun _ h => by cases h) (by kernel_rfl) (fun _ h => by cases h) callsResults_row_tie rfl ⟨rfl, rfl⟩ (by kernel_rfl) rfl
    (fun f fn hf hfn => by
      obtain rfl : f = 6 := Option.some.inj ((show Tryd.prog.funcNamed "byre/byrelaw19.CallsResults" = some 6 by kernel_rfl).symm.trans hf) |>.symm
      obtain rfl : fn = Tryd.f6 := (Option.some.inj (Tryd.func6.symm.trans hfn)).symm
      exact ⟨by kernel_rfl, fun j t ht => by
        rw [Tryd.params6] at ht
        have hm : t ∈ [41, 41] := by simpa using Array.mem_of_getElem? ht
        have hall : ([41, 41].all fun u => !Tryd.prog.wantsStandIn u) = true := by kernel_rfl
        exact (show Tryd.prog.wantsStandIn t = false by simpa using List.all_eq_true.1 hall t hm)⟩)
    (by kernel_rfl)
end Go.Proofs.YtkmjkkeldbocdaaDoor
