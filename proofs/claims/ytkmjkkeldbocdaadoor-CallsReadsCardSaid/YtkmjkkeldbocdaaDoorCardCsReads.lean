/-
  PROVED: the tied card of 'byrelaw19.CallsReads': for every input, of whatever size, the law returns true and leaves its arguments as they were.
  Its conditions: those that the card's row bears: the listed variables start as the program's text lays them (tied).
-/
import Derived.Test.YtkmjkkeldbocdaaDoorCsArg
import Derived.Test.YtkmjkkeldbocdaaDoorCsLawReads
import Derived.Test.YtkmjkkeldbocdaaDoorM04
import Derived.Test.YtkmjkkeldbocdaaDoorCards
import Derived.Test.YtkmjkkeldbocdaaDoorTie
namespace Go.Proofs.YtkmjkkeldbocdaaDoor
open Go.ChangeShapes Go.WideShapes Go.ChangeAt Go.RowKit

set_option maxRecDepth 100000 in
theorem callsReads_law : Law Tryd.checked 4 Tryd.f4 (laidMetH Tryd.prog laidL) := by
  intro H enc W base args ds ps hval0 hA0 hL hwt
  have hval : ∀ (j : Nat) t v, Tryd.f4.params[j]? = some t → args[j]? = some v → Value.okWide Tryd.prog W .any base t v := hval0
  have hA : DataW.TrodAll enc Tryd.prog W 0 (fun _ => true) true Tryd.f4.params.toList args.toList ds ps := hA0
  clear hA0 hval0
  rw [Tryd.params4] at hA hval
  obtain ⟨v0, vs0, d0, ds0, p0, q0, hargs, rfl, rfl, h0, r0⟩ := trodAll_cons hA
  obtain ⟨rfl, rfl, rfl⟩ := trodAll_nil r0
  obtain rfl : args = #[v0] := by cases args; simp_all
  obtain ⟨a, n, c, x, rfl, hx⟩ := bytes_arg2 (hval 0 27 v0 rfl rfl) h0
  exact lreads_any cs_ok (fld_of_laid hL) hx

set_option maxRecDepth 100000 in
theorem callsReads_lifted (os : Os) (started : os.Started) (H : Type) (enc : TypeId × Value → H) :
    ReturnsInHanded {} Tryd.checked os 4 .any (fun w args => (Rows.callsReadsSpec.pre enc Tryd.prog Tryd.f4 [] false w args ∧ laidMetH Tryd.prog laidL w) ∧ sizedMet enc Tryd.prog Tryd.f4 (OpenSpec.ofChange Rows.callsReadsSpec) false w args)
      (Rows.callsReadsSpec.post enc Tryd.prog Tryd.f4 false true false false) :=
  law_lifted (C := Tryd.checked) (k := 4) (fn := Tryd.f4) (s := Rows.callsReadsSpec) (X := laidMetH Tryd.prog laidL) (tb := 4) (fun _ _ hh h => h.of_heap hh) own laidOut (by kernel_rfl) Tryd.func4 rfl
    (by rw [Tryd.params4]; exact fun t ht => of_decide_eq_true (List.all_eq_true.1 (show ([27].all fun t => decide (Tryd.prog.readableRec t = true ∧ t < Tryd.prog.types.size)) = true by kernel_rfl) t ht))
    rfl Tryd.underlying4
    (fun H ds h => by
      rw [Tryd.params4] at h
      match ds, h with
      | [_], _ => rfl)
    callsReads_law os started H enc
    (ChangeSpec.witness_shaped (enc := enc) (C := Tryd.checked) (os := os) (X := fun w _ => laidMetH Tryd.prog laidL w) false (World.laidAll Tryd.prog os laidL) #[.slice none 0 0] 8 (World.laidAll_os _ _ _)
      (World.shaped_of_ZipB (by kernel_rfl) (by kernel_rfl)) (by kernel_rfl) (by kernel_rfl) (by kernel_rfl)
      (by rw [MakeChecks.laidMetH_plain _ _ _ (by kernel_rfl)]; exact laidMet_laidAll _ (by kernel_rfl) (by kernel_rfl)))
theorem callsReads_said : Rows.CallsReadsSaid :=
  OpenClaim.holds_of_wide 4 Tryd.f4 rfl rfl rfl rfl rfl rfl rfl ⟨rfl, rfl, rfl, rfl, rfl⟩ rfl rfl rfl rfl rfl (by kernel_rfl) Tryd.func4 (by kernel_rfl)
    (of_decide_eq_true (by kernel_rfl)) (by unfold Func.isWrapper; first | (rw [if_pos (by decide +kernel)]; kernel_rfl) | (rw [if_neg (by decide +kernel)]; exact ⟨rfl, rfl⟩))
    (fun os started H enc _ => callsReads_lifted os started H enc)

theorem callsReads_card : Rows.CallsReadsCardSaid :=
  Claim7.holds_tied_plain_at .later [] [.data] true (Rows.callsReadsCard.stood.harness) false
    callsReads_said (fun _ h => by cases h) (by kernel_rfl) (fun _ h => by cases h) callsReads_row_tie rfl ⟨rfl, rfl⟩ (by kernel_rfl) rfl
    (fun f fn hf hfn => by
      obtain rfl : f = 4 := Option.some.inj ((show Tryd.prog.funcNamed "byre/byrelaw19.CallsReads" = some 4 by kernel_rfl).symm.trans hf) |>.symm
      obtain rfl : fn = Tryd.f4 := (Option.some.inj (Tryd.func4.symm.trans hfn)).symm
      exact ⟨by kernel_rfl, fun j t ht => by
        rw [Tryd.params4] at ht
        have hm : t ∈ [27] := by simpa using Array.mem_of_getElem? ht
        have hall : ([27].all fun u => !Tryd.prog.wantsStandIn u) = true := by kernel_rfl
        exact (show Tryd.prog.wantsStandIn t = false by simpa using List.all_eq_true.1 hall t hm)⟩)
    (by kernel_rfl)
end Go.Proofs.YtkmjkkeldbocdaaDoor
