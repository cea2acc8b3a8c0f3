/-
  PROVED: 'byrelaw18.PolicyEach': for every input, of whatever size, the law returns true and leaves its arguments as they were.
  Its conditions: none but those that the row bears.
-/
import Derived.Test.YtcbdmdalijhkoaaKit
import Derived.Test.YtcbdmdalijhkoaaPolArg
import Derived.Test.YtcbdmdalijhkoaaPoLawEach
namespace Go.Proofs.Ytcbdmdalijhkoaa
open Go.ChangeShapes Go.WideShapes Go.ChangeAt Go.RowKit

section
variable (ok : PoOk)
include ok
set_option maxRecDepth 100000 in
theorem policyEach_law : LawP Try.checked 4 Try.f4 := by
  intro H enc W base args ds ps hval0 hA0
  have hval : ∀ (j : Nat) t v, Try.f4.params[j]? = some t → args[j]? = some v → Value.okWide Try.prog W .any base t v := hval0
  have hA : DataW.TrodAll enc Try.prog W 0 (fun _ => true) true Try.f4.params.toList args.toList ds ps := hA0
  clear hA0 hval0
  rw [Try.params4] at hA hval
  obtain ⟨v0, vs0, d0, ds0, p0, q0, hargs, rfl, rfl, h0, r0⟩ := trodAll_cons hA
  obtain ⟨v1, vs1, d1, ds1, p1, q1, rfl, rfl, rfl, h1, r1⟩ := trodAll_cons r0
  obtain ⟨v2, vs2, d2, ds2, p2, q2, rfl, rfl, rfl, h2, r2⟩ := trodAll_cons r1
  obtain ⟨v3, vs3, d3, ds3, p3, q3, rfl, rfl, rfl, h3, r3⟩ := trodAll_cons r2
  obtain ⟨rfl, rfl, rfl⟩ := trodAll_nil r3
  obtain rfl : args = #[v0, v1, v2, v3] := by cases args; simp_all
  obtain ⟨A, g, rfl, hC⟩ := cfg_arg (hval 0 26 v0 rfl rfl) h0
  obtain ⟨k, m, hk, hm, rfl⟩ := pol_arg (hval 1 29 v1 rfl rfl) h1
  obtain ⟨x, rfl, hx1, hx2⟩ := int_arg (hval 2 3 v2 rfl rfl) h2
  obtain ⟨y, rfl, hy1, hy2⟩ := int_arg (hval 3 3 v3 rfl rfl) h3
  exact peach_any ok A g k m hk hm x y ⟨hx1, hx2⟩ ⟨hy1, hy2⟩ W hC

set_option maxRecDepth 100000 in
theorem policyEach_lifted (os : Os) (started : os.Started) (H : Type) (enc : TypeId × Value → H) :
    ReturnsInHanded {} Try.checked os 4 .any (Rows.policyEachSpec.pre6 enc Try.prog Try.f4 Rows.policyEachRow.domain false) (Rows.policyEachSpec.post enc Try.prog Try.f4 false true false false) :=
  law_plain (C := Try.checked) (k := 4) (fn := Try.f4) (s := Rows.policyEachSpec) (tb := 4) own laidOut (by kernel_rfl) Try.func4 rfl
    (by rw [Try.params4]; exact fun t ht => of_decide_eq_true (List.all_eq_true.1 (show ([26, 29, 3, 3].all fun t => decide (Try.prog.readableRec t = true ∧ t < Try.prog.types.size)) = true by kernel_rfl) t ht))
    rfl Try.underlying4
    (fun H ds h => by
      rw [Try.params4] at h
      match ds, h with
      | [_, _, _, _], _ => rfl)
    (policyEach_law ok) os started H enc
    (ChangeSpec.witness6 (enc := enc) (C := Try.checked) false ⟨#[], #[.agg (Array.replicate 94 (.int .i64 0)), .agg #[.int .u8 0, .int .u8 0], .int .i64 0, .int .i64 0], []⟩ 100 (by kernel_rfl) (by kernel_rfl) (by kernel_rfl) (by kernel_rfl))
theorem policyEach_of : Rows.PolicyEachSaid :=
  OpenClaim.holds_of_wide 4 Try.f4 rfl rfl rfl rfl rfl rfl rfl ⟨rfl, rfl, rfl, rfl, rfl⟩ rfl rfl rfl rfl rfl (by kernel_rfl) Try.func4 (by kernel_rfl)
    (of_decide_eq_true (by kernel_rfl)) (by unfold Func.isWrapper; first | (rw [if_pos (by decide +kernel)]; kernel_rfl) | (rw [if_neg (by decide +kernel)]; exact ⟨rfl, rfl⟩))
    (fun os started H enc _ => policyEach_lifted ok os started H enc)
end
end Go.Proofs.Ytcbdmdalijhkoaa
