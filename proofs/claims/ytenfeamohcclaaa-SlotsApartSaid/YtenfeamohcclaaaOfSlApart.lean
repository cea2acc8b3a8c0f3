/-
  PROVED: 'byrelaw16.SlotsApart': for every input, of whatever size, the law returns true and leaves its arguments as they were.
  Its conditions: none but those that the row bears.
-/
import Derived.Test.YtenfeamohcclaaaKit
import Derived.Test.YtenfeamohcclaaaIntArg
import Derived.Test.YtenfeamohcclaaaSlLawApart
namespace Go.Proofs.Ytenfeamohcclaaa
open Go.ChangeShapes Go.WideShapes Go.ChangeAt Go.RowKit

section
variable {IsS : Thg → Nat → Nat → (Nat → Ownr) → Prop} (ok : SlOk IsS)
include ok
set_option maxRecDepth 100000 in
theorem slotsApart_law : LawP Try.checked 4 Try.f4 := by
  intro H enc W base args ds ps hval0 hA0
  have hval : ∀ (j : Nat) t v, Try.f4.params[j]? = some t → args[j]? = some v → Value.okWide Try.prog W .any base t v := hval0
  have hA : DataW.TrodAll enc Try.prog W 0 (fun _ => true) true Try.f4.params.toList args.toList ds ps := hA0
  clear hA0 hval0
  rw [Try.params4] at hA hval
  obtain ⟨v0, vs0, d0, ds0, p0, q0, hargs, rfl, rfl, h0, r0⟩ := trodAll_cons hA
  obtain ⟨v1, vs1, d1, ds1, p1, q1, rfl, rfl, rfl, h1, r1⟩ := trodAll_cons r0
  obtain ⟨rfl, rfl, rfl⟩ := trodAll_nil r1
  obtain rfl : args = #[v0, v1] := by cases args; simp_all
  obtain ⟨x, rfl, hx1, hx2⟩ := int_arg (hval 0 3 v0 rfl rfl) h0
  obtain ⟨a, len, cap, rfl⟩ := okWide_slice Try.underlying22 (hval 1 22 v1 rfl rfl)
  obtain ⟨O, hO⟩ := ops_of h1
  exact lawSApart_any ok x a len cap O W ⟨hx1, hx2⟩ hO

set_option maxRecDepth 100000 in
theorem slotsApart_lifted (os : Os) (started : os.Started) (H : Type) (enc : TypeId × Value → H) :
    ReturnsInHanded {} Try.checked os 4 .any (Rows.slotsApartSpec.pre6 enc Try.prog Try.f4 Rows.slotsApartRow.domain false) (Rows.slotsApartSpec.post enc Try.prog Try.f4 false true false false) :=
  law_plain (C := Try.checked) (k := 4) (fn := Try.f4) (s := Rows.slotsApartSpec) (tb := 4) own laidOut (by kernel_rfl) Try.func4 rfl
    (by rw [Try.params4]; exact fun t ht => of_decide_eq_true (List.all_eq_true.1 (show ([3, 22].all fun t => decide (Try.prog.readableRec t = true ∧ t < Try.prog.types.size)) = true by kernel_rfl) t ht))
    rfl Try.underlying4
    (fun H ds h => by
      rw [Try.params4] at h
      match ds, h with
      | [_, _], _ => rfl)
    (slotsApart_law ok) os started H enc
    (ChangeSpec.witness6 (enc := enc) (C := Try.checked) false ⟨#[], #[.int .i64 0, .slice none 0 0], []⟩ 100 (by kernel_rfl) (by kernel_rfl) (by kernel_rfl) (by kernel_rfl))
theorem slotsApart_of : Rows.SlotsApartSaid :=
  OpenClaim.holds_of_wide 4 Try.f4 rfl rfl rfl rfl rfl rfl rfl ⟨rfl, rfl, rfl, rfl, rfl⟩ rfl rfl rfl rfl rfl (by kernel_rfl) Try.func4 (by kernel_rfl)
    (of_decide_eq_true (by kernel_rfl)) (by unfold Func.isWrapper; first | (rw [if_pos (by decide +kernel)]; kernel_rfl) | (rw [if_neg (by decide +kernel)]; exact ⟨rfl, rfl⟩))
    (fun os started H enc _ => slotsApart_lifted ok os started H enc)
end
end Go.Proofs.Ytenfeamohcclaaa
