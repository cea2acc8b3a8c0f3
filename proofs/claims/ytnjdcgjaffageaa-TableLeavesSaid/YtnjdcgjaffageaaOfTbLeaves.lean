/-
  PROVED: 'byrelaw14.TableLeaves': for every input, of whatever size, the law returns true and leaves its arguments as they were.
  Its conditions: none but those that the row bears.
-/
import Derived.Test.YtnjdcgjaffageaaKit
import Derived.Test.YtnjdcgjaffageaaKit
import Derived.Test.YtnjdcgjaffageaaTbLawLeaves
namespace Go.Proofs.Ytnjdcgjaffageaa
open Go.ChangeShapes Go.WideShapes Go.ChangeAt Go.RowKit

section
variable {IsT : Thg → Nat → (Nat → Nat) → (Nat → Nat → Ent) → Prop} (ok : TabOk IsT)
include ok
set_option maxRecDepth 100000 in
theorem tableLeaves_law : LawP Try.checked 5 Try.f5 := by
  intro H enc W base args ds ps hval0 hA0
  have hval : ∀ (j : Nat) t v, Try.f5.params[j]? = some t → args[j]? = some v → Value.okWide Try.prog W .any base t v := hval0
  have hA : DataW.TrodAll enc Try.prog W 0 (fun _ => true) true Try.f5.params.toList args.toList ds ps := hA0
  clear hA0 hval0
  rw [Try.params5] at hA hval
  obtain ⟨v0, vs0, d0, ds0, p0, q0, hargs, rfl, rfl, h0, r0⟩ := trodAll_cons hA
  obtain ⟨v1, vs1, d1, ds1, p1, q1, rfl, rfl, rfl, h1, r1⟩ := trodAll_cons r0
  obtain ⟨rfl, rfl, rfl⟩ := trodAll_nil r1
  obtain rfl : args = #[v0, v1] := by cases args; simp_all
  obtain ⟨a, len, cap, rfl⟩ := okWide_slice Try.underlying32 (hval 0 32 v0 rfl rfl)
  obtain ⟨a2, len2, cap2, rfl⟩ := okWide_slice Try.underlying32 (hval 1 32 v1 rfl rfl)
  obtain ⟨z, hz⟩ := ints_of h0
  obtain ⟨z2, hz2⟩ := ints_of h1
  exact lawTLeaves_any ok a len cap z a2 len2 cap2 z2 W hz hz2

set_option maxRecDepth 100000 in
theorem tableLeaves_lifted (os : Os) (started : os.Started) (H : Type) (enc : TypeId × Value → H) :
    ReturnsInHanded {} Try.checked os 5 .any (Rows.tableLeavesSpec.pre6 enc Try.prog Try.f5 Rows.tableLeavesRow.domain false) (Rows.tableLeavesSpec.post enc Try.prog Try.f5 false true false false) :=
  law_plain (C := Try.checked) (k := 5) (fn := Try.f5) (s := Rows.tableLeavesSpec) (tb := 4) own laidOut (by kernel_rfl) Try.func5 rfl
    (by rw [Try.params5]; exact fun t ht => of_decide_eq_true (List.all_eq_true.1 (show ([32, 32].all fun t => decide (Try.prog.readableRec t = true ∧ t < Try.prog.types.size)) = true by kernel_rfl) t ht))
    rfl Try.underlying4
    (fun H ds h => by
      rw [Try.params5] at h
      match ds, h with
      | [_, _], _ => rfl)
    (tableLeaves_law ok) os started H enc
    (ChangeSpec.witness6 (enc := enc) (C := Try.checked) false ⟨#[], #[.slice none 0 0, .slice none 0 0], []⟩ 100 (by kernel_rfl) (by kernel_rfl) (by kernel_rfl) (by kernel_rfl))
theorem tableLeaves_of : Rows.TableLeavesSaid :=
  OpenClaim.holds_of_wide 5 Try.f5 rfl rfl rfl rfl rfl rfl rfl ⟨rfl, rfl, rfl, rfl, rfl⟩ rfl rfl rfl rfl rfl (by kernel_rfl) Try.func5 (by kernel_rfl)
    (of_decide_eq_true (by kernel_rfl)) (by unfold Func.isWrapper; first | (rw [if_pos (by decide +kernel)]; kernel_rfl) | (rw [if_neg (by decide +kernel)]; exact ⟨rfl, rfl⟩))
    (fun os started H enc _ => tableLeaves_lifted ok os started H enc)
end
end Go.Proofs.Ytnjdcgjaffageaa
