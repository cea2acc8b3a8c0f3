/-
  PROVED: 'byrelaw17.ClockNone': for every input, of whatever size, the law returns true and leaves its arguments as they were.
  Its conditions: none but those that the row bears.
-/
import Derived.Test.YtndddfkebbeemaaKit
import Derived.Test.YtndddfkebbeemaaIntArg
import Derived.Test.YtndddfkebbeemaaClLawNone
namespace Go.Proofs.Ytndddfkebbeemaa
open Go.ChangeShapes Go.WideShapes Go.ChangeAt Go.RowKit

section
variable {IsC : Thg → Nat → List Fr → Prop} {IsZ : Thg → Option Nat → Prop} {zc : Array Value} (ok : ClOk IsC) (no : ClNone IsZ zc)
include ok no
set_option maxRecDepth 100000 in
theorem clockNone_law : LawP Try.checked 6 Try.f6 := by
  intro H enc W base args ds ps hval0 hA0
  have hval : ∀ (j : Nat) t v, Try.f6.params[j]? = some t → args[j]? = some v → Value.okWide Try.prog W .any base t v := hval0
  have hA : DataW.TrodAll enc Try.prog W 0 (fun _ => true) true Try.f6.params.toList args.toList ds ps := hA0
  clear hA0 hval0
  rw [Try.params6] at hA hval
  obtain ⟨v0, vs0, d0, ds0, p0, q0, hargs, rfl, rfl, h0, r0⟩ := trodAll_cons hA
  obtain ⟨rfl, rfl, rfl⟩ := trodAll_nil r0
  obtain rfl : args = #[v0] := by cases args; simp_all
  obtain ⟨x, rfl, hx1, hx2⟩ := int_arg (hval 0 3 v0 rfl rfl) h0
  exact lawCNone_any ok no x W ⟨hx1, hx2⟩

set_option maxRecDepth 100000 in
theorem clockNone_lifted (os : Os) (started : os.Started) (H : Type) (enc : TypeId × Value → H) :
    ReturnsInHanded {} Try.checked os 6 .any (Rows.clockNoneSpec.pre6 enc Try.prog Try.f6 Rows.clockNoneRow.domain false) (Rows.clockNoneSpec.post enc Try.prog Try.f6 false true false false) :=
  law_plain (C := Try.checked) (k := 6) (fn := Try.f6) (s := Rows.clockNoneSpec) (tb := 4) own laidOut (by kernel_rfl) Try.func6 rfl
    (by rw [Try.params6]; exact fun t ht => of_decide_eq_true (List.all_eq_true.1 (show ([3].all fun t => decide (Try.prog.readableRec t = true ∧ t < Try.prog.types.size)) = true by kernel_rfl) t ht))
    rfl Try.underlying4
    (fun H ds h => by
      rw [Try.params6] at h
      match ds, h with
      | [_], _ => rfl)
    (clockNone_law ok no) os started H enc
    (ChangeSpec.witness6 (enc := enc) (C := Try.checked) false ⟨#[], #[.int .i64 0], []⟩ 100 (by kernel_rfl) (by kernel_rfl) (by kernel_rfl) (by kernel_rfl))
theorem clockNone_of : Rows.ClockNoneSaid :=
  OpenClaim.holds_of_wide 6 Try.f6 rfl rfl rfl rfl rfl rfl rfl ⟨rfl, rfl, rfl, rfl, rfl⟩ rfl rfl rfl rfl rfl (by kernel_rfl) Try.func6 (by kernel_rfl)
    (of_decide_eq_true (by kernel_rfl)) (by unfold Func.isWrapper; first | (rw [if_pos (by decide +kernel)]; kernel_rfl) | (rw [if_neg (by decide +kernel)]; exact ⟨rfl, rfl⟩))
    (fun os started H enc _ => clockNone_lifted ok no os started H enc)
end
end Go.Proofs.Ytndddfkebbeemaa
