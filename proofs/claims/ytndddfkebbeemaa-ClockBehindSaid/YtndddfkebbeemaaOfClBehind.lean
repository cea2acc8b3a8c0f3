/-
  PROVED: 'byrelaw17.ClockBehind': for every input, of whatever size, the law returns true and leaves its arguments as they were.
  Its conditions: none but those that the row bears.
-/
import Derived.Test.YtndddfkebbeemaaKit
import Derived.Test.YtndddfkebbeemaaKit
import Derived.Test.YtndddfkebbeemaaClOps
import Derived.Test.YtndddfkebbeemaaClLawBehind
namespace Go.Proofs.Ytndddfkebbeemaa
open Go.ChangeShapes Go.WideShapes Go.ChangeAt Go.RowKit

section
variable {IsC : Thg → Nat → List Fr → Prop} (ok : ClOk IsC)
include ok
set_option maxRecDepth 100000 in
theorem clockBehind_law : LawP Try.checked 8 Try.f8 := by
  intro H enc W base args ds ps hval0 hA0
  have hval : ∀ (j : Nat) t v, Try.f8.params[j]? = some t → args[j]? = some v → Value.okWide Try.prog W .any base t v := hval0
  have hA : DataW.TrodAll enc Try.prog W 0 (fun _ => true) true Try.f8.params.toList args.toList ds ps := hA0
  clear hA0 hval0
  rw [Try.params8] at hA hval
  obtain ⟨v0, vs0, d0, ds0, p0, q0, hargs, rfl, rfl, h0, r0⟩ := trodAll_cons hA
  obtain ⟨rfl, rfl, rfl⟩ := trodAll_nil r0
  obtain rfl : args = #[v0] := by cases args; simp_all
  obtain ⟨a, len, cap, rfl⟩ := okWide_slice Try.underlying22 (hval 0 22 v0 rfl rfl)
  obtain ⟨O, hO⟩ := ops_of h0
  exact lawCBehind_any ok a len cap O W hO

set_option maxRecDepth 100000 in
theorem clockBehind_lifted (os : Os) (started : os.Started) (H : Type) (enc : TypeId × Value → H) :
    ReturnsInHanded {} Try.checked os 8 .any (Rows.clockBehindSpec.pre6 enc Try.prog Try.f8 Rows.clockBehindRow.domain false) (Rows.clockBehindSpec.post enc Try.prog Try.f8 false true false false) :=
  law_plain (C := Try.checked) (k := 8) (fn := Try.f8) (s := Rows.clockBehindSpec) (tb := 4) own laidOut (by kernel_rfl) Try.func8 rfl
    (by rw [Try.params8]; exact fun t ht => of_decide_eq_true (List.all_eq_true.1 (show ([22].all fun t => decide (Try.prog.readableRec t = true ∧ t < Try.prog.types.size)) = true by kernel_rfl) t ht))
    rfl Try.underlying4
    (fun H ds h => by
      rw [Try.params8] at h
      match ds, h with
      | [_], _ => rfl)
    (clockBehind_law ok) os started H enc
    (ChangeSpec.witness6 (enc := enc) (C := Try.checked) false ⟨#[], #[.slice none 0 0], []⟩ 100 (by kernel_rfl) (by kernel_rfl) (by kernel_rfl) (by kernel_rfl))
theorem clockBehind_of : Rows.ClockBehindSaid :=
  OpenClaim.holds_of_wide 8 Try.f8 rfl rfl rfl rfl rfl rfl rfl ⟨rfl, rfl, rfl, rfl, rfl⟩ rfl rfl rfl rfl rfl (by kernel_rfl) Try.func8 (by kernel_rfl)
    (of_decide_eq_true (by kernel_rfl)) (by unfold Func.isWrapper; first | (rw [if_pos (by decide +kernel)]; kernel_rfl) | (rw [if_neg (by decide +kernel)]; exact ⟨rfl, rfl⟩))
    (fun os started H enc _ => clockBehind_lifted ok os started H enc)
end
end Go.Proofs.Ytndddfkebbeemaa
