/-
  PROVED: 'byrelaw17.ClockNew': for every input, of whatever size, the law returns true and leaves its arguments as they were.
  Its conditions: none but those that the row bears.
-/
import Derived.Test.YtndddfkebbeemaaKit
import Derived.Test.YtndddfkebbeemaaIntArg
import Derived.Test.YtndddfkebbeemaaClOps
import Derived.Test.YtndddfkebbeemaaClLawNew
namespace Go.Proofs.Ytndddfkebbeemaa
open Go.ChangeShapes Go.WideShapes Go.ChangeAt Go.RowKit

section
variable {IsC : Thg → Nat → List Fr → Prop} (ok : ClOk IsC)
include ok
set_option maxRecDepth 100000 in
theorem clockNew_law : LawP Try.checked 7 Try.f7 := by
  intro H enc W base args ds ps hval0 hA0
  have hval : ∀ (j : Nat) t v, Try.f7.params[j]? = some t → args[j]? = some v → Value.okWide Try.prog W .any base t v := hval0
  have hA : DataW.TrodAll enc Try.prog W 0 (fun _ => true) true Try.f7.params.toList args.toList ds ps := hA0
  clear hA0 hval0
  rw [Try.params7] at hA hval
  obtain ⟨v0, vs0, d0, ds0, p0, q0, hargs, rfl, rfl, h0, r0⟩ := trodAll_cons hA
  obtain ⟨v1, vs1, d1, ds1, p1, q1, rfl, rfl, rfl, h1, r1⟩ := trodAll_cons r0
  obtain ⟨v2, vs2, d2, ds2, p2, q2, rfl, rfl, rfl, h2, r2⟩ := trodAll_cons r1
  obtain ⟨rfl, rfl, rfl⟩ := trodAll_nil r2
  obtain rfl : args = #[v0, v1, v2] := by cases args; simp_all
  obtain ⟨a, len, cap, rfl⟩ := okWide_slice Try.underlying22 (hval 0 22 v0 rfl rfl)
  obtain ⟨x, rfl, hx1, hx2⟩ := int_arg (hval 1 3 v1 rfl rfl) h1
  obtain ⟨y, rfl, hy1, hy2⟩ := int_arg (hval 2 3 v2 rfl rfl) h2
  obtain ⟨O, hO⟩ := ops_of h0
  exact lawCNew_any ok x y a len cap O W ⟨hx1, hx2⟩ hO

set_option maxRecDepth 100000 in
theorem clockNew_lifted (os : Os) (started : os.Started) (H : Type) (enc : TypeId × Value → H) :
    ReturnsInHanded {} Try.checked os 7 .any (Rows.clockNewSpec.pre6 enc Try.prog Try.f7 Rows.clockNewRow.domain false) (Rows.clockNewSpec.post enc Try.prog Try.f7 false true false false) :=
  law_plain (C := Try.checked) (k := 7) (fn := Try.f7) (s := Rows.clockNewSpec) (tb := 4) own laidOut (by kernel_rfl) Try.func7 rfl
    (by rw [Try.params7]; exact fun t ht => of_decide_eq_true (List.all_eq_true.1 (show ([22, 3, 3].all fun t => decide (Try.prog.readableRec t = true ∧ t < Try.prog.types.size)) = true by kernel_rfl) t ht))
    rfl Try.underlying4
    (fun H ds h => by
      rw [Try.params7] at h
      match ds, h with
      | [_, _, _], _ => rfl)
    (clockNew_law ok) os started H enc
    (ChangeSpec.witness6 (enc := enc) (C := Try.checked) false ⟨#[], #[.slice none 0 0, .int .i64 0, .int .i64 0], []⟩ 100 (by kernel_rfl) (by kernel_rfl) (by kernel_rfl) (by kernel_rfl))
theorem clockNew_of : Rows.ClockNewSaid :=
  OpenClaim.holds_of_wide 7 Try.f7 rfl rfl rfl rfl rfl rfl rfl ⟨rfl, rfl, rfl, rfl, rfl⟩ rfl rfl rfl rfl rfl (by kernel_rfl) Try.func7 (by kernel_rfl)
    (of_decide_eq_true (by kernel_rfl)) (by unfold Func.isWrapper; first | (rw [if_pos (by decide +kernel)]; kernel_rfl) | (rw [if_neg (by decide +kernel)]; exact ⟨rfl, rfl⟩))
    (fun os started H enc _ => clockNew_lifted ok os started H enc)
end
end Go.Proofs.Ytndddfkebbeemaa
