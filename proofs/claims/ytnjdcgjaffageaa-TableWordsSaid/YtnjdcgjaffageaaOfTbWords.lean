/-
  PROVED: 'byrelaw14.TableWords': for every input, of whatever size, the law returns true and leaves its arguments as they were.
  Its conditions: none but those that the row bears.
-/
import Derived.Test.YtnjdcgjaffageaaKit
import Derived.Test.YtnjdcgjaffageaaKit
import Derived.Test.YtnjdcgjaffageaaTbLawWords
import Derived.Test.YtnjdcgjaffageaaTbOps
namespace Go.Proofs.Ytnjdcgjaffageaa
open Go.ChangeShapes Go.WideShapes Go.ChangeAt Go.RowKit

section
variable {IsT : Thg → Nat → (Nat → Nat) → (Nat → Nat → Ent) → Prop} (ok : TabOk IsT)
include ok
set_option maxRecDepth 100000 in
theorem tableWords_law : LawP Try.checked 3 Try.f3 := by
  intro H enc W base args ds ps hval0 hA0
  have hval : ∀ (j : Nat) t v, Try.f3.params[j]? = some t → args[j]? = some v → Value.okWide Try.prog W .any base t v := hval0
  have hA : DataW.TrodAll enc Try.prog W 0 (fun _ => true) true Try.f3.params.toList args.toList ds ps := hA0
  clear hA0 hval0
  rw [Try.params3] at hA hval
  obtain ⟨v0, vs0, d0, ds0, p0, q0, hargs, rfl, rfl, h0, r0⟩ := trodAll_cons hA
  obtain ⟨v1, vs1, d1, ds1, p1, q1, rfl, rfl, rfl, h1, r1⟩ := trodAll_cons r0
  obtain ⟨rfl, rfl, rfl⟩ := trodAll_nil r1
  obtain rfl : args = #[v0, v1] := by cases args; simp_all
  obtain ⟨x, rfl, hx⟩ := ent_arg (hval 0 23 v0 rfl rfl) h0
  obtain ⟨n, rfl, hn⟩ := u64_arg (hval 1 24 v1 rfl rfl) h1
  exact lawTWords_any ok x.1 x.2 n hx.1 hx.2 hn W

set_option maxRecDepth 100000 in
theorem tableWords_lifted (os : Os) (started : os.Started) (H : Type) (enc : TypeId × Value → H) :
    ReturnsInHanded {} Try.checked os 3 .any (Rows.tableWordsSpec.pre6 enc Try.prog Try.f3 Rows.tableWordsRow.domain false) (Rows.tableWordsSpec.post enc Try.prog Try.f3 false true false false) :=
  law_plain (C := Try.checked) (k := 3) (fn := Try.f3) (s := Rows.tableWordsSpec) (tb := 4) own laidOut (by kernel_rfl) Try.func3 rfl
    (by rw [Try.params3]; exact fun t ht => of_decide_eq_true (List.all_eq_true.1 (show ([23, 24].all fun t => decide (Try.prog.readableRec t = true ∧ t < Try.prog.types.size)) = true by kernel_rfl) t ht))
    rfl Try.underlying4
    (fun H ds h => by
      rw [Try.params3] at h
      match ds, h with
      | [_, _], _ => rfl)
    (tableWords_law ok) os started H enc
    (ChangeSpec.witness6 (enc := enc) (C := Try.checked) false ⟨#[], #[.agg #[.int .u8 0, .int .i64 0], .int .u64 0], []⟩ 100 (by kernel_rfl) (by kernel_rfl) (by kernel_rfl) (by kernel_rfl))
theorem tableWords_of : Rows.TableWordsSaid :=
  OpenClaim.holds_of_wide 3 Try.f3 rfl rfl rfl rfl rfl rfl rfl ⟨rfl, rfl, rfl, rfl, rfl⟩ rfl rfl rfl rfl rfl (by kernel_rfl) Try.func3 (by kernel_rfl)
    (of_decide_eq_true (by kernel_rfl)) (by unfold Func.isWrapper; first | (rw [if_pos (by decide +kernel)]; kernel_rfl) | (rw [if_neg (by decide +kernel)]; exact ⟨rfl, rfl⟩))
    (fun os started H enc _ => tableWords_lifted ok os started H enc)
end
end Go.Proofs.Ytnjdcgjaffageaa
