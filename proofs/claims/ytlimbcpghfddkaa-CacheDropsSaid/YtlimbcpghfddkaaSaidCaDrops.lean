/-
  PROVED: 'byrelaw09.CacheDrops': for every input, of whatever size, the law returns true and leaves its arguments as they were.
  Its conditions: none but those that the row bears.
-/
import Derived.Test.YtlimbcpghfddkaaKit
import Derived.Test.YtlimbcpghfddkaaIntArg
import Derived.Test.YtlimbcpghfddkaaCaLawDrops
namespace Go.Proofs.Ytlimbcpghfddkaa
open Go.ChangeShapes Go.WideShapes Go.ChangeAt Go.RowKit

set_option maxRecDepth 100000 in
theorem cacheDrops_law : LawP Try.checked 8 Try.f8 := by
  intro H enc W base args ds ps hval0 hA0
  have hval : ∀ (j : Nat) t v, Try.f8.params[j]? = some t → args[j]? = some v → Value.okWide Try.prog W .any base t v := hval0
  have hA : DataW.TrodAll enc Try.prog W 0 (fun _ => true) true Try.f8.params.toList args.toList ds ps := hA0
  clear hA0 hval0
  rw [Try.params8] at hA hval
  obtain ⟨v0, vs0, d0, ds0, p0, q0, hargs, rfl, rfl, h0, r0⟩ := trodAll_cons hA
  obtain ⟨v1, vs1, d1, ds1, p1, q1, rfl, rfl, rfl, h1, r1⟩ := trodAll_cons r0
  obtain ⟨v2, vs2, d2, ds2, p2, q2, rfl, rfl, rfl, h2, r2⟩ := trodAll_cons r1
  obtain ⟨v3, vs3, d3, ds3, p3, q3, rfl, rfl, rfl, h3, r3⟩ := trodAll_cons r2
  obtain ⟨v4, vs4, d4, ds4, p4, q4, rfl, rfl, rfl, h4, r4⟩ := trodAll_cons r3
  obtain ⟨rfl, rfl, rfl⟩ := trodAll_nil r4
  obtain rfl : args = #[v0, v1, v2, v3, v4] := by cases args; simp_all
  obtain ⟨n, rfl, n1, n2⟩ := int_arg (hval 0 3 v0 rfl rfl) h0
  obtain ⟨m, rfl, m1, m2⟩ := int_arg (hval 1 3 v1 rfl rfl) h1
  obtain ⟨tk, rfl, t1, t2⟩ := int_arg (hval 2 3 v2 rfl rfl) h2
  obtain ⟨bk, rfl, _⟩ := u64_arg (hval 3 47 v3 rfl rfl) h3
  obtain ⟨fr, rfl, f1, f2⟩ := int_arg (hval 4 3 v4 rfl rfl) h4
  exact lawDrops_any n m tk bk fr W

set_option maxRecDepth 100000 in
theorem cacheDrops_lifted (os : Os) (started : os.Started) (H : Type) (enc : TypeId × Value → H) :
    ReturnsInHanded {} Try.checked os 8 .any (Rows.cacheDropsSpec.pre6 enc Try.prog Try.f8 Rows.cacheDropsRow.domain false) (Rows.cacheDropsSpec.post enc Try.prog Try.f8 false true false false) :=
  law_plain (C := Try.checked) (k := 8) (fn := Try.f8) (s := Rows.cacheDropsSpec) (tb := 4) own laidOut (by kernel_rfl) Try.func8 rfl
    (by rw [Try.params8]; exact fun t ht => of_decide_eq_true (List.all_eq_true.1 (show ([3, 3, 3, 47, 3].all fun t => decide (Try.prog.readableRec t = true ∧ t < Try.prog.types.size)) = true by kernel_rfl) t ht))
    rfl Try.underlying4
    (fun H ds h => by
      rw [Try.params8] at h
      match ds, h with
      | [_, _, _, _, _], _ => rfl)
    cacheDrops_law os started H enc
    (ChangeSpec.witness6 (enc := enc) (C := Try.checked) false ⟨#[], #[.int .i64 0, .int .i64 0, .int .i64 0, .int .u64 0, .int .i64 0], []⟩ 100 (by kernel_rfl) (by kernel_rfl) (by kernel_rfl) (by kernel_rfl))
theorem cacheDrops_said : Rows.CacheDropsSaid :=
  OpenClaim.holds_of_wide 8 Try.f8 rfl rfl rfl rfl rfl rfl rfl ⟨rfl, rfl, rfl, rfl, rfl⟩ rfl rfl rfl rfl rfl (by kernel_rfl) Try.func8 (by kernel_rfl)
    (of_decide_eq_true (by kernel_rfl)) (by unfold Func.isWrapper; first | (rw [if_pos (by decide +kernel)]; kernel_rfl) | (rw [if_neg (by decide +kernel)]; exact ⟨rfl, rfl⟩))
    (fun os started H enc _ => cacheDrops_lifted os started H enc)
end Go.Proofs.Ytlimbcpghfddkaa
