/-
  The table's laws' own config of four frames.
-/
import Derived.Test.YtnjdcgjaffageaaTbOk
namespace Go.Proofs.Ytnjdcgjaffageaa
open Go.RowKit Go

theorem builtFour : Try.prog.built 41 [(0, .int .i64 1), (1, .int .i64 1)] = some (ofG four0) := by kernel_rfl
theorem four_may : mayB fourG = true := by decide +kernel
theorem four_good : Good fourG := (good_iff _).1 four_may
theorem four_total : totalI fourG = 4 := by decide +kernel
theorem four_sum : sumF fourG 1 = 4 := by decide +kernel

theorem four_any (w : World) :
    Calls Try.prog 12 #[] w fun e w' => ∃ A', e = .returned (.agg A') ∧ Cfg A' fourG ∧ Below w.heap.size w w' := by
  obtain ⟨Z, hz, hZ⟩ := zeroCfg
  have hb := builtFour
  have hL := cfg_ofG four0
  generalize ofG four0 = L at hb hL
  have hS1 := store_last (w.alloc (.cells Z 41)) hz hL
  rw [show (w.alloc (.cells Z 41)).heap.size = w.heap.size + 1 by simp] at hS1
  have l18 : L[18]? = some (.int .i64 0) := hL.get 18 (by decide)
  have hM := hL.set 18 4
  obtain ⟨M, s2⟩ : ∃ M, L.setIfInBounds 18 (.int .i64 4) = M := ⟨_, rfl⟩
  rw [s2] at hM
  have HE := Lib.hid (hM.ext (h := fourG) (fun i hi => by
    have : (List.range 94).all (fun i => updG four0 18 4 i == fourG i) = true := by decide +kernel
    simpa using List.all_eq_true.1 this i (by simpa using hi)))
  have HS2 := Lib.hid (store_ahead w (.cells M 41) hz hM)
  have HR := Lib.hid (heap_alloc2_old w (.cells M 41) (.cells M 41))
  have HG := Lib.hid (heap_alloc2_new w (.cells Z 41) (.cells M 41))
  have HI := Lib.hid (cfgInfo hM)
  have HS1 := Lib.hid hS1
  have HB := Lib.hid hb
  clear hz hS1 hL hb hM
  go_enter Try.func12, Try.ntmps12
  go_wp2_with (first
    | (refine wpList_buildTo rfl 41 _ rfl (some 2) rfl L ?hb ?_; case hb => simpa [Act.eval] using HB.out)
    | (refine wpList_store_run rfl 41 _ _ rfl (w.heap.size + 1) L _ rfl rfl HS1.out ?_)
    | (refine wpList_load_row rfl 41 _ rfl (w.heap.size + 1) rfl 41 M (0, 0) _ HG.out Try.underlying41 rfl HI.out ?_)
    | (refine wpList_store_run rfl 41 _ _ rfl w.heap.size M _ rfl rfl HS2.out ?_))
  refine bodyPost_ret (v := .agg M) ?_ rfl ⟨M, rfl, HE.out, ?_⟩
  · exact results_cell_row rfl _ _ _ _ _ (0, 0) _ rfl HR.out Try.underlying41 rfl HI.out
  · exact ((Below.refl _ _).alloc (Nat.le_refl _) _).alloc (by simp) _
end Go.Proofs.Ytnjdcgjaffageaa
