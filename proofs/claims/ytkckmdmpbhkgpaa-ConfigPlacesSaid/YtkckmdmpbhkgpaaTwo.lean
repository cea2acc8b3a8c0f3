/-
  The law's own config of two nodes.
-/
import Derived.Test.YtkckmdmpbhkgpaaLeast
namespace Go.Proofs.Ytkckmdmpbhkgpaa
open Go.RowKit Go

def two0 (i : Nat) : Int := if i = 0 then 2 else if i = 1 then 2 else if i = 90 then 3 else if i = 91 then 1 else if i = 92 then 1 else if i = 93 then 2 else 0
def twoG (i : Nat) : Int := if i = 0 then 2 else if i = 1 then 2 else if i = 90 then 3 else if i = 91 then 1 else if i = 92 then 1 else if i = 93 then 2 else
  if i = 3 then 1 else if i = 18 then 4 else if i = 19 then 8 else if i = 27 then 10 else if i = 34 then 10 else 0
theorem builtTwo : Try.prog.built 26 [(0, .int .i64 2), (1, .int .i64 2), (5, .int .i64 3), (6, .int .i64 1), (7, .int .i64 1), (8, .int .i64 2)] = some (ofG two0) := by kernel_rfl

theorem two_any (w : World) :
    Calls Try.prog 25 #[] w fun e w' => ∃ A', e = .returned (.agg A') ∧ Cfg A' twoG ∧ Below w.heap.size w w' := by
  obtain ⟨Z, hz, hZ⟩ := zeroCfg
  have hb := builtTwo
  have hL := cfg_ofG two0
  generalize ofG two0 = L at hb hL
  have hS1 := store_last (w.alloc (.cells Z 26)) hz hL
  rw [show (w.alloc (.cells Z 26)).heap.size = w.heap.size + 1 by simp] at hS1
  have l3 : L[3]? = some (.int .i64 0) := hL.get 3 (by decide)
  have m1 := hL.set 3 1
  obtain ⟨L1, s1⟩ : ∃ L1, L.setIfInBounds 3 (.int .i64 1) = L1 := ⟨_, rfl⟩
  rw [s1] at m1
  have l18 : L1[18]? = some (.int .i64 0) := m1.get 18 (by decide)
  have m2 := m1.set 18 4
  obtain ⟨L2, s2⟩ : ∃ L2, L1.setIfInBounds 18 (.int .i64 4) = L2 := ⟨_, rfl⟩
  rw [s2] at m2
  have l19 : L2[19]? = some (.int .i64 0) := m2.get 19 (by decide)
  have m3 := m2.set 19 8
  obtain ⟨L3, s3⟩ : ∃ L3, L2.setIfInBounds 19 (.int .i64 8) = L3 := ⟨_, rfl⟩
  rw [s3] at m3
  have l27 : L3[27]? = some (.int .i64 0) := m3.get 27 (by decide)
  have m4 := m3.set 27 10
  obtain ⟨L4, s4⟩ : ∃ L4, L3.setIfInBounds 27 (.int .i64 10) = L4 := ⟨_, rfl⟩
  rw [s4] at m4
  have l34 : L4[34]? = some (.int .i64 0) := m4.get 34 (by decide)
  have hM := m4.set 34 10
  obtain ⟨M, s5⟩ : ∃ M, L4.setIfInBounds 34 (.int .i64 10) = M := ⟨_, rfl⟩
  rw [s5] at hM
  have HE := Lib.hid (hM.ext (h := twoG) (fun i hi => by
    have : (List.range 94).all (fun i => updG (updG (updG (updG (updG two0 3 1) 18 4) 19 8) 27 10) 34 10 i == twoG i) = true := by decide +kernel
    simpa using List.all_eq_true.1 this i (by simpa using hi)))
  have HS2 := Lib.hid (store_ahead w (.cells M 26) hz hM)
  have HR := Lib.hid (heap_alloc2_old w (.cells M 26) (.cells M 26))
  have HG := Lib.hid (heap_alloc2_new w (.cells Z 26) (.cells M 26))
  have HI := Lib.hid (cfgInfo hM)
  have HS1 := Lib.hid hS1
  have HB := Lib.hid hb
  clear hz hS1 hL hb hM m1 m2 m3 m4
  go_enter Try.func25, Try.ntmps25
  go_wp2_with (first
    | (refine wpList_buildTo rfl 26 _ rfl (some 2) rfl L ?hb ?_; case hb => simpa [Act.eval] using HB.out)
    | (refine wpList_store_run rfl 26 _ _ rfl (w.heap.size + 1) L _ rfl rfl HS1.out ?_)
    | (refine wpList_load_row rfl 26 _ rfl (w.heap.size + 1) rfl 26 M (0, 0) _ HG.out Try.underlying26 rfl HI.out ?_)
    | (refine wpList_store_run rfl 26 _ _ rfl w.heap.size M _ rfl rfl HS2.out ?_))
  refine bodyPost_ret (v := .agg M) ?_ rfl ⟨M, rfl, HE.out, ?_⟩
  · exact results_cell_row rfl _ _ _ _ _ (0, 0) _ rfl HR.out Try.underlying26 rfl HI.out
  · exact ((Below.refl _ _).alloc (Nat.le_refl _) _).alloc (by simp) _
end Go.Proofs.Ytkckmdmpbhkgpaa
