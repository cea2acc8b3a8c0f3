/-
  policy's laws: the law's own config of three nodes.
-/
import Derived.Test.YtcbdmdalijhkoaaPoOk
import Derived.Test.YtcbdmdalijhkoaaCfgK
namespace Go.Proofs.Ytcbdmdalijhkoaa
open Go.RowKit Go
attribute [local go_sem] Oper.semAt_some

/-- As far as it is made: a nodes have frames, the rows below r their distances, of the row r those below c. -/
def thG (a r c q : Nat) : Int :=
  if q = 0 then 3 else if q = 1 then 1 else if q = 90 then 1 else if 18 ≤ q ∧ q < 18 + a then 4
  else if 26 ≤ q ∧ q < 90 ∧ (q - 26) / 8 ≠ (q - 26) % 8 ∧ (q - 26) / 8 < 3 ∧ (q - 26) % 8 < 3 ∧ ((q - 26) / 8 < r ∨ (q - 26) / 8 = r ∧ (q - 26) % 8 < c) then 9 else 0
theorem builtThree : Try.prog.built 26 [(0, .int .i64 3), (1, .int .i64 1), (5, .int .i64 1)] = some (ofG (thG 0 0 0)) := by kernel_rfl
/-- The config in its box, and the result's cell. -/
structure ThAt (w : World) (Z : Array Value) (G : Nat → Int) (W : World) : Prop where
  cfg : ∃ A, CfgAt W (w.heap.size + 1) A G
  res : W.heap[w.heap.size]? = some (.cells Z 26 (0, 0))
  bel : Below w.heap.size w W
theorem ThAt.ext {w W : World} {Z : Array Value} {G H : Nat → Int} (h : ThAt w Z G W) (e : ∀ i, i < 94 → G i = H i) : ThAt w Z H W := by
  obtain ⟨A, hA⟩ := h.cfg
  exact ⟨⟨A, hA.cfg.ext e, hA.block⟩, h.res, h.bel⟩
theorem ThAt.set {w W : World} {Z : Array Value} {G : Nat → Int} (h : ThAt w Z G W) (i : Nat) (x : Int) : ThAt w Z (updG G i x) (W.setCell ⟨w.heap.size + 1, i, none⟩ (.int .i64 x)) := by
  obtain ⟨A, hA⟩ := h.cfg
  refine ⟨⟨_, hA.cfg.set i x, heap_setCell_same _ _ _ _ _ _ hA.block⟩, ?_, h.bel.setCell (p := ⟨w.heap.size + 1, i, none⟩) (by show w.heap.size ≤ w.heap.size + 1; omega) _⟩
  rw [heap_setCell_other _ _ _ _ (by show w.heap.size ≠ w.heap.size + 1; omega)]
  exact h.res
theorem ThAt.cell {w W : World} {Z : Array Value} {G : Nat → Int} (h : ThAt w Z G W) (i : Nat) (hi : i < 94) : W.cell? ⟨w.heap.size + 1, i, none⟩ = some (.int .i64 (G i)) ∧ W.frozen? ⟨w.heap.size + 1, i, none⟩ = false := by
  obtain ⟨A, hA⟩ := h.cfg
  exact ⟨hA.cell i hi, frozen_of_row _ _ i _ _ hA.block⟩
theorem th_frame (i : Nat) (hi : i < 3) : ∀ q, q < 94 → updG (thG i i 0) (18 + i) 4 q = thG (i + 1) i 0 q := by
  have : ∀ i, i < 3 → (List.range 94).all (fun q => updG (thG i i 0) (18 + i) 4 q == thG (i + 1) i 0 q) = true := by decide +kernel
  intro q hq
  simpa using List.all_eq_true.1 (this i hi) q (by simpa using hq)
theorem th_dist (i j : Nat) (hi : i < 3) (hj : j < 3) (hne : i ≠ j) : ∀ q, q < 94 → updG (thG (i + 1) i j) (26 + i * 8 + j) 9 q = thG (i + 1) i (j + 1) q := by
  have : ∀ i, i < 3 → ∀ j, j < 3 → i ≠ j → (List.range 94).all (fun q => updG (thG (i + 1) i j) (26 + i * 8 + j) 9 q == thG (i + 1) i (j + 1) q) = true := by decide +kernel
  intro q hq
  simpa using List.all_eq_true.1 (this i hi j hj hne) q (by simpa using hq)
theorem th_self (i : Nat) (hi : i < 3) : ∀ q, q < 94 → thG (i + 1) i i q = thG (i + 1) i (i + 1) q := by
  have : ∀ i, i < 3 → (List.range 94).all (fun q => thG (i + 1) i i q == thG (i + 1) i (i + 1) q) = true := by decide +kernel
  intro q hq
  simpa using List.all_eq_true.1 (this i hi) q (by simpa using hq)
theorem th_row (i : Nat) (hi : i < 3) : ∀ q, q < 94 → thG (i + 1) i 3 q = thG (i + 1) (i + 1) 0 q := by
  have : ∀ i, i < 3 → (List.range 94).all (fun q => thG (i + 1) i 3 q == thG (i + 1) (i + 1) 0 q) = true := by decide +kernel
  intro q hq
  simpa using List.all_eq_true.1 (this i hi) q (by simpa using hq)
theorem store_rowP {W : World} {b : Nat} {Z L : Array Value} {g : Nat → Int} (hW : W.heap[b]? = some (.cells Z 26 (0, 0))) (hz : Z.size = 94) (C : Cfg L g) :
    (storeVar 26 ⟨b, 0, none⟩ (.agg L)).run Try.prog W = .ok () (W.setRow b L) :=
  run_storeVar_row (P := Try.prog) W b 26 26 Z L hW (by rw [C.size]; kernel_rfl) (by rw [hz, C.size]) C.one
set_option maxRecDepth 100000 in
set_option maxHeartbeats 4000000 in
theorem three_any (w : World) :
    Calls Try.prog 25 #[] w fun e w' => ∃ A, e = .returned (.agg A) ∧ Cfg A (thG 3 3 0) ∧ Below w.heap.size w w' := by
  obtain ⟨Z, hz, hZ⟩ := zeroCfg
  have hb := builtThree
  have hL := cfg_ofG (thG 0 0 0)
  generalize ofG (thG 0 0 0) = L at hb hL
  have hS1 := store_last (w.alloc (.cells Z 26)) hz hL
  rw [show (w.alloc (.cells Z 26)).heap.size = w.heap.size + 1 by simp] at hS1
  have HT0 := Lib.hid (show ThAt w Z (thG 0 0 0) ((w.alloc (.cells Z 26)).alloc (.cells L 26)) from
    ⟨⟨L, hL, heap_alloc2_new w _ _⟩, heap_alloc2_old w _ _, ((Below.refl _ _).alloc (Nat.le_refl _) _).alloc (by simp) _⟩)
  have HS1 := Lib.hid hS1
  have HB := Lib.hid hb
  have HZ := Lib.hid hz
  clear hz hS1 hL hb
  go_enter Try.func25, Try.ntmps25
  go_wp2_with (first
    | (refine wpList_buildTo rfl 26 _ rfl (some 4) rfl L ?hb ?_; case hb => simpa [Act.eval] using HB.out)
    | (refine wpList_store_run rfl 26 _ _ rfl (w.heap.size + 1) L _ rfl rfl HS1.out ?_))
  generalize (w.alloc (.cells Z 26)).alloc (.cells L 26) = W0 at *
  go_loopw [5] (fun iv wr => ∃ i : Nat, iv = .int .i64 i ∧ i ≤ 3 ∧ Hid (ThAt w Z (thG i i 0) wr)) (fun iv _ => 3 - (intOf iv).toNat)
  case atStart => exact ⟨0, rfl, by decide, HT0⟩
  case round =>
    clear HT0 HS1 HB hZ
    obtain ⟨i, rfl, hi, HT⟩ := hrel
    by_cases hlt : i < 3
    · have hltI : (i : Int) < 3 := by omega
      have hlt8 : (i : Int) < 8 := by omega
      obtain ⟨c1, f1⟩ := HT.out.cell (18 + i) (by omega)
      have HT1 := Lib.hid ((HT.out.set (18 + i) 4).ext (th_frame i hlt))
      go_wp2_with (fail)
      clear c1 f1 HT
      generalize wr.setCell ⟨w.heap.size + 1, 18 + i, none⟩ (.int .i64 4) = W1 at *
      go_loopw [11] (fun jv wr => ∃ j : Nat, jv = .int .i64 j ∧ j ≤ 3 ∧ Hid (ThAt w Z (thG (i + 1) i j) wr)) (fun jv _ => 3 - (intOf jv).toNat)
      case atStart => exact ⟨0, rfl, by decide, HT1⟩
      case round =>
        clear HT1
        obtain ⟨j, rfl, hj, HJ⟩ := hrel
        by_cases hlj : j < 3
        · have hljI : (j : Int) < 3 := by omega
          have hlj8 : (j : Int) < 8 := by omega
          by_cases hij : i = j
          · subst hij
            have HJ2 := Lib.hid (HJ.out.ext (th_self i hlt))
            clear HJ
            go_wp2_with (fail)
            go_roundw
            case rel => exact ⟨i + 1, by go_num, hlj, HJ2⟩
            case measure => simp [intOf]; omega
          · have hbn : ((i : Int) != j) = true := by simp; omega
            have hbm : ((i : Int) == j) = false := by simp; omega
            obtain ⟨c1, f1⟩ := HJ.out.cell (26 + i * 8 + j) (by omega)
            have HJ2 := Lib.hid ((HJ.out.set (26 + i * 8 + j) 9).ext (th_dist i j hlt hlj hij))
            go_wp2_with (fail)
            clear c1 f1 HJ
            go_roundw
            case rel => exact ⟨j + 1, by go_num, hlj, HJ2⟩
            case measure => simp [intOf]; omega
        · obtain rfl : j = 3 := by omega
          have HJ2 := Lib.hid (HJ.out.ext (th_row i hlt))
          clear HJ
          go_wp2_with (fail)
          go_roundw
          case rel => exact ⟨i + 1, by go_num, hlt, HJ2⟩
          case measure => simp [intOf]; omega
    · obtain rfl : i = 3 := by omega
      obtain ⟨M, hM⟩ := HT.out.cfg
      have HM := Lib.hid hM
      have HI := Lib.hid (cfgInfo hM.cfg)
      have HST := Lib.hid (store_rowP HT.out.res HZ.out hM.cfg)
      have HR := Lib.hid (setRow_heap wr w.heap.size Z M 26 (0, 0) HT.out.res)
      have HBE := Lib.hid (show Below w.heap.size w (wr.setRow w.heap.size M) from (Only.of_below (S := fun k => k = w.heap.size) HT.out.bel).below (Below.refl _ _) (Nat.le_refl _) (fun k hk => Nat.le_of_eq hk.symm) |>.trans (by
        refine ⟨rfl, rfl, rfl, by simp, fun k hk => setRow_other _ _ _ _ (by omega)⟩))
      clear hM
      go_wp2_with (first
        | (refine wpList_load_row rfl 26 _ rfl (w.heap.size + 1) rfl 26 M (0, 0) _ HM.out.block Try.underlying26 rfl HI.out ?_)
        | (refine wpList_store_run rfl 26 _ _ rfl w.heap.size M _ rfl rfl HST.out ?_))
      refine bodyPost_ret (v := .agg M) ?_ rfl ⟨M, rfl, HM.out.cfg, ?_⟩
      · exact results_cell_row rfl _ _ _ _ _ (0, 0) _ rfl HR.out Try.underlying26 rfl HI.out
      · exact HBE.out
end Go.Proofs.Ytcbdmdalijhkoaa
