/-
  bare: a config with nothing behind its nodes and CPUs.
-/
import Derived.Test.YtcbdmdalijhkoaaMin
namespace Go.Proofs.Ytcbdmdalijhkoaa
open Go.RowKit Go

set_option maxRecDepth 100000 in
theorem zero3 (w : World) : (zeroValue 3).run Try.prog w = .ok (.int .i64 0) w := by kernel_rfl
set_option maxRecDepth 100000 in
theorem zero23 (w : World) : (zeroValue 23).run Try.prog w = .ok (.agg #[.int .i64 0, .int .i64 0, .int .i64 0, .int .i64 0, .int .i64 0, .int .i64 0, .int .i64 0, .int .i64 0]) w := by kernel_rfl
set_option maxRecDepth 100000 in
theorem infoCfg : (Try.prog.info? 26).map (fun i => (i.zero, i.size)) = some (some (.agg (Array.replicate 94 (.int .i64 0))), 94) := by kernel_rfl
set_option maxRecDepth 100000 in
theorem zeroCfg : ∃ Z : Array Value, Z.size = 94 ∧ ∀ w, (zeroValue 26).run Try.prog w = .ok (.agg Z) w := ⟨_, by simp, (zero_of_info infoCfg).1⟩

/-- The config with nothing behind its nodes and CPUs, of which the first k rows of the distances are wiped. -/
def bareR (g : Nat → Int) (c n k i : Nat) : Int :=
  if i < 2 then g i else if i < 18 then (if i < 2 + c then g i else 0) else if i < 26 then (if i < 18 + n then g i else 0)
  else if i < 90 then (if (i - 26) / 8 < n then (if (i - 26) / 8 < k ∧ n ≤ (i - 26) % 8 then 0 else g i) else 0) else g i
def bareG (g : Nat → Int) : Nat → Int := bareR g (g 1).toNat (g 0).toNat (g 0).toNat

theorem wiped {A : Array Value} {g h : Nat → Int} (C : Cfg A g) (lo hi : Nat) (hl : lo ≤ hi) (hh : hi ≤ 94) (e : ∀ i, i < 94 → h i = if lo ≤ i ∧ i < hi then 0 else g i) : Cfg (wipe A lo hi) h := by
  refine ⟨by rw [wipe_size A lo hi hl (by rw [C.size]; exact hh)]; exact C.size, fun i hi' => ?_⟩
  rw [wipe_get A lo hi i hl (by rw [C.size]; exact hh), e i hi']
  by_cases h1 : lo ≤ i ∧ i < hi
  · rw [if_pos h1, if_pos h1]
  · rw [if_neg h1, if_neg h1]; exact C.get i hi'

theorem bare3 {A : Array Value} {g : Nat → Int} (C : Cfg A g) (c n : Nat) (hc : c ≤ 16) (hn : n ≤ 8) : Cfg (wipe (wipe (wipe A (2 + c * 1) (2 + 16 * 1)) (18 + n * 1) (18 + 8 * 1)) (26 + n * 8) (26 + 8 * 8)) (bareR g c n 0) := by
  have h1 := wiped (h := fun i => if 2 + c * 1 ≤ i ∧ i < 2 + 16 * 1 then 0 else g i) C (2 + c * 1) (2 + 16 * 1) (by omega) (by decide) (fun i _ => rfl)
  have h2 := wiped (h := fun i => if 18 + n * 1 ≤ i ∧ i < 18 + 8 * 1 then 0 else if 2 + c * 1 ≤ i ∧ i < 2 + 16 * 1 then 0 else g i) h1 (18 + n * 1) (18 + 8 * 1) (by omega) (by decide) (fun i _ => rfl)
  refine wiped h2 (26 + n * 8) (26 + 8 * 8) (by omega) (by decide) (fun i hi => ?_)
  unfold bareR
  by_cases a1 : i < 2
  · simp only [a1, if_true]; rw [if_neg (by omega), if_neg (by omega), if_neg (by omega)]
  · rw [if_neg a1]
    by_cases a2 : i < 18
    · rw [if_pos a2]
      by_cases a3 : i < 2 + c
      · rw [if_pos a3, if_neg (by omega), if_neg (by omega), if_neg (by omega)]
      · rw [if_neg a3, if_neg (by omega), if_neg (by omega), if_pos (by omega)]
    · rw [if_neg a2]
      by_cases a3 : i < 26
      · rw [if_pos a3]
        by_cases a4 : i < 18 + n
        · rw [if_pos a4, if_neg (by omega), if_neg (by omega), if_neg (by omega)]
        · rw [if_neg a4, if_neg (by omega), if_pos (by omega)]
      · rw [if_neg a3]
        by_cases a4 : i < 90
        · rw [if_pos a4]
          by_cases a5 : (i - 26) / 8 < n
          · rw [if_pos a5, if_neg (by omega), if_neg (by omega), if_neg (by omega), if_neg (by omega)]
          · rw [if_neg a5, if_pos (by omega)]
        · rw [if_neg a4, if_neg (by omega), if_neg (by omega), if_neg (by omega)]

theorem bare_step {B : Array Value} {g : Nat → Int} {c n k : Nat} (hn : n ≤ 8) (hk : k < n) (C : Cfg B (bareR g c n k)) : Cfg (wipe B (26 + k * 8 + n * 1) (26 + k * 8 + 8 * 1)) (bareR g c n (k + 1)) := by
  refine wiped C _ _ (by omega) (by omega) (fun i hi => ?_)
  unfold bareR
  by_cases a1 : i < 2
  · simp only [a1, if_true]; rw [if_neg (by omega)]
  · simp only [a1, if_false]
    by_cases a2 : i < 18
    · simp only [a2, if_true]; rw [if_neg (show ¬ (26 + k * 8 + n * 1 ≤ i ∧ _) by omega)]
    · simp only [a2, if_false]
      by_cases a3 : i < 26
      · simp only [a3, if_true]; rw [if_neg (show ¬ (26 + k * 8 + n * 1 ≤ i ∧ _) by omega)]
      · simp only [a3, if_false]
        by_cases a4 : i < 90
        · simp only [a4, if_true]
          by_cases a5 : (i - 26) / 8 < n
          · simp only [a5, if_true]
            by_cases a6 : (i - 26) / 8 = k
            · by_cases a7 : n ≤ (i - 26) % 8
              · rw [if_pos (by omega), if_pos (by omega)]
              · rw [if_neg (by omega), if_neg (by omega), if_neg (by omega)]
            · by_cases a7 : (i - 26) / 8 < k ∧ n ≤ (i - 26) % 8
              · rw [if_pos (by omega), if_neg (by omega), if_pos a7]
              · rw [if_neg (by omega), if_neg (by omega), if_neg a7]
          · simp only [a5, if_false]
            rw [ite_self]
        · simp only [a4, if_false]; rw [if_neg (by omega)]

/-- The two blocks of bare: the config that it turns, and the result's. -/
def bareW (w : World) (B Z : Array Value) (m : Nat) : World := ((w.alloc (.cells B 26)).alloc (.cells Z 26)).drewN m
theorem bareW_own (w : World) (B Z : Array Value) (m : Nat) : (bareW w B Z m).heap[w.heap.size]? = some (.cells B 26 (0, 0)) := heap_alloc2_old w _ _
theorem bareW_res (w : World) (B Z : Array Value) (m : Nat) : (bareW w B Z m).heap[w.heap.size + 1]? = some (.cells Z 26 (0, 0)) := heap_alloc2_new w _ _
theorem bareW_set (w : World) (B Z B' : Array Value) (m : Nat) : (bareW w B Z m).setRow w.heap.size B' = bareW w B' Z m := by
  show (((w.alloc _).alloc _).setRow w.heap.size B').drewN m = _
  rw [setRow_alloc_old _ _ _ _ (by simp), World.setRow_alloc_new]; rfl

theorem still_tail {P : Program} {id : Nat} {Q : Exit → Act → World → Prop} {a : Act} {w : World} {l : List Oper} (n : Nat) (hm : P.follows .mixedOrders = true) (hB : Region.lexTailB .any l.toArray n = true)
    (h : wpStill P l.toArray w.drew (fun a' => wpList P l.toArray Q (l.drop n) a' w.drew) (l.take n) a) : (Code.region id l.toArray true).wp P Q a w :=
  wp_region_still_tail n hm hB h

set_option maxRecDepth 100000 in
theorem bare_any (A : Array Value) (g : Nat → Int) (w : World) (hA : Cfg A g) (hN : 1 ≤ g 0) (hN8 : g 0 ≤ 8) (hC : 1 ≤ g 1) (hC16 : g 1 ≤ 16) :
    Calls Try.prog 32 #[.agg A] w fun e w' => ∃ A', e = .returned (.agg A') ∧ Cfg A' (bareG g) ∧ Below w.heap.size w w' := by
  obtain ⟨c, hc⟩ := Int.eq_ofNat_of_zero_le (show 0 ≤ g 1 by omega)
  obtain ⟨n, hn⟩ := Int.eq_ofNat_of_zero_le (show 0 ≤ g 0 by omega)
  have HG := Lib.hid (show bareG g = bareR g c n n by unfold bareG; rw [hc, hn]; rfl)
  have H0 := Lib.hid hn
  have hc1 : 1 ≤ c := by omega
  have hc2 : c ≤ 16 := by omega
  have hn1 : 1 ≤ n := by omega
  have hn2 : n ≤ 8 := by omega
  have C3 := bare3 hA c n hc2 hn2
  have z := hA.size
  have a0 : A[0]? = some (.int .i64 n) := by rw [← hn]; exact hA.get 0 (by decide)
  have a1 : A[1]? = some (.int .i64 c) := by rw [← hc]; exact hA.get 1 (by decide)
  obtain ⟨Z, hz, hZ⟩ := zeroCfg
  have HZ := Lib.hid hz
  clear hz hA hc hn hN hN8 hC hC16
  have s1 := run_slice_from (P := Try.prog) Try.underlying22 size3 c hc2
  have s2 := run_slice_from (P := Try.prog) Try.underlying23 size3 n hn2
  have s3 := run_slice_from (P := Try.prog) Try.underlying24 size23 n hn2
  have K1 := fun B T m (hB : B.size = 94) => run_clear_from (P := Try.prog) (s := 1) Try.underlying31 zero3 rfl (by decide) T w.heap.size 2 16 c hc2 _ B _ (bareW_own w B Z m) (by omega)
  have K2 := fun B T m (hB : B.size = 94) => run_clear_from (P := Try.prog) (s := 1) Try.underlying31 zero3 rfl (by decide) T w.heap.size 18 8 n hn2 _ B _ (bareW_own w B Z m) (by omega)
  have K3 := fun B T m (hB : B.size = 94) => run_clear_from (P := Try.prog) (s := 8) Try.underlying58 zero23 rfl (by decide) T w.heap.size 26 8 n hn2 _ B _ (bareW_own w B Z m) (by omega)
  simp only [bareW_set] at K1 K2 K3
  have k1 := fun T => K1 A T 0 z
  have z1 : (wipe A (2 + c * 1) (2 + 16 * 1)).size = 94 := by rw [wipe_size _ _ _ (by omega) (by omega), z]
  have k2 := fun T => K2 _ T 0 z1
  have z2 : (wipe (wipe A (2 + c * 1) (2 + 16 * 1)) (18 + n * 1) (18 + 8 * 1)).size = 94 := by rw [wipe_size _ _ _ (by omega) (by omega), z1]
  have k3 := fun T => K3 _ T 0 z2
  have b0 : (wipe A (2 + c * 1) (2 + 16 * 1))[0]? = some (.int .i64 n) := by rw [wipe_get _ _ _ _ (by omega) (by omega), if_neg (by omega), a0]
  have b1 : (wipe (wipe A (2 + c * 1) (2 + 16 * 1)) (18 + n * 1) (18 + 8 * 1))[0]? = some (.int .i64 n) := by rw [wipe_get _ _ _ _ (by omega) (by omega), if_neg (by omega), b0]
  have b2 : (wipe (wipe (wipe A (2 + c * 1) (2 + 16 * 1)) (18 + n * 1) (18 + 8 * 1)) (26 + n * 8) (26 + 8 * 8))[0]? = some (.int .i64 n) := by rw [wipe_get _ _ _ _ (by omega) (by omega), if_neg (by omega), b1]
  generalize wipe (wipe (wipe A (2 + c * 1) (2 + 16 * 1)) (18 + n * 1) (18 + 8 * 1)) (26 + n * 8) (26 + 8 * 8) = B3 at k3 b2 C3
  generalize wipe (wipe A (2 + c * 1) (2 + 16 * 1)) (18 + n * 1) (18 + 8 * 1) = B2 at k2 k3 b1
  generalize wipe A (2 + c * 1) (2 + 16 * 1) = B1 at k1 k2 b0
  clear K1 K2 K3 z1 z2 z
  have KL := Lib.hid (fun B k T m (hB : B.size = 94) => run_clear_from (P := Try.prog) (s := 1) Try.underlying31 zero3 rfl (by decide) T w.heap.size (26 + k * 8) 8 n hn2 (bareW w B Z m) B _ (bareW_own w B Z m))
  have HC := Lib.hid C3
  clear C3
  unfold bareW at k1 k2 k3
  simp only [World.drewN_zero] at k1 k2 k3
  go_enter Try.func32, Try.ntmps32
  go_wp2_with (fail)
  go_loopw [3, 18] (fun _ x wr => ∃ k : Nat, ∃ B m, k ≤ n ∧ x = .int .i64 k ∧ Hid (Cfg B (bareR g c n k)) ∧ wr = ((w.alloc (.cells B 26)).alloc (.cells Z 26)).drewN m) (fun _ x _ => n - (intOf x).toNat)
  case atStart => exact ⟨0, B3, 0, Nat.zero_le _, rfl, HC, rfl⟩
  case round =>
    obtain ⟨k, B, m, hk, rfl, HK, rfl⟩ := hrel
    by_cases hlt : k < n
    · have e0 : B[0]? = some (.int .i64 n) := by
        rw [← H0.out]; exact HK.out.get 0 (by decide)
      have HN := Lib.hid (bare_step hn2 hlt HK.out)
      have kk := fun T m => KL.out B k T m HK.out.size (by rw [HK.out.size]; omega)
      simp only [bareW_set] at kk
      unfold bareW at kk
      generalize wipe B (26 + k * 8 + n * 1) (26 + k * 8 + 8 * 1) = B' at HN kk
      go_wp2_with (fail)
      refine still_tail 6 (by kernel_rfl) (by kernel_rfl) ?_
      simp only [List.take_succ_cons, List.take_zero, List.drop_succ_cons, List.drop_zero]
      have ik : (k : Int) < 8 := by omega
      repeat still_step
      refine wpStill_nil ?_
      go_wp2_with (fail)
      go_roundw
      case rel => exact ⟨k + 1, B', _, by omega, by go_num, HN, rfl⟩
      case measure => simp [intOf]; omega
    · obtain rfl : k = n := by omega
      have HL := Lib.hid (bareW_own w B Z m)
      have HI := Lib.hid (show (Try.prog.info? 26).map (·.size) = some B.size by rw [HK.out.size]; kernel_rfl)
      have HS := Lib.hid (show (storeVar 26 ⟨w.heap.size + 1, 0, none⟩ (.agg B)).run Try.prog (bareW w B Z m) = .ok () (bareW w B B m) by
        rw [run_storeVar_row _ _ _ _ Z B (bareW_res w B Z m) (by rw [HK.out.size]; kernel_rfl) (by rw [HZ.out, HK.out.size]) HK.out.one]
        show Result.ok () (((w.alloc _).alloc _).setRow (w.heap.size + 1) B |>.drewN m) = _
        rw [show w.heap.size + 1 = (w.alloc (.cells B 26)).heap.size by simp, World.setRow_alloc_new]; rfl)
      have HR := Lib.hid (bareW_res w B B m)
      unfold bareW at HL HS HR
      clear k1 k2 k3
      go_wp2_with (first
        | (refine wpList_load_row rfl 26 _ rfl w.heap.size rfl 26 B (0, 0) _ HL.out Try.underlying26 rfl HI.out ?_)
        | (refine wpList_store_run rfl 26 _ _ rfl (w.heap.size + 1) B _ rfl rfl HS.out ?_))
      refine bodyPost_ret (v := .agg B) ?_ rfl ⟨B, rfl, by rw [HG.out]; exact HK.out, ?_⟩
      · exact results_cell_row rfl _ _ _ _ B (0, 0) _ rfl HR.out Try.underlying26 rfl HI.out
      · exact below_drewN (((Below.refl _ _).alloc (Nat.le_refl _) _).alloc (by simp) _) _
end Go.Proofs.Ytcbdmdalijhkoaa
