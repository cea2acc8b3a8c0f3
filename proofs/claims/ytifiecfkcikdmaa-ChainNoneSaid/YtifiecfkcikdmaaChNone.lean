/-
  chain: a slab that is not there, or a zero one; the law of it.
-/
import Derived.Test.YtifiecfkcikdmaaChAtN
import Derived.Test.YtifiecfkcikdmaaChKnown
namespace Go.Proofs.Ytifiecfkcikdmaa
open Go.RowKit Go

/-- A zero slab: the cells. -/
def zeroSA : Array Value := #[.slice none 0 0, .int .i64 0, .int .i64 0, .int .i64 0, .int .i64 0] ++ (Array.replicate 32 (.bool false) ++ Array.replicate 32 (.int .u64 0))
set_option maxRecDepth 100000 in
theorem zero_slab (W : World) : (zeroValue 54).run Try.prog W = .ok (.agg zeroSA) W := by kernel_rfl
def zeroS (i : Nat) : Value := if i = 0 then .slice none 0 0 else if i < 5 then .int .i64 0 else if i < 37 then .bool false else .int .u64 0
theorem zeroSA_at : ∀ i, i < 5 → zeroSA[i]? = some (zeroS i) := by
  intro i hi
  rcases (show i = 0 ∨ i = 1 ∨ i = 2 ∨ i = 3 ∨ i = 4 by omega) with rfl | rfl | rfl | rfl | rfl <;> rfl
def CGone (W : World) (q : Option Addr) : Prop := q = none ∨ ∃ d, q = some ⟨d, 0, none⟩ ∧ RowAt W d 5 zeroS
section
variable {w : World} {q : Option Addr}
set_option maxRecDepth 100000 in
theorem cmissing_gone (h : CGone w q) : Calls Try.prog 34 #[.pointer q] w fun e w' => e = .returned (.bool true) ∧ w = w' := by
  rcases h with rfl | ⟨d, rfl, R⟩
  · go_enter Try.func34, Try.ntmps34
    go_wp2_with (fail)
    go_ret
    exact ⟨rfl, rfl⟩
  · have c1 : w.cell? ⟨d, 1, none⟩ = some (.int .i64 0) := R.cell 1 (by decide)
    go_enter Try.func34, Try.ntmps34
    go_wp2_with (fail)
    go_ret
    exact ⟨rfl, rfl⟩
set_option maxRecDepth 100000 in
theorem ccount_gone (h : CGone w q) : Calls Try.prog 22 #[.pointer q] w fun e w' => e = .returned (.int .i64 0) ∧ w = w' := by
  go_enter Try.func22, Try.ntmps22
  go_wp2_with (fail)
  refine (cmissing_gone h).mono ?_
  rintro e w' ⟨rfl, rfl⟩
  go_wp2_with (fail)
  go_ret
  exact ⟨rfl, rfl⟩
set_option maxRecDepth 100000 in
theorem chas_gone (h : CGone w q) (i : Int) : Calls Try.prog 35 #[.pointer q, .int .i64 i] w fun e w' => e = .returned (.bool false) ∧ w = w' := by
  by_cases h0 : 0 ≤ i
  · have h1 : ¬ i < 0 := by omega
    go_enter Try.func35, Try.ntmps35
    go_wp2_with (fail)
    refine (ccount_gone h).mono ?_
    rintro e w' ⟨rfl, rfl⟩
    go_wp2_with (fail)
    go_ret
    refine ⟨?_, rfl⟩
    show Ending.returned (.bool (decide (i < 0))) = _
    rw [decide_eq_false (by omega)]
  · go_enter Try.func35, Try.ntmps35
    go_wp2_with (fail)
    go_ret
    exact ⟨rfl, rfl⟩
set_option maxRecDepth 100000 in
theorem cat_gone (h : CGone w q) (i : Int) : Calls Try.prog 24 #[.pointer q, .int .i64 i] w fun e w' => e = .returned (.tuple #[.int .i64 0, .int .i64 0]) ∧ w = w' := by
  go_enter Try.func24, Try.ntmps24
  go_wp2_with (fail)
  refine (chas_gone h i).mono ?_
  rintro e w' ⟨rfl, rfl⟩
  go_wp2_with (fail)
  go_ret2
  exact ⟨rfl, rfl⟩
set_option maxRecDepth 100000 in
theorem clive_gone (h : CGone w q) (i : Int) : Calls Try.prog 25 #[.pointer q, .int .i64 i] w fun e w' => e = .returned (.tuple #[.int .u64 0, .bool false]) ∧ w = w' := by
  go_enter Try.func25, Try.ntmps25
  go_wp2_with (fail)
  refine (chas_gone h i).mono ?_
  rintro e w' ⟨rfl, rfl⟩
  go_wp2_with (fail)
  go_ret2
  exact ⟨rfl, rfl⟩
set_option maxRecDepth 100000 in
theorem casked_gone (h : CGone w q) (i : Int) : Calls Try.prog 37 #[.pointer q, .int .i64 i] w fun e w' => e = .returned (.int .i64 1) ∧ w = w' := by
  go_enter Try.func37, Try.ntmps37
  go_wp2_with (fail)
  refine (cmissing_gone h).mono ?_
  rintro e w' ⟨rfl, rfl⟩
  go_wp2_with (fail)
  go_ret
  exact ⟨rfl, rfl⟩
set_option maxRecDepth 100000 in
theorem ctake_gone (h : CGone w q) : Calls Try.prog 13 #[.pointer q] w fun e w' => e = .returned (.tuple #[.int .i64 0, .int .i64 1]) ∧ w = w' := by
  go_enter Try.func13, Try.ntmps13
  go_wp2_with (fail)
  refine (cmissing_gone h).mono ?_
  rintro e w' ⟨rfl, rfl⟩
  go_wp2_with (fail)
  go_ret2
  exact ⟨rfl, rfl⟩
set_option maxRecDepth 100000 in
theorem cgive_gone (h : CGone w q) (i : Int) : Calls Try.prog 15 #[.pointer q, .int .i64 i] w fun e w' => e = .returned (.int .i64 1) ∧ w = w' := by
  go_enter Try.func15, Try.ntmps15
  go_wp2_with (fail)
  refine (casked_gone h i).mono ?_
  rintro e w' ⟨rfl, rfl⟩
  go_wp2_with (fail)
  go_ret
  exact ⟨rfl, rfl⟩
set_option maxRecDepth 100000 in
theorem cmark_gone (h : CGone w q) (i t : Int) : Calls Try.prog 17 #[.pointer q, .int .i64 i, .int .u64 t] w fun e w' => e = .returned (.int .i64 1) ∧ w = w' := by
  go_enter Try.func17, Try.ntmps17
  go_wp2_with (fail)
  refine (casked_gone h i).mono ?_
  rintro e w' ⟨rfl, rfl⟩
  go_wp2_with (fail)
  go_ret
  exact ⟨rfl, rfl⟩
set_option maxRecDepth 100000 in
theorem cclear_gone (h : CGone w q) (i : Int) : Calls Try.prog 19 #[.pointer q, .int .i64 i] w fun e w' => e = .returned (.int .i64 1) ∧ w = w' := by
  go_enter Try.func19, Try.ntmps19
  go_wp2_with (fail)
  refine (casked_gone h i).mono ?_
  rintro e w' ⟨rfl, rfl⟩
  go_wp2_with (fail)
  go_ret
  exact ⟨rfl, rfl⟩
set_option maxRecDepth 100000 in
theorem csize_gone (h : CGone w q) : Calls Try.prog 26 #[.pointer q] w fun e w' => e = .returned (.int .i64 0) ∧ w = w' := by
  rcases h with rfl | ⟨d, rfl, R⟩
  · go_enter Try.func26, Try.ntmps26
    go_wp2_with (fail)
    go_ret
    exact ⟨rfl, rfl⟩
  · have c1 : w.cell? ⟨d, 1, none⟩ = some (.int .i64 0) := R.cell 1 (by decide)
    go_enter Try.func26, Try.ntmps26
    go_wp2_with (fail)
    go_ret
    exact ⟨rfl, rfl⟩
set_option maxRecDepth 100000 in
theorem ccolour_gone (h : CGone w q) : Calls Try.prog 27 #[.pointer q] w fun e w' => e = .returned (.int .i64 0) ∧ w = w' := by
  rcases h with rfl | ⟨d, rfl, R⟩
  · go_enter Try.func27, Try.ntmps27
    go_wp2_with (fail)
    go_ret
    exact ⟨rfl, rfl⟩
  · have c2 : w.cell? ⟨d, 2, none⟩ = some (.int .i64 0) := R.cell 2 (by decide)
    go_enter Try.func27, Try.ntmps27
    go_wp2_with (fail)
    go_ret
    exact ⟨rfl, rfl⟩
set_option maxRecDepth 100000 in
theorem cfree_gone (h : CGone w q) : Calls Try.prog 23 #[.pointer q] w fun e w' => e = .returned (.int .i64 0) ∧ w = w' := by
  rcases h with rfl | ⟨d, rfl, R⟩
  · go_enter Try.func23, Try.ntmps23
    go_wp2_with (fail)
    go_ret
    exact ⟨rfl, rfl⟩
  · have c4 : w.cell? ⟨d, 4, none⟩ = some (.int .i64 0) := R.cell 4 (by decide)
    go_enter Try.func23, Try.ntmps23
    go_wp2_with (fail)
    go_ret
    exact ⟨rfl, rfl⟩
set_option maxRecDepth 100000 in
theorem cchain_gone (h : CGone w q) : Calls Try.prog 28 #[.pointer q] w fun e w' => e = .returned (.slice none 0 0) ∧ w = w' := by
  rcases h with rfl | ⟨d, rfl, R⟩
  · go_enter Try.func28, Try.ntmps28
    go_wp2_with (fail)
    go_ret
    exact ⟨rfl, rfl⟩
  · have c3 : w.cell? ⟨d, 3, none⟩ = some (.int .i64 0) := R.cell 3 (by decide)
    have c4 : w.cell? ⟨d, 4, none⟩ = some (.int .i64 0) := R.cell 4 (by decide)
    clear R
    go_enter Try.func28, Try.ntmps28
    go_wp2_with (fail)
    go_loop [3, 4] (fun v q => v = .slice none 0 0 ∧ q = .int .i64 0) (fun _ _ => 0)
    case atStart => exact ⟨rfl, rfl⟩
    case round =>
      obtain ⟨rfl, rfl⟩ := hrel
      go_wp2_with (fail)
      go_ret
      exact ⟨rfl, rfl⟩
end
set_option maxRecDepth 100000 in
set_option maxHeartbeats 8000000 in
theorem lawCNone_any (i turn : Int) (w : World) :
    Calls Try.prog 6 #[.int .i64 i, .int .u64 turn] w fun e w' => e = .returned (.bool true) ∧ Below w.heap.size w w' := by
  have hzz := zero_slab
  have hb : Below w.heap.size w ((w.alloc (.cells zeroSA 54)).alloc (.cells #[.pointer none, .pointer (some ⟨w.heap.size, 0, none⟩)] 25)) := ((Below.refl _ _).alloc (Nat.le_refl _) _).alloc (by simp) _
  have HB := Lib.hid hb
  have HZ := Lib.hid ((RowAt.new w zeroSA 54 5 _ zeroSA_at).alloc (.cells #[.pointer none, .pointer (some ⟨w.heap.size, 0, none⟩)] 25))
  have HL := Lib.hid (show RowAt ((w.alloc (.cells zeroSA 54)).alloc (.cells #[.pointer none, .pointer (some ⟨w.heap.size, 0, none⟩)] 25)) (w.heap.size + 1) 2 (fun i => if i = 0 then .pointer none else .pointer (some ⟨w.heap.size, 0, none⟩)) by
    have h := RowAt.new (w.alloc (.cells zeroSA 54)) #[.pointer none, .pointer (some ⟨w.heap.size, 0, none⟩)] 25 2 (fun i => if i = 0 then .pointer none else .pointer (some ⟨w.heap.size, 0, none⟩)) (fun i hi => by
      rcases (show i = 0 ∨ i = 1 by omega) with rfl | rfl <;> rfl)
    rw [show (w.alloc (.cells zeroSA 54)).heap.size = w.heap.size + 1 by simp] at h
    exact h)
  clear hb
  go_enter Try.func6, Try.ntmps6
  go_wp2_with (fail)
  generalize (w.alloc (.cells zeroSA 54)).alloc (.cells #[.pointer none, .pointer (some ⟨w.heap.size, 0, none⟩)] 25) = W at *
  clear hzz
  go_loop [18] (fun v => ∃ k : Nat, k ≤ 2 ∧ v = .int .i64 k) (fun v => 2 - (intOf v).toNat)
  case atStart => exact ⟨0, Nat.zero_le _, rfl⟩
  case round =>
    obtain ⟨k, hk, rfl⟩ := hrel
    by_cases hlt : k < 2
    · have hltI : (k : Int) < 2 := by omega
      obtain ⟨q, hc, hG⟩ : ∃ q, W.cell? ⟨w.heap.size + 1, k, none⟩ = some (.pointer q) ∧ CGone W q := by
        rcases (show k = 0 ∨ k = 1 by omega) with rfl | rfl
        · exact ⟨none, HL.out.cell 0 (by decide), .inl rfl⟩
        · exact ⟨_, HL.out.cell 1 (by decide), .inr ⟨w.heap.size, rfl, HZ.out⟩⟩
      have HG := Lib.hid hG
      clear hG
      go_wp2_with (fail)
      refine (ctake_gone HG.out).mono ?_
      rintro e w' ⟨rfl, rfl⟩
      go_wp2_with (fail)
      refine (clive_gone HG.out i).mono ?_
      rintro e w' ⟨rfl, rfl⟩
      go_wp2_with (fail)
      refine (cat_gone HG.out i).mono ?_
      rintro e w' ⟨rfl, rfl⟩
      go_wp2_with (fail)
      refine (cgive_gone HG.out i).mono ?_
      rintro e w' ⟨rfl, rfl⟩
      go_wp2_with (fail)
      refine (cmark_gone HG.out i turn).mono ?_
      rintro e w' ⟨rfl, rfl⟩
      go_wp2_with (fail)
      refine (cclear_gone HG.out i).mono ?_
      rintro e w' ⟨rfl, rfl⟩
      go_wp2_with (fail)
      refine (ccount_gone HG.out).mono ?_
      rintro e w' ⟨rfl, rfl⟩
      go_wp2_with (fail)
      refine (csize_gone HG.out).mono ?_
      rintro e w' ⟨rfl, rfl⟩
      go_wp2_with (fail)
      refine (ccolour_gone HG.out).mono ?_
      rintro e w' ⟨rfl, rfl⟩
      go_wp2_with (fail)
      refine (cfree_gone HG.out).mono ?_
      rintro e w' ⟨rfl, rfl⟩
      go_wp2_with (fail)
      refine (cchain_gone HG.out).mono ?_
      rintro e w' ⟨rfl, rfl⟩
      clear hc
      go_wp2_with (fail)
      go_round
      case rel => exact ⟨k + 1, hlt, by go_num⟩
      case measure => simp [intOf]; omega
    · obtain rfl : k = 2 := by omega
      go_wp2_with (fail)
      refine (cknown_any chain_ok W).mono ?_
      rintro e w' ⟨rfl, hb⟩
      have HF := Lib.hid (HB.out.trans (hb.mono HB.out.size))
      clear hb
      go_wp2_with (fail)
      go_ret
      exact ⟨rfl, HF.out⟩
end Go.Proofs.Ytifiecfkcikdmaa
