/-
  buddy: a node that is not there, or was not made.
-/
import Derived.Test.YtilcdnkjfbkpnaaBuCopy
namespace Go.Proofs.Ytilcdnkjfbkpnaa
open Go.RowKit Go.Shelf Go
attribute [local go_sem] Oper.semAt_some

def zeroN (i : Nat) : Value := if i = 0 then .int .i64 0 else .map none
def BGone (W : World) (q : Option Addr) : Prop := q = none ∨ ∃ d, q = some ⟨d, 0, none⟩ ∧ RowAt W d 13 zeroN
theorem BGone.later {W W' : World} {q : Option Addr} (h : BGone W q) (hb : Below W.heap.size W W') : BGone W' q := by
  rcases h with rfl | ⟨d, rfl, R⟩
  · exact .inl rfl
  · exact .inr ⟨d, rfl, R.later hb⟩
section
variable {w : World} {q : Option Addr}
theorem missing_gone (h : BGone w q) : Calls Try.prog 28 #[.pointer q] w fun e w' => e = .returned (.bool true) ∧ w = w' := by
  rcases h with rfl | ⟨d, rfl, R⟩
  · go_enter Try.func28, Try.ntmps28
    go_wp2_with (fail)
    go_ret
    exact ⟨rfl, rfl⟩
  · have c0 : w.cell? ⟨d, 0, none⟩ = some (.int .i64 0) := R.cell 0 (by decide)
    go_enter Try.func28, Try.ntmps28
    go_wp2_with (fail)
    go_ret
    exact ⟨rfl, rfl⟩
theorem take_gone (h : BGone w q) (order : Int) (high : Bool) : Calls Try.prog 13 #[.pointer q, .int .i64 order, .bool high] w fun e w' => e = .returned (.tuple #[.int .i64 0, .int .i64 1]) ∧ w = w' := by
  go_enter Try.func13, Try.ntmps13
  go_wp2_with (fail)
  refine (missing_gone h).mono ?_
  rintro e w' ⟨rfl, rfl⟩
  go_wp2_with (fail)
  go_ret2
  exact ⟨rfl, rfl⟩
theorem give_gone (h : BGone w q) (x o : Int) : Calls Try.prog 15 #[.pointer q, .int .i64 x, .int .i64 o] w fun e w' => e = .returned (.int .i64 1) ∧ w = w' := by
  go_enter Try.func15, Try.ntmps15
  go_wp2_with (fail)
  refine (missing_gone h).mono ?_
  rintro e w' ⟨rfl, rfl⟩
  go_wp2_with (fail)
  go_ret
  exact ⟨rfl, rfl⟩
theorem copy_gone (h : BGone w q) : Calls Try.prog 18 #[.pointer q] w fun e w' => e = .returned (.pointer none) ∧ w = w' := by
  go_enter Try.func18, Try.ntmps18
  go_wp2_with (fail)
  refine (missing_gone h).mono ?_
  rintro e w' ⟨rfl, rfl⟩
  go_wp2_with (fail)
  go_ret
  exact ⟨rfl, rfl⟩
theorem frames_gone (h : BGone w q) : Calls Try.prog 20 #[.pointer q] w fun e w' => e = .returned (.int .i64 0) ∧ w = w' := by
  rcases h with rfl | ⟨d, rfl, R⟩
  · go_enter Try.func20, Try.ntmps20
    go_wp2_with (fail)
    go_ret
    exact ⟨rfl, rfl⟩
  · have c0 : w.cell? ⟨d, 0, none⟩ = some (.int .i64 0) := R.cell 0 (by decide)
    go_enter Try.func20, Try.ntmps20
    go_wp2_with (fail)
    go_ret
    exact ⟨rfl, rfl⟩
theorem look_nil (x : Int) (W : World) : (Instr.lookup 47 (.map none) (.int .i64 x) true).run Try.prog W = .ok (.tuple #[.int .i64 0, .bool false]) W := by kernel_rfl
set_option maxRecDepth 100000 in
theorem taken_gone (h : BGone w q) (x : Int) : Calls Try.prog 17 #[.pointer q, .int .i64 x] w fun e w' => e = .returned (.tuple #[.int .i64 0, .bool false]) ∧ w = w' := by
  rcases h with rfl | ⟨d, rfl, R⟩
  · go_enter Try.func17, Try.ntmps17
    go_wp2_with (fail)
    go_ret2
    exact ⟨rfl, rfl⟩
  · have c0 : w.cell? ⟨d, 12, none⟩ = some (.map none) := R.cell 12 (by decide)
    have hlk := look_nil x w
    go_enter Try.func17, Try.ntmps17
    go_wp2_with (fail)
    go_ret2
    exact ⟨rfl, rfl⟩
theorem most_gone (h : BGone w q) : Calls Try.prog 22 #[.pointer q] w fun e w' => e = .returned (.int .i64 (-1)) ∧ Below w.heap.size w w' := by
  rcases h with rfl | ⟨d, rfl, R⟩
  · have hb : Below w.heap.size w ((w.alloc (.cells #[.int .i64 (-1)] 3))) := (Below.refl _ w).alloc (Nat.le_refl _) _
    go_enter Try.func22, Try.ntmps22
    go_wp2_with (fail)
    refine bodyPost_ret_by (v := .int .i64 (-1)) ?_ rfl ⟨rfl, hb⟩
    simp [results, Try.f22, go_sem]
  · refine (callsIn_wide.1 (most_in 3 (Nat.le_refl _) d (fun _ => .map none) (fun _ => False) w (fun i hi => ?_) (fun i hi => .inl ⟨rfl, fun h => h⟩))).mono ?_
    · have h := R.cell (1 + i) (by omega)
      unfold zeroN at h
      rw [if_neg (by omega)] at h
      exact h
    · rintro e w' ⟨⟨x, rfl, hx⟩, hb⟩
      rcases hx with ⟨rfl, _⟩ | ⟨o, _, _, h, _⟩
      · exact ⟨rfl, hb⟩
      · exact h.elim
set_option maxRecDepth 100000 in
theorem free_gone (h : BGone w q) : Calls Try.prog 21 #[.pointer q] w fun e w' => e = .returned (.int .i64 0) ∧ w = w' := by
  rcases h with rfl | ⟨d, rfl, R⟩
  · go_enter Try.func21, Try.ntmps21
    go_wp2_with (fail)
    go_ret
    exact ⟨rfl, rfl⟩
  · obtain ⟨A, hA, hAi⟩ : ∃ A : Array Value, (loadVar 46 ⟨d, 1, none⟩).run Try.prog w = .ok (.agg A) w ∧ ∀ i, i < 11 → A[i]? = some (.map none) := by
      refine ⟨((List.range 11).map fun _ => Value.map none).toArray, run_loadVar_mid (P := Try.prog) w d 1 46 _ _ (fun j v hj => ?_) Try.underlying46 rfl (by
        rw [List.length_map, List.length_range]; kernel_rfl), fun i hi => by simp [hi]⟩
      have hj2 : j < 11 := by have := (List.getElem?_eq_some_iff.1 hj).1; simpa using this
      rw [List.getElem?_map, List.getElem?_range hj2] at hj
      simp at hj
      subst hj
      have h := R.cell (1 + j) (by omega)
      unfold zeroN at h
      rw [if_neg (by omega)] at h
      exact h
    have HA := Lib.hid hA
    have HAI := Lib.hid hAi
    clear hA hAi
    go_enter Try.func21, Try.ntmps21
    go_wp2_with (refine wpList_load_run rfl 46 _ rfl rfl HA.out ?_)
    go_loop [3, 12] (fun t i => ∃ k : Nat, t = .int .i64 0 ∧ i = .int .i64 k ∧ k ≤ 11) (fun _ i => 11 - (intOf i).toNat)
    case atStart => exact ⟨0, rfl, rfl, by decide⟩
    case round =>
      obtain ⟨k, rfl, rfl, hk⟩ := hrel
      by_cases hlt : k < 11
      · have hlt2 : (k : Int) < 11 := by omega
        have hix := index_maps hlt2 (HAI.out k hlt)
        obtain ⟨p, hp⟩ : ∃ p, 2 ^ k = p := ⟨_, rfl⟩
        have hp2 := two_pow_small (k := k) (by omega)
        rw [hp] at hp2
        obtain ⟨p1, p2⟩ := hp2
        have HP := Lib.hid hp
        clear hp
        go_wp2_with (fail)
        refine (size_of (k := k) rfl (by omega) HP.out _).mono ?_
        rintro e w' ⟨rfl, rfl⟩
        go_wp2_with (fail)
        go_round
        case rel => exact ⟨k + 1, rfl, by go_num, by omega⟩
        case measure => simp [intOf]; omega
      · obtain rfl : k = 11 := by omega
        rw [show ((11 : Nat) : Int) = 11 from rfl]
        go_wp2_with (fail)
        go_ret
        exact ⟨rfl, rfl⟩
set_option maxRecDepth 100000 in
theorem next_gone (h : BGone w q) : Calls Try.prog 37 #[.pointer q, .int .i64 0] w fun e w' => e = .returned (.tuple #[.agg #[.int .i64 0, .int .i64 0], .bool false]) ∧ Below w.heap.size w w' := by
  have HG0 := Lib.hid (h.later ((Below.refl _ w).alloc (Nat.le_refl _) (.cells #[.int .i64 0, .int .i64 0] 42)))
  have HB0 := Lib.hid ((Below.refl w.heap.size w).alloc (Nat.le_refl _) (.cells #[.int .i64 0, .int .i64 0] 42))
  have HX0 := Lib.hid (block_row w 0 0)
  go_enter Try.func37, Try.ntmps37
  go_wp2_with (fail)
  go_loopw [6] (fun h wr => h = .int .i64 0 ∧ wr = w.alloc (.cells #[.int .i64 0, .int .i64 0] 42)) (fun _ _ => 0)
  case atStart => exact ⟨rfl, rfl⟩
  case round =>
    obtain ⟨rfl, rfl⟩ := hrel
    go_wp2_with (fail)
    refine (frames_gone HG0.out).mono ?_
    rintro e w' ⟨rfl, rfl⟩
    go_wp2_with (fail)
    exact ret_block (b := .bool false) rfl rfl rfl rfl HX0.out ⟨rfl, HB0.out⟩
end
end Go.Proofs.Ytilcdnkjfbkpnaa
