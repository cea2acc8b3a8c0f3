/-
  table: the landed Word, Entry, pageMay.
-/
import Derived.Test.YtnjdcgjaffageaaTbRef
import Derived.Laws.BitsAllLaws
namespace Go.Proofs.Ytnjdcgjaffageaa
open Go.RowKit Go.Shelf Go
attribute [local go_sem] Oper.semAt_some

theorem or_four (N k : Nat) (hN : N ≤ 65535) (hk : k < 4) : bits .or .u64 ((N : Int) * 4) (k : Int) = (k : Int) + 4 * (N : Int) := by
  rw [show (N : Int) * 4 = ((N * 4 : Nat) : Int) by omega, u64_or_nat _ _ (by omega) (by omega), nat_join2 (N * 4) k (by omega) hk]
  omega
theorem and_three (x : Nat) (hx : x < 18446744073709551616) : bits .and .u64 (x : Int) 3 = ((x % 4 : Nat) : Int) := by
  have h := u64_and_nat x 3 hx (by decide)
  rw [show ((3 : Nat) : Int) = 3 from rfl] at h
  rw [h]
  congr 1
  exact Nat.and_two_pow_sub_one_eq_mod x 2
set_option maxRecDepth 100000 in
set_option maxHeartbeats 2000000 in
theorem word_lan (w : World) (k : Nat) (n : Int) (hk : k < 256) (hn : InI n) : Calls Try.prog 6 #[.agg #[.int .u8 k, .int .i64 n]] w fun e w' =>
    e = .returned (.tuple #[.int .u64 (wordV (k, n)), .int .i64 (wordE (k, n))]) ∧ Below w.heap.size w w' := by
  have HB := Lib.hid ((Below.refl w.heap.size w).alloc (Nat.le_refl _) (.cells #[.int .u8 k, .int .i64 n] TEnt))
  by_cases h1 : 3 < k
  · have e1 : wordV (k, n) = 0 := if_neg (fun h => by have := h.1; dsimp only at this; omega)
    have e2 : wordE (k, n) = 2 := if_neg (fun h => by have := h.1; dsimp only at this; omega)
    rw [e1, e2]
    have h1I : (3 : Int) < k := by omega
    clear e1 e2 h1 hk hn
    go_enter Try.func6, Try.ntmps6
    go_wp2_with (fail)
    go_ret2
    exact ⟨rfl, HB.out⟩
  · have h1I : ¬ (3 : Int) < k := by omega
    by_cases h2 : n < 0
    · have e1 : wordV (k, n) = 0 := if_neg (fun h => by have := h.2.1; dsimp only at this; omega)
      have e2 : wordE (k, n) = 2 := if_neg (fun h => by have := h.2.1; dsimp only at this; omega)
      rw [e1, e2]
      clear e1 e2 h1 hk hn
      go_enter Try.func6, Try.ntmps6
      go_wp2_with (fail)
      go_ret2
      exact ⟨rfl, HB.out⟩
    · by_cases h3 : 65535 < n
      · have e1 : wordV (k, n) = 0 := if_neg (fun h => by have := h.2.2.1; dsimp only at this; omega)
        have e2 : wordE (k, n) = 2 := if_neg (fun h => by have := h.2.2.1; dsimp only at this; omega)
        rw [e1, e2]
        clear e1 e2 h1 hk hn
        go_enter Try.func6, Try.ntmps6
        go_wp2_with (fail)
        go_ret2
        exact ⟨rfl, HB.out⟩
      · obtain ⟨N, rfl⟩ : ∃ N : Nat, n = N := ⟨n.toNat, by omega⟩
        have hN : N ≤ 65535 := by omega
        have w1 : IntKind.u64.wrap (k : Int) = k := wrapu _ (by omega) (by omega)
        have w2 : IntKind.u64.wrap (N : Int) = N := wrapu _ (by omega) (by omega)
        have w3 : IntKind.u64.wrap ((N : Int) * 4) = (N : Int) * 4 := wrapu _ (by omega) (by omega)
        have HO := Lib.hid (or_four N k hN (by omega))
        by_cases h4 : k = 0
        · subst h4
          by_cases h5 : N = 0
          · subst h5
            have e1 : wordV (0, ((0 : Nat) : Int)) = 0 := rfl
            have e2 : wordE (0, ((0 : Nat) : Int)) = 0 := rfl
            rw [e1, e2]
            clear h1 hk hn w1 w2 w3
            go_enter Try.func6, Try.ntmps6
            go_wp2_with (fail)
            go_ret2
            exact ⟨by simpa using HO.out, HB.out⟩
          · have e1 : wordV (0, (N : Int)) = 0 := if_neg (fun h => by have := h.2.2.2 rfl; dsimp only at this; omega)
            have e2 : wordE (0, (N : Int)) = 2 := if_neg (fun h => by have := h.2.2.2 rfl; dsimp only at this; omega)
            rw [e1, e2]
            have h5I : ((N : Int) == 0) = false := by simp; omega
            clear e1 e2 h1 hk hn w1 w2 w3 h5
            go_enter Try.func6, Try.ntmps6
            go_wp2_with (fail)
            go_ret2
            exact ⟨rfl, HB.out⟩
        · have h4I : ((k : Int) == 0) = false := by simp; omega
          have hok : entOk (k, (N : Int)) := ⟨by dsimp only; omega, by dsimp only; omega, by dsimp only; omega, fun h => absurd h h4⟩
          have e1 : wordV (k, (N : Int)) = k + 4 * N := by unfold wordV; rw [if_pos hok]; rfl
          have e2 : wordE (k, (N : Int)) = 0 := if_pos hok
          rw [e1, e2]
          clear e1 e2 h1 hk hn w1 w2 w3 h4 hok
          go_enter Try.func6, Try.ntmps6
          go_wp2_with (fail)
          go_ret2
          exact ⟨by simp [HO.out], HB.out⟩
set_option maxRecDepth 100000 in
set_option maxHeartbeats 2000000 in
theorem entry_lan (w : World) (x : Nat) (hx : x < 18446744073709551616) : Calls Try.prog 8 #[.int .u64 x] w fun e w' =>
    e = .returned (.tuple #[.agg #[.int .u8 (entV x).1, .int .i64 (entV x).2], .int .i64 (entE x)]) ∧ Below w.heap.size w w' := by
  have hr0 := ent_row w (0, 0)
  have o0 : (w.alloc (.cells #[.int .u8 0, .int .i64 0] 23)).cell? ⟨w.heap.size, 0, none⟩ = some (.int .u8 0) := hr0.cell 0 (by decide)
  have o1 : (w.alloc (.cells #[.int .u8 0, .int .i64 0] 23)).cell? ⟨w.heap.size, 1, none⟩ = some (.int .i64 0) := hr0.cell 1 (by decide)
  have z0 := hr0.frozen 0
  have z1 := hr0.frozen 1
  have HB := Lib.hid ((Below.refl w.heap.size w).alloc (Nat.le_refl _) (.cells #[.int .u8 0, .int .i64 0] 23))
  obtain ⟨k, hk⟩ : ∃ k, x % 4 = k := ⟨_, rfl⟩
  obtain ⟨n, hn⟩ : ∃ n, x / 4 = n := ⟨_, rfl⟩
  have ha : bits .and .u64 (x : Int) 3 = (k : Int) := by rw [and_three x hx, hk]
  have hd : (x : Int) / 4 = (n : Int) := by omega
  have hk4 : k < 4 := by omega
  have hcase : (n ≤ 65535 ∧ (k = 0 → n = 0) ∧ entV x = (k, (n : Int)) ∧ entE x = 0) ∨ (¬ (n ≤ 65535 ∧ (k = 0 → n = 0)) ∧ entV x = (0, 0) ∧ entE x = 5) := by
    by_cases hi : isWord x
    · exact .inl ⟨by have := hi.1; omega, fun h => by have := hi.2; omega, by rw [← hk, ← hn]; exact if_pos hi, if_pos hi⟩
    · exact .inr ⟨fun h => hi ⟨by omega, fun h2 => by have := h.2 (by omega); omega⟩, if_neg hi, if_neg hi⟩
  have wk : IntKind.u8.wrap (k : Int) = k := by
    show (k : Int) % 256 = k
    omega
  clear hk hn hr0
  rcases hcase with ⟨h1, h2, e1, e2⟩ | ⟨h1, e1, e2⟩
  · rw [e1, e2]
    have hw : IntKind.i64.wrap (n : Int) = n := by rw [IntKind.wrap_i64]; omega
    have h1I : (n : Int) ≤ 65535 := by omega
    clear e1 e2 h1
    rcases (show k = 0 ∨ k = 1 ∨ k = 2 ∨ k = 3 by omega) with rfl | rfl | rfl | rfl
    · obtain rfl := h2 rfl
      clear h2 hk4 h1I
      go_enter Try.func8, Try.ntmps8
      go_wp2_with (fail)
      exact ret_ent rfl rfl rfl rfl o0 o1 ⟨rfl, HB.out⟩
    all_goals
      clear h2 hk4
      go_enter Try.func8, Try.ntmps8
      go_wp2_with (fail)
      exact ret_ent rfl rfl rfl rfl ((ent_row w (_, (n : Int))).cell 0 (by decide)) ((ent_row w (_, (n : Int))).cell 1 (by decide)) ⟨rfl, (Below.refl w.heap.size w).alloc (Nat.le_refl _) _⟩
  · rw [e1, e2]
    clear e1 e2
    rcases (show k = 0 ∨ k = 1 ∨ k = 2 ∨ k = 3 by omega) with rfl | rfl | rfl | rfl
    · by_cases h0 : n = 0
      · exact absurd ⟨by omega, fun _ => h0⟩ h1
      · have h0I : (0 : Int) < n := by omega
        clear h1 hk4 h0
        go_enter Try.func8, Try.ntmps8
        go_wp2_with (fail)
        exact ret_ent rfl rfl rfl rfl o0 o1 ⟨rfl, HB.out⟩
    all_goals
      have h0I : ¬ (n : Int) ≤ 65535 := fun h => h1 ⟨by omega, fun h => by omega⟩
      clear h1 hk4
      go_enter Try.func8, Try.ntmps8
      go_wp2_with (fail)
      exact ret_ent rfl rfl rfl rfl o0 o1 ⟨rfl, HB.out⟩
theorem word_lanok : WordOk := ⟨word_lan, entry_lan⟩
theorem pageMay_any (p : Int) (w : World) : Calls Try.prog 20 #[.int .i64 p] w fun e w' => e = .returned (.bool (decide (Pg p))) ∧ w = w' := by
  by_cases h1 : 0 ≤ p
  · by_cases h2 : p < 1024
    all_goals
      have e : decide (Pg p) = decide (p < 1024) := by unfold Pg; simp [h1]
      rw [e]
      clear e
      go_enter Try.func20, Try.ntmps20
      go_wp2_with (fail)
      go_ret
      exact ⟨by simp [h2], rfl⟩
  · have e : decide (Pg p) = false := by unfold Pg; simp [h1]
    rw [e]
    clear e
    go_enter Try.func20, Try.ntmps20
    go_wp2_with (fail)
    go_ret
    exact ⟨rfl, rfl⟩
end Go.Proofs.Ytnjdcgjaffageaa
