/-
  frames: part, eight.
-/
import Derived.Test.YtnjdcgjaffageaaFrMem
namespace Go.Proofs.Ytnjdcgjaffageaa
open Go.RowKit Go

theorem MemAt.asked_ok {w : World} {M : MB} {ST : Nat → Nat} {B : Nat → UInt8} {K : Nat → Mk} (H : MemAt w M ST B K) (f : Nat) (hf : f < M.T) :
    Calls Try.prog 37 #[.pointer (some ⟨M.m, 0, none⟩), .int .i64 f] w fun e w' => e = .returned (.int .i64 0) ∧ w = w' := by
  obtain ⟨k2, hk2, h2⟩ := H.c2
  exact asked_at M.m _ M.T k2 f 0 w h2 H.T4 H.T1 (.inl ⟨by omega, by omega, rfl⟩)
theorem MemAt.asked_no {w : World} {M : MB} {ST : Nat → Nat} {B : Nat → UInt8} {K : Nat → Mk} (H : MemAt w M ST B K) (f : Int) (hf : ¬ (0 ≤ f ∧ f < M.T)) :
    Calls Try.prog 37 #[.pointer (some ⟨M.m, 0, none⟩), .int .i64 f] w fun e w' => e = .returned (.int .i64 7) ∧ w = w' := by
  obtain ⟨k2, hk2, h2⟩ := H.c2
  exact asked_at M.m _ M.T k2 f 7 w h2 H.T4 H.T1 (.inr ⟨hf, rfl⟩)

theorem part_err (p : Option Addr) (f a n v : Int) (w : World) (hv : v ≠ 0)
    (h : Calls Try.prog 37 #[.pointer p, .int .i64 f] w fun e w' => e = .returned (.int .i64 v) ∧ w = w') :
    Calls Try.prog 39 #[.pointer p, .int .i64 f, .int .i64 a, .int .i64 n] w fun e w' => e = .returned (.tuple #[.slice none 0 0, .int .i64 v]) ∧ w = w' := by
  have hne : (v != 0) = true := by simpa using hv
  have HC := Lib.hid h
  clear h hv
  go_enter Try.func39, Try.ntmps39
  go_wp2_with (fail)
  refine HC.out.mono ?_
  rintro e w' ⟨rfl, rfl⟩
  go_wp2_with (fail)
  go_ret2
  exact ⟨rfl, rfl⟩

/-- Are n bytes from a on within a frame? -/
def fits (a n : Int) : Prop := 0 ≤ a ∧ 0 ≤ n ∧ a + n ≤ 256

theorem part_bad {w : World} {M : MB} {ST : Nat → Nat} {B : Nat → UInt8} {K : Nat → Mk} (H : MemAt w M ST B K) (f : Nat) (a n : Int) (hf : f < M.T) (ha : a ≤ 9223372036854775807) (hb : ¬ fits a n) :
    Calls Try.prog 39 #[.pointer (some ⟨M.m, 0, none⟩), .int .i64 f, .int .i64 a, .int .i64 n] w fun e w' => e = .returned (.tuple #[.slice none 0 0, .int .i64 2]) ∧ w = w' := by
  have HC := Lib.hid (H.asked_ok f hf)
  have hcs : a < 0 ∨ (0 ≤ a ∧ n < 0) ∨ (0 ≤ a ∧ 0 ≤ n ∧ 256 - a < n) := by unfold fits at hb; omega
  clear H hf hb
  rcases hcs with h1 | ⟨h1, h2⟩ | ⟨h1, h2, h3⟩
  all_goals
    go_enter Try.func39, Try.ntmps39
    go_wp2_with (fail)
    refine HC.out.mono ?_
    rintro e w' ⟨rfl, rfl⟩
    go_wp2_with (fail)
    go_ret2
    exact ⟨rfl, rfl⟩

/-- Where a part begins: a cut at the very end keeps the address. -/
def partO (f a : Nat) : Nat := if a = 256 then f * 256 else f * 256 + a
theorem partO_end (f : Nat) : partO f 256 = f * 256 := if_pos rfl
theorem partO_lt {f a : Nat} (h : a < 256) : partO f a = f * 256 + a := by unfold partO; rw [if_neg (by omega)]

theorem part_ok {w : World} {M : MB} {ST : Nat → Nat} {B : Nat → UInt8} {K : Nat → Mk} (H : MemAt w M ST B K) (f a n : Nat) (hf : f < M.T) (hb : a + n ≤ 256) :
    Calls Try.prog 39 #[.pointer (some ⟨M.m, 0, none⟩), .int .i64 f, .int .i64 a, .int .i64 n] w fun e w' => e = .returned (.tuple #[.slice (some ⟨M.bb, partO f a, none⟩) n (256 - a), .int .i64 0]) ∧ w = w' := by
  have HC := Lib.hid (H.asked_ok f hf)
  have HB := Lib.hid (bytes_at H f hf)
  clear H hf
  have h1 : (n : Int) ≤ 256 - a := by omega
  by_cases h256 : a = 256
  · subst h256
    obtain rfl : n = 0 := by omega
    go_enter Try.func39, Try.ntmps39
    go_wp2_with (fail)
    refine HC.out.mono ?_
    rintro e w' ⟨rfl, rfl⟩
    go_wp2_with (fail)
    refine HB.out.mono ?_
    rintro e w' ⟨rfl, rfl⟩
    go_wp2_with (fail)
    go_ret2
    refine ⟨?_, rfl⟩
    rw [partO_end]; rfl
  · go_enter Try.func39, Try.ntmps39
    go_wp2_with (fail)
    refine HC.out.mono ?_
    rintro e w' ⟨rfl, rfl⟩
    go_wp2_with (fail)
    refine HB.out.mono ?_
    rintro e w' ⟨rfl, rfl⟩
    go_wp2_with (fail)
    go_ret2
    refine ⟨?_, rfl⟩
    show Ending.returned (Value.tuple #[Value.slice (some ⟨M.bb, f * 256 + a, none⟩) (a + n - a) (256 - a), Value.int .i64 0]) = _
    rw [partO_lt (by omega), Nat.add_sub_cancel_left]

theorem eight_err (p : Option Addr) (f i v : Int) (w : World) (hv : v ≠ 0)
    (h : Calls Try.prog 37 #[.pointer p, .int .i64 f] w fun e w' => e = .returned (.int .i64 v) ∧ w = w') :
    Calls Try.prog 34 #[.pointer p, .int .i64 f, .int .i64 i] w fun e w' => e = .returned (.tuple #[.slice none 0 0, .int .i64 v]) ∧ w = w' := by
  have hne : (v != 0) = true := by simpa using hv
  have HC := Lib.hid h
  clear h hv
  go_enter Try.func34, Try.ntmps34
  go_wp2_with (fail)
  refine HC.out.mono ?_
  rintro e w' ⟨rfl, rfl⟩
  go_wp2_with (fail)
  go_ret2
  exact ⟨rfl, rfl⟩
theorem eight_bad {w : World} {M : MB} {ST : Nat → Nat} {B : Nat → UInt8} {K : Nat → Mk} (H : MemAt w M ST B K) (f : Nat) (i : Int) (hf : f < M.T) (hb : ¬ (0 ≤ i ∧ i ≤ 31)) :
    Calls Try.prog 34 #[.pointer (some ⟨M.m, 0, none⟩), .int .i64 f, .int .i64 i] w fun e w' => e = .returned (.tuple #[.slice none 0 0, .int .i64 2]) ∧ w = w' := by
  have HC := Lib.hid (H.asked_ok f hf)
  have HW := Lib.hid (decide_eq_false hb)
  clear H hf hb
  go_enter Try.func34, Try.ntmps34
  go_wp2_with (fail)
  refine HC.out.mono ?_
  rintro e w' ⟨rfl, rfl⟩
  go_wp2_with (fail)
  refine (fwithin_any i 0 31 false HW.out _).mono ?_
  rintro e w' ⟨rfl, rfl⟩
  go_wp2_with (fail)
  go_ret2
  exact ⟨rfl, rfl⟩
theorem eight_ok {w : World} {M : MB} {ST : Nat → Nat} {B : Nat → UInt8} {K : Nat → Mk} (H : MemAt w M ST B K) (f i : Nat) (hf : f < M.T) (hi : i < 32) :
    Calls Try.prog 34 #[.pointer (some ⟨M.m, 0, none⟩), .int .i64 f, .int .i64 i] w fun e w' => e = .returned (.tuple #[.slice (some ⟨M.bb, f * 256 + i * 8, none⟩) 8 (256 - i * 8), .int .i64 0]) ∧ w = w' := by
  have HC := Lib.hid (H.asked_ok f hf)
  have hp := part_ok H f (i * 8) 8 hf (by omega)
  rw [partO_lt (by omega), Int.natCast_mul] at hp
  have HP := Lib.hid hp
  have HW := Lib.hid (show decide (0 ≤ (i : Int) ∧ (i : Int) ≤ 31) = true from decide_eq_true ⟨by omega, by omega⟩)
  clear H hf hp
  go_enter Try.func34, Try.ntmps34
  go_wp2_with (fail)
  refine HC.out.mono ?_
  rintro e w' ⟨rfl, rfl⟩
  go_wp2_with (fail)
  refine (fwithin_any i 0 31 true HW.out _).mono ?_
  rintro e w' ⟨rfl, rfl⟩
  go_wp2_with (fail)
  refine HP.out.mono ?_
  rintro e w' ⟨rfl, rfl⟩
  go_wp2_with (fail)
  go_ret2
  exact ⟨rfl, rfl⟩
end Go.Proofs.Ytnjdcgjaffageaa
