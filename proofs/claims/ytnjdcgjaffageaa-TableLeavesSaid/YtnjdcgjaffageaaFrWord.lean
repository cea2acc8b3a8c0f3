/-
  frames: Word, SetWord.
-/
import Derived.Test.YtnjdcgjaffageaaFrRead
import Derived.Laws.BitsAllLaws
namespace Go.Proofs.Ytnjdcgjaffageaa
open Go.RowKit Go

theorem word_err (p : Option Addr) (f i v : Int) (w : World) (hv : v ≠ 0)
    (h : Calls Try.prog 37 #[.pointer p, .int .i64 f] w fun e w' => e = .returned (.int .i64 v) ∧ w = w') :
    Calls Try.prog 35 #[.pointer p, .int .i64 f, .int .i64 i] w fun e w' => e = .returned (.tuple #[.int .u64 0, .int .i64 v]) ∧ w = w' := by
  have hne : (v != 0) = true := by simpa using hv
  have HC := Lib.hid (eight_err p f i v w hv h)
  clear h hv
  go_enter Try.func35, Try.ntmps35
  go_wp2_with (fail)
  refine HC.out.mono ?_
  rintro e w' ⟨rfl, rfl⟩
  go_wp2_with (fail)
  go_ret2
  exact ⟨rfl, rfl⟩
theorem setword_err (p : Option Addr) (f i v x : Int) (w : World) (hv : v ≠ 0)
    (h : Calls Try.prog 34 #[.pointer p, .int .i64 f, .int .i64 i] w fun e w' => e = .returned (.tuple #[.slice none 0 0, .int .i64 v]) ∧ w = w') :
    Calls Try.prog 21 #[.pointer p, .int .i64 f, .int .i64 i, .int .u64 x] w fun e w' => e = .returned (.int .i64 v) ∧ w = w' := by
  have hne : (v != 0) = true := by simpa using hv
  have HC := Lib.hid h
  clear h hv
  go_enter Try.func21, Try.ntmps21
  go_wp2_with (fail)
  refine HC.out.mono ?_
  rintro e w' ⟨rfl, rfl⟩
  go_wp2_with (fail)
  go_ret
  exact ⟨rfl, rfl⟩

/-- The number of the first k bytes from o on, the lowest first. -/
def numB (B : Nat → UInt8) (o : Nat) : Nat → Nat
  | 0 => 0
  | k + 1 => numB B o k + (B (o + k)).toNat * 2 ^ (8 * k)
theorem numB_lt (B : Nat → UInt8) (o : Nat) : ∀ k, numB B o k < 2 ^ (8 * k)
  | 0 => by simp [numB]
  | k + 1 => by
    have h1 := numB_lt B o k
    have h2 := (B (o + k)).toNat_lt
    have h3 : 2 ^ (8 * (k + 1)) = 256 * 2 ^ (8 * k) := by rw [show 8 * (k + 1) = 8 + 8 * k by omega, Nat.pow_add]
    unfold numB
    rw [h3]
    have h4 : (B (o + k)).toNat * 2 ^ (8 * k) ≤ 255 * 2 ^ (8 * k) := Nat.mul_le_mul_right _ (by omega)
    omega

theorem or_step (acc b k : Nat) (ha : acc < 2 ^ (8 * k)) (hb : b < 2 ^ 8) (hk : k < 8) : bits .or .u64 (acc : Int) (IntKind.u64.wrap ((b : Int) * 2 ^ (8 * k))) = ((acc + b * 2 ^ (8 * k) : Nat) : Int) := by
  have h64 : b * 2 ^ (8 * k) < 18446744073709551616 := by
    have h1 : 2 ^ (8 * k) ≤ 2 ^ 56 := Nat.pow_le_pow_right (by decide) (by omega)
    have h2 : b * 2 ^ (8 * k) ≤ 255 * 2 ^ 56 := Nat.mul_le_mul (by omega) h1
    omega
  have hw : IntKind.u64.wrap ((b : Int) * 2 ^ (8 * k)) = ((b * 2 ^ (8 * k) : Nat) : Int) := by
    rw [IntKind.wrap_u64]
    have e : ((b : Int) * 2 ^ (8 * k)) = ((b * 2 ^ (8 * k) : Nat) : Int) := by rw [Int.natCast_mul, Int.natCast_pow]; rfl
    rw [e]; omega
  have ha2 : acc < 18446744073709551616 := by
    have h1 : 2 ^ (8 * k) ≤ 2 ^ 56 := Nat.pow_le_pow_right (by decide) (by omega)
    omega
  rw [hw, u64_or_nat _ _ ha2 h64, Nat.or_comm, nat_join (8 * k) _ _ (Nat.mul_mod_left _ _) ha, Nat.add_comm]

set_option maxHeartbeats 1000000 in
set_option maxRecDepth 100000 in
theorem word_ok {w : World} {M : MB} {ST : Nat → Nat} {B : Nat → UInt8} {K : Nat → Mk} (H : MemAt w M ST B K) (f i : Nat) (hf : f < M.T) (hi : i < 32) :
    Calls Try.prog 35 #[.pointer (some ⟨M.m, 0, none⟩), .int .i64 f, .int .i64 i] w fun e w' => e = .returned (.tuple #[.int .u64 (numB B (f * 256 + i * 8) 8), .int .i64 0]) ∧ w = w' := by
  have HC := Lib.hid (eight_ok H f i hf hi)
  have HB := Lib.hid H.bytes
  have HL := Lib.hid (show f * 256 + i * 8 + 8 ≤ M.T * 256 by omega)
  clear H hf hi
  go_enter Try.func35, Try.ntmps35
  go_wp2_with (fail)
  refine HC.out.mono ?_
  rintro e w' ⟨rfl, rfl⟩
  go_wp2_with (fail)
  go_loop [10, 25] (fun x j => ∃ k : Nat, k ≤ 8 ∧ j = .int .i64 k ∧ x = .int .u64 (numB B (f * 256 + i * 8) k)) (fun _ j => 8 - (intOf j).toNat)
  case atStart => exact ⟨0, Nat.zero_le _, rfl, rfl⟩
  case round =>
    obtain ⟨k, hk, rfl, rfl⟩ := hrel
    by_cases hlt : k < 8
    · have c := HB.out.cell (f * 256 + i * 8 + k) (by have := HL.out; omega)
      unfold byV at c
      have hb := (B (f * 256 + i * 8 + k)).toNat_lt
      have HE := Lib.hid (show bits .or .u64 (numB B (f * 256 + i * 8) k : Int) (IntKind.u64.wrap ((B (f * 256 + i * 8 + k)).toNat * 2 ^ (8 * k))) = ((numB B (f * 256 + i * 8) (k + 1) : Nat) : Int) from or_step _ _ k (numB_lt _ _ _) hb hlt)
      generalize numB B (f * 256 + i * 8) k = acc at HE ⊢
      generalize (B (f * 256 + i * 8 + k)).toNat = b at c hb HE
      go_wp2_with (fail)
      go_round
      case rel => exact ⟨k + 1, hlt, by go_num, by rw [HE.out]⟩
      case measure => simp [intOf]; omega
    · obtain rfl : k = 8 := by omega
      go_wp2_with (fail)
      go_ret2
      exact ⟨rfl, rfl⟩

/-- The k-th byte of a number. -/
def byteOf (x k : Nat) : UInt8 := UInt8.ofNat (x / 2 ^ (8 * k))
theorem byteOf_nat (x k : Nat) : (byteOf x k).toNat = x / 2 ^ (8 * k) % 256 := by simp [byteOf]
theorem byteOf_int (x k : Nat) : ((x : Int) / 2 ^ (8 * k) % 256) = ((byteOf x k).toNat : Int) := by
  rw [byteOf_nat, Int.natCast_emod, Int.natCast_ediv, Int.natCast_pow]; rfl
theorem putB_step (B : Nat → UInt8) (o k : Nat) (x : Nat → UInt8) (i : Nat) : updV (byV (putB B o k x)) (o + k) (.int .u8 (x k).toNat) i = byV (putB B o (k + 1) x) i := by
  unfold updV byV putB
  by_cases h : i = o + k
  · subst h
    rw [if_pos rfl, if_pos (by omega), Nat.add_sub_cancel_left]
  · rw [if_neg h]
    by_cases h1 : o ≤ i ∧ i < o + k
    · rw [if_pos h1, if_pos (by omega)]
    · rw [if_neg h1, if_neg (by omega)]
theorem putB_none (B : Nat → UInt8) (o : Nat) (x : Nat → UInt8) : putB B o 0 x = B := by
  funext i; unfold putB; rw [if_neg (by omega)]

set_option maxHeartbeats 1000000 in
set_option maxRecDepth 100000 in
theorem setword_ok {w : World} {M : MB} {ST : Nat → Nat} {B : Nat → UInt8} {K : Nat → Mk} (H : MemAt w M ST B K) (f i x : Nat) (hf : f < M.T) (hi : i < 32) :
    Calls Try.prog 21 #[.pointer (some ⟨M.m, 0, none⟩), .int .i64 f, .int .i64 i, .int .u64 x] w (WroteAt w M ST (putB B (f * 256 + i * 8) 8 (byteOf x)) K) := by
  have HC := Lib.hid (eight_ok H f i hf hi)
  have HH := Lib.hid H
  have HL := Lib.hid (show f * 256 + i * 8 + 8 ≤ M.T * 256 by omega)
  clear H hf hi
  go_enter Try.func21, Try.ntmps21
  go_wp2_with (fail)
  refine HC.out.mono ?_
  rintro e w' ⟨rfl, rfl⟩
  go_wp2_with (fail)
  go_loopw [24] (fun j wr => ∃ k : Nat, k ≤ 8 ∧ j = .int .i64 k ∧ MemAt wr M ST (putB B (f * 256 + i * 8) k (byteOf x)) K ∧ Only (Eq M.bb) w wr) (fun j _ => 8 - (intOf j).toNat)
  case atStart => exact ⟨0, Nat.zero_le _, rfl, by rw [putB_none]; exact HH.out, Only.refl _ _⟩
  case round =>
    obtain ⟨k, hk, rfl, H, ho⟩ := hrel
    by_cases hlt : k < 8
    · have c := H.bytes.cell (f * 256 + i * 8 + k) (by have := HL.out; omega)
      have fz := H.bytes.frozen (f * 256 + i * 8 + k)
      have HH2 := Lib.hid H
      have HO := Lib.hid ho
      have HS := Lib.hid (H.wrote (Only.setCell _ ⟨M.bb, f * 256 + i * 8 + k, none⟩ rfl (.int .u8 (byteOf x k).toNat)) ((H.bytes.setCell (f * 256 + i * 8 + k) (.int .u8 (byteOf x k).toNat)).ext (fun j _ => putB_step B (f * 256 + i * 8) k (byteOf x) j)))
      unfold byV at c
      clear H ho
      go_wp2_with (fail)
      go_roundw
      case rel => exact ⟨k + 1, hlt, by go_num, by rw [byteOf_int]; exact HS.out, by rw [byteOf_int]; exact HO.out.trans (Only.setCell _ ⟨M.bb, f * 256 + i * 8 + k, none⟩ rfl _)⟩
      case measure => simp [intOf]; omega
    · obtain rfl : k = 8 := by omega
      have HH2 := Lib.hid H
      have HO := Lib.hid ho
      clear H ho
      go_wp2_with (fail)
      go_ret
      exact ⟨rfl, HH2.out, HO.out⟩

end Go.Proofs.Ytnjdcgjaffageaa
