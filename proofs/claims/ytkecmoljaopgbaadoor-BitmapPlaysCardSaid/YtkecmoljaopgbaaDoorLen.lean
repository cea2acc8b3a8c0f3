/-
  OnesCount64 and Len.
-/
import Derived.Test.YtkecmoljaopgbaaDoorOwn
import Derived.Test.YtkecmoljaopgbaaDoorOnes
namespace Go.Proofs.YtkecmoljaopgbaaDoor
open Go.RowKit Go Bm

theorem wrap_small (z : Nat) (h : z < 18446744073709551616) : IntKind.u64.wrap (z : Int) = (z : Int) := by
  rw [IntKind.wrap_u64]; omega
theorem add_and (M x k z : Nat) (hM : M < 18446744073709551616) (hx : x < 18446744073709551616) (hz : z = (x / k &&& M) + (x &&& M)) (h : z < 18446744073709551616) :
    IntKind.u64.wrap (bits .and .u64 ((x : Int) / (k : Int)) (M : Int) + bits .and .u64 (x : Int) (M : Int)) = (z : Int) := by
  have hd : x / k ≤ x := Nat.div_le_self _ _
  have e1 : (x : Int) / (k : Int) = ((x / k : Nat) : Int) := (Int.natCast_ediv x k).symm
  rw [e1, u64_and_nat _ _ (by omega) hM, u64_and_nat _ _ hx hM, ← Int.natCast_add, ← hz]
  exact wrap_small z h
theorem add_div (x k z : Nat) (hz : z = x + x / k) (h : z < 18446744073709551616) : IntKind.u64.wrap ((x : Int) + (x : Int) / (k : Int)) = (z : Int) := by
  have e1 : (x : Int) / (k : Int) = ((x / k : Nat) : Int) := (Int.natCast_ediv x k).symm
  rw [e1, ← Int.natCast_add, ← hz]
  exact wrap_small z h

theorem ones_any (f : Nat → Bool) (b : Nat) (w : World) :
    Calls Tryd.prog 30 #[.int .u64 (wordOf f b 64 : Nat)] w fun e w' => e = .returned (.int .i64 (cnt f b 64 : Nat)) ∧ w = w' := by
  have hx : wordOf f b 64 < 18446744073709551616 := wordOf_lt f b 64
  obtain ⟨l1, l2, l23, l3, l4, l5, l6, l7⟩ := ones_word f b _ _ _ _ _ _ _ rfl rfl rfl rfl rfl rfl rfl
  have E1 : IntKind.u64.wrap (bits .and .u64 ((wordOf f b 64 : Nat) / 2 : Int) 6148914691236517205 + bits .and .u64 ((wordOf f b 64 : Nat) : Int) 6148914691236517205) = _ := add_and 6148914691236517205 _ 2 _ (by decide) hx rfl l1
  generalize hx0 : wordOf f b 64 = x0 at *
  generalize hx1 : (x0 / 2 &&& 6148914691236517205) + (x0 &&& 6148914691236517205) = x1 at *
  have E2 : IntKind.u64.wrap (bits .and .u64 ((x1 : Int) / 4) 3689348814741910323 + bits .and .u64 (x1 : Int) 3689348814741910323) = _ := add_and 3689348814741910323 _ 4 _ (by decide) l1 rfl l2
  generalize hx2 : (x1 / 4 &&& 3689348814741910323) + (x1 &&& 3689348814741910323) = x2 at *
  have E3 : bits .and .u64 (IntKind.u64.wrap ((x2 : Int) / 16 + (x2 : Int))) 1085102592571150095 = ((x2 / 16 + x2 &&& 1085102592571150095 : Nat) : Int) := by
    have e1 : (x2 : Int) / 16 + (x2 : Int) = ((x2 / 16 + x2 : Nat) : Int) := by simp
    rw [e1, wrap_small _ l23]
    exact u64_and_nat _ 1085102592571150095 l23 (by decide)
  generalize hx3 : (x2 / 16 + x2 &&& 1085102592571150095) = x3 at *
  have E4 : IntKind.u64.wrap ((x3 : Int) + (x3 : Int) / 256) = _ := add_div x3 256 _ rfl l4
  generalize hx4 : x3 + x3 / 256 = x4 at *
  have E5 : IntKind.u64.wrap ((x4 : Int) + (x4 : Int) / 65536) = _ := add_div x4 65536 _ rfl l5
  generalize hx5 : x4 + x4 / 65536 = x5 at *
  have E6 : IntKind.u64.wrap ((x5 : Int) + (x5 : Int) / 4294967296) = _ := add_div x5 4294967296 _ rfl (by omega)
  generalize hx6 : x5 + x5 / 4294967296 = x6 at *
  have F1 := Lib.hid E1
  have F2 := Lib.hid E2
  have F3 := Lib.hid E3
  have F4 := Lib.hid E4
  have F5 := Lib.hid E5
  have F6 := Lib.hid E6
  have F7 := Lib.hid l7
  clear hx0 hx1 hx2 hx3 hx4 hx5 hx6 E1 E2 E3 E4 E5 E6 l7 l1 l2 l23 l3 l4 l5 hx
  go_enter Tryd.func30, Tryd.ntmps30
  go_wp2
  go_ret
  refine ⟨?_, rfl⟩
  show Ending.returned (Value.int .i64 _) = _
  have e1 := F1.out
  have e2 := F2.out
  have e3 := F3.out
  have e4 := F4.out
  have e5 := F5.out
  have e6 := F6.out
  rw [e1, e2, e3, e4, e5, e6]
  rw [IntWalk.wrap64_in _ ⟨by omega, by omega⟩, and127_bits _ l6, F7.out]

set_option maxHeartbeats 1000000 in
theorem len_any (p wb n : Nat) (f : Nat → Bool) (w : World) (S : SetAt w p wb n f) :
    Calls Tryd.prog 24 #[.pointer (some ⟨p, 0, none⟩)] w fun e w' => e = .returned (.int .i64 (cnt f 0 n : Nat)) ∧ w = w' := by
  have h1 := S.words
  have hm := S.max
  have HW := Lib.hid S.word
  have HE := Lib.hid (cnt_words f n S.out)
  generalize hL : (n + 63) / 64 = L at *
  have hL' : L ≤ 1024 := by omega
  clear hL
  go_enter Tryd.func24, Tryd.ntmps24
  go_wp2_with (fail)
  go_loop [3, 13] (fun x y => ∃ k : Nat, k ≤ L ∧ y = .int .i64 k ∧ x = .int .i64 (cnt f 0 (64 * k) : Nat)) (fun _ y => L - (intOf y).toNat)
  case atStart => exact ⟨0, Nat.zero_le _, rfl, rfl⟩
  case round =>
    obtain ⟨k, hk, rfl, rfl⟩ := hrel
    by_cases hlt : k < L
    · have h2 := HW.out k hlt
      have HC := Lib.hid (cnt_add f 0 (64 * k) 64)
      have hc := cnt_le f 0 (64 * k)
      have hc2 := cnt_le f (64 * k) 64
      go_wp2_with (fail)
      refine (ones_any f (64 * k) _).mono ?_
      rintro e w' ⟨rfl, rfl⟩
      go_wp2_with (fail)
      go_round
      case rel => exact ⟨k + 1, hlt, by go_num, by rw [show 64 * (k + 1) = 64 * k + 64 from rfl, HC.out, Nat.zero_add]; go_num⟩
      case measure => simp [intOf]; omega
    · obtain rfl : k = L := by omega
      go_wp2_with (fail)
      go_ret
      exact ⟨by rw [HE.out]; rfl, rfl⟩
end Go.Proofs.YtkecmoljaopgbaaDoor
