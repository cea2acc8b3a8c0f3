/-
  calls, the document's: eight bytes of a number, and back.
-/
import Derived.Test.YtkmjkkeldbocdaaDoorCsPure
import Derived.Test.YtkmjkkeldbocdaaDoorOwn
import Derived.Test.YtkmjkkeldbocdaaDoorByt
namespace Go.Proofs.YtkmjkkeldbocdaaDoor
open Go.RowKit Go
attribute [local go_sem] Oper.semAt_some

/-- Bytes as they lie. -/
def bvs (L : List UInt8) : List Value := L.map fun b => .int .u8 (b.toNat : Int)
/-- Bytes in a block of their own. -/
def BytAt (base : Nat) (L : List UInt8) (v : Value) (w : World) : Prop := w.ownsRow base 5 1 v L.length (bvs L)
theorem bvs_append (L M : List UInt8) : bvs (L ++ M) = bvs L ++ bvs M := List.map_append
def BytPost (L : List UInt8) (w : World) (e : Ending) (w' : World) : Prop := ∃ v, e = .returned v ∧ BytAt w.heap.size L v w' ∧ Below w.heap.size w w'
theorem u64_small {q : Nat} (h : q / 256 < 18446744073709551616) : Value.int .u64 (IntKind.u64.wrap ((q : Int) / 256)) = .int .u64 ((q / 256 : Nat) : Int) := by
  rw [show ((q : Int) / 256) = ((q / 256 : Nat) : Int) by omega]
  generalize q / 256 = r at *
  have e : IntKind.u64.wrap (r : Int) = r := by
    simp [IntKind.wrap, IntKind.bits, IntKind.signed]
    omega
  rw [e]
set_option maxRecDepth 100000 in
set_option maxHeartbeats 4000000 in
theorem word_any (n : Nat) (hn : n < 18446744073709551616) (w : World) : Calls Tryd.prog 44 #[.int .u64 (n : Int)] w (BytPost (wordL n) w) := by
  obtain ⟨i0, hi, hz0, hz1, hz2⟩ := info_parts infoByte
  have H0 := Lib.hid (show BytAt w.heap.size ((wordL n).take 0) (.slice none 0 0) w from World.ownsRow_nil _ _ _ _)
  have HN := Lib.hid hn
  clear hn
  have HB0 := Lib.hid (Below.refl w.heap.size w)
  go_enter Tryd.func44, Tryd.ntmps44
  go_wp2_with (fail)
  go_loopw [0, 3, 4] (fun nv bv iv wr => ∃ (i q : Nat), iv = .int .i64 i ∧ i ≤ 8 ∧ nv = .int .u64 q ∧ Hid (q = n / 256 ^ i) ∧ Hid (q < 18446744073709551616) ∧ Hid (BytAt w.heap.size ((wordL n).take i) bv wr) ∧ Hid (Below w.heap.size w wr)) (fun _ _ iv _ => 8 - (intOf iv).toNat)
  case atStart => exact ⟨0, n, rfl, by decide, rfl, Lib.hid (by simp), HN, H0, HB0⟩
  case round =>
    clear H0 HB0
    obtain ⟨i, q, rfl, hi8, rfl, HQ, Hq, HW, HB⟩ := hrel
    by_cases hlt : i < 8
    · have hltI : (i : Int) < 8 := by omega
      have hll : ((wordL n).take i).length = i := by rw [List.length_take, wordL_len]; omega
      have HT := Lib.hid (word_take (n := n) hlt)
      generalize (wordL n).take i = T at *
      obtain ⟨ua, uc, hu, _⟩ := owns_slice HW.out
      rw [hll] at hu
      subst hu
      have HL := Lib.hid hll
      have HO := Lib.hid (show wr.ownsRow w.heap.size 5 1 (.slice ua i uc) i (bvs T) from by have h := HW.out; unfold BytAt at h; rwa [hll] at h)
      clear hll HW
      go_wp2_with (first | (at_builtin; refine wpList_append_one wr rfl _ _ 27 rfl w.heap.size 5 i0 _ 1 1 Tryd.underlying27 hi hz0 hz1 hz2 rfl (by decide) _ _ _ #[.int .u8 ((q : Int) % 256)] HO.out HB.out.size rfl rfl rfl (one_cell _ _) (by omega) (by decide) ?_; intro v3 w3 hown3 ho3 _) | fail)
      have HW3 := Lib.hid (show BytAt w.heap.size ((wordL n).take (i + 1)) v3 w3 from by
        unfold BytAt
        rw [HT.out, List.length_append, HL.out, bvs_append]
        have e : bvs [UInt8.ofNat (n / 256 ^ i)] = (#[Value.int .u8 ((q : Int) % 256)] : Array Value).toList := by
          rw [← HQ.out]
          simp [bvs]
        rw [e]
        exact hown3)
      have HB3 := Lib.hid (ho3.below HB.out HB.out.size (fun k hk => (HO.out.lt k hk).1))
      have HQ3 := Lib.hid (show q / 256 = n / 256 ^ (i + 1) from by rw [HQ.out, Nat.div_div_eq_div_mul, Nat.pow_succ])
      have Hq3 := Lib.hid (show q / 256 < 18446744073709551616 from by have := Hq.out; omega)
      have HQS := Lib.hid (show (q / 256 : Nat) < 18446744073709551616 from Hq3.out)
      clear hown3 ho3 HO HQ Hq HB HT
      go_wp2_with (fail)
      exact ⟨⟨i + 1, q / 256, by go_num, hlt, by rw [u64_small HQS.out], HQ3, Hq3, HW3, HB3⟩, by simp [intOf]; omega⟩
    · obtain rfl : i = 8 := by omega
      have HW2 := Lib.hid (show BytAt w.heap.size (wordL n) u3 wr from by have h := HW.out; rwa [List.take_of_length_le (by rw [wordL_len]; decide)] at h)
      clear HW
      go_wp2_with (fail)
      go_ret
      exact ⟨_, rfl, HW2.out, HB.out⟩
/-- The number of eight bytes from the place p on, of n. -/
def numF (x : Nat → UInt8) (n p : Nat) (i : Nat) : Nat := if p + i < n then (x (p + i)).toNat else 0
theorem numF_lt (x : Nat → UInt8) (n p i : Nat) : numF x n p i < 256 := by
  unfold numF
  split
  · exact (x (p + i)).toNat_lt
  · decide
def numX (x : Nat → UInt8) (n p : Nat) : Nat := numT (numF x n p) 8
set_option maxRecDepth 100000 in
set_option maxHeartbeats 4000000 in
theorem number_any {w : World} {a : Option Addr} {n c : Nat} {x : Nat → UInt8} (hS : Src w a n x) (hn : n ≤ 100000) (p : Nat) (hp : p ≤ 100000) : Calls Tryd.prog 45 #[.slice a n c, .int .i64 (p : Int)] w fun e w' => e = .returned (.int .u64 (numX x n p : Nat)) ∧ w = w' := by
  have HS := Lib.hid hS
  have hpI : (p : Int) ≤ 100000 := by omega
  have hnI : (n : Int) ≤ 100000 := by omega
  clear hS hn hp
  go_enter Tryd.func45, Tryd.ntmps45
  go_wp2_with (fail)
  go_loopw [5, 6] (fun nv iv wr => ∃ (k : Nat) (j : Int) (q : Nat), iv = .int .i64 j ∧ j + k = 7 ∧ k ≤ 8 ∧ nv = .int .u64 q ∧ Hid (q = numT (numF x n p) k) ∧ wr = w) (fun _ iv _ => (intOf iv + 1).toNat)
  case atStart => exact ⟨0, 7, 0, rfl, by decide, by decide, rfl, Lib.hid rfl, rfl⟩
  case round =>
    obtain ⟨k, j, q, rfl, hj, hk, rfl, HQ, hw⟩ := hrel
    have hw := hw.symm
    subst hw
    by_cases hlt : k < 8
    · obtain ⟨J, rfl⟩ : ∃ J : Nat, j = J := ⟨j.toNat, by omega⟩
      have hJ : J = 7 - k := by omega
      have hq := numT_small (numF_lt x n p) (show k ≤ 7 by omega)
      rw [← HQ.out] at hq
      have hqI : (q : Int) < 72057594037927936 := by omega
      have hJ0 : (0 : Int) ≤ J := by omega
      have hQ2 : numT (numF x n p) (k + 1) = q * 256 + numF x n p J := by rw [HQ.out, hJ]; rfl
      have HJ := Lib.hid hj
      have hJ7 : (J : Int) ≤ 7 := by omega
      clear hJ hj
      by_cases hin : p + J < n
      · have hinI : (p : Int) + J < n := by omega
        obtain ⟨ad, ha, hc⟩ := HS.out (by omega)
        have cx := hc (p + J) hin
        unfold byV at cx
        have hF : numF x n p J = (x (p + J)).toNat := if_pos hin
        rw [hF] at hQ2
        have hb := (x (p + J)).toNat_lt
        generalize (x (p + J)).toNat = y at *
        have hyI : (y : Int) < 256 := by omega
        subst ha
        have HQ2 := Lib.hid hQ2
        clear hc hF hQ2 hq hb
        go_wp2_with (fail)
        exact ⟨⟨k + 1, (J : Int) - 1, q * 256 + y, rfl, by have := HJ.out; omega, hlt, by go_num, Lib.hid HQ2.out.symm, trivial⟩, by simp [intOf]⟩
      · have hinI : ¬ (p : Int) + J < n := by omega
        have hF : numF x n p J = 0 := if_neg hin
        rw [hF] at hQ2
        obtain ⟨r, hr⟩ : ∃ r : Nat, q * 256 = r := ⟨_, rfl⟩
        rw [hr, Nat.add_zero] at hQ2
        have HQ2 := Lib.hid hQ2
        have hrI : (q : Int) * 256 = r := by omega
        have hr1 : (0 : Int) ≤ r := by omega
        have hr2 : (r : Int) < 18446744073709551616 := by omega
        clear hF hQ2 hq hin hr hqI
        go_wp2_with (fail)
        exact ⟨⟨k + 1, (J : Int) - 1, r, rfl, by have := HJ.out; omega, hlt, rfl, Lib.hid HQ2.out.symm, trivial⟩, by simp [intOf]⟩
    · obtain rfl : k = 8 := by omega
      obtain rfl : j = -1 := by omega
      go_wp2_with (fail)
      go_ret
      exact ⟨by rw [HQ.out]; rfl, rfl⟩
end Go.Proofs.YtkmjkkeldbocdaaDoor
