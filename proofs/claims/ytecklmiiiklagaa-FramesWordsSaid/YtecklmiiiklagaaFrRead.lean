/-
  frames: Read, Write, Move.
-/
import Derived.Test.YtecklmiiiklagaaFrPart
namespace Go.Proofs.Ytecklmiiiklagaa
open Go.RowKit Go

theorem infoByte : (Try.prog.info? 5).map (fun i => (i.zero, i.size, i.bytes)) = some (some (.int .u8 0), 1, 1) := by kernel_rfl
theorem sizeByte : (Try.prog.info? 5).map (·.size) = some 1 := by kernel_rfl
theorem byV_one (B : Nat → UInt8) (i : Nat) : (byV B i).oneCell' = true := rfl
theorem below_grown {w w1 : World} (hg : w.grownBy w1 none) : Below w.heap.size w w1 := (Below.refl _ _).grown hg (Nat.le_refl _) (fun k h => by cases h)

/-- The row of a made slice of bytes. -/
theorem row_made {w w1 : World} {n : Nat} {e : TypeId} (h : w1.ownsRow w.heap.size e 1 (.slice (some ⟨w.heap.size, 0, none⟩) n n) n (madeCells #[Value.int .u8 0] n).toList) : RowAt w1 w.heap.size n (fun _ => Value.int .u8 0) := by
  rw [show madeCells #[Value.int .u8 0] n = madeCells #[Value.int .u8 0] (n * 1) by rw [Nat.mul_one]] at h
  obtain ⟨g, cap, hv, _, _, _, R⟩ := RowAt.of_owns h (fun _ => Value.int .u8 0) (fun i hi => by
    rw [made_at _ _ _ hi]
    have : i % (#[Value.int .u8 0] : Array Value).size = 0 := Nat.mod_one i
    rw [this]; rfl) (by intro h; cases h)
  cases hv
  rw [Nat.mul_one] at R; exact R

theorem read_err (p : Option Addr) (f a n v : Int) (w : World) (hv : v ≠ 0)
    (h : Calls Try.prog 23 #[.pointer p, .int .i64 f, .int .i64 a, .int .i64 n] w fun e w' => e = .returned (.tuple #[.slice none 0 0, .int .i64 v]) ∧ w = w') :
    Calls Try.prog 9 #[.pointer p, .int .i64 f, .int .i64 a, .int .i64 n] w fun e w' => e = .returned (.tuple #[.slice none 0 0, .int .i64 v]) ∧ w = w' := by
  have hne : (v != 0) = true := by simpa using hv
  have HC := Lib.hid h
  clear h hv
  go_enter Try.func9, Try.ntmps9
  go_wp2_with (fail)
  refine HC.out.mono ?_
  rintro e w' ⟨rfl, rfl⟩
  go_wp2_with (fail)
  go_ret2
  exact ⟨rfl, rfl⟩

/-- What Read leaves. -/
def ReadAt (w : World) (x : Nat → Value) (n : Nat) (e : Ending) (w' : World) : Prop :=
  e = .returned (.tuple #[.slice (some ⟨w.heap.size, 0, none⟩) n n, .int .i64 0]) ∧ RowAt w' w.heap.size n x ∧ Below w.heap.size w w'

theorem read_ok {w : World} {M : MB} {ST : Nat → Nat} {B : Nat → UInt8} {K : Nat → Mk} (H : MemAt w M ST B K) (f a n : Nat) (hf : f < M.T) (hb : a + n ≤ 256) :
    Calls Try.prog 9 #[.pointer (some ⟨M.m, 0, none⟩), .int .i64 f, .int .i64 a, .int .i64 n] w (ReadAt w (fun i => byV B (f * 256 + a + i)) n) := by
  have HP := Lib.hid (part_ok H f a n hf hb)
  have HR := Lib.hid (H.bytes)
  have HL := Lib.hid (show f * 256 + 256 ≤ M.T * 256 by omega)
  obtain ⟨i0, hi, hz0, hz1, hz2⟩ := info_parts infoByte
  clear H hf
  go_enter Try.func9, Try.ntmps9
  go_wp2_with (fail)
  refine HP.out.mono ?_
  rintro e w' ⟨rfl, rfl⟩
  go_wp2_with (at_make; refine wpList_make_full _ rfl _ _ 22 rfl w.heap.size 5 i0 (.int .u8 0) 1 Try.underlying22 hi hz0 hz1 .i64 .i64 _ _ n rfl rfl rfl rfl ?c3 ?c4 ?c5 ?_)
  case c3 => rw [hz2]; omega
  case c4 => unfold maxLen; omega
  case c5 => exact Nat.le_refl _
  intro w1 hown hg
  have hb1 := below_grown hg
  have hr1 := row_made hown
  have HB1 := Lib.hid hb1
  have HR1 := Lib.hid hr1
  have HX := Lib.hid (show 0 < n → (some ⟨w.heap.size, 0, none⟩ : Option Addr) = some ⟨w.heap.size, 0, none⟩ ∧ ∃ ad : Addr, (some ⟨M.bb, partO f a, none⟩ : Option Addr) = some ad ∧ ∀ j, j < n → w1.cell? (ad.add j) = some (byV B (f * 256 + a + j)) from
    fun hn => ⟨rfl, _, rfl, fun j hj => by rw [Addr.add_mid, partO_lt (by omega), (HR.out.later hb1).cell _ (by have := HL.out; omega)]⟩)
  clear hown hg hi hz0 hz1 hz2 hb1 hr1
  go_wp2_with (with_reducible refine wpList_copy_row rfl (.tmp 26) (.tmp 27) 22 22 rfl 5 Try.underlying22 sizeByte _ _ n n n (256 - a) rfl rfl w.heap.size 0 n n (fun _ => Value.int .u8 0) (fun i => byV B (f * 256 + a + i)) HR1.out (Nat.min_self n).symm HX.out (Nat.le_of_eq (Nat.zero_add n)) (fun j _ => byV_one _ _) ?_)
  intro w2 hr2 ho2 hs2
  have HR2 := Lib.hid (hr2.ext (g := fun i => byV B (f * 256 + a + i)) (fun i hi => by unfold putF; rw [if_pos (by omega)]; rfl))
  have HB2 := Lib.hid (ho2.below HB1.out HB1.out.size (fun k hk => by omega))
  clear hr2 ho2 hs2
  go_wp2_with (fail)
  go_ret2
  exact ⟨rfl, HR2.out, HB2.out⟩

theorem write_err (p : Option Addr) (f a v : Int) (b : Option Addr) (n c : Nat) (w : World) (hv : v ≠ 0)
    (h : Calls Try.prog 23 #[.pointer p, .int .i64 f, .int .i64 a, .int .i64 n] w fun e w' => e = .returned (.tuple #[.slice none 0 0, .int .i64 v]) ∧ w = w') :
    Calls Try.prog 12 #[.pointer p, .int .i64 f, .int .i64 a, .slice b n c] w fun e w' => e = .returned (.int .i64 v) ∧ w = w' := by
  have hne : (v != 0) = true := by simpa using hv
  have HC := Lib.hid h
  clear h hv
  go_enter Try.func12, Try.ntmps12
  go_wp2_with (fail)
  refine HC.out.mono ?_
  rintro e w' ⟨rfl, rfl⟩
  go_wp2_with (fail)
  go_ret
  exact ⟨rfl, rfl⟩

/-- k bytes x laid over B from o on. -/
def putB (B : Nat → UInt8) (o k : Nat) (x : Nat → UInt8) (i : Nat) : UInt8 := if o ≤ i ∧ i < o + k then x (i - o) else B i
theorem putF_byV (B : Nat → UInt8) (o k : Nat) (x : Nat → UInt8) (i : Nat) : putF (byV B) o k (byV x) i = byV (putB B o k x) i := by
  unfold putF byV putB
  by_cases h : o ≤ i ∧ i < o + k
  · rw [if_pos h, if_pos h]
  · rw [if_neg h, if_neg h]

/-- What a writing call leaves: a new value of the bytes. -/
def WroteAt (w : World) (M : MB) (ST : Nat → Nat) (B : Nat → UInt8) (K : Nat → Mk) (e : Ending) (w' : World) : Prop :=
  e = .returned (.int .i64 0) ∧ MemAt w' M ST B K ∧ Only (Eq M.bb) w w'

theorem write_ok {w : World} {M : MB} {ST : Nat → Nat} {B : Nat → UInt8} {K : Nat → Mk} (H : MemAt w M ST B K) (f a n : Nat) (hf : f < M.T) (hb : a + n ≤ 256) (b : Option Addr) (c : Nat) (x : Nat → UInt8)
    (hx : 0 < n → ∃ ad, b = some ad ∧ ∀ j, j < n → w.cell? (ad.add j) = some (byV x j)) :
    Calls Try.prog 12 #[.pointer (some ⟨M.m, 0, none⟩), .int .i64 f, .int .i64 a, .slice b n c] w (WroteAt w M ST (putB B (f * 256 + a) n x) K) := by
  have HP := Lib.hid (part_ok H f a n hf hb)
  have HH := Lib.hid H
  have HL := Lib.hid (show f * 256 + a + n ≤ M.T * 256 by omega)
  have HX := Lib.hid (show 0 < n → (some ⟨M.bb, partO f a, none⟩ : Option Addr) = some ⟨M.bb, f * 256 + a, none⟩ ∧ ∃ ad, b = some ad ∧ ∀ j, j < n → w.cell? (ad.add j) = some (byV x j) from fun hn => ⟨by rw [partO_lt (by omega)], hx hn⟩)
  clear H hf hx
  go_enter Try.func12, Try.ntmps12
  go_wp2_with (fail)
  refine HP.out.mono ?_
  rintro e w' ⟨rfl, rfl⟩
  go_wp2_with (with_reducible refine wpList_copy_row rfl (.tmp 23) (.tmp 24) 22 22 rfl 5 Try.underlying22 sizeByte _ _ n (256 - a) n c rfl rfl M.bb (f * 256 + a) (M.T * 256) n (byV B) (byV x) HH.out.bytes (Nat.min_self n).symm HX.out HL.out (fun j _ => byV_one _ _) ?_)
  intro w2 hr2 ho2 hs2
  have HM := Lib.hid (HH.out.wrote ho2 (hr2.ext (fun i _ => putF_byV B (f * 256 + a) n x i)))
  have HO := Lib.hid ho2
  clear hr2 ho2 hs2
  go_wp2_with (fail)
  go_ret
  exact ⟨rfl, HM.out, HO.out⟩

theorem move_err (p : Option Addr) (f t v : Int) (w : World) (hv : v ≠ 0)
    (h : Calls Try.prog 24 #[.pointer p, .int .i64 f] w fun e w' => e = .returned (.int .i64 v) ∧ w = w') :
    Calls Try.prog 14 #[.pointer p, .int .i64 f, .int .i64 t] w fun e w' => e = .returned (.int .i64 v) ∧ w = w' := by
  have hne : (v != 0) = true := by simpa using hv
  have HC := Lib.hid h
  clear h hv
  go_enter Try.func14, Try.ntmps14
  go_wp2_with (fail)
  refine HC.out.mono ?_
  rintro e w' ⟨rfl, rfl⟩
  go_wp2_with (fail)
  go_ret
  exact ⟨rfl, rfl⟩
theorem clear_err (p : Option Addr) (f v : Int) (w : World) (hv : v ≠ 0)
    (h : Calls Try.prog 24 #[.pointer p, .int .i64 f] w fun e w' => e = .returned (.int .i64 v) ∧ w = w') :
    Calls Try.prog 13 #[.pointer p, .int .i64 f] w fun e w' => e = .returned (.int .i64 v) ∧ w = w' := by
  have hne : (v != 0) = true := by simpa using hv
  have HC := Lib.hid h
  clear h hv
  go_enter Try.func13, Try.ntmps13
  go_wp2_with (fail)
  refine HC.out.mono ?_
  rintro e w' ⟨rfl, rfl⟩
  go_wp2_with (fail)
  go_ret
  exact ⟨rfl, rfl⟩

theorem src_move {w : World} {M : MB} {ST : Nat → Nat} {B : Nat → UInt8} {K : Nat → Mk} (H : MemAt w M ST B K) {f t : Nat} (hf : f * 256 + 256 ≤ M.T * 256) :
    0 < 256 → (some ⟨M.bb, t * 256, none⟩ : Option Addr) = some ⟨M.bb, t * 256, none⟩ ∧ ∃ ad : Addr, (some ⟨M.bb, f * 256, none⟩ : Option Addr) = some ad ∧ ∀ j, j < 256 → w.cell? (ad.add j) = some (byV (fun i => B (f * 256 + i)) j) :=
  fun _ => ⟨rfl, _, rfl, fun j hj => by rw [Addr.add_mid, H.bytes.cell _ (by omega)]; rfl⟩
theorem move_ok {w : World} {M : MB} {ST : Nat → Nat} {B : Nat → UInt8} {K : Nat → Mk} (H : MemAt w M ST B K) (f t : Nat) (hf : f < M.T) (ht : t < M.T) :
    Calls Try.prog 14 #[.pointer (some ⟨M.m, 0, none⟩), .int .i64 f, .int .i64 t] w (WroteAt w M ST (putB B (t * 256) 256 (fun i => B (f * 256 + i))) K) := by
  have HA := Lib.hid (H.asked_ok f hf)
  have HA2 := Lib.hid (H.asked_ok t ht)
  have HP := Lib.hid (bytes_at H f hf)
  have HP2 := Lib.hid (bytes_at H t ht)
  have HH := Lib.hid H
  have HL := Lib.hid (show f * 256 + 256 ≤ M.T * 256 by omega)
  have HL2 := Lib.hid (show t * 256 + 256 ≤ M.T * 256 by omega)
  clear H hf ht
  go_enter Try.func14, Try.ntmps14
  go_wp2_with (fail)
  refine HA.out.mono ?_
  rintro e w' ⟨rfl, rfl⟩
  go_wp2_with (fail)
  refine HA2.out.mono ?_
  rintro e w' ⟨rfl, rfl⟩
  go_wp2_with (fail)
  refine HP2.out.mono ?_
  rintro e w' ⟨rfl, rfl⟩
  go_wp2_with (fail)
  refine HP.out.mono ?_
  rintro e w' ⟨rfl, rfl⟩
  go_wp2_with (with_reducible refine wpList_copy_row rfl (.tmp 23) (.tmp 26) 22 22 rfl 5 Try.underlying22 sizeByte _ _ 256 256 256 256 rfl rfl M.bb (t * 256) (M.T * 256) 256 (byV B) (byV fun i => B (f * 256 + i)) HH.out.bytes rfl (src_move HH.out HL.out) HL2.out (fun j _ => byV_one _ _) ?_)
  intro w2 hr2 ho2 hs2
  have HM := Lib.hid (HH.out.wrote ho2 (hr2.ext (fun i _ => putF_byV B (t * 256) 256 _ i)))
  have HO := Lib.hid ho2
  clear hr2 ho2 hs2
  go_wp2_with (fail)
  go_ret
  exact ⟨rfl, HM.out, HO.out⟩
end Go.Proofs.Ytecklmiiiklagaa
