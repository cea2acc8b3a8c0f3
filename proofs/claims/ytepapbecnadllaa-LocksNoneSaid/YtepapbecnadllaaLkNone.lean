/-
  The walk of LocksNone: it returns true, and below the old heap nothing has turned.
-/
import Derived.Test.YtepapbecnadllaaLkKnown
namespace Go.Proofs.Ytepapbecnadllaa
open Go.RowKit Go

set_option maxHeartbeats 2000000 in
theorem lawNone_any (who lock : Int) (w : World) :
    Calls Try.prog 6 #[.int .i64 who, .int .i64 lock] w fun e w' => e = .returned (.bool true) ∧ Below w.heap.size w w' := by
  have hz := zero_table
  have HZ0 := Lib.hid (RowAt.new w zeroA 46 66 _ zeroA_at)
  have HB0 := Lib.hid ((Below.refl _ w).alloc (Nat.le_refl _) (.cells zeroA 46))
  have hs : (w.alloc (.cells zeroA 46)).heap.size = w.heap.size + 1 := by simp
  have HS := Lib.hid hs
  clear hs
  go_enter Try.func6, Try.ntmps6
  go_wp2_with (fail)
  generalize w.alloc (.cells zeroA 46) = w1 at *
  have hs := HS.out
  have b2 : Below w1.heap.size w1 (w1.alloc (.cells #[.pointer none, .pointer (some ⟨w.heap.size, 0, none⟩)] 24)) := (Below.refl _ _).alloc (Nat.le_refl _) _
  have HB2 := Lib.hid (HB0.out.trans (b2.mono HB0.out.size))
  have HZ2 := Lib.hid (HZ0.out.later b2)
  have p0 : (w1.alloc (.cells #[.pointer none, .pointer (some ⟨w.heap.size, 0, none⟩)] 24)).cell? ⟨w.heap.size + 1, 0, none⟩ = some (.pointer none) := by rw [← hs]; simp [go_sem]
  have p1 : (w1.alloc (.cells #[.pointer none, .pointer (some ⟨w.heap.size, 0, none⟩)] 24)).cell? ⟨w.heap.size + 1, 1, none⟩ = some (.pointer (some ⟨w.heap.size, 0, none⟩)) := by rw [← hs]; simp [go_sem]
  have P0 := Lib.hid p0
  have P1 := Lib.hid p1
  clear p0 p1 b2 HZ0 HB0 HS hs hz
  generalize w1.alloc (.cells #[.pointer none, .pointer (some ⟨w.heap.size, 0, none⟩)] 24) = w2 at *
  go_loopw [14] (fun i wr => ∃ k : Nat, k ≤ 2 ∧ i = .int .i64 k ∧ Below w2.heap.size w2 wr) (fun i _ => 2 - (intOf i).toNat)
  case atStart => exact ⟨0, by decide, rfl, Below.refl _ _⟩
  case round =>
    obtain ⟨k, hk, rfl, hB⟩ := hrel
    have HB := Lib.hid hB
    clear hB
    by_cases hlt : k < 2
    · obtain ⟨q, hq, hg⟩ : ∃ q, wr.cell? ⟨w.heap.size + 1, k, none⟩ = some (.pointer q) ∧ LGone wr q := by
        rcases (show k = 0 ∨ k = 1 by omega) with rfl | rfl
        · exact ⟨none, by rw [HB.out.cell (World.block_lt_of_cell? _ _ P0.out)]; exact P0.out, .inl rfl⟩
        · exact ⟨_, by rw [HB.out.cell (World.block_lt_of_cell? _ _ P1.out)]; exact P1.out, .inr ⟨w.heap.size, rfl, (HZ2.out.later HB.out).cell 0 (by decide), (HZ2.out.later HB.out).cell 1 (by decide), HZ2.out.later HB.out⟩⟩
      have HG := Lib.hid hg
      have hlk : (k : Int) < 2 := by omega
      clear hg
      go_wp2_with (fail)
      refine (try_gone q who lock _ HG.out).mono ?_
      rintro e w' ⟨rfl, rfl⟩
      go_wp2_with (fail)
      refine (free_gone q who lock _ HG.out).mono ?_
      rintro e w' ⟨rfl, rfl⟩
      go_wp2_with (fail)
      refine (locks_gone q _ HG.out).mono ?_
      rintro e w' ⟨rfl, rfl⟩
      go_wp2_with (fail)
      refine (holder_gone q lock _ HG.out).mono ?_
      rintro e w' ⟨rfl, rfl⟩
      go_wp2_with (fail)
      refine (held_gone q who _ HG.out).mono ?_
      rintro e w4 ⟨rfl, hb⟩
      have HB4 := Lib.hid (HB.out.trans (hb.mono HB.out.size))
      have HG4 := Lib.hid (HG.out.later hb)
      clear hb hq
      go_wp2_with (fail)
      refine (copy_gone q _ HG4.out).mono ?_
      rintro e w' ⟨rfl, rfl⟩
      go_wp2_with (fail)
      go_roundw
      case rel => exact ⟨k + 1, hlt, by go_num, HB4.out⟩
      case measure => simp [intOf]; omega
    · obtain rfl : k = 2 := by omega
      go_wp2_with (fail)
      refine (known_any wr).mono ?_
      rintro e w9 ⟨rfl, hb⟩
      have HB9 := Lib.hid (HB2.out.trans ((HB.out.trans (hb.mono HB.out.size)).mono HB2.out.size))
      clear hb
      go_wp2_with (fail)
      go_ret
      exact ⟨rfl, HB9.out⟩
end Go.Proofs.Ytepapbecnadllaa
