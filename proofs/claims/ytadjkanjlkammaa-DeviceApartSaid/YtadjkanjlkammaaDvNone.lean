/-
  The walk of DeviceNone: it returns true, and below the old heap nothing has turned.
-/
import Derived.Test.YtadjkanjlkammaaDvKnown
namespace Go.Proofs.Ytadjkanjlkammaa
open Go.RowKit Go

set_option maxRecDepth 100000 in
set_option maxHeartbeats 2000000 in
theorem lawNone_any (f : Int) (b : Option Addr) (n c : Nat) (fail : Bool) (w : World) :
    Calls Try.prog 5 #[.int .i64 f, .slice b n c, .bool fail] w fun e w' => e = .returned (.bool true) ∧ Below w.heap.size w w' := by
  have z0 : ((w.alloc (.cells #[.bool false, .slice none 0 0] 47)).alloc (.cells #[.pointer none, .pointer (some ⟨w.heap.size, 0, none⟩)] 24)).cell? ⟨w.heap.size, 0, none⟩ = some (.bool false) := by simp [go_sem]
  have z1 : ((w.alloc (.cells #[.bool false, .slice none 0 0] 47)).alloc (.cells #[.pointer none, .pointer (some ⟨w.heap.size, 0, none⟩)] 24)).cell? ⟨w.heap.size, 1, none⟩ = some (.slice none 0 0) := by simp [go_sem]
  have p0 : ((w.alloc (.cells #[.bool false, .slice none 0 0] 47)).alloc (.cells #[.pointer none, .pointer (some ⟨w.heap.size, 0, none⟩)] 24)).cell? ⟨w.heap.size + 1, 0, none⟩ = some (.pointer none) := by simp [go_sem]
  have p1 : ((w.alloc (.cells #[.bool false, .slice none 0 0] 47)).alloc (.cells #[.pointer none, .pointer (some ⟨w.heap.size, 0, none⟩)] 24)).cell? ⟨w.heap.size + 1, 1, none⟩ = some (.pointer (some ⟨w.heap.size, 0, none⟩)) := by simp [go_sem]
  have HZ := Lib.hid (show DGone _ (some ⟨w.heap.size, 0, none⟩) from .inr ⟨_, rfl, z0, z1⟩)
  have P0 := Lib.hid p0
  have P1 := Lib.hid p1
  have HB := Lib.hid ((((Below.refl _ w).alloc (Nat.le_refl _) (.cells #[.bool false, .slice none 0 0] 47))).alloc (by simp) (.cells #[.pointer none, .pointer (some ⟨w.heap.size, 0, none⟩)] 24))
  clear z0 z1 p0 p1
  go_enter Try.func5, Try.ntmps5
  go_wp2_with (fail)
  generalize ((w.alloc (.cells #[.bool false, .slice none 0 0] 47)).alloc (.cells #[.pointer none, .pointer (some ⟨w.heap.size, 0, none⟩)] 24)) = w3 at *
  go_loop [15] (fun i => ∃ k : Nat, k ≤ 2 ∧ i = .int .i64 k) (fun i => 2 - (intOf i).toNat)
  case atStart => exact ⟨0, by decide, rfl⟩
  case round =>
    obtain ⟨k, hk, rfl⟩ := hrel
    by_cases hlt : k < 2
    · obtain ⟨q, hq, hg⟩ : ∃ q, w3.cell? ⟨w.heap.size + 1, k, none⟩ = some (.pointer q) ∧ DGone w3 q := by
        rcases (show k = 0 ∨ k = 1 by omega) with rfl | rfl
        · exact ⟨none, P0.out, .inl rfl⟩
        · exact ⟨_, P1.out, HZ.out⟩
      have HG := Lib.hid hg
      have hlk : (k : Int) < 2 := by omega
      clear hg
      go_wp2_with (fail)
      refine (read_err q f 1 fail _ (by decide) (asked_gone q f _ HG.out)).mono ?_
      rintro e w' ⟨rfl, rfl⟩
      go_wp2_with (fail)
      refine (write_err q f 1 b n c fail _ (by decide) (asked_gone q f _ HG.out)).mono ?_
      rintro e w' ⟨rfl, rfl⟩
      go_wp2_with (fail)
      refine (slots_gone q _ HG.out).mono ?_
      rintro e w' ⟨rfl, rfl⟩
      go_wp2_with (fail)
      refine (copy_gone q _ HG.out).mono ?_
      rintro e w' ⟨rfl, rfl⟩
      go_wp2_with (fail)
      go_round
      case rel => exact ⟨k + 1, hlt, by go_num⟩
      case measure => simp [intOf]; omega
    · obtain rfl : k = 2 := by omega
      go_wp2_with (fail)
      refine (known_any w3).mono ?_
      rintro e w9 ⟨rfl, hb⟩
      have HB2 := Lib.hid (HB.out.trans (hb.mono HB.out.size))
      clear hb
      go_wp2_with (fail)
      go_ret
      exact ⟨rfl, HB2.out⟩
end Go.Proofs.Ytadjkanjlkammaa
