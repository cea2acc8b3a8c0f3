/-
  New: a set of its own blocks.
-/
import Derived.Test.YtkecmoljaopgbaaDoorBase
namespace Go.Proofs.YtkecmoljaopgbaaDoor
open Go.RowKit Go Bm

theorem info51 : (Tryd.prog.info? 51).map (fun i => (i.zero, i.size, i.bytes)) = some (some (.int .u64 0), 1, 8) := by kernel_rfl

/-- What New leaves: a set of its own blocks, from B on. -/
def Made (B : Nat) (w : World) (n : Nat) (e : Ending) (w' : World) : Prop :=
  ∃ p wb, e = .returned (.pointer (some ⟨p, 0, none⟩)) ∧ B ≤ p ∧ B ≤ wb ∧ SetAt w' p wb n noneF ∧ Below B w w'

theorem Below.of_grown {w w1 : World} (hg : w.grownBy w1 none) : Below w.heap.size w w1 :=
  (Below.refl _ _).grown hg (Nat.le_refl _) (fun k h => by cases h)

theorem made_cells (n k : Nat) (h : k < n) : (madeCells #[Value.int .u64 0] n).toList[k]? = some (.int .u64 0) := by
  simp [madeCells, h, Nat.mod_one]

/-- The two blocks that New makes. -/
theorem made_set (w w1 : World) (n : Nat) (hn : n ≤ 65536) (hown : w1.ownsRow w.heap.size 51 1 (.slice (some ⟨w.heap.size, 0, none⟩) ((n + 63) / 64) ((n + 63) / 64)) ((n + 63) / 64) (madeCells #[Value.int .u64 0] ((n + 63) / 64)).toList) (hg : w.grownBy w1 none) (T : TypeId) :
    Made w.heap.size w n (.returned (.pointer (some ⟨w1.heap.size, 0, none⟩))) (w1.alloc (.cells #[.int .i64 n, .slice (some ⟨w.heap.size, 0, none⟩) ((n + 63) / 64) ((n + 63) / 64)] T)) := by
  have hlt := (hown.lt w.heap.size rfl).2
  refine ⟨w1.heap.size, w.heap.size, rfl, by omega, Nat.le_refl _, ⟨?_, ?_, fun k hk => ?_, fun k hk => ?_, fun _ _ => rfl, by omega, hn⟩, (Below.of_grown hg).alloc (by omega) _⟩
  · simp [go_sem]
  · simp [go_sem]
  · rw [word_noneF, (World.grownBy_alloc w1 _ none).cell (v := .int .u64 0)]
    · rfl
    · rw [hown.cellAt k (by omega)]
      exact made_cells _ k hk
    · simp
  · have h1 := (hown.alloc (.cells #[.int .i64 n, .slice (some ⟨w.heap.size, 0, none⟩) ((n + 63) / 64) ((n + 63) / 64)] T))
    exact h1.frozenAt k

theorem new_in (n : Nat) (w : World) (h : n ≤ 65536) :
    Calls Tryd.prog 8 #[.int .i64 n] w (Made w.heap.size w n) := by
  obtain ⟨i0, hi, hz0, hz1, hz2⟩ := info_parts info51
  go_enter Tryd.func8, Tryd.ntmps8
  go_wp2_with (at_make; refine wpList_make_full _ rfl _ _ 41 rfl w.heap.size 51 i0 (.int .u64 0) 1 Tryd.underlying41 hi hz0 hz1 .i64 .i64 _ _ ((n + 63) / 64) rfl rfl ?c1 ?c2 ?c3 ?c4 ?c5 ?_)
  case c1 => omega
  case c2 => omega
  case c3 => rw [hz2]; omega
  case c4 => unfold maxLen; omega
  case c5 => exact Nat.le_refl _
  intro w1 hown hg
  have HO := Lib.hid hown
  have HG := Lib.hid hg
  clear hown hg hi hz0 hz1 hz2
  go_wp2
  go_ret
  exact made_set w w1 n h HO.out HG.out _
theorem new_low (n : Int) (w : World) (h : n < 0) :
    Calls Tryd.prog 8 #[.int .i64 n] w (Made w.heap.size w 0) := by
  obtain ⟨i0, hi, hz0, hz1, hz2⟩ := info_parts info51
  go_enter Tryd.func8, Tryd.ntmps8
  go_wp2_with (at_make; refine wpList_make_full _ rfl _ _ 41 rfl w.heap.size 51 i0 (.int .u64 0) 1 Tryd.underlying41 hi hz0 hz1 .i64 .i64 _ _ 0 rfl rfl ?c1 ?c2 ?c3 ?c4 ?c5 ?_)
  case c1 => omega
  case c2 => omega
  case c3 => rw [hz2]; omega
  case c4 => unfold maxLen; omega
  case c5 => exact Nat.le_refl _
  intro w1 hown hg
  have HO := Lib.hid hown
  have HG := Lib.hid hg
  clear hown hg hi hz0 hz1 hz2
  go_wp2
  go_ret
  exact made_set w w1 0 (by decide) HO.out HG.out _
theorem new_high (n : Int) (w : World) (h : 65536 < n) :
    Calls Tryd.prog 8 #[.int .i64 n] w (Made w.heap.size w 65536) := by
  obtain ⟨i0, hi, hz0, hz1, hz2⟩ := info_parts info51
  go_enter Tryd.func8, Tryd.ntmps8
  go_wp2_with (at_make; refine wpList_make_full _ rfl _ _ 41 rfl w.heap.size 51 i0 (.int .u64 0) 1 Tryd.underlying41 hi hz0 hz1 .i64 .i64 _ _ 1024 rfl rfl ?c1 ?c2 ?c3 ?c4 ?c5 ?_)
  case c1 => omega
  case c2 => omega
  case c3 => rw [hz2]; omega
  case c4 => unfold maxLen; omega
  case c5 => exact Nat.le_refl _
  intro w1 hown hg
  have HO := Lib.hid hown
  have HG := Lib.hid hg
  clear hown hg hi hz0 hz1 hz2
  go_wp2
  go_ret
  exact made_set w w1 65536 (by decide) HO.out HG.out _

theorem new_any (n : Int) (w : World) : Calls Tryd.prog 8 #[.int .i64 n] w (Made w.heap.size w (clampN n)) := by
  unfold clampN
  by_cases h : n < 0
  · rw [if_pos h]; exact new_low n w h
  · rw [if_neg h]
    by_cases h1 : 65536 < n
    · rw [if_pos h1]; exact new_high n w h1
    · rw [if_neg h1]
      obtain ⟨a, rfl⟩ := Int.eq_ofNat_of_zero_le (show 0 ≤ n by omega)
      exact new_in a w (by omega)
end Go.Proofs.YtkecmoljaopgbaaDoor
