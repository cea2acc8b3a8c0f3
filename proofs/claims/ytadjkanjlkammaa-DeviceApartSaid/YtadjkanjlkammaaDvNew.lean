/-
  device: New, Copy; slices.Clone of the slots.
-/
import Derived.Test.YtadjkanjlkammaaDvMem
namespace Go.Proofs.Ytadjkanjlkammaa
open Go.RowKit Go

def zero256 : Value := .agg (Array.replicate 256 (.int .u8 0))
theorem infoSlot : (Try.prog.info? 52).map (fun i => (i.zero, i.size, i.bytes)) = some (some zero256, 256, 256) := by kernel_rfl
theorem zero256_size : zero256.cells.size = 256 := by kernel_rfl

theorem cloneSlots {w : World} {b n c : Nat} {f : Nat → UInt8} (R : RowAt w b (n * 256) (byV f)) (hn : n ≤ 1024) :
    Calls Try.prog 21 #[.slice (some ⟨b, 0, none⟩) n c] w fun e w' => ∃ g cap, e = .returned (.slice (some ⟨g, 0, none⟩) n cap) ∧ w.heap.size ≤ g ∧ n ≤ cap ∧ RowAt w' g (n * 256) (byV f) ∧ Below w.heap.size w w' := by
  obtain ⟨i0, hi, hz0, hz1, hz2⟩ := info_parts infoSlot
  have q : ∀ (w : World) (a : Option Addr) (n c n' c' : Nat), (binOp .eql 45 (.slice a n c) (.slice none n' c')).run Try.prog w = .ok (.bool a.isNone) w := fun w a n c n' c' => Lib.run_eql_slice_nil w _ _ a n c n' c' Try.underlying45
  have hs : Src w (some ⟨b, 0, none⟩) (n * 256) f := Src.of_row R (fun j hj => ⟨by omega, by rw [Nat.zero_add]⟩)
  have HS := Lib.hid hs
  have HZ := Lib.hid zero256_size
  clear R hs
  generalize zero256 = Z at hz0 HZ
  go_enter Try.func21, Try.ntmps21
  go_wp2_with (at_builtin; refine wpList_append_src _ rfl _ _ 45 rfl w.heap.size 52 i0 Z 256 256 Try.underlying45 hi hz0 hz1 hz2 HZ.out (by decide) _ _ _ rfl (World.ownsRow_made w #[] 0 (Nat.le_refl _) (Nat.zero_le _) (by simp)) (some ⟨b, 0, none⟩) n c (bytL (n * 256) f) rfl ?q1 ?q2 (bytL_one (n * 256) f) ?q4 ?q5 ?q6 ?_)
  case q1 => rw [bytL_len]
  case q2 =>
    have h := (HS.out.later ((Below.refl _ w).alloc (Nat.le_refl _) (.cells #[] 52))).cells
    exact fun hn => h (by omega)
  case q4 => unfold maxLen; omega
  case q5 => omega
  case q6 => simp
  intro v' w1 hown hgr hnil
  obtain ⟨g, cap, rfl, hg, _, hcap, hr⟩ := RowAt.of_owns hown (byV f) (fun i hi => bytL_at hi) hnil
  have HR := Lib.hid hr
  have HB := Lib.hid (((Below.refl _ w).alloc (Nat.le_refl _) _).grown hgr (by simp) (by intro k hk; simp [Value.ownBlock] at hk; omega))
  clear hown hgr hnil hr
  go_wp2_with (fail)
  go_ret
  exact ⟨g, cap, rfl, hg, hcap, HR.out, HB.out⟩

/-- A new device. -/
def NewAt (w : World) (n : Nat) (B : Nat → UInt8) (e : Ending) (w' : World) : Prop :=
  ∃ D : DB, e = .returned (.pointer (some ⟨D.d, 0, none⟩)) ∧ DevAt w' D B ∧ D.n = n ∧ w.heap.size ≤ D.d ∧ w.heap.size ≤ D.sb ∧ Below w.heap.size w w'

theorem copy_gone (p : Option Addr) (w : World) (h : DGone w p) : Calls Try.prog 15 #[.pointer p] w fun e w' => e = .returned (.pointer none) ∧ w = w' := by
  have HG := Lib.hid h
  clear h
  go_enter Try.func15, Try.ntmps15
  go_wp2_with (fail)
  refine (missing_gone p w HG.out).mono ?_
  rintro e w' ⟨rfl, rfl⟩
  go_wp2_with (fail)
  go_ret
  exact ⟨rfl, rfl⟩

theorem new_at {w w1 : World} {n g cap : Nat} {f : Nat → UInt8} (hn : n ≤ 1024) (hg : w.heap.size ≤ g) (R : RowAt w1 g (n * 256) (byV f)) (hb : Below w.heap.size w w1) :
    NewAt w n f (.returned (.pointer (some ⟨w1.heap.size, 0, none⟩))) (w1.alloc (.cells #[.bool true, .slice (some ⟨g, 0, none⟩) n cap] 47)) := by
  have hl := R.lt
  have hs := hb.size
  refine ⟨⟨w1.heap.size, g, n⟩, rfl, ⟨by simp [go_sem], ⟨cap, by simp [go_sem]⟩, R.alloc _, hn, ?_⟩, rfl, hs, hg, hb.alloc hs _⟩
  show g ≠ w1.heap.size
  omega

theorem copy_ok {w : World} {D : DB} {B : Nat → UInt8} (H : DevAt w D B) :
    Calls Try.prog 15 #[.pointer (some ⟨D.d, 0, none⟩)] w (NewAt w D.n B) := by
  obtain ⟨k, h1⟩ := H.c1
  have hn := H.n1
  have HM := Lib.hid (missing_at D.d w H.c0)
  have HC := Lib.hid (cloneSlots (c := k) H.slots H.n1)
  clear H
  go_enter Try.func15, Try.ntmps15
  go_wp2_with (fail)
  refine HM.out.mono ?_
  rintro e w' ⟨rfl, rfl⟩
  go_wp2_with (fail)
  refine HC.out.mono ?_
  rintro e w1 ⟨g, cap, rfl, hg, hcap, hr, hb⟩
  have HN := Lib.hid (new_at (cap := cap) hn hg hr hb)
  clear hr hb h1
  go_wp2_with (fail)
  go_ret
  exact HN.out

/-- How many slots a device has. -/
def clampS (n : Int) : Nat := if n < 0 then 0 else if 1024 < n then 1024 else n.toNat
theorem clampS_le (n : Int) : clampS n ≤ 1024 := by unfold clampS; split <;> (try split) <;> omega
theorem make_slots (n : Nat) (hn : n ≤ 1024) : ∃ Z : Array Value, (∀ i, i < n * 256 → Z[i]? = some (byV (fun _ => 0) i)) ∧
    ∀ W, (Instr.makeSlice 45 (.int .i64 (n : Int)) (.int .i64 (n : Int))).run Try.prog W = .ok (.slice (some ⟨W.heap.size, 0, none⟩) n n) (W.alloc (.cells Z 52)) := by
  obtain ⟨i0, hi, hz0, hz1, hz2⟩ := info_parts infoSlot
  refine ⟨madeCells zero256.cells (n * 256), fun i h => ?_, fun W => ?_⟩
  · have h1 := made_at zero256.cells (n * 256) i h
    rw [Array.getElem?_toList] at h1
    rw [h1, zero256_size, getElem!_pos zero256.cells _ (by rw [zero256_size]; omega)]
    simp [zero256, Value.cells, byV]
  · have h := run_make (P := Try.prog) W 45 52 i0 _ Try.underlying45 hi hz0 .i64 .i64 n n (by omega) (by omega) (by rw [hz2]; omega) (by omega)
    rw [hz1] at h
    simp only [Int.toNat_natCast] at h
    exact h

theorem new_any (n : Int) (w : World) : Calls Try.prog 9 #[.int .i64 n] w (NewAt w (clampS n) (fun _ => 0)) := by
  obtain ⟨m, hmn, hcs⟩ : ∃ m, clampS n = m ∧ ((n < 0 ∧ m = 0) ∨ (1024 < n ∧ m = 1024) ∨ (0 ≤ n ∧ n ≤ 1024 ∧ n = m)) := by
    refine ⟨_, rfl, ?_⟩
    unfold clampS
    split
    · omega
    · split <;> omega
  have hle : m ≤ 1024 := by omega
  rw [hmn]
  obtain ⟨Z, hZ, hm⟩ := make_slots m hle
  have HN := Lib.hid (new_at (w := w) (cap := m) hle (Nat.le_refl _) (RowAt.new w Z 52 _ _ hZ) ((Below.refl _ w).alloc (Nat.le_refl _) _))
  clear hZ hmn
  rcases hcs with ⟨h1, rfl⟩ | ⟨h1, rfl⟩ | ⟨h1, h2, rfl⟩
  · have hm : ∀ W, (Instr.makeSlice 45 (.int .i64 0) (.int .i64 0)).run Try.prog W = .ok (.slice (some ⟨W.heap.size, 0, none⟩) 0 0) (W.alloc (.cells Z 52)) := hm
    go_enter Try.func9, Try.ntmps9
    go_wp2_with (fail)
    go_ret
    simpa using HN.out
  · have hm : ∀ W, (Instr.makeSlice 45 (.int .i64 1024) (.int .i64 1024)).run Try.prog W = .ok (.slice (some ⟨W.heap.size, 0, none⟩) 1024 1024) (W.alloc (.cells Z 52)) := hm
    have h2 : 0 ≤ n := by omega
    go_enter Try.func9, Try.ntmps9
    go_wp2_with (fail)
    go_ret
    simpa using HN.out
  · go_enter Try.func9, Try.ntmps9
    go_wp2_with (fail)
    go_ret
    simpa using HN.out
end Go.Proofs.Ytadjkanjlkammaa
