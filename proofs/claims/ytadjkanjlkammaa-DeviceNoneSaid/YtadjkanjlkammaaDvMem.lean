/-
  device: a device as it lies; missing, asked, Slots, Read, Write.
-/
import Derived.Test.YtadjkanjlkammaaBytClone
namespace Go.Proofs.Ytadjkanjlkammaa
open Go.RowKit Go

/-- Where a device lies, and how many slots it has. -/
structure DB where
  d : Nat
  sb : Nat
  n : Nat
/-- A device lies at D, with the bytes B. -/
structure DevAt (w : World) (D : DB) (B : Nat → UInt8) : Prop where
  c0 : w.cell? ⟨D.d, 0, none⟩ = some (.bool true)
  c1 : ∃ cap, w.cell? ⟨D.d, 1, none⟩ = some (.slice (some ⟨D.sb, 0, none⟩) D.n cap)
  slots : RowAt w D.sb (D.n * 256) (byV B)
  n1 : D.n ≤ 1024
  d1 : D.sb ≠ D.d
theorem DevAt.later {w w' : World} {D : DB} {B : Nat → UInt8} (H : DevAt w D B) (h : Below w.heap.size w w') : DevAt w' D B := by
  have hc : ∀ {o v}, w.cell? ⟨D.d, o, none⟩ = some v → w'.cell? ⟨D.d, o, none⟩ = some v := fun {o v} hv => by
    rw [h.cell (World.block_lt_of_cell? _ _ hv)]; exact hv
  obtain ⟨k, e⟩ := H.c1
  exact ⟨hc H.c0, ⟨k, hc e⟩, H.slots.later h, H.n1, H.d1⟩
/-- Something else turns. -/
theorem DevAt.only {S : Nat → Prop} {w w' : World} {D : DB} {B : Nat → UInt8} (H : DevAt w D B) (h : Only S w w') (h1 : ¬ S D.d) (h2 : ¬ S D.sb) : DevAt w' D B := by
  obtain ⟨k, e⟩ := H.c1
  exact ⟨h.cell h1 H.c0, ⟨k, h.cell h1 e⟩, H.slots.only h h2, H.n1, H.d1⟩
/-- Its bytes turn. -/
theorem DevAt.wrote {w w' : World} {D : DB} {B B' : Nat → UInt8} (H : DevAt w D B) (h : Only (Eq D.sb) w w') (hb : RowAt w' D.sb (D.n * 256) (byV B')) : DevAt w' D B' := by
  obtain ⟨k, e⟩ := H.c1
  exact ⟨h.cell H.d1 H.c0, ⟨k, h.cell H.d1 e⟩, hb, H.n1, H.d1⟩
theorem DevAt.lt {w : World} {D : DB} {B : Nat → UInt8} (H : DevAt w D B) : D.d < w.heap.size ∧ D.sb < w.heap.size := ⟨World.block_lt_of_cell? _ _ H.c0, H.slots.lt⟩
theorem DevAt.ext {w : World} {D : DB} {B B' : Nat → UInt8} (H : DevAt w D B) (h : ∀ i, i < D.n * 256 → B i = B' i) : DevAt w D B' :=
  ⟨H.c0, H.c1, H.slots.ext (fun i hi => by unfold byV; rw [h i hi]), H.n1, H.d1⟩

/-- One that is not there, or was not made. -/
def DGone (w : World) (p : Option Addr) : Prop := p = none ∨ ∃ d, p = some ⟨d, 0, none⟩ ∧ w.cell? ⟨d, 0, none⟩ = some (.bool false) ∧ w.cell? ⟨d, 1, none⟩ = some (.slice none 0 0)
theorem DGone.later {w w' : World} {p : Option Addr} (h : DGone w p) (hb : Below w.heap.size w w') : DGone w' p := by
  rcases h with rfl | ⟨m, rfl, h0, h1⟩
  · exact .inl rfl
  · have hlt := World.block_lt_of_cell? _ _ h0
    exact .inr ⟨m, rfl, by rw [hb.cell (p := ⟨m, 0, none⟩) hlt]; exact h0, by rw [hb.cell (p := ⟨m, 1, none⟩) hlt]; exact h1⟩

theorem missing_gone (p : Option Addr) (w : World) (h : DGone w p) : Calls Try.prog 20 #[.pointer p] w fun e w' => e = .returned (.bool true) ∧ w = w' := by
  rcases h with rfl | ⟨d, rfl, h0, h1⟩
  all_goals
    go_enter Try.func20, Try.ntmps20
    go_wp2
    go_ret
    exact ⟨rfl, rfl⟩
theorem missing_at (d : Nat) (w : World) (h0 : w.cell? ⟨d, 0, none⟩ = some (.bool true)) : Calls Try.prog 20 #[.pointer (some ⟨d, 0, none⟩)] w fun e w' => e = .returned (.bool false) ∧ w = w' := by
  go_enter Try.func20, Try.ntmps20
  go_wp2
  go_ret
  exact ⟨rfl, rfl⟩
theorem slots_gone (p : Option Addr) (w : World) (h : DGone w p) : Calls Try.prog 11 #[.pointer p] w fun e w' => e = .returned (.int .i64 0) ∧ w = w' := by
  rcases h with rfl | ⟨d, rfl, h0, h1⟩
  all_goals
    go_enter Try.func11, Try.ntmps11
    go_wp2
    go_ret
    exact ⟨rfl, rfl⟩
theorem slots_at {w : World} {D : DB} {B : Nat → UInt8} (H : DevAt w D B) : Calls Try.prog 11 #[.pointer (some ⟨D.d, 0, none⟩)] w fun e w' => e = .returned (.int .i64 D.n) ∧ w = w' := by
  obtain ⟨k, h1⟩ := H.c1
  clear H
  go_enter Try.func11, Try.ntmps11
  go_wp2
  go_ret
  exact ⟨rfl, rfl⟩
theorem asked_gone (p : Option Addr) (f : Int) (w : World) (h : DGone w p) : Calls Try.prog 19 #[.pointer p, .int .i64 f] w fun e w' => e = .returned (.int .i64 1) ∧ w = w' := by
  have HG := Lib.hid h
  clear h
  go_enter Try.func19, Try.ntmps19
  go_wp2_with (fail)
  refine (missing_gone p w HG.out).mono ?_
  rintro e w' ⟨rfl, rfl⟩
  go_wp2_with (fail)
  go_ret
  exact ⟨rfl, rfl⟩
theorem asked_at {w : World} {D : DB} {B : Nat → UInt8} (H : DevAt w D B) (f v : Int) (hv : 0 ≤ f ∧ f < D.n ∧ v = 0 ∨ ¬ (0 ≤ f ∧ f < D.n) ∧ v = 2) :
    Calls Try.prog 19 #[.pointer (some ⟨D.d, 0, none⟩), .int .i64 f] w fun e w' => e = .returned (.int .i64 v) ∧ w = w' := by
  obtain ⟨k, h1⟩ := H.c1
  have HC := Lib.hid (missing_at D.d w H.c0)
  have hcs : (0 ≤ f ∧ f < D.n ∧ v = 0) ∨ (f < 0 ∧ v = 2) ∨ (0 ≤ f ∧ (D.n : Int) ≤ f ∧ v = 2) := by omega
  clear H hv
  rcases hcs with ⟨a1, a2, rfl⟩ | ⟨a1, rfl⟩ | ⟨a1, a2, rfl⟩
  all_goals
    go_enter Try.func19, Try.ntmps19
    go_wp2_with (fail)
    refine HC.out.mono ?_
    rintro e w' ⟨rfl, rfl⟩
    go_wp2_with (fail)
    go_ret
    exact ⟨rfl, rfl⟩

/-- Read is refused. -/
theorem read_err (p : Option Addr) (f v : Int) (fail : Bool) (w : World) (hv : v ≠ 0) (h : Calls Try.prog 19 #[.pointer p, .int .i64 f] w fun e w' => e = .returned (.int .i64 v) ∧ w = w') :
    Calls Try.prog 17 #[.pointer p, .int .i64 f, .bool fail] w fun e w' => e = .returned (.tuple #[.slice none 0 0, .int .i64 v]) ∧ w = w' := by
  have hne : (v != 0) = true := by simpa using hv
  have HC := Lib.hid h
  clear h hv
  go_enter Try.func17, Try.ntmps17
  go_wp2_with (fail)
  refine HC.out.mono ?_
  rintro e w' ⟨rfl, rfl⟩
  go_wp2_with (fail)
  go_ret2
  exact ⟨rfl, rfl⟩
theorem read_fail {w : World} {D : DB} {B : Nat → UInt8} (H : DevAt w D B) (f : Int) (hf : 0 ≤ f ∧ f < D.n) :
    Calls Try.prog 17 #[.pointer (some ⟨D.d, 0, none⟩), .int .i64 f, .bool true] w fun e w' => e = .returned (.tuple #[.slice none 0 0, .int .i64 40]) ∧ w = w' := by
  have HC := Lib.hid (asked_at H f 0 (.inl ⟨hf.1, hf.2, rfl⟩))
  clear H hf
  go_enter Try.func17, Try.ntmps17
  go_wp2_with (fail)
  refine HC.out.mono ?_
  rintro e w' ⟨rfl, rfl⟩
  go_wp2_with (fail)
  go_ret2
  exact ⟨rfl, rfl⟩

/-- What Read leaves. -/
def ReadAt (w : World) (f : Nat → UInt8) (e : Ending) (w' : World) : Prop :=
  ∃ g cap, e = .returned (.tuple #[.slice (some ⟨g, 0, none⟩) 256 cap, .int .i64 0]) ∧ w.heap.size ≤ g ∧ RowAt w' g 256 (byV f) ∧ Below w.heap.size w w'
theorem read_ok {w : World} {D : DB} {B : Nat → UInt8} (H : DevAt w D B) (f : Nat) (hf : f < D.n) (x : Nat → UInt8) (hx : ∀ i, i < 256 → B (f * 256 + i) = x i) :
    Calls Try.prog 17 #[.pointer (some ⟨D.d, 0, none⟩), .int .i64 f, .bool false] w (ReadAt w x) := by
  obtain ⟨k, h1⟩ := H.c1
  have hn := H.n1
  have HC := Lib.hid (asked_at H f 0 (.inl ⟨by omega, by omega, rfl⟩))
  have hs : Src w (some ⟨D.sb, f * 256, none⟩) 256 x := Src.of_row H.slots (fun j hj => ⟨by omega, by unfold byV; rw [hx j hj]⟩)
  have HP := Lib.hid (cloneBytes (c := 256) hs (by decide))
  clear H hx hs
  go_enter Try.func17, Try.ntmps17
  go_wp2_with (fail)
  refine HC.out.mono ?_
  rintro e w' ⟨rfl, rfl⟩
  go_wp2_with (fail)
  refine HP.out.mono ?_
  rintro e w1 ⟨g, cap, rfl, hg, hcap, hr, hb⟩
  have HR := Lib.hid hr
  have HB := Lib.hid hb
  clear hr hb
  go_wp2_with (fail)
  go_ret2
  exact ⟨g, cap, rfl, hg, HR.out, HB.out⟩

/-- Write is refused. -/
theorem write_err (p : Option Addr) (f v : Int) (b : Option Addr) (n c : Nat) (fail : Bool) (w : World) (hv : v ≠ 0) (h : Calls Try.prog 19 #[.pointer p, .int .i64 f] w fun e w' => e = .returned (.int .i64 v) ∧ w = w') :
    Calls Try.prog 13 #[.pointer p, .int .i64 f, .slice b n c, .bool fail] w fun e w' => e = .returned (.int .i64 v) ∧ w = w' := by
  have hne : (v != 0) = true := by simpa using hv
  have HC := Lib.hid h
  clear h hv
  go_enter Try.func13, Try.ntmps13
  go_wp2_with (fail)
  refine HC.out.mono ?_
  rintro e w' ⟨rfl, rfl⟩
  go_wp2_with (fail)
  go_ret
  exact ⟨rfl, rfl⟩
theorem write_len {w : World} {D : DB} {B : Nat → UInt8} (H : DevAt w D B) (f : Int) (hf : 0 ≤ f ∧ f < D.n) (b : Option Addr) (n c : Nat) (fail : Bool) (hn : n ≠ 256) :
    Calls Try.prog 13 #[.pointer (some ⟨D.d, 0, none⟩), .int .i64 f, .slice b n c, .bool fail] w fun e w' => e = .returned (.int .i64 2) ∧ w = w' := by
  have HC := Lib.hid (asked_at H f 0 (.inl ⟨hf.1, hf.2, rfl⟩))
  have hne : ((n : Int) != 256) = true := by simp; omega
  clear H hf hn
  go_enter Try.func13, Try.ntmps13
  go_wp2_with (fail)
  refine HC.out.mono ?_
  rintro e w' ⟨rfl, rfl⟩
  go_wp2_with (fail)
  go_ret
  exact ⟨rfl, rfl⟩
theorem write_fail {w : World} {D : DB} {B : Nat → UInt8} (H : DevAt w D B) (f : Int) (hf : 0 ≤ f ∧ f < D.n) (b : Option Addr) (c : Nat) :
    Calls Try.prog 13 #[.pointer (some ⟨D.d, 0, none⟩), .int .i64 f, .slice b 256 c, .bool true] w fun e w' => e = .returned (.int .i64 40) ∧ w = w' := by
  have HC := Lib.hid (asked_at H f 0 (.inl ⟨hf.1, hf.2, rfl⟩))
  clear H hf
  go_enter Try.func13, Try.ntmps13
  go_wp2_with (fail)
  refine HC.out.mono ?_
  rintro e w' ⟨rfl, rfl⟩
  go_wp2_with (fail)
  go_ret
  exact ⟨rfl, rfl⟩

/-- What a writing call leaves. -/
def WroteAt (w : World) (D : DB) (B : Nat → UInt8) (e : Ending) (w' : World) : Prop :=
  e = .returned (.int .i64 0) ∧ DevAt w' D B ∧ Only (Eq D.sb) w w'
theorem write_ok {w : World} {D : DB} {B : Nat → UInt8} (H : DevAt w D B) (f : Nat) (hf : f < D.n) (b : Option Addr) (c : Nat) (x : Nat → UInt8) (S : Src w b 256 x) :
    Calls Try.prog 13 #[.pointer (some ⟨D.d, 0, none⟩), .int .i64 f, .slice b 256 c, .bool false] w (WroteAt w D (putB B (f * 256) 256 x)) := by
  obtain ⟨k, h1⟩ := H.c1
  have hn := H.n1
  have HC := Lib.hid (asked_at H f 0 (.inl ⟨by omega, by omega, rfl⟩))
  have HH := Lib.hid H
  have HX := Lib.hid S
  have HL := Lib.hid (show f * 256 + 256 ≤ D.n * 256 by omega)
  clear H S
  go_enter Try.func13, Try.ntmps13
  go_wp2_with (fail)
  refine HC.out.mono ?_
  rintro e w' ⟨rfl, rfl⟩
  go_wp2_with (refine wpList_copy_row rfl (.tmp 26) (.tmp 27) 32 32 rfl 5 Try.underlying32 sizeByte _ _ 256 256 256 c rfl rfl D.sb (f * 256) (D.n * 256) 256 (byV B) (byV x) HH.out.slots rfl (fun h => ⟨rfl, HX.out h⟩) HL.out (fun j _ => byV_one _ _) ?_)
  intro w2 hr2 ho2 hs2
  have HW := Lib.hid (HH.out.wrote ho2 (hr2.ext (fun i _ => putF_byV B (f * 256) 256 x i)))
  have HO := Lib.hid ho2
  clear hr2 ho2 hs2
  go_wp2_with (fail)
  go_ret
  exact ⟨rfl, HW.out, HO.out⟩
end Go.Proofs.Ytadjkanjlkammaa
