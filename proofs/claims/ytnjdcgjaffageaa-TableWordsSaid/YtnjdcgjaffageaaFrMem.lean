/-
  frames: a memory as it lies; Frames, asked, Bytes, part, eight.
-/
import Derived.Test.YtnjdcgjaffageaaRow
import Derived.WalkSpells
import Derived.WalkLawsBesides
import Derived.Deep.QuietTactic
import Derived.Deep.RegionWith
import Derived.Deep.RegionHeld3
import Derived.StillTailTactics
import Derived.BigQuiet
import Derived.Lib.Hide
namespace Go.Proofs.Ytnjdcgjaffageaa
open Go.RowKit Go

/-- Where a memory lies, how many nodes and frames it has. -/
structure MB where
  m : Nat
  sb : Nat
  bb : Nat
  kb : Nat
  n : Nat
  T : Nat
/-- A mark. -/
structure Mk where
  r : Int
  o : Int
  w : Int
  p : Int
  i : Int
def Mk.cell (x : Mk) : Nat → Value
  | 0 => .int .u8 x.r
  | 1 => .int .i64 x.o
  | 2 => .int .i64 x.w
  | 3 => .int .i64 x.p
  | _ => .int .i64 x.i
def Mk.cells (x : Mk) : List Value := [.int .u8 x.r, .int .i64 x.o, .int .i64 x.w, .int .i64 x.p, .int .i64 x.i]
def mkV (K : Nat → Mk) (j : Nat) : Value := (K (j / 5)).cell (j % 5)
def byV (B : Nat → UInt8) (j : Nat) : Value := .int .u8 (B j).toNat
def stV (ST : Nat → Nat) (j : Nat) : Value := .int .i64 (ST j)

/-- A memory lies at M: where its nodes begin, its bytes, its marks. -/
structure MemAt (w : World) (M : MB) (ST : Nat → Nat) (B : Nat → UInt8) (K : Nat → Mk) : Prop where
  c0 : ∃ cap, w.cell? ⟨M.m, 0, none⟩ = some (.slice (some ⟨M.sb, 0, none⟩) (M.n + 1) cap)
  c1 : ∃ cap, M.T * 256 ≤ cap ∧ w.cell? ⟨M.m, 1, none⟩ = some (.slice (some ⟨M.bb, 0, none⟩) (M.T * 256) cap)
  c2 : ∃ cap, M.T ≤ cap ∧ w.cell? ⟨M.m, 2, none⟩ = some (.slice (some ⟨M.kb, 0, none⟩) M.T cap)
  starts : RowAt w M.sb (M.n + 1) (stV ST)
  bytes : RowAt w M.bb (M.T * 256) (byV B)
  marks : RowAt w M.kb (M.T * 5) (mkV K)
  st : ∀ i, i < M.n → ST i < ST (i + 1) ∧ ST (i + 1) ≤ M.T
  n8 : M.n ≤ 8
  T4 : 4 ≤ M.T
  T1 : M.T ≤ 1024
  d1 : M.bb ≠ M.m
  d2 : M.bb ≠ M.sb
  d3 : M.bb ≠ M.kb
  d4 : M.kb ≠ M.m
  d5 : M.kb ≠ M.sb

theorem MemAt.later {w w' : World} {M : MB} {ST : Nat → Nat} {B : Nat → UInt8} {K : Nat → Mk} (H : MemAt w M ST B K) (h : Below w.heap.size w w') : MemAt w' M ST B K := by
  have hc : ∀ {o v}, w.cell? ⟨M.m, o, none⟩ = some v → w'.cell? ⟨M.m, o, none⟩ = some v := fun {o v} hv => by
    rw [h.cell (World.block_lt_of_cell? _ _ hv)]; exact hv
  obtain ⟨k0, e0⟩ := H.c0
  obtain ⟨k1, f1, e1⟩ := H.c1
  obtain ⟨k2, f2, e2⟩ := H.c2
  exact ⟨⟨k0, hc e0⟩, ⟨k1, f1, hc e1⟩, ⟨k2, f2, hc e2⟩, H.starts.later h, H.bytes.later h, H.marks.later h, H.st, H.n8, H.T4, H.T1, H.d1, H.d2, H.d3, H.d4, H.d5⟩
/-- Something else turns. -/
theorem MemAt.only {S : Nat → Prop} {w w' : World} {M : MB} {ST : Nat → Nat} {B : Nat → UInt8} {K : Nat → Mk} (H : MemAt w M ST B K) (h : Only S w w') (h1 : ¬ S M.m) (h2 : ¬ S M.sb) (h3 : ¬ S M.bb) (h4 : ¬ S M.kb) : MemAt w' M ST B K := by
  obtain ⟨k0, e0⟩ := H.c0
  obtain ⟨k1, f1, e1⟩ := H.c1
  obtain ⟨k2, f2, e2⟩ := H.c2
  exact ⟨⟨k0, h.cell h1 e0⟩, ⟨k1, f1, h.cell h1 e1⟩, ⟨k2, f2, h.cell h1 e2⟩, H.starts.only h h2, H.bytes.only h h3, H.marks.only h h4, H.st, H.n8, H.T4, H.T1, H.d1, H.d2, H.d3, H.d4, H.d5⟩
/-- Its bytes turn. -/
theorem MemAt.wrote {w w' : World} {M : MB} {ST : Nat → Nat} {B B' : Nat → UInt8} {K : Nat → Mk} (H : MemAt w M ST B K) (h : Only (Eq M.bb) w w') (hb : RowAt w' M.bb (M.T * 256) (byV B')) : MemAt w' M ST B' K := by
  obtain ⟨k0, e0⟩ := H.c0
  obtain ⟨k1, f1, e1⟩ := H.c1
  obtain ⟨k2, f2, e2⟩ := H.c2
  exact ⟨⟨k0, h.cell H.d1 e0⟩, ⟨k1, f1, h.cell H.d1 e1⟩, ⟨k2, f2, h.cell H.d1 e2⟩, H.starts.only h H.d2, hb, H.marks.only h H.d3, H.st, H.n8, H.T4, H.T1, H.d1, H.d2, H.d3, H.d4, H.d5⟩
/-- Its marks turn. -/
theorem MemAt.marked {w w' : World} {M : MB} {ST : Nat → Nat} {B : Nat → UInt8} {K K' : Nat → Mk} (H : MemAt w M ST B K) (h : Only (Eq M.kb) w w') (hb : RowAt w' M.kb (M.T * 5) (mkV K')) : MemAt w' M ST B K' := by
  obtain ⟨k0, e0⟩ := H.c0
  obtain ⟨k1, f1, e1⟩ := H.c1
  obtain ⟨k2, f2, e2⟩ := H.c2
  exact ⟨⟨k0, h.cell H.d4 e0⟩, ⟨k1, f1, h.cell H.d4 e1⟩, ⟨k2, f2, h.cell H.d4 e2⟩, H.starts.only h H.d5, H.bytes.only h (fun e => H.d3 e.symm), hb, H.st, H.n8, H.T4, H.T1, H.d1, H.d2, H.d3, H.d4, H.d5⟩

/-- frames' within. -/
theorem fwithin_any (n a b : Int) (v : Bool) (hv : decide (a ≤ n ∧ n ≤ b) = v) (w : World) : Calls Try.prog 38 #[.int .i64 n, .int .i64 a, .int .i64 b] w fun e w' => e = .returned (.bool v) ∧ w = w' := by
  subst hv
  by_cases h1 : a ≤ n
  · by_cases h2 : n ≤ b
    all_goals
      go_enter Try.func38, Try.ntmps38
      go_wp2
      go_ret
      exact ⟨by simp [h1, h2], rfl⟩
  · go_enter Try.func38, Try.ntmps38
    go_wp2
    go_ret
    exact ⟨by simp; omega, rfl⟩

theorem frames_at (m : Nat) (a : Option Addr) (T cap : Nat) (w : World) (h : w.cell? ⟨m, 2, none⟩ = some (.slice a T cap)) :
    Calls Try.prog 40 #[.pointer (some ⟨m, 0, none⟩)] w fun e w' => e = .returned (.int .i64 T) ∧ w = w' := by
  go_enter Try.func40, Try.ntmps40
  go_wp2
  go_ret
  exact ⟨rfl, rfl⟩
theorem frames_nil (w : World) : Calls Try.prog 40 #[.pointer none] w fun e w' => e = .returned (.int .i64 0) ∧ w = w' := by
  go_enter Try.func40, Try.ntmps40
  go_wp2
  go_ret
  exact ⟨rfl, rfl⟩

/-- One that is not there, or was not made. -/
def Gone (w : World) (p : Option Addr) : Prop := p = none ∨ ∃ m, p = some ⟨m, 0, none⟩ ∧ w.cell? ⟨m, 0, none⟩ = some (.slice none 0 0) ∧ w.cell? ⟨m, 1, none⟩ = some (.slice none 0 0) ∧ w.cell? ⟨m, 2, none⟩ = some (.slice none 0 0)
theorem frames_gone (p : Option Addr) (w : World) (h : Gone w p) : Calls Try.prog 40 #[.pointer p] w fun e w' => e = .returned (.int .i64 0) ∧ w = w' := by
  rcases h with rfl | ⟨m, rfl, h0, h1, h2⟩
  · exact frames_nil w
  · exact frames_at m none 0 0 w h2
theorem asked_gone (p : Option Addr) (f : Int) (w : World) (h : Gone w p) : Calls Try.prog 37 #[.pointer p, .int .i64 f] w fun e w' => e = .returned (.int .i64 1) ∧ w = w' := by
  have HG := Lib.hid h
  clear h
  go_enter Try.func37, Try.ntmps37
  go_wp2_with (fail)
  refine (frames_gone p w HG.out).mono ?_
  rintro e w' ⟨rfl, rfl⟩
  go_wp2_with (fail)
  go_ret
  exact ⟨rfl, rfl⟩

theorem asked_at (m : Nat) (a : Option Addr) (T cap : Nat) (f : Int) (v : Int) (w : World) (h : w.cell? ⟨m, 2, none⟩ = some (.slice a T cap)) (hT : 4 ≤ T) (hT1 : T ≤ 1024)
    (hv : 0 ≤ f ∧ f < T ∧ v = 0 ∨ ¬ (0 ≤ f ∧ f < T) ∧ v = 7) :
    Calls Try.prog 37 #[.pointer (some ⟨m, 0, none⟩), .int .i64 f] w fun e w' => e = .returned (.int .i64 v) ∧ w = w' := by
  rcases hv with ⟨h0, h1, rfl⟩ | ⟨hn, rfl⟩
  · have HW := Lib.hid (show decide (0 ≤ f ∧ f ≤ (T : Int) - 1) = true from decide_eq_true ⟨h0, by omega⟩)
    go_enter Try.func37, Try.ntmps37
    go_wp2_with (go_at_call 40; refine (frames_at m a T cap _ (by assumption)).mono ?_; rintro e w' ⟨rfl, rfl⟩)
    refine (fwithin_any f 0 _ true HW.out _).mono ?_
    rintro e w' ⟨rfl, rfl⟩
    go_wp2_with (fail)
    go_ret
    exact ⟨rfl, rfl⟩
  · have HW := Lib.hid (show decide (0 ≤ f ∧ f ≤ (T : Int) - 1) = false from decide_eq_false (fun ⟨a1, a2⟩ => hn ⟨a1, by omega⟩))
    clear hn
    go_enter Try.func37, Try.ntmps37
    go_wp2_with (go_at_call 40; refine (frames_at m a T cap _ (by assumption)).mono ?_; rintro e w' ⟨rfl, rfl⟩)
    refine (fwithin_any f 0 _ false HW.out _).mono ?_
    rintro e w' ⟨rfl, rfl⟩
    go_wp2_with (fail)
    go_ret
    exact ⟨rfl, rfl⟩

theorem bytes_gone (p : Option Addr) (f : Int) (w : World) (h : Gone w p) : Calls Try.prog 41 #[.pointer p, .int .i64 f] w fun e w' => e = .returned (.slice none 0 0) ∧ w = w' := by
  have HG := Lib.hid h
  clear h
  go_enter Try.func41, Try.ntmps41
  go_wp2_with (fail)
  refine (asked_gone p f w HG.out).mono ?_
  rintro e w' ⟨rfl, rfl⟩
  go_wp2_with (fail)
  go_ret
  exact ⟨rfl, rfl⟩

theorem bytes_at {w : World} {M : MB} {ST : Nat → Nat} {B : Nat → UInt8} {K : Nat → Mk} (H : MemAt w M ST B K) (f : Nat) (hf : f < M.T) :
    Calls Try.prog 41 #[.pointer (some ⟨M.m, 0, none⟩), .int .i64 f] w fun e w' => e = .returned (.slice (some ⟨M.bb, f * 256, none⟩) 256 256) ∧ w = w' := by
  obtain ⟨k1, hk1, h1⟩ := H.c1
  obtain ⟨k2, hk2, h2⟩ := H.c2
  have T4 := H.T4
  have T1 := H.T1
  obtain ⟨m, sb, bb, kb, n, T⟩ := M
  dsimp only at hf h1 h2 hk1 hk2 T4 T1 ⊢
  clear H
  have hfc : (f : Int) * 256 + 256 ≤ k1 := by omega
  go_enter Try.func41, Try.ntmps41
  go_wp2_with (go_at_call 37; refine (asked_at m _ T k2 f 0 _ (by assumption) T4 T1 (.inl ⟨by omega, by omega, rfl⟩)).mono ?_; rintro e w' ⟨rfl, rfl⟩)
  go_ret
  refine ⟨?_, rfl⟩
  show Ending.returned (Value.slice _ (f * 256 + 256 - f * 256) (f * 256 + 256 - f * 256)) = _
  rw [Nat.add_sub_cancel_left]
end Go.Proofs.Ytnjdcgjaffageaa
