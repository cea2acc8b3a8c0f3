/-
  The walk of FramesNone: it returns true, and below the old heap nothing has turned.
-/
import Derived.Test.YtecklmiiiklagaaFrWords
import Derived.Test.YtecklmiiiklagaaFrCopy
namespace Go.Proofs.Ytecklmiiiklagaa
open Go.RowKit Go

/-- A call as a value: its numbers, its slice, its mark, its word. -/
structure OpV (A : Array Value) (f a n : Int) (bp : Option Addr) (bl bc : Nat) (x : Mk) (u : Int) : Prop where
  size : A.size = 11
  f : A[1]? = some (.int .i64 f)
  a : A[2]? = some (.int .i64 a)
  n : A[3]? = some (.int .i64 n)
  b : A[4]? = some (.slice bp bl bc)
  m : ∀ (j : Nat) (v : Value), x.cells[j]? = some v → A[5 + j]? = some v
  u : A[10]? = some (.int .u64 u)
/-- A call in its block. -/
structure OpHere (w : World) (ob : Nat) (f a n : Int) (bp : Option Addr) (bl bc : Nat) (x : Mk) (u : Int) : Prop where
  f : w.cell? ⟨ob, 1, none⟩ = some (.int .i64 f)
  a : w.cell? ⟨ob, 2, none⟩ = some (.int .i64 a)
  n : w.cell? ⟨ob, 3, none⟩ = some (.int .i64 n)
  b : w.cell? ⟨ob, 4, none⟩ = some (.slice bp bl bc)
  m : w.rangeAt ob 5 x.cells
  u : w.cell? ⟨ob, 10, none⟩ = some (.int .u64 u)
theorem OpHere.later {w w' : World} {ob : Nat} {f a n : Int} {bp : Option Addr} {bl bc : Nat} {x : Mk} {u : Int} (O : OpHere w ob f a n bp bl bc x u) (h : Below w.heap.size w w') : OpHere w' ob f a n bp bl bc x u := by
  have hlt := World.block_lt_of_cell? _ _ O.f
  have hc : ∀ {o v}, w.cell? ⟨ob, o, none⟩ = some v → w'.cell? ⟨ob, o, none⟩ = some v := fun {o v} hv => by rw [h.cell (p := ⟨ob, o, none⟩) hlt]; exact hv
  exact ⟨hc O.f, hc O.a, hc O.n, hc O.b, fun j v hv => hc (O.m j v hv), hc O.u⟩
theorem OpHere.new (w : World) {A : Array Value} {t : TypeId} {f a n : Int} {bp : Option Addr} {bl bc : Nat} {x : Mk} {u : Int} (O : OpV A f a n bp bl bc x u) : OpHere (w.alloc (.cells A t)) w.heap.size f a n bp bl bc x u := by
  have hc : ∀ {o v}, A[o]? = some v → (w.alloc (.cells A t)).cell? ⟨w.heap.size, o, none⟩ = some v := fun {o v} hv => by
    rw [cell_of_row _ _ _ _ _ _ (heap_alloc_new w _)]; exact hv
  exact ⟨hc O.f, hc O.a, hc O.n, hc O.b, fun j v hv => hc (O.m j v hv), hc O.u⟩
theorem Gone.later {w w' : World} {p : Option Addr} (h : Gone w p) (hb : Below w.heap.size w w') : Gone w' p := by
  rcases h with rfl | ⟨m, rfl, h0, h1, h2⟩
  · exact .inl rfl
  · have hlt := World.block_lt_of_cell? _ _ h0
    exact .inr ⟨m, rfl, by rw [hb.cell (p := ⟨m, 0, none⟩) hlt]; exact h0, by rw [hb.cell (p := ⟨m, 1, none⟩) hlt]; exact h1, by rw [hb.cell (p := ⟨m, 2, none⟩) hlt]; exact h2⟩

set_option maxRecDepth 100000 in
set_option maxHeartbeats 4000000 in
theorem lawNone_any (A : Array Value) (f a n : Int) (bp : Option Addr) (bl bc : Nat) (x : Mk) (u : Int) (w : World) (hA : OpV A f a n bp bl bc x u) :
    Calls Try.prog 3 #[.agg A] w fun e w' => e = .returned (.bool true) ∧ Below w.heap.size w w' := by
  have O1 := OpHere.new w (t := 28) hA
  have hB1 : Below w.heap.size w (w.alloc (.cells A 28)) := (Below.refl _ _).alloc (Nat.le_refl _) _
  have HB1 := Lib.hid hB1
  have ob := O1.b
  by_cases hl : 1000 < bl
  · clear hA O1 hB1
    go_enter Try.func3, Try.ntmps3
    go_wp2_with (fail)
    refine (known_any _).mono ?_
    rintro e w3 ⟨rfl, hb⟩
    have HB3 := Lib.hid (HB1.out.trans (hb.mono HB1.out.size))
    clear hb
    go_wp2_with (fail)
    go_ret
    exact ⟨rfl, HB3.out⟩
  · have O3 := (O1.later ((Below.refl _ _).alloc (Nat.le_refl _) (.cells #[.slice none 0 0, .slice none 0 0, .slice none 0 0] 33))).later ((Below.refl _ _).alloc (Nat.le_refl _) (.cells #[.pointer none, .pointer (some ⟨w.heap.size + 1, 0, none⟩)] 34))
    have HO3 := Lib.hid O3
    have HB3 := Lib.hid ((hB1.alloc hB1.size (.cells #[.slice none 0 0, .slice none 0 0, .slice none 0 0] 33)).alloc (by simp; omega) (.cells #[.pointer none, .pointer (some ⟨w.heap.size + 1, 0, none⟩)] 34))
    clear hA O1 hB1 O3
    have z0 : (((w.alloc (.cells A 28)).alloc (.cells #[.slice none 0 0, .slice none 0 0, .slice none 0 0] 33)).alloc (.cells #[.pointer none, .pointer (some ⟨w.heap.size + 1, 0, none⟩)] 34)).cell? ⟨w.heap.size + 1, 0, none⟩ = some (.slice none 0 0) := by simp [go_sem]
    have z1 : (((w.alloc (.cells A 28)).alloc (.cells #[.slice none 0 0, .slice none 0 0, .slice none 0 0] 33)).alloc (.cells #[.pointer none, .pointer (some ⟨w.heap.size + 1, 0, none⟩)] 34)).cell? ⟨w.heap.size + 1, 1, none⟩ = some (.slice none 0 0) := by simp [go_sem]
    have z2 : (((w.alloc (.cells A 28)).alloc (.cells #[.slice none 0 0, .slice none 0 0, .slice none 0 0] 33)).alloc (.cells #[.pointer none, .pointer (some ⟨w.heap.size + 1, 0, none⟩)] 34)).cell? ⟨w.heap.size + 1, 2, none⟩ = some (.slice none 0 0) := by simp [go_sem]
    have p0 : (((w.alloc (.cells A 28)).alloc (.cells #[.slice none 0 0, .slice none 0 0, .slice none 0 0] 33)).alloc (.cells #[.pointer none, .pointer (some ⟨w.heap.size + 1, 0, none⟩)] 34)).cell? ⟨w.heap.size + 1 + 1, 0, none⟩ = some (.pointer none) := by simp [go_sem]
    have p1 : (((w.alloc (.cells A 28)).alloc (.cells #[.slice none 0 0, .slice none 0 0, .slice none 0 0] 33)).alloc (.cells #[.pointer none, .pointer (some ⟨w.heap.size + 1, 0, none⟩)] 34)).cell? ⟨w.heap.size + 1 + 1, 1, none⟩ = some (.pointer (some ⟨w.heap.size + 1, 0, none⟩)) := by simp [go_sem]
    have HZ := Lib.hid (show Gone _ (some ⟨w.heap.size + 1, 0, none⟩) from .inr ⟨_, rfl, z0, z1, z2⟩)
    have P0 := Lib.hid p0
    have P1 := Lib.hid p1
    clear z0 z1 z2 p0 p1
    have gl : decide (1000 < (bl : Int)) = false := decide_eq_false (by omega)
    go_enter Try.func3, Try.ntmps3
    go_wp2_with (fail)
    clear ob gl
    generalize (((w.alloc (.cells A 28)).alloc (.cells #[.slice none 0 0, .slice none 0 0, .slice none 0 0] 33)).alloc (.cells #[.pointer none, .pointer (some ⟨w.heap.size + 1, 0, none⟩)] 34)) = w3 at *
    go_loopw [21] (fun i wr => ∃ k : Nat, k ≤ 2 ∧ i = .int .i64 k ∧ Below w3.heap.size w3 wr) (fun i _ => 2 - (intOf i).toNat)
    case atStart => exact ⟨0, by decide, rfl, Below.refl _ _⟩
    case round =>
      obtain ⟨k, hk, rfl, hb⟩ := hrel
      have HB := Lib.hid hb
      by_cases hlt : k < 2
      · obtain ⟨q, hq, hg⟩ : ∃ q, wr.cell? ⟨w.heap.size + 1 + 1, k, none⟩ = some (.pointer q) ∧ Gone wr q := by
          rcases (show k = 0 ∨ k = 1 by omega) with rfl | rfl
          · exact ⟨none, by rw [hb.cell (World.block_lt_of_cell? _ _ P0.out)]; exact P0.out, .inl rfl⟩
          · exact ⟨_, by rw [hb.cell (World.block_lt_of_cell? _ _ P1.out)]; exact P1.out, HZ.out.later hb⟩
        have O := HO3.out.later hb
        have f1 := O.f
        have a1 := O.a
        have n1 := O.n
        have HO := Lib.hid O
        have HG := Lib.hid hg
        have hlk : (k : Int) < 2 := by omega
        clear hb hg O
        go_wp2_with (fail)
        refine (read_err q f a n 1 _ (by decide) (part_err q f a n 1 _ (by decide) (asked_gone q f _ HG.out))).mono ?_
        rintro e w' ⟨rfl, rfl⟩
        go_wp2_with (fail)
        refine (mark_err q f 1 _ (by decide) (fun w' hb => asked_gone q f w' (HG.out.later hb))).mono ?_
        rintro e w4 ⟨rfl, hb⟩
        have hb5 : Below wr.heap.size wr (w4.alloc (.cells #[.int .u8 0, .int .i64 0, .int .i64 0, .int .i64 0, .int .i64 0] 25)) := hb.alloc hb.size _
        have HB5 := Lib.hid (HB.out.trans (hb5.mono HB.out.size))
        have O := HO.out.later hb5
        have HG5 := Lib.hid (HG.out.later hb5)
        have HO5 := Lib.hid O
        clear hb hb5 f1 a1 n1 hq
        have f1 := O.f
        have a1 := O.a
        have b1 := O.b
        have r1 := O.m
        have u1 := O.u
        clear O
        go_wp2_with (fail)
        generalize w4.alloc (.cells #[.int .u8 0, .int .i64 0, .int .i64 0, .int .i64 0, .int .i64 0] 25) = w5 at *
        refine (word_err q f a 1 _ (by decide) (asked_gone q f _ HG5.out)).mono ?_
        rintro e w' ⟨rfl, rfl⟩
        go_wp2_with (fail)
        refine (write_err q f a 1 bp bl bc _ (by decide) (part_err q f a bl 1 _ (by decide) (asked_gone q f _ HG5.out))).mono ?_
        rintro e w' ⟨rfl, rfl⟩
        go_wp2_with (fail)
        refine (clear_err q f 1 _ (by decide) (asked_gone q f _ HG5.out)).mono ?_
        rintro e w' ⟨rfl, rfl⟩
        go_wp2_with (fail)
        refine (move_err q f a 1 _ (by decide) (asked_gone q f _ HG5.out)).mono ?_
        rintro e w' ⟨rfl, rfl⟩
        have hs := fun w (hg : Gone w q) => setmark_err q f 1 x w (by decide) (fun w' hb => asked_gone q f w' (hg.later hb))
        have HS := Lib.hid hs
        clear hs
        generalize x = y at r1 HS HO5
        obtain ⟨y0, y1, y2, y3, y4⟩ := y
        unfold Mk.cells at r1 HS
        dsimp only at r1
        have e0 : w5.cell? ⟨w.heap.size, 5, none⟩ = some (.int .u8 y0) := r1 0 _ rfl
        have e1 : w5.cell? ⟨w.heap.size, 6, none⟩ = some (.int .i64 y1) := r1 1 _ rfl
        have e2 : w5.cell? ⟨w.heap.size, 7, none⟩ = some (.int .i64 y2) := r1 2 _ rfl
        have e3 : w5.cell? ⟨w.heap.size, 8, none⟩ = some (.int .i64 y3) := r1 3 _ rfl
        have e4 : w5.cell? ⟨w.heap.size, 9, none⟩ = some (.int .i64 y4) := r1 4 _ rfl
        clear r1
        go_wp2_with (fail)
        refine (HS.out w5 HG5.out).mono ?_
        rintro e w6 ⟨rfl, hb⟩
        have HB6 := Lib.hid (HB5.out.trans (hb.mono HB5.out.size))
        have O := HO5.out.later hb
        have HG6 := Lib.hid (HG5.out.later hb)
        clear hb f1 a1 b1 u1 e0 e1 e2 e3 e4
        have f1 := O.f
        have a1 := O.a
        have u1 := O.u
        clear O
        go_wp2_with (fail)
        refine (setword_err q f a 1 u _ (by decide) (eight_err q f a 1 _ (by decide) (asked_gone q f _ HG6.out))).mono ?_
        rintro e w' ⟨rfl, rfl⟩
        go_wp2_with (fail)
        refine (frames_gone q _ HG6.out).mono ?_
        rintro e w' ⟨rfl, rfl⟩
        go_wp2_with (fail)
        refine (count_gone q f 1 _ HG6.out).mono ?_
        rintro e w' ⟨rfl, rfl⟩
        go_wp2_with (fail)
        refine (bytes_gone q f _ HG6.out).mono ?_
        rintro e w' ⟨rfl, rfl⟩
        go_wp2_with (fail)
        refine (copy_gone q _ HG6.out).mono ?_
        rintro e w' ⟨rfl, rfl⟩
        go_wp2_with (fail)
        go_roundw
        case rel => exact ⟨k + 1, hlt, by go_num, HB6.out⟩
        case measure => simp [intOf]; omega
      · obtain rfl : k = 2 := by omega
        have HB9 := Lib.hid (HB3.out.trans (hb.mono HB3.out.size))
        clear hb
        go_wp2_with (fail)
        refine (known_any wr).mono ?_
        rintro e w9 ⟨rfl, hb⟩
        have HB10 := Lib.hid (HB9.out.trans (hb.mono HB9.out.size))
        clear hb
        go_wp2_with (fail)
        go_ret
        exact ⟨rfl, HB10.out⟩
end Go.Proofs.Ytecklmiiiklagaa
