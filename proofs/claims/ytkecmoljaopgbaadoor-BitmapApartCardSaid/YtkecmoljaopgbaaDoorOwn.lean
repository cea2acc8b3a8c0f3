/-
  A set in blocks of the call's own; known.
-/
import Derived.Test.YtkecmoljaopgbaaDoorNew
import Derived.Test.YtkecmoljaopgbaaDoorPut
import Derived.Test.YtkecmoljaopgbaaDoorRun
namespace Go.Proofs.YtkecmoljaopgbaaDoor
open Go.RowKit Go Bm

/-- A set in blocks of the call's own, from B on; below B the world is as w0 was; the library's table reads as it does. -/
structure Own (B : Nat) (w0 w : World) (p wb n : Nat) (f : Nat → Bool) : Prop where
  set : SetAt w p wb n f
  below : Below B w0 w
  hp : B ≤ p
  hw : B ≤ wb
  tab : TabAt 0 Lib.deBruijn64tab w0
  pos : 0 < B

theorem Own.table {B : Nat} {w0 w : World} {p wb n : Nat} {f : Nat → Bool} (O : Own B w0 w p wb n f) : TabAt 0 Lib.deBruijn64tab w := fun j hj => by
  rw [O.below.cell (p := ⟨0, j, none⟩) O.pos]; exact O.tab j hj

theorem grownBy_setCell (w : World) (a : Addr) (v : Value) (m : Nat) : w.grownBy ((w.setCell a v).drewN m) (some a.block) :=
  ⟨rfl, rfl, rfl, by simp [World.setCell, World.drewN], fun k _ h => Below.heap_setCell w a v k (fun e => h (by rw [e]))⟩

theorem below_drewN {B : Nat} {a w : World} (h : Below B a w) (m : Nat) : Below B a (w.drewN m) := ⟨h.os, h.tape, h.output, h.size, h.block⟩

theorem Own.drewN {B : Nat} {w0 w : World} {p wb n : Nat} {f : Nat → Bool} (O : Own B w0 w p wb n f) (m : Nat) : Own B w0 (w.drewN m) p wb n f :=
  ⟨O.set.drewN m, below_drewN O.below m, O.hp, O.hw, O.tab, O.pos⟩

theorem put_own (B : Nat) (w0 w : World) (p wb n : Nat) (f : Nat → Bool) (i : Int) (O : Own B w0 w p wb n f) (h0 : 0 ≤ i) (hi : i < n) (hf : f i.toNat = false) :
    Calls Tryd.prog 10 #[.pointer (some ⟨p, 0, none⟩), .int .i64 i] w fun e w' => e = .returned (.int .i64 0) ∧ Own B w0 w' p wb n (upd f i.toNat true) ∧ w.grownBy w' (some wb) := by
  obtain ⟨i, rfl⟩ := Int.eq_ofNat_of_zero_le h0
  refine (put_yes p wb n f i w O.set (by omega) hf).mono ?_
  rintro e w' ⟨rfl, m, rfl⟩
  exact ⟨rfl, ⟨(O.set.store i (by omega) true rfl).drewN m, below_drewN (O.below.setCell (p := ⟨wb, i / 64, none⟩) O.hw _) m, O.hp, O.hw, O.tab, O.pos⟩, grownBy_setCell _ _ _ _⟩
theorem put_own_twice (B : Nat) (w0 w : World) (p wb n : Nat) (f : Nat → Bool) (i : Int) (O : Own B w0 w p wb n f) (h0 : 0 ≤ i) (hi : i < n) (hf : f i.toNat = true) :
    Calls Tryd.prog 10 #[.pointer (some ⟨p, 0, none⟩), .int .i64 i] w fun e w' => e = .returned (.int .i64 8) ∧ Own B w0 w' p wb n f ∧ ∃ m, w' = w.drewN m := by
  obtain ⟨i, rfl⟩ := Int.eq_ofNat_of_zero_le h0
  refine (put_twice p wb n f i w O.set (by omega) hf).mono ?_
  rintro e w' ⟨rfl, m, rfl⟩
  exact ⟨rfl, O.drewN m, m, rfl⟩

theorem new_own (n : Int) (w : World) (hT : TabAt 0 Lib.deBruijn64tab w) :
    Calls Tryd.prog 8 #[.int .i64 n] w fun e w' => ∃ p wb, e = .returned (.pointer (some ⟨p, 0, none⟩)) ∧ Own w.heap.size w w' p wb (clampN n) noneF := by
  refine (new_any n w).mono ?_
  rintro e w' ⟨p, wb, rfl, h1, h2, h3, h4⟩
  have h := hT 0 (by decide)
  have hpos : 0 < w.heap.size := World.block_lt_of_cell? w ⟨0, 0, none⟩ h
  exact ⟨p, wb, rfl, h3, h4, h1, h2, hT, hpos⟩

theorem free_own (B : Nat) (w0 w : World) (p wb n : Nat) (f : Nat → Bool) (i : Int) (o : Option Nat) (O : Own B w0 w p wb n f) (ho : findN (turned f true) i.toNat n = o) :
    Calls Tryd.prog 14 #[.pointer (some ⟨p, 0, none⟩), .int .i64 i] w fun e w' => e = fnd o ∧ w = w' := by
  rw [← ho]; exact free_any p wb n f i w O.set O.table
theorem next_own (B : Nat) (w0 w : World) (p wb n : Nat) (f : Nat → Bool) (i : Int) (o : Option Nat) (O : Own B w0 w p wb n f) (ho : findN (turned f false) i.toNat n = o) :
    Calls Tryd.prog 16 #[.pointer (some ⟨p, 0, none⟩), .int .i64 i] w fun e w' => e = fnd o ∧ w = w' := by
  rw [← ho]; exact next_any p wb n f i w O.set O.table
theorem run_own (B : Nat) (w0 w : World) (p wb n : Nat) (f : Nat → Bool) (i m : Int) (o : Option Nat) (O : Own B w0 w p wb n f) (hm : 1 ≤ m) (ho : findN (runB f n m.toNat) i.toNat n = o) :
    Calls Tryd.prog 17 #[.pointer (some ⟨p, 0, none⟩), .int .i64 i, .int .i64 m] w fun e w' => e = fnd o ∧ w = w' := by
  rw [← ho]; exact run_any p wb n f i m w O.set O.table hm

theorem take_own (B : Nat) (w0 w : World) (p wb n : Nat) (f : Nat → Bool) (i : Int) (O : Own B w0 w p wb n f) (h0 : 0 ≤ i) (hi : i < n) (hf : f i.toNat = true) :
    Calls Tryd.prog 12 #[.pointer (some ⟨p, 0, none⟩), .int .i64 i] w fun e w' => e = .returned (.int .i64 0) ∧ Own B w0 w' p wb n (upd f i.toNat false) ∧ w.grownBy w' (some wb) := by
  obtain ⟨i, rfl⟩ := Int.eq_ofNat_of_zero_le h0
  refine (take_yes p wb n f i w O.set (by omega) hf).mono ?_
  rintro e w' ⟨rfl, m, rfl⟩
  exact ⟨rfl, ⟨(O.set.store i (by omega) false rfl).drewN m, below_drewN (O.below.setCell (p := ⟨wb, i / 64, none⟩) O.hw _) m, O.hp, O.hw, O.tab, O.pos⟩, grownBy_setCell _ _ _ _⟩
theorem has_own (B : Nat) (w0 w : World) (p wb n : Nat) (f : Nat → Bool) (i : Int) (O : Own B w0 w p wb n f) (h0 : 0 ≤ i) (hi : i < n) :
    Calls Tryd.prog 19 #[.pointer (some ⟨p, 0, none⟩), .int .i64 i] w fun e w' => e = .returned (.bool (f i.toNat)) ∧ Own B w0 w' p wb n f ∧ ∃ m, w' = w.drewN m := by
  obtain ⟨i, rfl⟩ := Int.eq_ofNat_of_zero_le h0
  refine (has_any p wb n f i w O.set (by omega)).mono ?_
  rintro e w' ⟨rfl, m, rfl⟩
  exact ⟨rfl, O.drewN m, m, rfl⟩

/-- What a search comes to, its two results apart. -/
def ixI : Option Nat → Int | some j => j | none => 0
def ixB : Option Nat → Bool | some _ => true | none => false
theorem ixI_none : ixI none = 0 := rfl
theorem ixI_some (j : Nat) : ixI (some j) = j := rfl
theorem ixB_none : ixB none = false := rfl
theorem ixB_some (j : Nat) : ixB (some j) = true := rfl
theorem fnd_eq (o : Option Nat) : fnd o = .returned (.tuple #[.int .i64 (ixI o), .bool (ixB o)]) := by cases o <;> rfl

/-- What Run finds, whatever many is. -/
def runO (f : Nat → Bool) (n : Nat) (m i : Int) : Option Nat := if m < 1 then none else findN (runB f n m.toNat) i.toNat n
theorem run_all (B : Nat) (w0 w : World) (p wb n : Nat) (f : Nat → Bool) (i m : Int) (O : Own B w0 w p wb n f) :
    Calls Tryd.prog 17 #[.pointer (some ⟨p, 0, none⟩), .int .i64 i, .int .i64 m] w fun e w' => e = fnd (runO f n m i) ∧ w = w' := by
  unfold runO
  by_cases h : m < 1
  · rw [if_pos h]; exact run_less _ _ _ _ h
  · rw [if_neg h]; exact run_own B w0 w p wb n f i m _ O (by omega) rfl
theorem of_runO {f : Nat → Bool} {n : Nat} {m i : Int} {j : Nat} (h : runO f n m i = some j) : 1 ≤ m ∧ i.toNat ≤ j ∧ j + m.toNat ≤ n ∧ ∀ k, k < m.toNat → f (j + k) = false := by
  unfold runO at h
  by_cases hm : m < 1
  · rw [if_pos hm] at h; cases h
  · rw [if_neg hm] at h
    obtain ⟨h1, h2, h3, h4⟩ := of_findN_some h
    obtain ⟨h5, h6⟩ := runB_iff.1 h3
    exact ⟨by omega, h1, h5, h6⟩

/-- Put, whatever i is: it is a set still. -/
theorem put_some (B : Nat) (w0 w : World) (p wb n : Nat) (f : Nat → Bool) (i : Int) (O : Own B w0 w p wb n f) :
    Calls Tryd.prog 10 #[.pointer (some ⟨p, 0, none⟩), .int .i64 i] w fun e w' => ∃ z f', e = .returned (.int .i64 z) ∧ Own B w0 w' p wb n f' := by
  by_cases h : i < 0 ∨ (n : Int) ≤ i
  · refine (put_no p n i w O.set.size h).mono ?_
    rintro e w' ⟨rfl, rfl⟩
    exact ⟨2, f, rfl, O⟩
  · by_cases hf : f i.toNat = true
    · refine (put_own_twice B w0 w p wb n f i O (by omega) (by omega) hf).mono ?_
      rintro e w' ⟨rfl, h1, _⟩
      exact ⟨8, f, rfl, h1⟩
    · refine (put_own B w0 w p wb n f i O (by omega) (by omega) (by simpa using hf)).mono ?_
      rintro e w' ⟨rfl, h1, _⟩
      exact ⟨0, _, rfl, h1⟩
theorem size_own (B : Nat) (w0 w : World) (p wb n : Nat) (f : Nat → Bool) (O : Own B w0 w p wb n f) :
    Calls Tryd.prog 23 #[.pointer (some ⟨p, 0, none⟩)] w fun e w' => e = .returned (.int .i64 n) ∧ w = w' := by
  have h0 := O.set.size
  go_enter Tryd.func23, Tryd.ntmps23
  go_wp2
  go_ret
  exact ⟨rfl, rfl⟩

theorem known_any (w : World) (hT : TabAt 0 Lib.deBruijn64tab w) :
    Calls Tryd.prog 7 #[] w fun e w' => e = .returned (.bool true) ∧ Below w.heap.size w w' := by
  go_enter Tryd.func7, Tryd.ntmps7
  go_wp2_with (fail)
  refine (new_own 8 w hT).mono ?_
  rintro e w1 ⟨p, wb, rfl, O⟩
  rw [show clampN 8 = 8 from rfl] at O
  go_wp2_with (first
    | (go_at_call 10; refine (put_own w.heap.size w _ p wb 8 _ _ (by assumption) (by decide) (by decide) (by rfl)).mono ?_; rintro e w2 ⟨rfl, O2, G2⟩)
    | (go_at_call 10; refine (put_own_twice w.heap.size w _ p wb 8 _ _ (by assumption) (by decide) (by decide) (by rfl)).mono ?_; rintro e w2 ⟨rfl, O2, G2⟩))
  refine (free_own w.heap.size w _ p wb 8 _ 0 (some 2) (by assumption) (by rfl)).mono ?_
  rintro e w' ⟨rfl, rfl⟩
  unfold fnd
  go_wp2_with (fail)
  refine (next_own w.heap.size w _ p wb 8 _ 2 (some 4) (by assumption) (by rfl)).mono ?_
  rintro e w' ⟨rfl, rfl⟩
  unfold fnd
  go_wp2_with (fail)
  refine (run_own w.heap.size w _ p wb 8 _ 0 2 (some 2) (by assumption) (by decide) (by rfl)).mono ?_
  rintro e w' ⟨rfl, rfl⟩
  unfold fnd
  go_wp2_with (fail)
  refine (run_own w.heap.size w _ p wb 8 _ 0 4 none (by assumption) (by decide) (by rfl)).mono ?_
  rintro e w' ⟨rfl, rfl⟩
  unfold fnd
  go_wp2_with (fail)
  go_ret
  exact ⟨rfl, (by assumption : Own w.heap.size w _ p wb 8 _).below⟩
end Go.Proofs.YtkecmoljaopgbaaDoor
