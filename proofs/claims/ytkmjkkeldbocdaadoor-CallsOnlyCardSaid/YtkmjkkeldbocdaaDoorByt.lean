/-
  Slices of bytes: rows of them, strings of them, slices.Clone of them.
-/
import Derived.Test.YtkmjkkeldbocdaaDoorKept
import Derived.Test.YtkmjkkeldbocdaaDoorRow
import Derived.Test.YtkmjkkeldbocdaaDoorZero
import Derived.WalkSpells
import Derived.WalkLawsBesides
import Derived.Lib.Hide
import Derived.Lib.SliceRun
import Derived.Laws.BytesString
namespace Go.Proofs.YtkmjkkeldbocdaaDoor
open Go.RowKit Go

def byV (B : Nat → UInt8) (j : Nat) : Value := .int .u8 (B j).toNat
theorem byV_one (B : Nat → UInt8) (i : Nat) : (byV B i).oneCell' = true := rfl
theorem infoByte : (Tryd.prog.info? 5).map (fun i => (i.zero, i.size, i.bytes)) = some (some (.int .u8 0), 1, 1) := by kernel_rfl
theorem sizeByte : (Tryd.prog.info? 5).map (·.size) = some 1 := by kernel_rfl
theorem agg27 (w : World) : (isAgg 27).run Tryd.prog w = .ok false w := by kernel_rfl
theorem below_grown {w w1 : World} (hg : w.grownBy w1 none) : Below w.heap.size w w1 := (Below.refl _ w).grown hg (Nat.le_refl _) (fun k h => by cases h)


/-- k bytes x laid over B from o on. -/
def putB (B : Nat → UInt8) (o k : Nat) (x : Nat → UInt8) (i : Nat) : UInt8 := if o ≤ i ∧ i < o + k then x (i - o) else B i
theorem putF_byV (B : Nat → UInt8) (o k : Nat) (x : Nat → UInt8) (i : Nat) : putF (byV B) o k (byV x) i = byV (putB B o k x) i := by
  unfold putF byV putB
  by_cases h : o ≤ i ∧ i < o + k
  · rw [if_pos h, if_pos h]
  · rw [if_neg h, if_neg h]

/-- n bytes lie at a, if there are any. -/
def Src (w : World) (a : Option Addr) (n : Nat) (x : Nat → UInt8) : Prop := 0 < n → ∃ ad, a = some ad ∧ ∀ j, j < n → w.cell? (ad.add j) = some (byV x j)
theorem Src.later {w w' : World} {a : Option Addr} {n : Nat} {x : Nat → UInt8} (S : Src w a n x) (h : Below w.heap.size w w') : Src w' a n x := fun hn => by
  obtain ⟨ad, e, hc⟩ := S hn
  refine ⟨ad, e, fun j hj => ?_⟩
  rw [h.cell (World.block_lt_of_cell? _ _ (hc j hj))]; exact hc j hj
theorem Src.of_row {w : World} {b o n m : Nat} {x : Nat → UInt8} {f : Nat → Value} (R : RowAt w b m f) (h : ∀ j, j < n → o + j < m ∧ f (o + j) = byV x j) : Src w (some ⟨b, o, none⟩) n x := fun _ =>
  ⟨_, rfl, fun j hj => by rw [Addr.add_mid, R.cell _ (h j hj).1, (h j hj).2]⟩
theorem Src.nil (w : World) (a : Option Addr) (x : Nat → UInt8) : Src w a 0 x := fun h => absurd h (Nat.lt_irrefl _)
theorem Src.ext {w : World} {a : Option Addr} {n : Nat} {x y : Nat → UInt8} (S : Src w a n x) (h : ∀ j, j < n → x j = y j) : Src w a n y := fun hn => by
  obtain ⟨ad, e, hc⟩ := S hn
  exact ⟨ad, e, fun j hj => by rw [hc j hj]; unfold byV; rw [h j hj]⟩
/-- A store where no byte lies. -/
theorem Src.setStr {w : World} {a : Option Addr} {n : Nat} {x : Nat → UInt8} (S : Src w a n x) {p : Addr} {s : ByteArray} (c : w.cell? p = some (.string s)) (v : Value) : Src (w.setCell p v) a n x := fun hn => by
  obtain ⟨ad, e, hc⟩ := S hn
  refine ⟨ad, e, fun j hj => ?_⟩
  rw [World.cell?_setCell_other _ _ _ _ (by
    intro e
    have := hc j hj
    rw [← e, c] at this
    cases this)]
  exact hc j hj
def bytL (n : Nat) (x : Nat → UInt8) : List Value := (List.range n).map (byV x)
theorem bytL_len (n : Nat) (x : Nat → UInt8) : (bytL n x).length = n := by simp [bytL]
theorem bytL_at {n : Nat} {x : Nat → UInt8} {j : Nat} (h : j < n) : (bytL n x)[j]? = some (byV x j) := by
  unfold bytL; rw [List.getElem?_map, List.getElem?_range h]; rfl
theorem bytL_one (n : Nat) (x : Nat → UInt8) : ∀ u ∈ bytL n x, u.oneCell' = true := by
  intro u hu
  obtain ⟨j, _, rfl⟩ := List.mem_map.1 hu
  rfl
theorem Src.cells {w : World} {a : Option Addr} {n : Nat} {x : Nat → UInt8} (S : Src w a n x) : 0 < n → ∃ ad, a = some ad ∧ ∀ j u, (bytL n x)[j]? = some u → w.cell? (ad.add j) = some u := fun hn => by
  obtain ⟨ad, e, hc⟩ := S hn
  refine ⟨ad, e, fun j u hu => ?_⟩
  have hj : j < n := by have := (List.getElem?_eq_some_iff.1 hu).1; rwa [bytL_len] at this
  rw [bytL_at hj] at hu
  rw [hc j hj]; exact hu

/-- The string of n bytes. -/
def strB (n : Nat) (f : Nat → UInt8) : ByteArray := ((List.range n).map fun i => ((f i).toNat : Int)).foldl (fun r n => r.push (UInt8.ofNat n.toNat)) ByteArray.empty
theorem strB_ext {n : Nat} {f g : Nat → UInt8} (h : ∀ i, i < n → f i = g i) : strB n f = strB n g := by
  unfold strB
  rw [List.map_congr_left (fun i hi => by rw [h i (by simpa using hi)])]
theorem run_string_src {w : World} {a : Option Addr} {n c : Nat} {f : Nat → UInt8} (S : Src w a n f) : (convert 27 9 (.slice a n c)).run Tryd.prog w = .ok (.string (strB n f)) w := by
  rw [run_convert_bytes_string w 27 9 5 _ n c Tryd.underlying27 Tryd.underlying5 Tryd.underlying9]
  cases a with
  | none =>
    have h0 : n = 0 := by
      rcases Nat.eq_zero_or_pos n with h | h
      · exact h
      · obtain ⟨_, e, _⟩ := S h; cases e
    subst h0; rfl
  | some ad =>
    refine run_bytesToString w ad n c ((List.range n).map fun i => ((f i).toNat : Int)) ?_
    have h := run_loadCells_list (P := Tryd.prog) w ad (bytL n f) (fun j v hv => by
      have hj : j < n := by have := (List.getElem?_eq_some_iff.1 hv).1; rwa [bytL_len] at this
      obtain ⟨ad', e, hc⟩ := S (by omega)
      injection e with e
      subst e
      rw [bytL_at hj] at hv
      rw [hc j hj]; exact hv)
    rw [bytL_len] at h
    rw [h, List.map_map]; rfl
theorem run_string {w : World} {b n c : Nat} {f : Nat → UInt8} (R : RowAt w b n (byV f)) : (convert 27 9 (.slice (some ⟨b, 0, none⟩) n c)).run Tryd.prog w = .ok (.string (strB n f)) w :=
  run_string_src (Src.of_row R (fun j hj => ⟨by omega, by rw [Nat.zero_add]⟩))
end Go.Proofs.YtkmjkkeldbocdaaDoor
