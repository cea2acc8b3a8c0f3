/-
  Copy: another set that is the same, in blocks of its own.
-/
import Derived.Test.YtkecmoljaopgbaaDoorOwn
import Derived.Laws.CopyOwn
namespace Go.Proofs.YtkecmoljaopgbaaDoor
open Go.RowKit Go Bm

theorem size51 : (Tryd.prog.info? 51).map (·.size) = some 1 := by kernel_rfl

def wordsL (f : Nat → Bool) (L : Nat) : List Value := (List.range L).map fun k => .int .u64 (Bm.word f k : Nat)
theorem wordsL_length (f : Nat → Bool) (L : Nat) : (wordsL f L).length = L := by simp [wordsL]
theorem wordsL_at (f : Nat → Bool) (L k : Nat) (h : k < L) : (wordsL f L)[k]? = some (.int .u64 (Bm.word f k : Nat)) := by simp [wordsL, h]

/-- What Copy leaves. -/
def Copied (w : World) (n : Nat) (f : Nat → Bool) (e : Ending) (w' : World) : Prop :=
  ∃ p wb, e = .returned (.pointer (some ⟨p, 0, none⟩)) ∧ w.heap.size ≤ p ∧ w.heap.size ≤ wb ∧ SetAt w' p wb n f ∧ Below w.heap.size w w'

theorem copied (w w2 : World) (n L : Nat) (f : Nat → Bool) (hL : (n + 63) / 64 = L) (hn : n ≤ 65536) (hout : ∀ i, n ≤ i → f i = false) (T : TypeId)
    (hrow : w2.heap[w.heap.size]? = some (.cells (wordsL f L).toArray 51 (0, 0))) (hb : Below w.heap.size w w2) :
    Copied w n f (.returned (.pointer (some ⟨w2.heap.size, 0, none⟩))) (w2.alloc (.cells #[.int .i64 n, .slice (some ⟨w.heap.size, 0, none⟩) L L] T)) := by
  subst hL
  have hlt : w.heap.size < w2.heap.size := (Array.getElem?_eq_some_iff.1 hrow).1
  have hrow' : (w2.alloc (.cells #[.int .i64 n, .slice (some ⟨w.heap.size, 0, none⟩) ((n + 63) / 64) ((n + 63) / 64)] T)).heap[w.heap.size]? = some (.cells (wordsL f ((n + 63) / 64)).toArray 51 (0, 0)) := (Below.heap_alloc w2 _ _ hlt).trans hrow
  refine ⟨w2.heap.size, w.heap.size, rfl, by omega, Nat.le_refl _, ⟨?_, ?_, fun k hk => ?_, fun k hk => ?_, hout, by omega, hn⟩, hb.alloc (by omega) _⟩
  · simp [go_sem]
  · simp [go_sem]
  · have := wordsL_at f ((n + 63) / 64) k hk
    simpa [World.cell?, hrow'] using this
  · simp [World.frozen?, hrow']

theorem copy_any (p wb n : Nat) (f : Nat → Bool) (w : World) (S : SetAt w p wb n f) :
    Calls Tryd.prog 18 #[.pointer (some ⟨p, 0, none⟩)] w (Copied w n f) := by
  obtain ⟨i0, hi, hz0, hz1, hz2⟩ := info_parts info51
  have h0 := S.size
  have h1 := S.words
  have hm := S.max
  have HW := Lib.hid S.word
  have HO := Lib.hid S.out
  have hplt := World.block_lt_of_cell? _ _ h0
  generalize hL : (n + 63) / 64 = L at *
  have hL' : L ≤ 1024 := by omega
  have HL := Lib.hid hL
  clear hL
  go_enter Tryd.func18, Tryd.ntmps18
  go_wp2_with (at_make; refine wpList_make_full _ rfl _ _ 41 rfl w.heap.size 51 i0 (.int .u64 0) 1 Tryd.underlying41 hi hz0 hz1 .i64 .i64 _ _ L rfl rfl ?c1 ?c2 ?c3 ?c4 ?c5 ?_)
  case c1 => rfl
  case c2 => rfl
  case c3 => omega
  case c4 => unfold maxLen; omega
  intro w1 hown hg
  obtain ⟨cur, hcur, hsz⟩ : ∃ cur : List Value, w1.heap[w.heap.size]? = some (.cells cur.toArray 51 (0, 0)) ∧ cur.length = L := by
    obtain ⟨_, ⟨h, _⟩ | ⟨g, cap, cu, h, _, hh, _, _, hs, _⟩⟩ := hown
    · cases h
    · cases h
      exact ⟨cu.toList, by simpa using hh, by simpa using hs⟩
  have hb1 : Below w.heap.size w w1 := Below.of_grown hg
  rw [← hb1.cell hplt] at h0 h1
  have HC := Lib.hid hcur
  have HB := Lib.hid hb1
  clear hown hg hi hz0 hz1 hz2 hcur hb1
  go_wp2_with (with_reducible refine wpList_copy_splice rfl (.tmp 12) (.tmp 16) 41 41 rfl 51 Tryd.underlying41 size51 _ _ L L L L rfl rfl w.heap.size 0 cur 51 HC.out (wordsL f L) ?d1 ?d2 ?d3 ?d4 w.heap.size w HB.out (Nat.le_refl _) ?_)
  case d1 => rw [wordsL_length]; exact (Nat.min_self L).symm
  case d2 =>
    intro _ j v hv
    have hj : j < L := by
      have := (List.getElem?_eq_some_iff.1 hv).1
      rwa [wordsL_length] at this
    rw [wordsL_at f L j hj] at hv
    obtain rfl := Option.some.inj hv
    have h := HW.out j hj
    rw [← HB.out.cell (World.block_lt_of_cell? _ _ h)] at h
    exact h
  case d3 => rw [wordsL_length, hsz]; omega
  case d4 =>
    intro v hv
    obtain ⟨k, _, rfl⟩ := List.mem_map.1 hv
    rfl
  intro w2 H2 hb2
  have e : splice cur 0 (wordsL f L) = wordsL f L := by
    unfold splice
    rw [List.drop_eq_nil_of_le (by rw [wordsL_length, hsz]; omega)]
    simp
  have h2 := H2.out
  rw [e] at h2
  have H3 := Lib.hid h2
  have HB2 := Lib.hid hb2
  have g0 : w2.cell? ⟨p, 0, none⟩ = some (.int .i64 n) := by rw [hb2.cell (p := ⟨p, 0, none⟩) hplt]; exact S.size
  clear h0 h1 e h2 hb2 H2
  go_wp2_with (fail)
  go_ret
  exact copied w w2 n L f HL.out hm HO.out _ H3.out HB2.out
end Go.Proofs.YtkecmoljaopgbaaDoor
