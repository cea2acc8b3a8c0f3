/-
  device's document: Read; what the device and the document's have in common.
-/
import Derived.Test.YtadjkanjlkammaaDvRef
namespace Go.Proofs.Ytadjkanjlkammaa
open Go.RowKit Go

/-- Each string is the slot's bytes, or none was written. -/
def Same (n : Nat) (S : Nat → ByteArray) (B : Nat → UInt8) : Prop :=
  ∀ k, k < n → (S k = ByteArray.empty ∧ ∀ i, i < 256 → B (k * 256 + i) = 0) ∨ S k = strB 256 (fun i => B (k * 256 + i))
theorem same_new (n : Nat) : Same n (fun _ => ByteArray.empty) (fun _ => 0) := fun _ _ => .inl ⟨rfl, fun _ _ => rfl⟩
theorem Same.put {n : Nat} {S : Nat → ByteArray} {B : Nat → UInt8} (h : Same n S B) (f : Nat) (x : Nat → UInt8) : Same n (updS S f (strB 256 x)) (putB B (f * 256) 256 x) := fun k hk => by
  unfold updS
  by_cases e : k = f
  · subst e
    rw [if_pos rfl]
    exact .inr (strB_ext (fun i hi => (put_here i hi).symm))
  · rw [if_neg e]
    rcases h k hk with ⟨h1, h2⟩ | h1
    · exact .inl ⟨h1, fun i hi => by rw [put_else e i hi]; exact h2 i hi⟩
    · refine .inr (h1.trans (strB_ext (fun i hi => (put_else e i hi).symm)))

/-- What the document's Read leaves. -/
def RefRd (w : World) (n : Nat) (B : Nat → UInt8) (sl : Int) (fail : Bool) (e : Ending) (w' : World) : Prop :=
  ∃ a c, e = .returned (.tuple #[.slice a (rdM n sl fail) c, .int .i64 (rdE n sl fail)]) ∧ Src w' a (rdM n sl fail) (fun i => B (sl.toNat * 256 + i)) ∧ Below w.heap.size w w'
theorem refrd_none {w : World} {n : Nat} {B : Nat → UInt8} {sl : Int} {fail : Bool} {v : Int} (hM : rdM n sl fail = 0) (hE : rdE n sl fail = v) : RefRd w n B sl fail (.returned (.tuple #[.slice none 0 0, .int .i64 v])) w := by
  refine ⟨none, 0, ?_, ?_, Below.refl _ _⟩
  · rw [hM, hE]
  · rw [hM]; exact Src.nil _ _ _
theorem refrd_some {w w' : World} {n : Nat} {B : Nat → UInt8} {f : Nat} {g cap : Nat} (hf : f < n) (S : Src w' (some ⟨g, 0, none⟩) 256 (fun i => B (f * 256 + i))) (hb : Below w.heap.size w w') : RefRd w n B f false (.returned (.tuple #[.slice (some ⟨g, 0, none⟩) 256 cap, .int .i64 0])) w' := by
  have hM : rdM n f false = 256 := if_pos ⟨by omega, by omega, rfl⟩
  have hE : rdE n f false = 0 := by unfold rdE; rw [if_pos ⟨by omega, by omega⟩]; rfl
  refine ⟨some ⟨g, 0, none⟩, cap, ?_, ?_, hb⟩
  · rw [hM, hE]
  · rw [hM]; exact S

theorem make_256 : ∃ Z : Array Value, (∀ i, i < 256 → Z[i]? = some (Value.int .u8 0)) ∧
    ∀ W, (Instr.makeSlice 32 (.int .i64 256) (.int .i64 256)).run Try.prog W = .ok (.slice (some ⟨W.heap.size, 0, none⟩) 256 256) (W.alloc (.cells Z 5)) := by
  obtain ⟨i0, hi, hz0, hz1, hz2⟩ := info_parts infoByte
  refine ⟨madeCells #[Value.int .u8 0] 256, fun i h => ?_, fun W => ?_⟩
  · have h1 := made_at #[Value.int .u8 0] 256 i h
    rw [Array.getElem?_toList] at h1
    have : i % (#[Value.int .u8 0] : Array Value).size = 0 := Nat.mod_one i
    rw [h1, this]; rfl
  · have h := run_make (P := Try.prog) W 32 5 i0 _ Try.underlying32 hi hz0 .i64 .i64 256 256 (by omega) (by omega) (by rw [hz2]; omega) (by omega)
    rw [hz1] at h
    exact h

set_option maxRecDepth 100000 in
set_option maxHeartbeats 400000 in
theorem refread_any {w : World} {r rb n : Nat} {S : Nat → ByteArray} {B : Nat → UInt8} (H : RefAt w r rb n S) (hs : Same n S B) (sl : Int) (fail : Bool) :
    Calls Try.prog 18 #[.pointer (some ⟨r, 0, none⟩), .int .i64 sl, .bool fail] w (RefRd w n B sl fail) := by
  have HH := Lib.hid H
  have c0 := H.c0
  obtain ⟨k1, c1⟩ := H.c1
  have n1 := H.n1
  clear H
  by_cases hin : 0 ≤ sl ∧ sl < n
  · obtain ⟨h1, h2⟩ := hin
    obtain ⟨f, rfl⟩ := Int.eq_ofNat_of_zero_le h1
    have hf : f < n := by omega
    cases fail with
    | true =>
      have HW := Lib.hid (refrd_none (w := w) (B := B) (n := n) (sl := f) (fail := true) (v := 40) (by unfold rdM; rw [if_neg (by simp)]) (by unfold rdE; rw [if_pos ⟨h1, h2⟩]; rfl))
      clear hs
      go_enter Try.func18, Try.ntmps18
      go_wp2_with (fail)
      go_ret2
      exact HW.out
    | false =>
      have c2 := HH.out.row.cell f hf
      rcases hs f hf with ⟨e1, hz⟩ | e1
      · obtain ⟨Z, hZ, hm⟩ := make_256
        have HW := Lib.hid (refrd_some (B := B) (cap := 256) hf (Src.of_row (o := 0) (x := fun i => B (f * 256 + i)) (RowAt.new w Z 5 256 _ hZ) (fun j hj => ⟨by omega, by unfold byV; dsimp only; rw [hz j hj]; rfl⟩)) ((Below.refl _ w).alloc (Nat.le_refl _) _))
        rw [e1] at c2
        clear hs e1 hz hZ
        go_enter Try.func18, Try.ntmps18
        go_wp2_with (fail)
        go_ret2
        exact HW.out
      · obtain ⟨cap, w', hr, hS, hb⟩ := run_bytes w 256 (fun i => B (f * 256 + i))
        have HW := Lib.hid (refrd_some (B := B) (cap := cap) hf hS hb)
        have hne : (strB 256 (fun i => B (f * 256 + i))).toList.isEmpty = false := by
          rw [List.isEmpty_eq_false_iff]
          intro h
          have h1 := congrArg List.length h
          rw [ByteArray.toList_eq, strB_toList, List.length_map, List.length_range] at h1
          cases h1
        rw [e1] at c2
        clear hs e1 hS hb
        generalize strB 256 (fun i => B (f * 256 + i)) = s at *
        go_enter Try.func18, Try.ntmps18
        go_wp2_with (fail)
        go_ret2
        exact HW.out
  · have HW := Lib.hid (refrd_none (w := w) (B := B) (n := n) (sl := sl) (fail := fail) (v := 2) (by unfold rdM; rw [if_neg (fun h => hin ⟨h.1, h.2.1⟩)]) (by unfold rdE; rw [if_neg hin]))
    have hcs : sl < 0 ∨ (0 ≤ sl ∧ (n : Int) ≤ sl) := by omega
    clear hin hs
    rcases hcs with h1 | ⟨h1, h2⟩
    all_goals
      go_enter Try.func18, Try.ntmps18
      go_wp2_with (fail)
      go_ret2
      exact HW.out
end Go.Proofs.Ytadjkanjlkammaa
