/-
  rmap, the document's: New.
-/
import Derived.Test.YtjjcbbnnilafdaaRmOf
import Derived.Deep.OwnRows
namespace Go.Proofs.Ytjjcbbnnilafdaa
open Go.RowKit Go.Shelf Go
attribute [local go_sem] Oper.semAt_some

theorem infoPg : (Try.prog.info? 41).map (fun i => (i.zero, i.size, i.bytes)) = some (some (.agg #[.int .i64 0, .int .i64 0]), 2, 16) := by kernel_rfl
theorem make_pgs (T : Nat) (hT : T ≤ 1024) : ∃ Z : Array Value, (∀ i, i < T * 2 → Z[i]? = some (pgV (fun _ => (0, 0)) i)) ∧
    ∀ W, (Instr.makeSlice 29 (.int .i64 (T : Int)) (.int .i64 (T : Int))).run Try.prog W = .ok (.slice (some ⟨W.heap.size, 0, none⟩) T T) (W.alloc (.cells Z 41)) := by
  obtain ⟨i0, hi, hz0, hz1, hz2⟩ := info_parts infoPg
  refine ⟨madeCells #[Value.int .i64 0, .int .i64 0] (T * 2), fun i hi => ?_, fun W => ?_⟩
  · have h := made_at #[Value.int .i64 0, .int .i64 0] (T * 2) i hi
    rw [Array.getElem?_toList] at h
    rw [h]
    have h2 : i % 2 = 0 ∨ i % 2 = 1 := by omega
    unfold pgV
    rcases h2 with e | e
    · rw [if_pos e]
      show some ((#[Value.int .i64 0, .int .i64 0] : Array Value)[i % 2]!) = _
      rw [e]
      rfl
    · rw [if_neg (by omega)]
      show some ((#[Value.int .i64 0, .int .i64 0] : Array Value)[i % 2]!) = _
      rw [e]
      rfl
  · have h := run_make (P := Try.prog) W 29 41 i0 _ Try.underlying29 hi hz0 .i64 .i64 T T (by omega) (by omega) (by rw [hz2]; omega) (by omega)
    rw [hz1] at h
    simp only [Int.toNat_natCast] at h
    exact h
/-- What New leaves. -/
def NewM (w : World) (N : Nat) (e : Ending) (w' : World) : Prop := ∃ rb lb, e = .returned (.pointer (some ⟨rb, 0, none⟩)) ∧ RefM w' rb lb N (fun _ => (0, 0)) ∧ w.heap.size ≤ rb ∧ w.heap.size ≤ lb ∧ Below w.heap.size w w'
theorem newM_of (w : World) (N : Nat) (Z : Array Value) (hZ : ∀ i, i < N * 2 → Z[i]? = some (pgV (fun _ => (0, 0)) i)) :
    NewM w N (.returned (.pointer (some ⟨w.heap.size + 1, 0, none⟩))) ((w.alloc (.cells Z 41)).alloc (.cells #[.slice (some ⟨w.heap.size, 0, none⟩) N N] 31)) := by
  refine ⟨w.heap.size + 1, w.heap.size, rfl, ⟨⟨N, ?_⟩, (RowAt.new w Z _ _ _ hZ).alloc _, by omega⟩, by omega, Nat.le_refl _, ((Below.refl _ _).alloc (Nat.le_refl _) _).alloc (by simp) _⟩
  have h := RowAt.new (w.alloc (.cells Z 41)) #[.slice (some ⟨w.heap.size, 0, none⟩) N N] 31 1 (fun _ => .slice (some ⟨w.heap.size, 0, none⟩) N N) (fun i hi => by
    obtain rfl : i = 0 := by omega
    rfl)
  rw [World.size_alloc] at h
  exact h.cell 0 (by decide)
set_option maxRecDepth 100000 in
set_option maxHeartbeats 2000000 in
theorem rnew_any (w : World) (n : Int) : Calls Try.prog 10 #[.int .i64 n] w (NewM w (capN n)) := by
  by_cases h0 : n < 0
  · rw [show capN n = 0 from if_pos h0]
    obtain ⟨Z, hZ, hm⟩ := make_pgs 0 (by decide)
    have HN := Lib.hid (newM_of w 0 Z hZ)
    have hm : ∀ W, (Instr.makeSlice 29 (.int .i64 0) (.int .i64 0)).run Try.prog W = .ok (.slice (some ⟨W.heap.size, 0, none⟩) 0 0) (W.alloc (.cells Z 41)) := hm
    clear hZ
    go_enter Try.func10, Try.ntmps10
    go_wp2_with (fail)
    go_ret
    exact HN.out
  · by_cases h1 : 1024 < n
    · rw [show capN n = 1024 from by unfold capN; rw [if_neg h0, if_pos h1]]
      obtain ⟨Z, hZ, hm⟩ := make_pgs 1024 (by decide)
      have HN := Lib.hid (newM_of w 1024 Z hZ)
      have hm : ∀ W, (Instr.makeSlice 29 (.int .i64 1024) (.int .i64 1024)).run Try.prog W = .ok (.slice (some ⟨W.heap.size, 0, none⟩) 1024 1024) (W.alloc (.cells Z 41)) := hm
      clear hZ
      go_enter Try.func10, Try.ntmps10
      go_wp2_with (fail)
      go_ret
      exact HN.out
    · obtain ⟨N, rfl⟩ : ∃ N : Nat, n = N := ⟨n.toNat, by omega⟩
      rw [show capN (N : Int) = N from by unfold capN; rw [if_neg h0, if_neg h1, Int.toNat_natCast]]
      obtain ⟨Z, hZ, hm⟩ := make_pgs N (by omega)
      have HN := Lib.hid (newM_of w N Z hZ)
      clear hZ
      go_enter Try.func10, Try.ntmps10
      go_wp2_with (fail)
      go_ret
      exact HN.out
end Go.Proofs.Ytjjcbbnnilafdaa
