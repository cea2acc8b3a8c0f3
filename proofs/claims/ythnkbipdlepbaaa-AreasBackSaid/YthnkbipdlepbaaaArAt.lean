/-
  areas: the landed areas as they lie (how many runs; the runs, one behind the other, then nothing); all, asked, end, part.
-/
import Derived.Test.YthnkbipdlepbaaaArPart
import Derived.Test.YthnkbipdlepbaaaArOk
import Derived.Test.YthnkbipdlepbaaaArr
namespace Go.Proofs.Ythnkbipdlepbaaa
open Go.RowKit Go.Shelf Go
attribute [local go_sem] Oper.semAt_some

/-- The cells. -/
def padR (L : Rns) : Rns := L ++ List.replicate (32 - L.length) (0, 0, 0)
def arL (L : Rns) : List Value := .int .i64 L.length :: recV encR (padR L)
def arV (L : Rns) (i : Nat) : Value := (arL L).getD i undef
/-- They lie at d. -/
abbrev AAt (w : World) (d : Nat) (L : Rns) : Prop := RowAt w d 97 (arV L)
theorem padR_len {L : Rns} (h : L.length ≤ 32) : (padR L).length = 32 := by simp [padR]; omega
theorem arL_len {L : Rns} (h : L.length ≤ 32) : (arL L).length = 97 := by rw [arL, List.length_cons, recV_len encR_len, padR_len h]
/-- Runs lie at a, one behind the other. -/
def RunsIn (w : World) (a : Option Addr) (L : Rns) : Prop := ∀ j (hj : j < L.length), ∃ g o, a = some ⟨g, o, none⟩ ∧
  w.cell? ⟨g, o + j * 3, none⟩ = some (.int .i64 (L[j]'hj).1) ∧ w.cell? ⟨g, o + j * 3 + 1, none⟩ = some (.int .i64 (L[j]'hj).2.1) ∧ w.cell? ⟨g, o + j * 3 + 2, none⟩ = some (.int .u8 (L[j]'hj).2.2)
theorem RunsIn.later {w w' : World} {a : Option Addr} {L : Rns} (h : RunsIn w a L) (hb : Below w.heap.size w w') : RunsIn w' a L := fun j hj => by
  obtain ⟨g, o, e, c0, c1, c2⟩ := h j hj
  have hg := World.block_lt_of_cell? _ _ c0
  exact ⟨g, o, e, (hb.cell (p := ⟨g, o + j * 3, none⟩) hg).trans c0, (hb.cell (p := ⟨g, o + j * 3 + 1, none⟩) hg).trans c1, (hb.cell (p := ⟨g, o + j * 3 + 2, none⟩) hg).trans c2⟩
section
variable {w w' : World} {d : Nat} {L : Rns}
theorem arV_zero (L : Rns) : arV L 0 = .int .i64 L.length := rfl
theorem arV_at {j : Nat} (hj : j < L.length) (k : Nat) (v : Value) (hk : (encR (L[j]'hj))[k]? = some v) : arV L (1 + j * 3 + k) = v := by
  have h1 : (padR L)[j]? = some (L[j]'hj) := by rw [padR, List.getElem?_append_left hj, List.getElem?_eq_getElem hj]
  have h2 := recV_at encR_len (padR L) j _ h1 k v hk
  rw [arV, List.getD, arL, show 1 + j * 3 + k = (j * 3 + k) + 1 by omega, List.getElem?_cons_succ, h2]
  rfl
theorem AAt.c0 (h : AAt w d L) : w.cell? ⟨d, 0, none⟩ = some (.int .i64 L.length) := h.cell 0 (by decide)
theorem AAt.runs (h : AAt w d L) (hl : L.length ≤ 32) : RunsIn w (some ⟨d, 1, none⟩) L := fun j hj => by
  refine ⟨d, 1, rfl, ?_, ?_, ?_⟩
  · rw [h.cell (1 + j * 3) (by omega), ← arV_at hj 0 _ rfl]; rfl
  · rw [h.cell (1 + j * 3 + 1) (by omega), ← arV_at hj 1 _ rfl]
  · rw [h.cell (1 + j * 3 + 2) (by omega), ← arV_at hj 2 _ rfl]
set_option maxRecDepth 100000 in
theorem slice_runs (b : Nat) (c : Nat) (hc : c ≤ 32) (W : World) : (Instr.sliceAt 40 (.pointer (some ⟨b, 1, none⟩)) none (some (.int .i64 c)) none).run Try.prog W = .ok (.slice (some ⟨b, 1, none⟩) c 32) W :=
  run_slice_to (s := 3) Try.underlying40 (fun w => by kernel_rfl) c hc W b 1
set_option maxRecDepth 100000 in
set_option maxHeartbeats 2000000 in
theorem aall_any (h : AAt w d L) (hl : L.length ≤ 32) : Calls Try.prog 33 #[.pointer (some ⟨d, 0, none⟩)] w fun e w' => e = .returned (.slice (some ⟨d, 1, none⟩) L.length 32) ∧ Below w.heap.size w w' := by
  have c0 := h.c0
  have HS := Lib.hid (slice_runs d L.length hl)
  clear h
  have hs := HS.out
  go_enter Try.func33, Try.ntmps33
  go_wp2_with (fail)
  go_quiet (fail)
  go_wp2_with (fail)
  go_ret
  exact ⟨rfl, below_drewN (Below.refl _ _) _⟩
set_option maxRecDepth 100000 in
set_option maxHeartbeats 2000000 in
theorem aall_no (w : World) : Calls Try.prog 33 #[.pointer none] w fun e w' => e = .returned (.slice none 0 0) ∧ w = w' := by
  go_enter Try.func33, Try.ntmps33
  go_wp2_with (fail)
  go_ret
  exact ⟨rfl, rfl⟩
set_option maxRecDepth 100000 in
set_option maxHeartbeats 2000000 in
theorem asked_no (w : World) (p c : Int) : Calls Try.prog 32 #[.pointer none, .int .i64 p, .int .i64 c] w fun e w' => e = .returned (.int .i64 1) ∧ w = w' := by
  go_enter Try.func32, Try.ntmps32
  go_wp2_with (fail)
  go_ret
  exact ⟨rfl, rfl⟩
set_option maxRecDepth 100000 in
set_option maxHeartbeats 2000000 in
theorem asked_yes (w : World) (p c : Int) (h : MayR p c) : Calls Try.prog 32 #[.pointer (some ⟨d, 0, none⟩), .int .i64 p, .int .i64 c] w fun e w' => e = .returned (.int .i64 0) ∧ w = w' := by
  obtain ⟨h1, h2, h3, h4, h5⟩ := h
  have n1 : ¬ p < 0 := by omega
  have n2 : ¬ c < 1 := by omega
  have n3 : ¬ 1024 - p < c := by omega
  have hw : wrap64 (1024 - p) = 1024 - p := IntWalk.wrap64_in _ ⟨by omega, by omega⟩
  clear h1 h2 h3 h4 h5
  go_enter Try.func32, Try.ntmps32
  go_wp2_with (fail)
  go_ret
  exact ⟨rfl, rfl⟩
set_option maxRecDepth 100000 in
set_option maxHeartbeats 2000000 in
theorem asked_wrong (w : World) (p c : Int) (h : ¬ MayR p c) (hp : p ≤ 9223372036854775807) : Calls Try.prog 32 #[.pointer (some ⟨d, 0, none⟩), .int .i64 p, .int .i64 c] w fun e w' => e = .returned (.int .i64 2) ∧ w = w' := by
  by_cases n1 : p < 0
  · clear h hp
    go_enter Try.func32, Try.ntmps32
    go_wp2_with (fail)
    go_ret
    exact ⟨rfl, rfl⟩
  · by_cases n2 : c < 1
    · clear h hp
      go_enter Try.func32, Try.ntmps32
      go_wp2_with (fail)
      go_ret
      exact ⟨rfl, rfl⟩
    · have hw : wrap64 (1024 - p) = 1024 - p := IntWalk.wrap64_in _ ⟨by omega, by omega⟩
      have n3 : 1024 - p < c := by unfold MayR at h; omega
      clear h hp
      go_enter Try.func32, Try.ntmps32
      go_wp2_with (fail)
      go_ret
      exact ⟨rfl, rfl⟩
end
set_option maxRecDepth 100000 in
set_option maxHeartbeats 2000000 in
theorem aend_any (w : World) (a b r : Nat) (h : a + b ≤ 2048) : Calls Try.prog 34 #[.agg #[.int .i64 a, .int .i64 b, .int .u8 r]] w fun e w' => e = .returned (.int .i64 ((a + b : Nat) : Int)) ∧ Below w.heap.size w w' := by
  have hw : wrap64 ((a : Int) + b) = ((a + b : Nat) : Int) := by rw [IntWalk.wrap64_in _ ⟨by omega, by omega⟩]; omega
  clear h
  go_enter Try.func34, Try.ntmps34
  go_wp2_with (fail)
  go_ret
  exact ⟨by simp [hw], (Below.refl _ _).alloc (Nat.le_refl _) _⟩
end Go.Proofs.Ythnkbipdlepbaaa
