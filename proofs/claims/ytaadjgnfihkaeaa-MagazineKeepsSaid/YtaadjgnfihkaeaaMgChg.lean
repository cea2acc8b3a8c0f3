/-
  magazine: which one is empty, full; both change places (the program's, the document's).
-/
import Derived.Test.YtaadjgnfihkaeaaMgAt
import Derived.BigRegion
namespace Go.Proofs.Ytaadjgnfihkaeaa
open Go.RowKit Go
theorem len_t {n m : Nat} (h : n = m) : ((n : Int) == (m : Int)) = true := by subst h; simp
theorem len_f {n m : Nat} (h : ¬ n = m) : ((n : Int) == (m : Int)) = false := by simp; omega
theorem len_0 {n : Nat} (h : n = 0) : ((n : Int) == 0) = true := len_t h
theorem len_p {n : Nat} (h : ¬ n = 0) : ((n : Int) == 0) = false := len_f h
section
variable {w w' : World} {M : MP} {N : Nat} {L O : Obs}
set_option maxRecDepth 100000 in
set_option maxHeartbeats 2000000 in
theorem missing_any (h : MAt w M N L O) : Calls Try.prog 24 #[.pointer (some ⟨M.p, 0, none⟩)] w fun e w' => e = .returned (.bool false) ∧ w = w' := by
  have c0 := h.c0
  have hn : ((N : Int) == 0) = false := by have := h.n1; simp; omega
  clear h
  obtain ⟨p, l, o⟩ := M
  dsimp only at c0 ⊢
  go_enter Try.func24, Try.ntmps24
  go_wp2_with (fail)
  go_ret
  exact ⟨rfl, rfl⟩
set_option maxRecDepth 100000 in
set_option maxHeartbeats 2000000 in
theorem empty0_any (h : MAt w M N L O) : Calls Try.prog 28 #[.pointer (some ⟨M.p, 0, none⟩), .int .i64 0] w fun e w' => e = .returned (.bool ((L.length : Int) == 0)) ∧ w = w' := by
  have c1 := h.c1
  obtain ⟨a, c, e⟩ := h.ls
  rw [e] at c1
  clear h e
  obtain ⟨p, l, o⟩ := M
  dsimp only at c1 ⊢
  go_enter Try.func28, Try.ntmps28
  go_wp2_with (fail)
  go_ret
  exact ⟨rfl, rfl⟩
set_option maxRecDepth 100000 in
set_option maxHeartbeats 2000000 in
theorem empty1_any (h : MAt w M N L O) : Calls Try.prog 28 #[.pointer (some ⟨M.p, 0, none⟩), .int .i64 1] w fun e w' => e = .returned (.bool ((O.length : Int) == 0)) ∧ w = w' := by
  have c1 := h.c2
  obtain ⟨a, c, e⟩ := h.os
  rw [e] at c1
  clear h e
  obtain ⟨p, l, o⟩ := M
  dsimp only at c1 ⊢
  go_enter Try.func28, Try.ntmps28
  go_wp2_with (fail)
  go_ret
  exact ⟨rfl, rfl⟩
set_option maxRecDepth 100000 in
set_option maxHeartbeats 2000000 in
theorem full0_any (h : MAt w M N L O) : Calls Try.prog 25 #[.pointer (some ⟨M.p, 0, none⟩), .int .i64 0] w fun e w' => e = .returned (.bool ((L.length : Int) == N)) ∧ Below w.heap.size w w' := by
  have c0 := h.c0
  have c1 := h.c1
  obtain ⟨a, c, e⟩ := h.ls
  rw [e] at c1
  clear h e
  obtain ⟨p, l, o⟩ := M
  dsimp only at c0 c1 ⊢
  go_enter Try.func25, Try.ntmps25
  go_wp2_with (fail)
  go_quiet (fail)
  go_wp2_with (fail)
  go_ret
  exact ⟨rfl, below_drewN (Below.refl _ _) _⟩
set_option maxRecDepth 100000 in
set_option maxHeartbeats 2000000 in
theorem full1_any (h : MAt w M N L O) : Calls Try.prog 25 #[.pointer (some ⟨M.p, 0, none⟩), .int .i64 1] w fun e w' => e = .returned (.bool ((O.length : Int) == N)) ∧ Below w.heap.size w w' := by
  have c0 := h.c0
  have c1 := h.c2
  obtain ⟨a, c, e⟩ := h.os
  rw [e] at c1
  clear h e
  obtain ⟨p, l, o⟩ := M
  dsimp only at c0 c1 ⊢
  go_enter Try.func25, Try.ntmps25
  go_wp2_with (fail)
  go_quiet (fail)
  go_wp2_with (fail)
  go_ret
  exact ⟨rfl, below_drewN (Below.refl _ _) _⟩
/-- What a change of places leaves. -/
def ChgP (w : World) (M : MP) (N : Nat) (L O : Obs) (e : Ending) (w' : World) : Prop := ∃ M', e = .returned (.tuple #[]) ∧ MAt w' M' N O L ∧ MTurn w M w' M'
set_option maxRecDepth 100000 in
set_option maxHeartbeats 4000000 in
theorem rchange_any (h : MAt w M N L O) : Calls Try.prog 27 #[.pointer (some ⟨M.p, 0, none⟩)] w (ChgP w M N L O) := by
  have HS := Lib.hid (show MAt ((w.setCell ⟨M.p, 1, none⟩ M.o).setCell ⟨M.p, 2, none⟩ M.l) ⟨M.p, M.o, M.l⟩ N O L ∧ MTurn w M ((w.setCell ⟨M.p, 1, none⟩ M.o).setCell ⟨M.p, 2, none⟩ M.l) ⟨M.p, M.o, M.l⟩ from h.swap)
  have c1 := h.c1
  have c2 := h.c2
  have f1 := h.fz 1
  have f2 := h.fz 2
  obtain ⟨a, c, e⟩ := h.ls
  obtain ⟨a2, c3, e2⟩ := h.os
  clear h
  obtain ⟨p, l, o⟩ := M
  dsimp only at c1 c2 f1 f2 HS e e2 ⊢
  subst e
  subst e2
  go_enter Try.func27, Try.ntmps27
  go_wp2_with (fail)
  go_end0
  exact ⟨_, rfl, HS.out.1, HS.out.2⟩
set_option maxRecDepth 100000 in
set_option maxHeartbeats 4000000 in
theorem change_any (h : MAt w M N L O) : Calls Try.prog 26 #[.pointer (some ⟨M.p, 0, none⟩)] w (ChgP w M N L O) := by
  have hd := h.later (below_drewN (Below.refl w.heap.size w) 1)
  have HS := Lib.hid (show MAt (((w.drewN 1).setCell ⟨M.p, 1, none⟩ M.o).setCell ⟨M.p, 2, none⟩ M.l) ⟨M.p, M.o, M.l⟩ N O L ∧ MTurn w M (((w.drewN 1).setCell ⟨M.p, 1, none⟩ M.o).setCell ⟨M.p, 2, none⟩ M.l) ⟨M.p, M.o, M.l⟩ from ⟨hd.swap.1, (Only.drewN _ w 1).trans hd.swap.2.only, hd.swap.2.has, hd.swap.2.pp⟩)
  have c1 := h.c1
  have c2 := h.c2
  have f1 := h.fz 1
  have f2 := h.fz 2
  obtain ⟨a, c, e⟩ := h.ls
  obtain ⟨a2, c3, e2⟩ := h.os
  clear h hd
  obtain ⟨p, l, o⟩ := M
  dsimp only at c1 c2 f1 f2 HS e e2 ⊢
  subst e
  subst e2
  go_enter Try.func26, Try.ntmps26
  go_wp2_with (fail)
  go_region
  go_wp2_with (fail)
  go_end0
  exact ⟨_, rfl, HS.out.1, HS.out.2⟩
end
end Go.Proofs.Ytaadjgnfihkaeaa
