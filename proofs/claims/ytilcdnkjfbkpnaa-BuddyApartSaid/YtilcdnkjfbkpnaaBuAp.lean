/-
  BuddyApart: the closure that marks a block's frames; how often each frame is marked; the law's state, round by round; what the range over the free blocks keeps.
-/
import Derived.Test.YtilcdnkjfbkpnaaOwn
import Derived.Test.YtilcdnkjfbkpnaaShl
import Derived.Test.YtilcdnkjfbkpnaaLexH
import Derived.Test.YtilcdnkjfbkpnaaBuGrow
import Derived.Test.YtilcdnkjfbkpnaaBuKeyB
import Derived.Deep.LoopGhost
import Derived.Test.YtilcdnkjfbkpnaaBuBud
import Derived.Test.YtilcdnkjfbkpnaaLexIn
import Derived.Laws.EntriesVeiled
namespace Go.Proofs.Ytilcdnkjfbkpnaa
/-! BuddyApart: the closure that marks a block's frames. -/
section
open Go.RowKit Go
section
variable {P : Program} {ops : Array Oper} {Q : Exit → Act → World → Prop} {S : World → Prop} {K : Act → World → Prop} {i : Nat} {r : List (Nat × Bool)} {a : Act}
theorem lexH_shlM {w : World} {o : Oper} (hi : ops[i]? = some o) (hw : Region.wanted o (yielded ops a.tmps) = true) (t : TypeId) (x y : Operand) (ty : TypeId) (ho : o.op = .binOp .shl t x y ty)
    (j : IntKind) (k p : Nat) (hk : k ≤ 10) (hp : 2 ^ k = p) (hx : a.eval x = .int .i64 1) (hy : a.eval y = .int j k) (h : LexH P ops Q S K r (a.put o.dst (.int .i64 p)) w) : LexH P ops Q S K ((i, false) :: r) a w :=
  lexH_yield hi hw (fun W _ => by
    subst hp
    unfold execOp
    simp only [ho, hx, hy, Sem.run_bind, eqGuard_shl, Sem.run_pure, Result.andThen_ok, run_shl1 j k hk W]) h
end
/-- How often each frame is marked, one block more. -/
def markS (s : Nat → Nat) (a m : Nat) (i : Nat) : Nat := s i + if a ≤ i ∧ i < m then 1 else 0
def seenV (s : Nat → Nat) (i : Nat) : Value := .int .i64 (s i)
theorem markS_none (s : Nat → Nat) (a : Nat) : markS s a a = s := by
  funext i
  unfold markS
  rw [if_neg (by omega)]; rfl
theorem markS_set (s : Nat → Nat) {a m : Nat} (h : a ≤ m) : updV (seenV (markS s a m)) m (.int .i64 ((s m : Int) + 1)) = seenV (markS s a (m + 1)) := by
  funext i
  unfold updV seenV markS
  by_cases e : i = m
  · subst e
    rw [if_pos rfl, if_pos (by omega)]
    rfl
  · rw [if_neg e]
    congr 3
    by_cases h2 : a ≤ i ∧ i < m
    · rw [if_pos h2, if_pos (by omega)]
    · rw [if_neg h2, if_neg (by omega)]
set_option maxRecDepth 100000 in
set_option maxHeartbeats 4000000 in
theorem mark_any {w : World} {nb sb n a o : Nat} {s : Nat → Nat} (ho : o ≤ 10) (hal : a % 2 ^ o = 0) (hfit : a + 2 ^ o ≤ n) (hn : n ≤ 128) (hnb : w.cell? ⟨nb, 0, none⟩ = some (.int .i64 n)) (hs : RowAt w sb 128 (seenV s)) (hsm : ∀ i, s i ≤ 1000) :
    Calls Try.prog 23 #[.agg #[.int .i64 a, .int .i64 o], .pointer (some ⟨nb, 0, none⟩), .pointer (some ⟨sb, 0, none⟩)] w fun e w' =>
      e = .returned (.bool true) ∧ RowAt w' sb 128 (seenV (markS s a (a + 2 ^ o))) ∧ Only (fun k => k = sb) w w' := by
  have h10 : ¬ (10 < (o : Int)) := by omega
  obtain ⟨p, hp⟩ : ∃ p, 2 ^ o = p := ⟨_, rfl⟩
  have hp2 := two_pow_small ho
  rw [hp] at hp2 hfit hal ⊢
  have HP := Lib.hid hp
  have hpz : ¬ p = 0 := by omega
  have hd0 : decide ((a : Int) < 0) = false := decide_eq_false (by omega)
  have hd1 : decide ((o : Int) < 0) = false := decide_eq_false (by omega)
  have hd2 : decide (10 < (o : Int)) = false := decide_eq_false (by omega)
  have hd4 : decide ((n : Int) < (a : Int) + (p : Int)) = false := decide_eq_false (by omega)
  have hwr : IntKind.i64.wrap ((a : Int) + (p : Int)) = (a : Int) + (p : Int) := by rw [IntKind.wrap_i64]; omega
  have hd3 : ((a : Int).tmod (p : Int) != 0) = false := by
    rw [Int.tmod_eq_emod_of_nonneg (by omega)]
    have : ((a : Int) % (p : Int)) = ((a % p : Nat) : Int) := by simp
    rw [this, hal]; rfl
  have hfn : ¬ ((n : Int) < (a : Int) + (p : Int)) := by omega
  have HS := Lib.hid hs
  have HSM := Lib.hid hsm
  have hnl := World.block_lt_of_cell? _ _ hnb
  have hsl := hs.lt
  go_enter Try.func23, Try.ntmps23
  go_wp2_with (fail)
  have ha : Below w.heap.size w (w.alloc (.cells #[.int .i64 a, .int .i64 o] 42)) := (Below.refl _ w).alloc (Nat.le_refl _) _
  have HX := Lib.hid (show RowAt (w.alloc (.cells #[.int .i64 a, .int .i64 o] 42)) w.heap.size 2 (fun i => if i = 0 then .int .i64 a else .int .i64 o) from RowAt.new w _ _ 2 _ (fun i hi => by
    rcases (show i = 0 ∨ i = 1 by omega) with rfl | rfl <;> rfl))
  have HR := Lib.hid (hs.later ha)
  have HN := Lib.hid (show (w.alloc (.cells #[.int .i64 a, .int .i64 o] 42)).cell? ⟨nb, 0, none⟩ = some (.int .i64 n) by rw [ha.cell (p := ⟨nb, 0, none⟩) hnl]; exact hnb)
  have HA := Lib.hid ha
  clear ha hs hsm hnb hp hal
  generalize w.alloc (.cells #[.int .i64 a, .int .i64 o] 42) = w1 at *
  have L0 := Lib.hid (show ∀ W, W = w1.drew → (loadVar 3 ⟨w.heap.size, 0, none⟩).run Try.prog W = .ok (.int .i64 a) W from fun W hW => run_loadVar_cell (fun _ => by kernel_rfl) (by rw [hW]; exact HX.out.cell 0 (by decide)))
  have L1 := Lib.hid (show ∀ W, W = w1.drew → (loadVar 3 ⟨w.heap.size, 1, none⟩).run Try.prog W = .ok (.int .i64 o) W from fun W hW => run_loadVar_cell (fun _ => by kernel_rfl) (by rw [hW]; exact HX.out.cell 1 (by decide)))
  have L2 := Lib.hid (show ∀ W, W = w1.drew → (loadVar 3 ⟨nb, 0, none⟩).run Try.prog W = .ok (.int .i64 n) W from fun W hW => run_loadVar_cell (fun _ => by kernel_rfl) (by rw [hW]; exact HN.out))
  refine wp_region_lex1 (fun W => W = w1.drew) ((List.range 32).map fun i => (i, false))
    (by kernel_rfl) (by kernel_rfl) rfl (by kernel_rfl) rfl ?_
  intro W0 hW0 hK0
  rw [show ((List.range 32).map fun i => (i, false)) = [(0, false), (1, false), (2, false), (3, false), (4, false), (5, false), (6, false), (7, false), (8, false), (9, false), (10, false), (11, false), (12, false), (13, false), (14, false), (15, false), (16, false), (17, false), (18, false), (19, false), (20, false), (21, false), (22, false), (23, false), (24, false), (25, false), (26, false), (27, false), (28, false), (29, false), (30, false), (31, false)] from rfl]
  have HW0 := Lib.hid hW0
  clear hW0 hK0
  refine lexH_yieldE rfl rfl ?_
  apply Exists.intro
  refine ⟨fun W hW => ?_, ?_⟩
  focus (go_simp; exact rfl)
  simp only [List.getElem_toArray, List.getElem_cons_zero, Act.put, List.setIfInBounds_toArray, List.set_cons_zero, List.set_cons_succ]
  refine lexH_load rfl rfl _ _ rfl rfl L0.out ?_
  simp only [List.getElem_toArray, List.getElem_cons_succ, List.getElem_cons_zero, Act.put, List.setIfInBounds_toArray, List.set_cons_zero, List.set_cons_succ]
  refine lexH_yieldE rfl rfl ?_
  apply Exists.intro
  refine ⟨fun W hW => ?_, ?_⟩
  focus (go_simp; exact rfl)
  simp only [List.getElem_toArray, List.getElem_cons_succ, List.getElem_cons_zero, Act.put, List.setIfInBounds_toArray, List.set_cons_zero, List.set_cons_succ]
  refine lexH_yieldE rfl rfl ?_
  apply Exists.intro
  refine ⟨fun W hW => ?_, ?_⟩
  focus (go_simp; exact rfl)
  simp only [List.getElem_toArray, List.getElem_cons_succ, List.getElem_cons_zero, Act.put, List.setIfInBounds_toArray, List.set_cons_zero, List.set_cons_succ]
  refine lexH_yieldE rfl rfl ?_
  apply Exists.intro
  refine ⟨fun W hW => ?_, ?_⟩
  focus (go_simp; exact rfl)
  simp only [List.getElem_toArray, List.getElem_cons_succ, List.getElem_cons_zero, Act.put, List.setIfInBounds_toArray, List.set_cons_zero, List.set_cons_succ]
  refine lexH_load rfl rfl _ _ rfl rfl L1.out ?_
  simp only [List.getElem_toArray, List.getElem_cons_succ, List.getElem_cons_zero, Act.put, List.setIfInBounds_toArray, List.set_cons_zero, List.set_cons_succ]
  refine lexH_yieldE rfl rfl ?_
  apply Exists.intro
  refine ⟨fun W hW => ?_, ?_⟩
  focus (go_simp; exact rfl)
  simp only [List.getElem_toArray, List.getElem_cons_succ, List.getElem_cons_zero, Act.put, List.setIfInBounds_toArray, List.set_cons_zero, List.set_cons_succ]
  refine lexH_yieldE rfl rfl ?_
  apply Exists.intro
  refine ⟨fun W hW => ?_, ?_⟩
  focus (go_simp; exact rfl)
  simp only [List.getElem_toArray, List.getElem_cons_succ, List.getElem_cons_zero, Act.put, List.setIfInBounds_toArray, List.set_cons_zero, List.set_cons_succ]
  refine lexH_yieldE rfl rfl ?_
  apply Exists.intro
  refine ⟨fun W hW => ?_, ?_⟩
  focus (go_simp; exact rfl)
  simp only [List.getElem_toArray, List.getElem_cons_succ, List.getElem_cons_zero, Act.put, List.setIfInBounds_toArray, List.set_cons_zero, List.set_cons_succ]
  refine lexH_yieldE rfl rfl ?_
  apply Exists.intro
  refine ⟨fun W hW => ?_, ?_⟩
  focus (go_simp; exact rfl)
  simp only [List.getElem_toArray, List.getElem_cons_succ, List.getElem_cons_zero, Act.put, List.setIfInBounds_toArray, List.set_cons_zero, List.set_cons_succ]
  refine lexH_load rfl rfl _ _ rfl rfl L1.out ?_
  simp only [List.getElem_toArray, List.getElem_cons_succ, List.getElem_cons_zero, Act.put, List.setIfInBounds_toArray, List.set_cons_zero, List.set_cons_succ]
  refine lexH_yieldE rfl rfl ?_
  apply Exists.intro
  refine ⟨fun W hW => ?_, ?_⟩
  focus (go_simp; exact rfl)
  simp only [List.getElem_toArray, List.getElem_cons_succ, List.getElem_cons_zero, Act.put, List.setIfInBounds_toArray, List.set_cons_zero, List.set_cons_succ]
  refine lexH_yieldE rfl rfl ?_
  apply Exists.intro
  refine ⟨fun W hW => ?_, ?_⟩
  focus (go_simp; exact rfl)
  simp only [List.getElem_toArray, List.getElem_cons_succ, List.getElem_cons_zero, Act.put, List.setIfInBounds_toArray, List.set_cons_zero, List.set_cons_succ]
  refine lexH_yieldE rfl rfl ?_
  apply Exists.intro
  refine ⟨fun W hW => ?_, ?_⟩
  focus (go_simp; exact rfl)
  simp only [List.getElem_toArray, List.getElem_cons_succ, List.getElem_cons_zero, Act.put, List.setIfInBounds_toArray, List.set_cons_zero, List.set_cons_succ]
  refine lexH_yieldE rfl rfl ?_
  apply Exists.intro
  refine ⟨fun W hW => ?_, ?_⟩
  focus (go_simp; exact rfl)
  simp only [List.getElem_toArray, List.getElem_cons_succ, List.getElem_cons_zero, Act.put, List.setIfInBounds_toArray, List.set_cons_zero, List.set_cons_succ]
  refine lexH_load rfl rfl _ _ rfl rfl L0.out ?_
  simp only [List.getElem_toArray, List.getElem_cons_succ, List.getElem_cons_zero, Act.put, List.setIfInBounds_toArray, List.set_cons_zero, List.set_cons_succ]
  refine lexH_yieldE rfl rfl ?_
  apply Exists.intro
  refine ⟨fun W hW => ?_, ?_⟩
  focus (go_simp; exact rfl)
  simp only [List.getElem_toArray, List.getElem_cons_succ, List.getElem_cons_zero, Act.put, List.setIfInBounds_toArray, List.set_cons_zero, List.set_cons_succ]
  refine lexH_load rfl rfl _ _ rfl rfl L1.out ?_
  simp only [List.getElem_toArray, List.getElem_cons_succ, List.getElem_cons_zero, Act.put, List.setIfInBounds_toArray, List.set_cons_zero, List.set_cons_succ]
  refine lexH_shlM rfl rfl _ _ _ _ rfl .i64 o p ho HP.out rfl rfl ?_
  simp only [List.getElem_toArray, List.getElem_cons_succ, List.getElem_cons_zero, Act.put, List.setIfInBounds_toArray, List.set_cons_zero, List.set_cons_succ]
  refine lexH_yieldE rfl rfl ?_
  apply Exists.intro
  refine ⟨fun W hW => ?_, ?_⟩
  focus (go_simp; exact rfl)
  simp only [List.getElem_toArray, List.getElem_cons_succ, List.getElem_cons_zero, Act.put, List.setIfInBounds_toArray, List.set_cons_zero, List.set_cons_succ]
  refine lexH_yieldE rfl rfl ?_
  apply Exists.intro
  refine ⟨fun W hW => ?_, ?_⟩
  focus (go_simp; exact rfl)
  simp only [List.getElem_toArray, List.getElem_cons_succ, List.getElem_cons_zero, Act.put, List.setIfInBounds_toArray, List.set_cons_zero, List.set_cons_succ]
  refine lexH_yieldE rfl rfl ?_
  apply Exists.intro
  refine ⟨fun W hW => ?_, ?_⟩
  focus (go_simp; exact rfl)
  simp only [List.getElem_toArray, List.getElem_cons_succ, List.getElem_cons_zero, Act.put, List.setIfInBounds_toArray, List.set_cons_zero, List.set_cons_succ]
  refine lexH_yieldE rfl rfl ?_
  apply Exists.intro
  refine ⟨fun W hW => ?_, ?_⟩
  focus (go_simp; exact rfl)
  simp only [List.getElem_toArray, List.getElem_cons_succ, List.getElem_cons_zero, Act.put, List.setIfInBounds_toArray, List.set_cons_zero, List.set_cons_succ]
  refine lexH_yieldE rfl rfl ?_
  apply Exists.intro
  refine ⟨fun W hW => ?_, ?_⟩
  focus (go_simp; exact rfl)
  simp only [List.getElem_toArray, List.getElem_cons_succ, List.getElem_cons_zero, Act.put, List.setIfInBounds_toArray, List.set_cons_zero, List.set_cons_succ]
  refine lexH_load rfl rfl _ _ rfl rfl L0.out ?_
  simp only [List.getElem_toArray, List.getElem_cons_succ, List.getElem_cons_zero, Act.put, List.setIfInBounds_toArray, List.set_cons_zero, List.set_cons_succ]
  refine lexH_yieldE rfl rfl ?_
  apply Exists.intro
  refine ⟨fun W hW => ?_, ?_⟩
  focus (go_simp; exact rfl)
  simp only [List.getElem_toArray, List.getElem_cons_succ, List.getElem_cons_zero, Act.put, List.setIfInBounds_toArray, List.set_cons_zero, List.set_cons_succ]
  refine lexH_load rfl rfl _ _ rfl rfl L1.out ?_
  simp only [List.getElem_toArray, List.getElem_cons_succ, List.getElem_cons_zero, Act.put, List.setIfInBounds_toArray, List.set_cons_zero, List.set_cons_succ]
  refine lexH_shlM rfl rfl _ _ _ _ rfl .i64 o p ho HP.out rfl rfl ?_
  simp only [List.getElem_toArray, List.getElem_cons_succ, List.getElem_cons_zero, Act.put, List.setIfInBounds_toArray, List.set_cons_zero, List.set_cons_succ]
  refine lexH_yieldE rfl rfl ?_
  apply Exists.intro
  refine ⟨fun W hW => ?_, ?_⟩
  focus (go_simp; exact rfl)
  simp only [List.getElem_toArray, List.getElem_cons_succ, List.getElem_cons_zero, Act.put, List.setIfInBounds_toArray, List.set_cons_zero, List.set_cons_succ]
  refine lexH_load rfl rfl _ _ rfl rfl L2.out ?_
  simp only [List.getElem_toArray, List.getElem_cons_succ, List.getElem_cons_zero, Act.put, List.setIfInBounds_toArray, List.set_cons_zero, List.set_cons_succ]
  refine lexH_yieldE rfl rfl ?_
  apply Exists.intro
  refine ⟨fun W hW => ?_, ?_⟩
  focus (go_simp; exact rfl)
  simp only [List.getElem_toArray, List.getElem_cons_succ, List.getElem_cons_zero, Act.put, List.setIfInBounds_toArray, List.set_cons_zero, List.set_cons_succ]
  refine lexH_yieldE rfl rfl ?_
  apply Exists.intro
  refine ⟨fun W hW => ?_, ?_⟩
  focus (go_simp; exact rfl)
  simp only [List.getElem_toArray, List.getElem_cons_succ, List.getElem_cons_zero, Act.put, List.setIfInBounds_toArray, List.set_cons_zero, List.set_cons_succ]
  refine lexH_nil ?_
  have hd : Below w1.heap.size w1 W0 := by rw [HW0.out]; exact (Below.refl _ w1).drew
  have HX0 := Lib.hid (HX.out.later hd)
  have HR0 := Lib.hid (HR.out.later hd)
  have HO0 := Lib.hid (show Only (fun k => k = sb) w W0 from Only.of_below (HA.out.trans (hd.mono HA.out.size)))
  have c0 : W0.cell? ⟨w.heap.size, 0, none⟩ = some (.int .i64 a) := HX0.out.cell 0 (by decide)
  clear hd L0 L1 L2 HX HR HN HA HW0 hd0 hd1 hd2 hd3 hd4
  go_wp2_with (fail)
  clear c0
  go_loopw [5] (fun i wr => ∃ k : Nat, i = .int .i64 k ∧ a ≤ k ∧ k ≤ a + p ∧ RowAt wr sb 128 (seenV (markS s a k)) ∧ RowAt wr w.heap.size 2 (fun i => if i = 0 then .int .i64 a else .int .i64 o) ∧ Only (fun k => k = sb) w wr) (fun i _ => a + p - (intOf i).toNat)
  case atStart => exact ⟨a, rfl, Nat.le_refl _, by omega, by rw [markS_none]; exact HR0.out, HX0.out, HO0.out⟩
  case round =>
    clear HR0 HX0 HO0
    obtain ⟨k, rfl, hk1, hk2, hR, hX, hO⟩ := hrel
    have HX := Lib.hid hX
    have HR := Lib.hid hR
    have HO := Lib.hid hO
    clear hX hR hO
    have L0 := Lib.hid (show ∀ W, W = wr.drew → (loadVar 3 ⟨w.heap.size, 0, none⟩).run Try.prog W = .ok (.int .i64 a) W from fun W hW => run_loadVar_cell (fun _ => by kernel_rfl) (by rw [hW]; exact HX.out.cell 0 (by decide)))
    have L1 := Lib.hid (show ∀ W, W = wr.drew → (loadVar 3 ⟨w.heap.size, 1, none⟩).run Try.prog W = .ok (.int .i64 o) W from fun W hW => run_loadVar_cell (fun _ => by kernel_rfl) (by rw [hW]; exact HX.out.cell 1 (by decide)))
    obtain ⟨b, hb⟩ : ∃ b, decide ((k : Int) < (a : Int) + (p : Int)) = b := ⟨_, rfl⟩
    have HBD := Lib.hid hb
    go_wp2_with (fail)
    refine wp_region_lex1 (fun W => W = wr.drew) [(0, false), (1, false), (2, false), (3, false), (4, false), (5, false), (6, false), (7, false)]
      (by kernel_rfl) (by kernel_rfl) rfl (by kernel_rfl) rfl ?_
    intro W0 hW0 hK0
    have HW0 := Lib.hid hW0
    clear hW0 hK0
    refine lexH_yieldE rfl rfl ?_
    apply Exists.intro
    refine ⟨fun W hW => ?_, ?_⟩
    focus (go_simp; exact rfl)
    simp only [List.getElem_toArray, List.getElem_cons_zero, Act.put, List.setIfInBounds_toArray, List.set_cons_zero, List.set_cons_succ]
    refine lexH_yieldE rfl rfl ?_
    apply Exists.intro
    refine ⟨fun W hW => ?_, ?_⟩
    focus (go_simp; exact rfl)
    simp only [List.getElem_toArray, List.getElem_cons_succ, List.getElem_cons_zero, Act.put, List.setIfInBounds_toArray, List.set_cons_zero, List.set_cons_succ]
    refine lexH_load rfl rfl _ _ rfl rfl L0.out ?_
    simp only [List.getElem_toArray, List.getElem_cons_succ, List.getElem_cons_zero, Act.put, List.setIfInBounds_toArray, List.set_cons_zero, List.set_cons_succ]
    refine lexH_yieldE rfl rfl ?_
    apply Exists.intro
    refine ⟨fun W hW => ?_, ?_⟩
    focus (go_simp; exact rfl)
    simp only [List.getElem_toArray, List.getElem_cons_succ, List.getElem_cons_zero, Act.put, List.setIfInBounds_toArray, List.set_cons_zero, List.set_cons_succ]
    refine lexH_load rfl rfl _ _ rfl rfl L1.out ?_
    simp only [List.getElem_toArray, List.getElem_cons_succ, List.getElem_cons_zero, Act.put, List.setIfInBounds_toArray, List.set_cons_zero, List.set_cons_succ]
    refine lexH_shlM rfl rfl _ _ _ _ rfl .i64 o p ho HP.out rfl rfl ?_
    simp only [List.getElem_toArray, List.getElem_cons_succ, List.getElem_cons_zero, Act.put, List.setIfInBounds_toArray, List.set_cons_zero, List.set_cons_succ]
    refine lexH_yieldE rfl rfl ?_
    apply Exists.intro
    refine ⟨fun W hW => ?_, ?_⟩
    focus (go_simp; exact rfl)
    simp only [List.getElem_toArray, List.getElem_cons_succ, List.getElem_cons_zero, Act.put, List.setIfInBounds_toArray, List.set_cons_zero, List.set_cons_succ]
    refine lexH_yieldE rfl rfl ?_
    apply Exists.intro
    refine ⟨fun W hW => ?_, ?_⟩
    focus (go_simp; exact rfl)
    simp only [List.getElem_toArray, List.getElem_cons_succ, List.getElem_cons_zero, Act.put, List.setIfInBounds_toArray, List.set_cons_zero, List.set_cons_succ]
    refine lexH_nil ?_
    have hd : Below wr.heap.size wr W0 := by rw [HW0.out]; exact (Below.refl _ wr).drew
    have HX0 := Lib.hid (HX.out.later hd)
    have HR0 := Lib.hid (HR.out.later hd)
    have HO0 := Lib.hid (HO.out.trans (Only.of_below (S := fun k => k = sb) hd))
    clear hd L0 L1 HX HR HO HW0 hb hwr
    cases b with
    | false =>
      have hk : k = a + p := by have := of_decide_eq_false HBD.out; omega
      subst hk
      go_wp2_with (fail)
      go_ret
      exact ⟨rfl, HR0.out, HO0.out⟩
    | true =>
      have hk : k < a + p := by have := of_decide_eq_true HBD.out; omega
      have hk3 : (k : Int) < 128 := by omega
      have hk4 : k < 128 := by omega
      have c1 : W0.cell? ⟨sb, k, none⟩ = some (.int .i64 (s k)) := by
        have h := HR0.out.cell k hk4
        unfold seenV markS at h
        rw [if_neg (by omega)] at h
        exact h
      have f1 : W0.frozen? ⟨sb, k, none⟩ = false := HR0.out.frozen k
      have hsk := HSM.out k
      have hwr : IntKind.i64.wrap ((s k : Int) + 1) = (s k : Int) + 1 := by rw [IntKind.wrap_i64]; omega
      have HR1 := Lib.hid (show RowAt (W0.setCell ⟨sb, k, none⟩ (.int .i64 ((s k : Int) + 1))) sb 128 (seenV (markS s a (k + 1))) by
        rw [← markS_set s hk1]
        exact HR0.out.setCell k _)
      have HO1 := Lib.hid (HO0.out.trans (Only.setCell (S := fun k => k = sb) W0 ⟨sb, k, none⟩ rfl (.int .i64 ((s k : Int) + 1))))
      have HX1 := Lib.hid (HX0.out.only (Only.setCell (S := fun k => k = sb) W0 ⟨sb, k, none⟩ rfl (.int .i64 ((s k : Int) + 1))) (by omega))
      clear hsk HR0 HO0 HX0
      go_wp2_with (fail)
      go_roundw
      case rel => exact ⟨k + 1, by go_num, by omega, by omega, HR1.out, HX1.out, HO1.out⟩
      case measure => simp [intOf]; omega
end
/-! BuddyApart: how often each frame is marked: once. Pure. -/
section
open Go.RowKit Go
/-- The frame i is in the block p. -/
def covB (p : Int × Int) (i : Nat) : Prop := p.1.toNat ≤ i ∧ i < p.1.toNat + 2 ^ p.2.toNat
instance (p : Int × Int) (i : Nat) : Decidable (covB p i) := inferInstanceAs (Decidable (_ ∧ _))
/-- In how many blocks it is. -/
def cnt : List (Int × Int) → Nat → Nat
  | [], _ => 0
  | p :: r, i => (if covB p i then 1 else 0) + cnt r i
theorem cnt_append (M : List (Int × Int)) (p : Int × Int) (i : Nat) : cnt (M ++ [p]) i = cnt M i + if covB p i then 1 else 0 := by
  induction M with
  | nil => simp [cnt]
  | cons q r ih =>
    show (if covB q i then 1 else 0) + cnt (r ++ [p]) i = (if covB q i then 1 else 0) + cnt r i + _
    rw [ih]; omega
theorem cnt_le (M : List (Int × Int)) (i : Nat) : cnt M i ≤ M.length := by
  induction M with
  | nil => exact Nat.le_refl _
  | cons q r ih =>
    show (if covB q i then 1 else 0) + cnt r i ≤ r.length + 1
    split <;> omega
theorem cnt_mark (M : List (Int × Int)) (a o : Nat) : markS (cnt M) a (a + 2 ^ o) = cnt (M ++ [((a : Int), (o : Int))]) := by
  funext i
  rw [cnt_append]
  rfl
theorem cnt_zero {M : List (Int × Int)} {i : Nat} (h : ∀ p ∈ M, ¬ covB p i) : cnt M i = 0 := by
  induction M with
  | nil => rfl
  | cons q r ih =>
    show (if covB q i then 1 else 0) + cnt r i = 0
    rw [if_neg (h q List.mem_cons_self), ih (fun p hp => h p (List.mem_cons_of_mem _ hp))]
theorem cnt_one {M : List (Int × Int)} {i : Nat} (hn : M.Nodup) {p : Int × Int} (hp : p ∈ M) (hc : covB p i) (h : ∀ q ∈ M, covB q i → q = p) : cnt M i = 1 := by
  induction M with
  | nil => cases hp
  | cons q r ih =>
    obtain ⟨n1, n2⟩ := List.nodup_cons.1 hn
    show (if covB q i then 1 else 0) + cnt r i = 1
    by_cases e : q = p
    · subst e
      rw [if_pos hc, cnt_zero (fun s hs hcs => n1 (by rw [← h s (List.mem_cons_of_mem _ hs) hcs]; exact hs))]
    · rw [if_neg (fun hq => e (h q List.mem_cons_self hq)), ih n2 ((List.mem_cons.1 hp).resolve_left (fun e2 => e e2.symm)) (fun s hs => h s (List.mem_cons_of_mem _ hs))]
/-- The taken blocks below k, too. -/
def tkS (s : Nat → Nat) (T : List (Int × Int)) : Nat → Nat → Nat
  | 0 => s
  | k + 1 => match tkL T (k : Int) with
    | none => tkS s T k
    | some o => markS (tkS s T k) k (k + 2 ^ o.toNat)
theorem tkS_none {s : Nat → Nat} {T : List (Int × Int)} {k : Nat} (h : tkL T (k : Int) = none) : tkS s T (k + 1) = tkS s T k := by
  show (match tkL T (k : Int) with | none => _ | some o => _) = _
  rw [h]
theorem tkS_some {s : Nat → Nat} {T : List (Int × Int)} {k : Nat} {o : Int} (h : tkL T (k : Int) = some o) : tkS s T (k + 1) = markS (tkS s T k) k (k + 2 ^ o.toNat) := by
  show (match tkL T (k : Int) with | none => _ | some o => _) = _
  rw [h]
theorem tkS_le (s : Nat → Nat) (T : List (Int × Int)) (i : Nat) : ∀ k, tkS s T k i ≤ s i + k
  | 0 => Nat.le_refl _
  | k + 1 => by
    have ih := tkS_le s T i k
    cases h : tkL T (k : Int) with
    | none => rw [tkS_none h]; omega
    | some o =>
      rw [tkS_some h]
      unfold markS
      split <;> omega
theorem tkS_zero {s : Nat → Nat} {T : List (Int × Int)} {i : Nat} : ∀ {k : Nat}, (∀ j, j < k → ∀ o, tkL T (j : Int) = some o → ¬ inB o.toNat j i) → tkS s T k i = s i
  | 0, _ => rfl
  | k + 1, h => by
    have ih := tkS_zero (s := s) (k := k) (fun j hj => h j (by omega))
    cases e : tkL T (k : Int) with
    | none => rw [tkS_none e]; exact ih
    | some o =>
      rw [tkS_some e]
      have h2 := h k (by omega) o e
      unfold inB at h2
      unfold markS
      rw [if_neg h2, ih]; rfl
theorem tkS_one {s : Nat → Nat} {T : List (Int × Int)} {i j : Nat} {o : Int} (hj : tkL T (j : Int) = some o) (hc : inB o.toNat j i) : ∀ {k : Nat}, j < k → (∀ j', j' < k → ∀ o', tkL T (j' : Int) = some o' → inB o'.toNat j' i → j' = j) → tkS s T k i = s i + 1
  | 0, h, _ => by omega
  | k + 1, hk, h => by
    by_cases e : j = k
    · subst e
      have hz := tkS_zero (s := s) (T := T) (i := i) (k := j) (fun j' hj' o' ho' hc' => by have := h j' (by omega) o' ho' hc'; omega)
      rw [tkS_some hj]
      unfold inB at hc
      unfold markS
      rw [if_pos hc, hz]
    · have ih := tkS_one (s := s) hj hc (k := k) (by omega) (fun j' hj' => h j' (by omega))
      cases e2 : tkL T (k : Int) with
      | none => rw [tkS_none e2]; exact ih
      | some o' =>
        rw [tkS_some e2]
        have h2 : ¬ inB o'.toNat k i := fun hc' => e (h k (by omega) o' e2 hc').symm
        unfold inB at h2
        unfold markS
        rw [if_neg h2, ih]
section
variable {n : Nat} {L T : List (Int × Int)}
theorem Inv.tkAt (I : Inv n L T) {j : Nat} {o : Int} (h : tkL T (j : Int) = some o) : ∃ q : Nat, o = (q : Int) ∧ memL T q j ∧ q ≤ 10 ∧ j % 2 ^ q = 0 ∧ j + 2 ^ q ≤ n := by
  have hm := tkL_some h
  obtain ⟨a, q, e⟩ := I.natT _ hm
  injection e with e1 e2
  subst e2
  have hm2 : memL T q j := hm
  obtain ⟨h1, h2, h3⟩ := I.stk.al q j (.inr hm2)
  exact ⟨q, rfl, hm2, h1, h2, h3⟩
theorem Inv.tk_of (I : Inv n L T) {j q : Nat} (h : memL T q j) : tkL T (j : Int) = some (q : Int) := by
  cases e : tkL T (j : Int) with
  | none => exact absurd h (tkL_none.1 e _)
  | some o =>
    obtain ⟨q', rfl, hm, _⟩ := I.tkAt e
    obtain ⟨rfl, _⟩ := I.stk.ap q j q' j j (.inr h) (.inr hm) (self_in _ _) (self_in _ _)
    rfl
/-- A free block. -/
theorem Inv.fr (I : Inv n L T) {p : Int × Int} (h : p ∈ L) : ∃ a o : Nat, p = ((a : Int), (o : Int)) ∧ memL L o a ∧ o < 10 ∧ o ≤ 10 ∧ a % 2 ^ o = 0 ∧ a + 2 ^ o ≤ n := by
  obtain ⟨a, o, rfl⟩ := I.nat p h
  have hm : memL L o a := h
  obtain ⟨h1, h2, h3⟩ := I.stk.al o a (.inl hm)
  have := I.n2
  refine ⟨a, o, rfl, hm, ?_, h1, h2, h3⟩
  by_cases e : o < 10
  · exact e
  · have := Nat.pow_le_pow_right (n := 2) (by decide) (show 10 ≤ o by omega)
    omega
theorem covB_nat {a o i : Nat} : covB ((a : Int), (o : Int)) i ↔ inB o a i := Iff.rfl
/-- Each frame is marked once. -/
theorem Inv.once (I : Inv n L T) {i : Nat} (hi : i < n) : tkS (cnt L) T n i = 1 := by
  obtain ⟨o, a, hor, hin⟩ := I.stk.cov i hi
  have hnd := rising_nodup I.ris
  rcases hor with hF | hT
  · have hc : cnt L i = 1 := cnt_one hnd hF (covB_nat.2 hin) (fun q hq hcq => by
      obtain ⟨b, p, rfl, hm, _⟩ := I.fr hq
      obtain ⟨rfl, rfl⟩ := I.stk.ap p b o a i (.inl hm) (.inl hF) (covB_nat.1 hcq) hin
      rfl)
    rw [tkS_zero (fun j hj p hp hcj => by
      obtain ⟨q, rfl, hm, _⟩ := I.tkAt hp
      obtain ⟨rfl, rfl⟩ := I.stk.ap q j o a i (.inr hm) (.inl hF) hcj hin
      exact I.stk.dis _ _ hF hm), hc]
  · have hc : cnt L i = 0 := cnt_zero (fun q hq hcq => by
      obtain ⟨b, p, rfl, hm, _⟩ := I.fr hq
      obtain ⟨rfl, rfl⟩ := I.stk.ap p b o a i (.inl hm) (.inr hT) (covB_nat.1 hcq) hin
      exact I.stk.dis _ _ hm hT)
    have h3 := (I.stk.al o a (.inr hT)).2.2
    have hpw := Nat.one_le_two_pow (n := o)
    rw [tkS_one (I.tk_of hT) hin (k := n) (by omega) (fun j hj p hp hcj => by
      obtain ⟨q, rfl, hm, _⟩ := I.tkAt hp
      obtain ⟨_, h⟩ := I.stk.ap q j o a i (.inr hm) (.inr hT) hcj hin
      exact h), hc]
end
/-- The map of what has been told. -/
def frM (M : List (Int × Int)) (p : Int × Int) : Option Int := if p ∈ M then some 1 else none
theorem frM_put (M : List (Int × Int)) (x : Int × Int) : kput (frM M) x 1 = frM (M ++ [x]) := by
  funext p
  unfold kput frM
  by_cases e : p = x
  · subst e
    rw [if_pos rfl, if_pos (by simp)]
  · rw [if_neg e]
    by_cases h : p ∈ M
    · rw [if_pos h, if_pos (List.mem_append_left _ h)]
    · rw [if_neg h, if_neg (by simp [h, e])]
theorem told_sub {L : List (Int × Int)} (xs : List (Fin L.length)) : ∀ p ∈ told L xs, p ∈ L := by
  intro p hp
  obtain ⟨x, _, rfl⟩ := List.mem_map.1 hp
  exact List.getElem_mem x.isLt
end
/-! BuddyApart: the law's state, round by round. -/
section
open Go.RowKit Go
/-- The law's frame at the head of a round. -/
def apF (u : Nat → Value) (n : Nat) (a : Option Addr) (len cap nb d k : Nat) : List Value := [.int .i64 n, .slice a len cap, .pointer (some ⟨nb, 0, none⟩), u 3, .pointer (some ⟨nb + 1, 0, none⟩), .pointer (some ⟨d, 0, none⟩), u 6, u 7, u 8, u 9, u 10, u 11, u 12, u 13, u 14, u 15, u 16, u 17, u 18, u 19, u 20, u 21, u 22, u 23, u 24, u 25, u 26, u 27, u 28, u 29, u 30, u 31, u 32, u 33, .int .i64 len, .int .i64 k, u 36, u 37, u 38, u 39, u 40, u 41, u 42, u 43, u 44, u 45, u 46, u 47, u 48, u 49, u 50, u 51, u 52, u 53, u 54, u 55, u 56, u 57, u 58, u 59, u 60, u 61, u 62, u 63, u 64, u 65, u 66, u 67, u 68, u 69, u 70, u 71, u 72, u 73, u 74, u 75, u 76, u 77, u 78, u 79, u 80, u 81, u 82, u 83, u 84, u 85, u 86, u 87, u 88, u 89, u 90, u 91, u 92, u 93, u 94, u 95, u 96, u 97, u 98, u 99, u 100, u 101, u 102, u 103, u 104, u 105, u 106, u 107, u 108, u 109, u 110, u 111, u 112, u 113, u 114, u 115, u 116, u 117, u 118, u 119, u 120, u 121, u 122, u 123, u 124, u 125, u 126, u 127, u 128, u 129, u 130, u 131, u 132, u 133, u 134]
theorem ap_frame {t : Array Value} {n : Nat} {a : Option Addr} {len cap nb d k : Nat} (hs : t.size = 135) (h0 : t[0]? = some (Value.int .i64 n)) (h1 : t[1]? = some (Value.slice a len cap)) (h2 : t[2]? = some (Value.pointer (some ⟨nb, 0, none⟩))) (h4 : t[4]? = some (Value.pointer (some ⟨nb + 1, 0, none⟩))) (h5 : t[5]? = some (Value.pointer (some ⟨d, 0, none⟩))) (h34 : t[34]? = some (Value.int .i64 len)) (h35 : t[35]? = some (Value.int .i64 k)) :
    ∃ u, t = (apF u n a len cap nb d k).toArray := by
  refine ⟨fun i => t.getD i undef, ?_⟩
  have hu : ∀ i v, t[i]? = some v → t.getD i undef = v := fun i v h => by
    obtain ⟨hl, rfl⟩ := Array.getElem?_eq_some_iff.1 h
    simp [Array.getD, hl]
  have e : t = ((List.range 135).map fun i => t.getD i undef).toArray := by
    apply Array.ext
    · simp [hs]
    · intro i h1 h2
      simp [Array.getD, h1]
  refine e.trans ?_
  congr 1
  obtain ⟨u, hu2⟩ : ∃ u : Nat → Value, u = fun i => t.getD i undef := ⟨_, rfl⟩
  rw [← hu2]
  unfold apF
  rw [← (show u 0 = .int .i64 n by rw [hu2]; exact hu 0 _ h0)]
  rw [← (show u 1 = .slice a len cap by rw [hu2]; exact hu 1 _ h1)]
  rw [← (show u 2 = .pointer (some ⟨nb, 0, none⟩) by rw [hu2]; exact hu 2 _ h2)]
  rw [← (show u 4 = .pointer (some ⟨nb + 1, 0, none⟩) by rw [hu2]; exact hu 4 _ h4)]
  rw [← (show u 5 = .pointer (some ⟨d, 0, none⟩) by rw [hu2]; exact hu 5 _ h5)]
  rw [← (show u 34 = .int .i64 len by rw [hu2]; exact hu 34 _ h34)]
  rw [← (show u 35 = .int .i64 k by rw [hu2]; exact hu 35 _ h35)]
  rfl
theorem NodeAt.own_map {W : World} {d n : Nat} {mb : Nat → Nat} {tb : Nat} {L T : List (Int × Int)} (N : NodeAt W d n mb tb L T) {k : Nat} (h : own6 mb tb k) : ∃ es c, W.heap[k]? = some (.map es c) := by
  have key : ∀ {α : Type} {R : Value → Option (MDat × List MemPlace)} {E : Elem R α} {b : Nat} {g : Int → Option α}, FMap Try.prog 3 E W b g → ∃ es c, W.heap[b]? = some (.map es c) := fun hF => by
    obtain ⟨D, l, ⟨es, clock, hm, _⟩, _⟩ := hF
    exact ⟨_, _, hm⟩
  rcases h with rfl | ⟨o, ho, rfl⟩
  · exact key N.tkn
  · exact key (N.free o ho)
/-- A node, and the blocks of the ranges that were. -/
structure ApAt (w2 : World) (d n : Nat) (mb : Nat → Nat) (tb : Nat) (L T : List (Int × Int)) (Ds : List Nat) (W : World) : Prop where
  st : StAt w2.heap.size d n mb tb L T w2 W
  nd : Ds.Nodup
  ds : ∀ D ∈ Ds, W.heap[D]? = some (.deferred (some [])) ∧ w2.heap.size ≤ D
section
variable {w2 W W' : World} {d n : Nat} {mb : Nat → Nat} {tb : Nat} {L T : List (Int × Int)} {Ds : List Nat}
theorem ApAt.lt (A : ApAt w2 d n mb tb L T Ds W) {D : Nat} (h : D ∈ Ds) : D < W.heap.size := (Array.getElem?_eq_some_iff.1 (A.ds D h).1).1
theorem ApAt.later (A : ApAt w2 d n mb tb L T Ds W) (h : Below W.heap.size W W') : ApAt w2 d n mb tb L T Ds W' :=
  ⟨A.st.later h, A.nd, fun D hD => ⟨(h.block D (A.lt hD)).trans (A.ds D hD).1, (A.ds D hD).2⟩⟩
theorem ApAt.turn (A : ApAt w2 d n mb tb L T Ds W) {M U : List (Int × Int)} (N : NodeAt W' d n mb tb M U) (I : Inv n M U) (h : Only (own6 mb tb) W W') : ApAt w2 d n mb tb M U Ds W' :=
  ⟨A.st.turn N I h, A.nd, fun D hD => ⟨(h.block D (A.lt hD) (fun ho => by
    obtain ⟨es, c, e⟩ := A.st.node.own_map ho
    rw [(A.ds D hD).1] at e
    cases e)).trans (A.ds D hD).1, (A.ds D hD).2⟩⟩
theorem ApAt.bel (A : ApAt w2 d n mb tb L T Ds W) {w : World} (h : Below w.heap.size w w2) : Below w.heap.size w W := h.trans (A.st.bel.mono h.size)
theorem ApAt.only {S : Nat → Prop} (A : ApAt w2 d n mb tb L T Ds W) (h : Only S W W') (hd : ¬ S d) (ho : ∀ k, own6 mb tb k → ¬ S k) (hD : ∀ D ∈ Ds, ¬ S D) (hS : ∀ k, S k → w2.heap.size ≤ k) : ApAt w2 d n mb tb L T Ds W' :=
  ⟨⟨A.st.node.only h hd ho, A.st.inv, h.below A.st.bel A.st.le hS, A.st.own, A.st.d1, Nat.le_trans A.st.le h.size⟩, A.nd, fun D hDm => ⟨(h.block D (A.lt hDm) (hD D hDm)).trans (A.ds D hDm).1, (A.ds D hDm).2⟩⟩
/-- One range more. -/
theorem ApAt.more (A : ApAt w2 d n mb tb L T Ds W) {D : Nat} (hD : D ∉ Ds) (hk : W.heap[D]? = some (.deferred (some []))) (hB : w2.heap.size ≤ D) : ApAt w2 d n mb tb L T (D :: Ds) W :=
  ⟨A.st, List.nodup_cons.2 ⟨hD, A.nd⟩, fun E hE => by
    rcases List.mem_cons.1 hE with rfl | hE
    · exact ⟨hk, hB⟩
    · exact A.ds E hE⟩
end
end
/-! BuddyApart: what the range over the free blocks keeps. -/
section
open Go.RowKit Go.Shelf Go
theorem zeroSeen : Try.zeroCells56 = Array.replicate 128 (.int .i64 0) := by kernel_rfl
theorem seen_new (w : World) : RowAt (w.alloc (.cells Try.zeroCells56 56)) w.heap.size 128 (seenV (cnt [])) :=
  RowAt.new w _ _ 128 _ (fun i hi => by rw [zeroSeen, Array.getElem?_replicate, if_pos hi]; rfl)
section
variable {P : Program} {ops : Array Oper} {Q : Exit → Act → World → Prop} {S : World → Prop} {K : Act → World → Prop} {i : Nat} {r : List (Nat × Bool)} {a : Act}
/-- A look-up, in every world of the class. -/
theorem lexH_look {w : World} {o : Oper} {v : Value} (hi : ops[i]? = some o) (hw : Region.wanted o (yielded ops a.tmps) = true) (t : TypeId) (m x : Operand) (ho : o.op = .lookup t m x false) (vm vx : Value) (hm : a.eval m = vm) (hx : a.eval x = vx)
    (hv : ∀ W, S W → (Instr.lookup t vm vx false).run P W = .ok v W) (h : LexH P ops Q S K r (a.put o.dst v) w) : LexH P ops Q S K ((i, false) :: r) a w :=
  lexH_yield hi hw (fun W hW => by
    unfold execOp
    simp [ho, hm, hx, hv W hW, Result.andThen]) h
end
/-- What has been marked, and what lies in the map. -/
structure SnAt (W0 : World) (sb fm : Nat) (L : List (Int × Int)) (pre : List (Fin L.length)) (W : World) : Prop where
  only : Only (fun k => k = sb ∨ k = fm) W0 W
  seen : RowAt W sb 128 (seenV (cnt (told L pre)))
  map : KMap Try.prog 42 KB EI W fm pre.length (frM (told L pre))
section
variable {W0 W W' : World} {sb fm : Nat} {L : List (Int × Int)} {pre : List (Fin L.length)}
theorem sn_own (h1 : sb < W0.heap.size) (h2 : fm < W0.heap.size) : OwnFrom W0.heap.size (SnAt W0 sb fm L) := by
  rintro s X Y row ⟨i1, i2, i3⟩ hg hr
  have hne : ∀ k, k < W0.heap.size → some k ≠ row := fun k hk e => by have := (hr k e.symm).1; omega
  have ho : ∀ k, k < W0.heap.size → Y.heap[k]? = X.heap[k]? := fun k hk => hg.block k (by have := i1.size; omega) (hne k hk)
  exact ⟨⟨hg.os.trans i1.os, hg.tape.trans i1.tape, hg.output.trans i1.output, Nat.le_trans i1.size hg.size, fun k hk hs => (ho k hk).trans (i1.block k hk hs)⟩, i2.block (ho sb h1), i3.block (fun o e => (ho fm h2).trans e)⟩
theorem SnAt.later (h : SnAt W0 sb fm L pre W) (hb : Below W.heap.size W W') : SnAt W0 sb fm L pre W' :=
  ⟨h.only.trans (Only.of_below hb), h.seen.later hb, h.map.later hb⟩
theorem keeps_from {B : Nat} (ho : Only (fun k => k = sb ∨ k = fm) W W') (h1 : sb < B) (h2 : fm < B) : KeepsFrom B W W' :=
  ⟨ho.size, fun k o hB hk _ => (ho.block k (Array.getElem?_eq_some_iff.1 hk).1 (fun h => by omega)).trans hk⟩
end
end
end Go.Proofs.Ytilcdnkjfbkpnaa
