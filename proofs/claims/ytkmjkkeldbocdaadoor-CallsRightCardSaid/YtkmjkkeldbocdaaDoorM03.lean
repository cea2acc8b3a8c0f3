/-
  Texts that this claim builds on, merged.
-/
import Derived.Test.YtkmjkkeldbocdaaDoorLexH
import Derived.Laws.Shifts
import Derived.Test.YtkmjkkeldbocdaaDoorM00
import Derived.Test.YtkmjkkeldbocdaaDoorRow
import Derived.Lib.BitFns
import Derived.Lib.Strings
import Derived.Lib.Slices
import Derived.Lib.Small
import Derived.Lib.Walk
import Derived.Laws.BitsAllLaws
import Derived.Test.YtkmjkkeldbocdaaDoorOwn
import Derived.Test.YtkmjkkeldbocdaaDoorCsList
import Derived.Test.YtkmjkkeldbocdaaDoorM01
import Derived.Test.YtkmjkkeldbocdaaDoorCsBytes
import Derived.Test.YtkmjkkeldbocdaaDoorKit
import Derived.LaidMore
import Derived.Lay
import Derived.Stop.Joined
import Derived.Laws.RangeAny
import Derived.WalkKit
import Derived.Test.YtkmjkkeldbocdaaDoorShlf
import Derived.Test.YtkmjkkeldbocdaaDoorStr
import Derived.Test.YtkmjkkeldbocdaaDoorLexP
namespace Go.Proofs.YtkmjkkeldbocdaaDoor
/-! 1 << k. Of no program. -/
section
open Go.RowKit Go

theorem two_pow_small {k : Nat} (hk : k ≤ 10) : 1 ≤ 2 ^ k ∧ 2 ^ k ≤ 1024 := by
  have h1 := Nat.pow_le_pow_right (n := 2) (by decide) hk
  have h2 := Nat.one_le_two_pow (n := k)
  exact ⟨h2, h1⟩
theorem run_shl1 {P : Program} {t : TypeId} (j : IntKind) (k : Nat) (hk : k ≤ 10) (W : World) : (binOp .shl t (.int .i64 1) (.int j k)).run P W = .ok (.int .i64 ((2 ^ k : Nat) : Int)) W := by
  have h := two_pow_small hk
  simp [binOp]
  rw [show ((2 : Int) ^ k) = ((2 ^ k : Nat) : Int) by simp, IntKind.wrap_i64]
  omega
/-- The operation, in a plain region. -/
theorem wpList_shl1 {P : Program} {ops : Array Oper} {rest : List Oper} {o : Oper} {a : Act} {w : World} {Q : Exit → Act → World → Prop} (hgd : o.guard = none) (t : TypeId) (x y : Operand) (ty : TypeId) (ho : o.op = .binOp .shl t x y ty)
    (j : IntKind) (k p : Nat) (hk : k ≤ 10) (hp : 2 ^ k = p) (hx : a.eval x = .int .i64 1) (hy : a.eval y = .int j k) (h : wpList P ops Q rest (a.put o.dst (.int .i64 p)) w) : wpList P ops Q (o :: rest) a w :=
  wpList_plain hgd fun _ hK => by
    subst hp
    unfold Oper.wp execOp
    simp only [ho, hx, hy, Sem.run_bind, eqGuard_shl, Sem.run_pure, Result.andThen_ok, run_shl1 j k hk w]
    exact hK _ _ h
end
/-! policy, the landed: May alone (the library's functions on a byte's bits). -/
section
section
open Go
theorem ones_inN : ∀ m : Fin 256, Lib.onesCount m.val = (inN m.val 8).length := by decide +kernel
theorem len_inN : ∀ (m : Fin 256) (n : Fin 9), decide (Lib.bitLen m.val ≤ n.val) = (inN m.val 8).all (fun i => decide (i < n.val)) := by decide +kernel
end
section
open Go.RowKit Go
attribute [local go_sem] Oper.semAt_some

theorem len8_int_any (x : Int) (h0 : 0 ≤ x) (h1 : x ≤ 255) (w : World) : Calls Tryd.prog 70 #[.int .u8 x] w fun e w' => e = .returned (.int .i64 (Lib.bitLen x.toNat)) ∧ w = w' := by
  have e : wrap64 (Lib.len8 x) = (Lib.bitLen x.toNat : Int) := by
    have h := Lib.len8_int x h0 h1
    generalize Lib.len8 x = z at *
    unfold wrap64
    exact h
  go_enter Tryd.func70, Tryd.ntmps70
  go_wp2
  go_ret
  rw [← e]
  exact ⟨rfl, rfl⟩
theorem ones8_int_any (x : Int) (h0 : 0 ≤ x) (h1 : x ≤ 255) (w : World) : Calls Tryd.prog 71 #[.int .u8 x] w fun e w' => e = .returned (.int .i64 (Lib.onesCount x.toNat)) ∧ w = w' := by
  have e : wrap64 (Lib.pop8 x) = (Lib.onesCount x.toNat : Int) := by
    have h := Lib.pop8_int x h0 h1
    generalize Lib.pop8 x = z at *
    unfold wrap64
    exact h
  go_enter Tryd.func71, Tryd.ntmps71
  go_wp2
  go_ret
  rw [← e]
  exact ⟨rfl, rfl⟩
theorem len8_any (m : Nat) (hm : m ≤ 255) (w : World) : Calls Tryd.prog 70 #[.int .u8 (m : Int)] w fun e w' => e = .returned (.int .i64 (Lib.bitLen m)) ∧ w = w' := by
  have h := len8_int_any (m : Int) (by omega) (by omega) w
  rw [Int.toNat_natCast] at h
  exact h
theorem ones8_any (m : Nat) (hm : m ≤ 255) (w : World) : Calls Tryd.prog 71 #[.int .u8 (m : Int)] w fun e w' => e = .returned (.int .i64 ((inN m 8).length : Int)) ∧ w = w' := by
  have h := ones8_int_any (m : Int) (by omega) (by omega) w
  have e : (Lib.onesCount m) = (inN m 8).length := ones_inN ⟨m, by omega⟩
  rw [Int.toNat_natCast, e] at h
  exact h
end
section
open Go.RowKit Go
attribute [local go_sem] Oper.semAt_some

theorem mayP_kind {g : Nat → Int} {k m : Nat} (h : mayB g = true) (h2 : (inN m 8).all (fun i => decide ((i : Int) < g 0)) = true) : mayP g k m = kindB k m := by
  unfold mayP
  rw [h, h2, Bool.true_and, Bool.true_and]
theorem len_fits {g : Nat → Int} {m n : Nat} (hm : m ≤ 255) (hn : g 0 = n) (h8 : n ≤ 8) : (inN m 8).all (fun i => decide ((i : Int) < g 0)) = decide (Lib.bitLen m ≤ n) := by
  have h : decide (Lib.bitLen m ≤ n) = (inN m 8).all (fun i => decide (i < n)) := len_inN ⟨m, by omega⟩ ⟨n, by omega⟩
  rw [h, hn]
  congr 1
  funext i
  exact decide_eq_decide.2 (by omega)
theorem kind_0 (m : Nat) : kindB 0 m = (((inN m 8).length : Int) == 0) := by
  unfold kindB
  rw [if_pos rfl]
  exact Bool.eq_iff_iff.2 (by simp)
theorem kind_1 (m : Nat) : kindB 1 m = (((inN m 8).length : Int) == 1) := by
  unfold kindB
  rw [if_neg (by decide), if_pos rfl]
  exact Bool.eq_iff_iff.2 (by simp; omega)
theorem kind_2 (m : Nat) : kindB 2 m = decide (0 < (inN m 8).length) := by
  unfold kindB
  rw [if_neg (by decide), if_neg (by decide), if_pos (.inl rfl)]
theorem kind_3 (m : Nat) : kindB 3 m = decide (0 < (inN m 8).length) := by
  unfold kindB
  rw [if_neg (by decide), if_neg (by decide), if_pos (.inr rfl)]
theorem kind_4 {k : Nat} (m : Nat) (h : 4 ≤ k) : kindB k m = false := by
  unfold kindB
  rw [if_neg (by omega), if_neg (by omega), if_neg (by omega)]
theorem load_u8 {W : World} {p : Addr} {x : Int} (h : W.cell? p = some (.int .u8 x)) : (loadVar 5 p).run Tryd.prog W = .ok (.int .u8 x) W := run_loadVar_cell (by intro w; kernel_rfl) h
theorem load_i64 {W : World} {p : Addr} {x : Int} (h : W.cell? p = some (.int .i64 x)) : (loadVar 3 p).run Tryd.prog W = .ok (.int .i64 x) W := run_loadVar_cell (by intro w; kernel_rfl) h
set_option maxRecDepth 100000 in
set_option maxHeartbeats 8000000 in
theorem lmay_any (A : Array Value) (g : Nat → Int) (k m : Nat) (hk : k ≤ 255) (hm : m ≤ 255) (w : World) (hA : Cfg A g) :
    Calls Tryd.prog 62 #[.agg A, polV k m] w fun e w' => e = .returned (.bool (mayP g k m)) ∧ Below w.heap.size w w' := by
  have HC0 := Lib.hid (cpb_new w hA k m)
  have HA := Lib.hid hA
  cases hmb : mayB g with
  | false =>
    have HMB := Lib.hid hmb
    have HF := Lib.hid (show mayP g k m = false from by unfold mayP; rw [hmb]; rfl)
    clear hA hmb
    go_enter Tryd.func62, Tryd.ntmps62
    go_wp2_with (fail)
    generalize (w.alloc (.cells A 50)).alloc (.cells #[.int .u8 (k : Int), .int .u8 (m : Int)] 25) = wb at *
    obtain ⟨l0, l1⟩ := HC0.out.loads
    have L0 := Lib.hid l0
    clear l0 l1
    generalize hpb : w.heap.size + 1 = pb at *
    refine wp_region_lex (Kept wb.heap.size wb) [(0, false), (1, true), (2, false), (3, false), (4, false), (5, false), (7, false), (8, false), (6, true), (9, false), (10, false)] (by kernel_rfl) (by kernel_rfl) rfl (by kernel_rfl) (Below.refl _ wb).drew ?_
    intro W0 hK0
    have HK0 := Lib.hid hK0
    clear hK0
    refine lexH_load rfl rfl _ _ rfl rfl L0.out ?_
    simp only [List.getElem_toArray, List.getElem_cons_zero, Act.put, List.setIfInBounds_toArray, List.set_cons_zero, List.set_cons_succ]
    refine lexH_call 46 #[.agg A] rfl rfl ?_ ?_
    focus (go_simp; done)
    refine (may_any A g _ HA.out).mono ?_
    rintro e W1 ⟨rfl, hb1⟩
    have HK1 := Lib.hid (HK0.out.call (Nat.le_refl _) hb1)
    rw [HMB.out]
    refine ⟨_, rfl, HK1.out, ?_⟩
    clear hb1 HK0
    simp only [List.getElem_toArray, List.getElem_cons_succ, List.getElem_cons_zero, Act.put, List.setIfInBounds_toArray, List.set_cons_zero, List.set_cons_succ]
    refine lexH_yieldE rfl rfl ?_
    apply Exists.intro
    refine ⟨fun W hW => ?_, ?_⟩
    focus (go_simp; exact rfl)
    simp only [List.getElem_toArray, List.getElem_cons_succ, List.getElem_cons_zero, Act.put, List.setIfInBounds_toArray, List.set_cons_zero, List.set_cons_succ]
    refine lexH_yieldE rfl rfl ?_
    apply Exists.intro
    refine ⟨fun W hW => ?_, ?_⟩
    focus (go_simp; exact rfl)
    simp only [List.getElem_toArray, List.getElem_cons_succ, List.getElem_cons_zero, Act.put, List.setIfInBounds_toArray, List.set_cons_zero, List.set_cons_succ]
    refine lexH_skip rfl rfl ?_
    simp only [List.getElem_toArray, List.getElem_cons_succ, List.getElem_cons_zero, Act.put, List.setIfInBounds_toArray, List.set_cons_zero, List.set_cons_succ]
    refine lexH_skip rfl rfl ?_
    simp only [List.getElem_toArray, List.getElem_cons_succ, List.getElem_cons_zero, Act.put, List.setIfInBounds_toArray, List.set_cons_zero, List.set_cons_succ]
    refine lexH_skip rfl rfl ?_
    simp only [List.getElem_toArray, List.getElem_cons_succ, List.getElem_cons_zero, Act.put, List.setIfInBounds_toArray, List.set_cons_zero, List.set_cons_succ]
    refine lexH_skip rfl rfl ?_
    simp only [List.getElem_toArray, List.getElem_cons_succ, List.getElem_cons_zero, Act.put, List.setIfInBounds_toArray, List.set_cons_zero, List.set_cons_succ]
    refine lexH_pass rfl rfl HK1.out ?_
    simp only [List.getElem_toArray, List.getElem_cons_succ, List.getElem_cons_zero, Act.put, List.setIfInBounds_toArray, List.set_cons_zero, List.set_cons_succ]
    refine lexH_skip rfl rfl ?_
    simp only [List.getElem_toArray, List.getElem_cons_succ, List.getElem_cons_zero, Act.put, List.setIfInBounds_toArray, List.set_cons_zero, List.set_cons_succ]
    refine lexH_yieldE rfl rfl ?_
    apply Exists.intro
    refine ⟨fun W hW => ?_, ?_⟩
    focus (go_simp; exact rfl)
    simp only [List.getElem_toArray, List.getElem_cons_succ, List.getElem_cons_zero, Act.put, List.setIfInBounds_toArray, List.set_cons_zero, List.set_cons_succ]
    refine lexH_nil ?_
    go_wp2_with (fail)
    go_ret
    rw [HF.out]
    exact ⟨rfl, (HC0.out.bel).trans (HK1.out.below.mono HC0.out.bel.size)⟩
  | true =>
    have HMB := Lib.hid hmb
    have G := (good_iff g).1 hmb
    obtain ⟨n, hn⟩ : ∃ n : Nat, g 0 = n := ⟨(g 0).toNat, by have := G.n1; omega⟩
    have h8 : n ≤ 8 := by have := G.n2; omega
    have HFit := Lib.hid (len_fits hm hn h8)
    have HL8 := Lib.hid (fun W => len8_any m hm W)
    have HO8 := Lib.hid (fun W => ones8_any m hm W)
    have HMK := Lib.hid (fun h2 => mayP_kind (g := g) (k := k) (m := m) hmb h2)
    have HN := Lib.hid hn
    have HML := Lib.hid hm
    clear hA hmb G hn hm
    generalize Lib.bitLen m = bl at *
    go_enter Tryd.func62, Tryd.ntmps62
    go_wp2_with (fail)
    generalize (w.alloc (.cells A 50)).alloc (.cells #[.int .u8 (k : Int), .int .u8 (m : Int)] 25) = wb at *
    have L0 := Lib.hid HC0.out.loads.1
    have L1 := Lib.hid (fun U (hU : Kept wb.heap.size wb U) => load_u8 (HC0.out.later hU.below).k1)
    have L2 := Lib.hid (fun U (hU : Kept wb.heap.size wb U) => load_i64 ((HC0.out.later hU.below).cfg.cell 0 (by decide)))
    rw [HN.out] at L2
    generalize hpb : w.heap.size + 1 = pb at *
    refine wp_region_lex (Kept wb.heap.size wb) [(0, false), (1, true), (2, false), (3, false), (4, false), (5, false), (7, false), (8, false), (6, true), (9, false), (10, false)] (by kernel_rfl) (by kernel_rfl) rfl (by kernel_rfl) (Below.refl _ wb).drew ?_
    intro W0 hK0
    have HK0 := Lib.hid hK0
    clear hK0
    refine lexH_load rfl rfl _ _ rfl rfl L0.out ?_
    simp only [List.getElem_toArray, List.getElem_cons_zero, Act.put, List.setIfInBounds_toArray, List.set_cons_zero, List.set_cons_succ]
    refine lexH_call 46 #[.agg A] rfl rfl ?_ ?_
    focus (go_simp; done)
    refine (may_any A g _ HA.out).mono ?_
    rintro e W1 ⟨rfl, hb1⟩
    have HK1 := Lib.hid (HK0.out.call (Nat.le_refl _) hb1)
    rw [HMB.out]
    refine ⟨_, rfl, HK1.out, ?_⟩
    clear hb1 HK0
    simp only [List.getElem_toArray, List.getElem_cons_succ, List.getElem_cons_zero, Act.put, List.setIfInBounds_toArray, List.set_cons_zero, List.set_cons_succ]
    refine lexH_yieldE rfl rfl ?_
    apply Exists.intro
    refine ⟨fun W hW => ?_, ?_⟩
    focus (go_simp; exact rfl)
    simp only [List.getElem_toArray, List.getElem_cons_succ, List.getElem_cons_zero, Act.put, List.setIfInBounds_toArray, List.set_cons_zero, List.set_cons_succ]
    refine lexH_yieldE rfl rfl ?_
    apply Exists.intro
    refine ⟨fun W hW => ?_, ?_⟩
    focus (go_simp; exact rfl)
    simp only [List.getElem_toArray, List.getElem_cons_succ, List.getElem_cons_zero, Act.put, List.setIfInBounds_toArray, List.set_cons_zero, List.set_cons_succ]
    refine lexH_yieldE rfl rfl ?_
    apply Exists.intro
    refine ⟨fun W hW => ?_, ?_⟩
    focus (go_simp; exact rfl)
    simp only [List.getElem_toArray, List.getElem_cons_succ, List.getElem_cons_zero, Act.put, List.setIfInBounds_toArray, List.set_cons_zero, List.set_cons_succ]
    refine lexH_load rfl rfl _ _ rfl rfl L1.out ?_
    simp only [List.getElem_toArray, List.getElem_cons_succ, List.getElem_cons_zero, Act.put, List.setIfInBounds_toArray, List.set_cons_zero, List.set_cons_succ]
    refine lexH_yieldE rfl rfl ?_
    apply Exists.intro
    refine ⟨fun W hW => ?_, ?_⟩
    focus (go_simp; exact rfl)
    simp only [List.getElem_toArray, List.getElem_cons_succ, List.getElem_cons_zero, Act.put, List.setIfInBounds_toArray, List.set_cons_zero, List.set_cons_succ]
    refine lexH_load rfl rfl _ _ rfl rfl L2.out ?_
    simp only [List.getElem_toArray, List.getElem_cons_succ, List.getElem_cons_zero, Act.put, List.setIfInBounds_toArray, List.set_cons_zero, List.set_cons_succ]
    refine lexH_call 70 #[.int .u8 (m : Int)] rfl rfl ?_ ?_
    focus (go_simp; done)
    refine (HL8.out _).mono ?_
    rintro e W2 ⟨rfl, rfl⟩
    refine ⟨_, rfl, HK1.out, ?_⟩
    simp only [List.getElem_toArray, List.getElem_cons_succ, List.getElem_cons_zero, Act.put, List.setIfInBounds_toArray, List.set_cons_zero, List.set_cons_succ]
    refine lexH_yieldE rfl rfl ?_
    apply Exists.intro
    refine ⟨fun W hW => ?_, ?_⟩
    focus (go_simp; exact rfl)
    simp only [List.getElem_toArray, List.getElem_cons_succ, List.getElem_cons_zero, Act.put, List.setIfInBounds_toArray, List.set_cons_zero, List.set_cons_succ]
    refine lexH_yieldE rfl rfl ?_
    apply Exists.intro
    refine ⟨fun W hW => ?_, ?_⟩
    focus (go_simp; exact rfl)
    simp only [List.getElem_toArray, List.getElem_cons_succ, List.getElem_cons_zero, Act.put, List.setIfInBounds_toArray, List.set_cons_zero, List.set_cons_succ]
    refine lexH_nil ?_
    have HC1 := Lib.hid (HC0.out.later HK1.out.below)
    clear HK1 HC0 L0 L1 L2
    by_cases hbl : bl ≤ n
    · have hblI : ¬ ((n : Int) < (bl : Int)) := by omega
      have hall : (inN m 8).all (fun i => decide ((i : Int) < g 0)) = true := by rw [HFit.out]; exact decide_eq_true hbl
      have HF := Lib.hid (HMK.out hall)
      clear hall HMK
      have p0 := HC1.out.k0
      have p1 := HC1.out.k1
      rw [hpb] at p0 p1
      go_wp2_with (fail)
      refine (HO8.out _).mono ?_
      rintro e W2 ⟨rfl, rfl⟩
      clear HO8 HL8 HFit
      have HK0 := Lib.hid (kind_0 m)
      have HK1 := Lib.hid (kind_1 m)
      have HK2 := Lib.hid (kind_2 m)
      have HK3 := Lib.hid (kind_3 m)
      have HK4 := Lib.hid (fun h => kind_4 (k := k) m h)
      generalize (inN m 8).length = many at *
      rcases (show k = 0 ∨ k = 1 ∨ k = 2 ∨ k = 3 ∨ 4 ≤ k by omega) with rfl | rfl | rfl | rfl | h4
      · go_wp2_with (fail)
        go_ret
        rw [HF.out, HK0.out]
        exact ⟨rfl, HC1.out.bel⟩
      · go_wp2_with (fail)
        go_ret
        rw [HF.out, HK1.out]
        exact ⟨rfl, HC1.out.bel⟩
      · go_wp2_with (fail)
        go_ret
        rw [HF.out, HK2.out]
        exact ⟨rfl, HC1.out.bel⟩
      · go_wp2_with (fail)
        go_ret
        rw [HF.out, HK3.out]
        exact ⟨rfl, HC1.out.bel⟩
      · have e0 : ((k : Int) == 0) = false := by simp; omega
        have e1 : ((k : Int) == 1) = false := by simp; omega
        have e2 : ((k : Int) == 2) = false := by simp; omega
        have e3 : ((k : Int) == 3) = false := by simp; omega
        have f0 : ¬ (k : Int) = 0 := by omega
        have f1 : ¬ (k : Int) = 1 := by omega
        have f2 : ¬ (k : Int) = 2 := by omega
        have f3 : ¬ (k : Int) = 3 := by omega
        go_wp2_with (fail)
        go_ret
        rw [HF.out, HK4.out h4]
        exact ⟨rfl, HC1.out.bel⟩
    · have hblI : ((n : Int) < (bl : Int)) := by omega
      have HF := Lib.hid (show mayP g k m = false from by
        unfold mayP
        rw [HFit.out, decide_eq_false hbl, Bool.false_and, Bool.and_false])
      go_wp2_with (fail)
      go_ret
      rw [HF.out]
      exact ⟨rfl, HC1.out.bel⟩
end
end
/-! calls, the landed: letters of fields. Pure. -/
section
open Go Go.RowKit

/-- What stands for a letter: p g c n a s h r k m b. -/
def fldC (q : CallM) (n l : Nat) : Nat :=
  if l = 112 then uI q.pid else if l = 103 then uI q.page else if l = 99 then uI q.count else if l = 110 then uI q.node else if l = 97 then uI q.addr else if l = 115 then uI q.size
  else if l = 104 then q.handle else if l = 114 then q.rights else if l = 107 then q.pk else if l = 109 then q.pm else if l = 98 then n else 0
def allF : List Nat := [112, 103, 99, 110, 97, 115, 104, 114, 107, 109, 98]
/-- The letters of a kind, in their order. -/
def letK (k : Nat) : List Nat := match k with
  | 2 => [112]
  | 3 => [112, 103, 99, 114]
  | 4 => [112, 103, 99]
  | 5 => [112, 103, 99, 114]
  | 6 => [112, 103, 99]
  | 7 => [112, 103, 99]
  | 8 => [112, 97, 115]
  | 9 => [112, 97, 98]
  | 10 => [115]
  | 11 => [104]
  | 12 => [104, 97, 115]
  | 13 => [104, 97, 98]
  | 14 => [112, 107, 109]
  | 15 => [112, 103, 99, 107, 109]
  | 16 => [112, 103]
  | 17 => [112, 103]
  | 18 => [112, 103, 99, 110]
  | 19 => [110]
  | 20 => [110]
  | _ => []
theorem letK_all (k l : Nat) (h : l ∈ letK k) : l ∈ allF := by
  unfold letK at h
  split at h <;> simp only [List.mem_cons, List.not_mem_nil, or_false] at h <;> simp only [allF, List.mem_cons, List.not_mem_nil, or_false] <;> omega
theorem letK_len (k : Nat) : (letK k).length ≤ 5 := by
  unfold letK
  split <;> decide
theorem allF_lt {l : Nat} (h : l ∈ allF) : l < 128 := by
  simp only [allF, List.mem_cons, List.not_mem_nil, or_false] at h
  omega
/-- The numbers of a form, by letters. -/
theorem ns_let (q : CallM) (n : Nat) : (letK q.kind).map (fldC q n) = listN q ++ if hasK q.kind then [n] else [] := by
  obtain ⟨kind, pid, node, page, count, addr, size, rights, pk, pm, handle⟩ := q
  unfold letK listN hasK
  dsimp only
  split <;> first | rfl | (split <;> first | rfl | (exfalso; simp_all; done) | (rw [if_neg (show ¬ (decide (kind = 9 ∨ kind = 13) = true) from fun h => by rcases of_decide_eq_true h with h | h <;> simp_all)]; rfl))
theorem uI_zero {z : Int} (h : -9223372036854775808 ≤ z ∧ z ≤ 9223372036854775807) : uI z = 0 ↔ z = 0 := by
  unfold uI
  omega
theorem uI_inj {z y : Int} (h : -9223372036854775808 ≤ z ∧ z ≤ 9223372036854775807) (h2 : -9223372036854775808 ≤ y ∧ y ≤ 9223372036854775807) : uI z = uI y ↔ z = y := by
  unfold uI
  omega
theorem wrap_uI {z : Int} (h : -9223372036854775808 ≤ z ∧ z ≤ 9223372036854775807) : wrap64 (uI z : Int) = z := by
  unfold uI wrap64
  omega
/-- A number is put in its place. -/
def putC (q : CallM) (l v : Nat) : CallM :=
  if l = 112 then { q with pid := wrap64 v } else if l = 103 then { q with page := wrap64 v } else if l = 99 then { q with count := wrap64 v } else if l = 110 then { q with node := wrap64 v }
  else if l = 97 then { q with addr := wrap64 v } else if l = 115 then { q with size := wrap64 v } else if l = 104 then { q with handle := v } else if l = 114 then { q with rights := v % 256 }
  else if l = 107 then { q with pk := v % 256 } else if l = 109 then { q with pm := v % 256 } else q
end
/-! calls, the landed: the small ones. -/
section
open Go.RowKit Go
attribute [local go_sem] Oper.semAt_some

set_option maxRecDepth 100000 in
theorem kwithin_any (x lo hi : Int) (w : World) : Calls Tryd.prog 51 #[.int .i64 x, .int .i64 lo, .int .i64 hi] w fun e w' => e = .returned (.bool (decide (lo ≤ x) && decide (x ≤ hi))) ∧ w = w' := by
  by_cases h1 : lo ≤ x
  · rw [decide_eq_true h1, Bool.true_and]
    go_enter Tryd.func51, Tryd.ntmps51
    go_wp2_with (fail)
    go_ret
    exact ⟨rfl, rfl⟩
  · rw [decide_eq_false h1, Bool.false_and]
    go_enter Tryd.func51, Tryd.ntmps51
    go_wp2_with (fail)
    go_ret
    exact ⟨rfl, rfl⟩
set_option maxRecDepth 100000 in
theorem below_any (x hi : Int) (w : World) : Calls Tryd.prog 63 #[.int .i64 x, .int .i64 hi] w fun e w' => e = .returned (.bool (decide (0 ≤ x) && decide (x < hi))) ∧ w = w' := by
  by_cases h1 : 0 ≤ x
  · rw [decide_eq_true h1, Bool.true_and]
    go_enter Tryd.func63, Tryd.ntmps63
    go_wp2_with (fail)
    go_ret
    exact ⟨rfl, rfl⟩
  · rw [decide_eq_false h1, Bool.false_and]
    go_enter Tryd.func63, Tryd.ntmps63
    go_wp2_with (fail)
    go_ret
    exact ⟨rfl, rfl⟩
set_option maxRecDepth 100000 in
theorem isKind_any (k : Nat) (hk : k ≤ 255) (w : World) : Calls Tryd.prog 33 #[.int .u8 (k : Int)] w fun e w' => e = .returned (.bool (okK k)) ∧ w = w' := by
  have hI : (k : Int) ≤ 255 := by omega
  by_cases h1 : 0 < k
  · have h1I : (0 : Int) < k := by omega
    rw [show okK k = decide ((k : Int) < 22) from decide_eq_decide.2 (by omega)]
    clear hk h1
    go_enter Tryd.func33, Tryd.ntmps33
    go_wp2_with (fail)
    go_ret
    exact ⟨rfl, rfl⟩
  · obtain rfl : k = 0 := by omega
    clear hk h1
    go_enter Tryd.func33, Tryd.ntmps33
    go_wp2_with (fail)
    go_ret
    exact ⟨rfl, rfl⟩
set_option maxRecDepth 100000 in
theorem inObject_any (x z : Int) (hx : -9223372036854775808 ≤ x ∧ x ≤ 9223372036854775807) (w : World) : Calls Tryd.prog 61 #[.int .i64 x, .int .i64 z] w fun e w' => e = .returned (.bool (decide (1 ≤ z ∧ z ≤ 8 ∧ 0 ≤ x ∧ x + z ≤ 128))) ∧ w = w' := by
  by_cases h1 : 1 ≤ z ∧ z ≤ 8
  · obtain ⟨h1, h2⟩ := h1
    have HE := Lib.hid (show decide (1 ≤ z ∧ z ≤ 8 ∧ 0 ≤ x ∧ x + z ≤ 128) = (decide (0 ≤ x) && decide (x ≤ 128 - z)) from by
      rw [← Bool.decide_and]
      exact decide_eq_decide.2 (by omega))
    rw [HE.out]
    clear HE
    have HW := Lib.hid (show (decide (1 ≤ z) && decide (z ≤ 8)) = true by rw [decide_eq_true h1, decide_eq_true h2]; rfl)
    go_enter Tryd.func61, Tryd.ntmps61
    go_wp2_with (fail)
    refine (kwithin_any _ _ _ _).mono ?_
    rintro e w1 ⟨rfl, rfl⟩
    rw [HW.out]
    go_wp2_with (fail)
    refine (kwithin_any _ _ _ _).mono ?_
    rintro e w1 ⟨rfl, rfl⟩
    go_wp2_with (fail)
    go_ret
    exact ⟨rfl, rfl⟩
  · rw [decide_eq_false (fun h => h1 ⟨h.1, h.2.1⟩)]
    have HW := Lib.hid (show (decide (1 ≤ z) && decide (z ≤ 8)) = false by rw [← Bool.decide_and]; exact decide_eq_false h1)
    go_enter Tryd.func61, Tryd.ntmps61
    go_wp2_with (fail)
    refine (kwithin_any _ _ _ _).mono ?_
    rintro e w1 ⟨rfl, rfl⟩
    rw [HW.out]
    go_wp2_with (fail)
    go_ret
    exact ⟨rfl, rfl⟩
set_option maxRecDepth 100000 in
theorem inPage_any (x z : Int) (w : World) : Calls Tryd.prog 60 #[.int .i64 x, .int .i64 z] w fun e w' => e = .returned (.bool (decide (1 ≤ z ∧ z ≤ 8 ∧ 0 ≤ x ∧ x < 262144 ∧ x % 256 + z ≤ 256))) ∧ w = w' := by
  by_cases h1 : 1 ≤ z ∧ z ≤ 8
  · obtain ⟨h1, h2⟩ := h1
    have HW := Lib.hid (show (decide (1 ≤ z) && decide (z ≤ 8)) = true by rw [decide_eq_true h1, decide_eq_true h2]; rfl)
    by_cases h3 : 0 ≤ x ∧ x < 262144
    · obtain ⟨h3, h4⟩ := h3
      have HE := Lib.hid (show decide (1 ≤ z ∧ z ≤ 8 ∧ 0 ≤ x ∧ x < 262144 ∧ x % 256 + z ≤ 256) = decide (x % 256 + z ≤ 256) from decide_eq_decide.2 (by omega))
      have HV := Lib.hid (show (decide (0 ≤ x) && decide (x < 262144)) = true by rw [decide_eq_true h3, decide_eq_true h4]; rfl)
      rw [HE.out]
      clear HE
      have hm0 : 0 ≤ x % 256 := by omega
      have hm1 : x % 256 < 256 := by omega
      go_enter Tryd.func60, Tryd.ntmps60
      go_wp2_with (fail)
      refine (kwithin_any _ _ _ _).mono ?_
      rintro e w1 ⟨rfl, rfl⟩
      rw [HW.out]
      go_wp2_with (fail)
      refine (below_any _ _ _).mono ?_
      rintro e w1 ⟨rfl, rfl⟩
      rw [HV.out]
      go_wp2_with (fail)
      go_ret
      exact ⟨rfl, rfl⟩
    · rw [decide_eq_false (fun h => h3 ⟨h.2.2.1, h.2.2.2.1⟩)]
      have HV := Lib.hid (show (decide (0 ≤ x) && decide (x < 262144)) = false by rw [← Bool.decide_and]; exact decide_eq_false h3)
      go_enter Tryd.func60, Tryd.ntmps60
      go_wp2_with (fail)
      refine (kwithin_any _ _ _ _).mono ?_
      rintro e w1 ⟨rfl, rfl⟩
      rw [HW.out]
      go_wp2_with (fail)
      refine (below_any _ _ _).mono ?_
      rintro e w1 ⟨rfl, rfl⟩
      rw [HV.out]
      go_wp2_with (fail)
      go_ret
      exact ⟨rfl, rfl⟩
  · rw [decide_eq_false (fun h => h1 ⟨h.1, h.2.1⟩)]
    have HW := Lib.hid (show (decide (1 ≤ z) && decide (z ≤ 8)) = false by rw [← Bool.decide_and]; exact decide_eq_false h1)
    go_enter Tryd.func60, Tryd.ntmps60
    go_wp2_with (fail)
    refine (kwithin_any _ _ _ _).mono ?_
    rintro e w1 ⟨rfl, rfl⟩
    rw [HW.out]
    go_wp2_with (fail)
    go_ret
    exact ⟨rfl, rfl⟩
/-- The box of a call. -/
theorem call_box (w : World) (q : CallM) (a : Option Addr) (n c : Nat) : Below w.heap.size w (w.alloc (.cells (q.cells a n c) 29)) := (Below.refl _ _).alloc (Nat.le_refl _) _
set_option maxRecDepth 100000 in
set_option maxHeartbeats 4000000 in
theorem hasRange_any {q : CallM} (hp : -9223372036854775808 ≤ q.page ∧ q.page ≤ 9223372036854775807) (a : Option Addr) (n c : Nat) (w : World) : Calls Tryd.prog 59 #[.agg (q.cells a n c)] w fun e w' => e = .returned (.bool (decide (PgsR q.page q.count))) ∧ Below w.heap.size w w' := by
  have HB := Lib.hid (call_box w q a n c)
  have k3 : (w.alloc (.cells (q.cells a n c) 29)).cell? ⟨w.heap.size, 3, none⟩ = some (.int .i64 q.page) := by simp [go_sem]
  have k4 : (w.alloc (.cells (q.cells a n c) 29)).cell? ⟨w.heap.size, 4, none⟩ = some (.int .i64 q.count) := by simp [go_sem]
  generalize q.page = p at *
  generalize q.count = m at *
  by_cases h1 : 0 ≤ p ∧ p < 1024
  · obtain ⟨h1, h2⟩ := h1
    have HE := Lib.hid (show decide (PgsR p m) = (decide (1 ≤ m) && decide (m ≤ 1024 - p)) from by
      rw [← Bool.decide_and]
      unfold PgsR
      exact decide_eq_decide.2 (by omega))
    have HV := Lib.hid (show (decide (0 ≤ p) && decide (p < 1024)) = true by rw [decide_eq_true h1, decide_eq_true h2]; rfl)
    rw [HE.out]
    clear HE
    go_enter Tryd.func59, Tryd.ntmps59
    go_wp2_with (fail)
    generalize w.alloc (.cells (q.cells a n c) 29) = w1 at *
    refine (below_any _ _ _).mono ?_
    rintro e w2 ⟨rfl, rfl⟩
    rw [HV.out]
    go_wp2_with (fail)
    refine (kwithin_any _ _ _ _).mono ?_
    rintro e w2 ⟨rfl, rfl⟩
    go_wp2_with (fail)
    go_ret
    exact ⟨rfl, HB.out⟩
  · rw [show decide (PgsR p m) = false from decide_eq_false (fun h => h1 ⟨h.1, h.2.1⟩)]
    have HV := Lib.hid (show (decide (0 ≤ p) && decide (p < 1024)) = false by rw [← Bool.decide_and]; exact decide_eq_false h1)
    go_enter Tryd.func59, Tryd.ntmps59
    go_wp2_with (fail)
    generalize w.alloc (.cells (q.cells a n c) 29) = w1 at *
    refine (below_any _ _ _).mono ?_
    rintro e w2 ⟨rfl, rfl⟩
    rw [HV.out]
    go_wp2_with (fail)
    go_ret
    exact ⟨rfl, HB.out⟩
end
/-! calls, the landed: number. -/
section
open Go.RowKit Go
attribute [local go_sem] Oper.semAt_some

set_option maxRecDepth 100000 in
set_option maxHeartbeats 4000000 in
theorem num112_any (q : CallM) (a : Option Addr) (n c : Nat) (w : World) : Calls Tryd.prog 32 #[.agg (q.cells a n c), .int .i32 112] w fun e w' => e = .returned (.int .u64 ((uI q.pid : Nat) : Int)) ∧ Below w.heap.size w w' := by
  have HB := Lib.hid (call_box w q a n c)
  have k : (w.alloc (.cells (q.cells a n c) 29)).cell? ⟨w.heap.size, 1, none⟩ = some (.int .i64 q.pid) := by simp [go_sem]
  have HU := Lib.hid (uI_val q.pid)
  generalize q.pid = z at *
  go_enter Tryd.func32, Tryd.ntmps32
  go_wp2_with (fail)
  go_ret
  exact ⟨by rw [IntKind.wrap_u64, ← HU.out]; rfl, HB.out⟩
set_option maxRecDepth 100000 in
set_option maxHeartbeats 4000000 in
theorem num103_any (q : CallM) (a : Option Addr) (n c : Nat) (w : World) : Calls Tryd.prog 32 #[.agg (q.cells a n c), .int .i32 103] w fun e w' => e = .returned (.int .u64 ((uI q.page : Nat) : Int)) ∧ Below w.heap.size w w' := by
  have HB := Lib.hid (call_box w q a n c)
  have k : (w.alloc (.cells (q.cells a n c) 29)).cell? ⟨w.heap.size, 3, none⟩ = some (.int .i64 q.page) := by simp [go_sem]
  have HU := Lib.hid (uI_val q.page)
  generalize q.page = z at *
  go_enter Tryd.func32, Tryd.ntmps32
  go_wp2_with (fail)
  go_ret
  exact ⟨by rw [IntKind.wrap_u64, ← HU.out]; rfl, HB.out⟩
set_option maxRecDepth 100000 in
set_option maxHeartbeats 4000000 in
theorem num99_any (q : CallM) (a : Option Addr) (n c : Nat) (w : World) : Calls Tryd.prog 32 #[.agg (q.cells a n c), .int .i32 99] w fun e w' => e = .returned (.int .u64 ((uI q.count : Nat) : Int)) ∧ Below w.heap.size w w' := by
  have HB := Lib.hid (call_box w q a n c)
  have k : (w.alloc (.cells (q.cells a n c) 29)).cell? ⟨w.heap.size, 4, none⟩ = some (.int .i64 q.count) := by simp [go_sem]
  have HU := Lib.hid (uI_val q.count)
  generalize q.count = z at *
  go_enter Tryd.func32, Tryd.ntmps32
  go_wp2_with (fail)
  go_ret
  exact ⟨by rw [IntKind.wrap_u64, ← HU.out]; rfl, HB.out⟩
set_option maxRecDepth 100000 in
set_option maxHeartbeats 4000000 in
theorem num110_any (q : CallM) (a : Option Addr) (n c : Nat) (w : World) : Calls Tryd.prog 32 #[.agg (q.cells a n c), .int .i32 110] w fun e w' => e = .returned (.int .u64 ((uI q.node : Nat) : Int)) ∧ Below w.heap.size w w' := by
  have HB := Lib.hid (call_box w q a n c)
  have k : (w.alloc (.cells (q.cells a n c) 29)).cell? ⟨w.heap.size, 2, none⟩ = some (.int .i64 q.node) := by simp [go_sem]
  have HU := Lib.hid (uI_val q.node)
  generalize q.node = z at *
  go_enter Tryd.func32, Tryd.ntmps32
  go_wp2_with (fail)
  go_ret
  exact ⟨by rw [IntKind.wrap_u64, ← HU.out]; rfl, HB.out⟩
set_option maxRecDepth 100000 in
set_option maxHeartbeats 4000000 in
theorem num97_any (q : CallM) (a : Option Addr) (n c : Nat) (w : World) : Calls Tryd.prog 32 #[.agg (q.cells a n c), .int .i32 97] w fun e w' => e = .returned (.int .u64 ((uI q.addr : Nat) : Int)) ∧ Below w.heap.size w w' := by
  have HB := Lib.hid (call_box w q a n c)
  have k : (w.alloc (.cells (q.cells a n c) 29)).cell? ⟨w.heap.size, 5, none⟩ = some (.int .i64 q.addr) := by simp [go_sem]
  have HU := Lib.hid (uI_val q.addr)
  generalize q.addr = z at *
  go_enter Tryd.func32, Tryd.ntmps32
  go_wp2_with (fail)
  go_ret
  exact ⟨by rw [IntKind.wrap_u64, ← HU.out]; rfl, HB.out⟩
set_option maxRecDepth 100000 in
set_option maxHeartbeats 4000000 in
theorem num115_any (q : CallM) (a : Option Addr) (n c : Nat) (w : World) : Calls Tryd.prog 32 #[.agg (q.cells a n c), .int .i32 115] w fun e w' => e = .returned (.int .u64 ((uI q.size : Nat) : Int)) ∧ Below w.heap.size w w' := by
  have HB := Lib.hid (call_box w q a n c)
  have k : (w.alloc (.cells (q.cells a n c) 29)).cell? ⟨w.heap.size, 6, none⟩ = some (.int .i64 q.size) := by simp [go_sem]
  have HU := Lib.hid (uI_val q.size)
  generalize q.size = z at *
  go_enter Tryd.func32, Tryd.ntmps32
  go_wp2_with (fail)
  go_ret
  exact ⟨by rw [IntKind.wrap_u64, ← HU.out]; rfl, HB.out⟩
set_option maxRecDepth 100000 in
set_option maxHeartbeats 4000000 in
theorem num104_any (q : CallM) (a : Option Addr) (n c : Nat) (w : World) : Calls Tryd.prog 32 #[.agg (q.cells a n c), .int .i32 104] w fun e w' => e = .returned (.int .u64 ((q.handle : Nat) : Int)) ∧ Below w.heap.size w w' := by
  have HB := Lib.hid (call_box w q a n c)
  have k : (w.alloc (.cells (q.cells a n c) 29)).cell? ⟨w.heap.size, 10, none⟩ = some (.int .u64 (q.handle : Int)) := by simp [go_sem]
  go_enter Tryd.func32, Tryd.ntmps32
  go_wp2_with (fail)
  go_ret
  exact ⟨rfl, HB.out⟩
set_option maxRecDepth 100000 in
set_option maxHeartbeats 4000000 in
theorem num114_any (q : CallM) (a : Option Addr) (n c : Nat) (hq : q.rights ≤ 255) (w : World) : Calls Tryd.prog 32 #[.agg (q.cells a n c), .int .i32 114] w fun e w' => e = .returned (.int .u64 ((q.rights : Nat) : Int)) ∧ Below w.heap.size w w' := by
  have HB := Lib.hid (call_box w q a n c)
  have k : (w.alloc (.cells (q.cells a n c) 29)).cell? ⟨w.heap.size, 7, none⟩ = some (.int .u8 (q.rights : Int)) := by simp [go_sem]
  have hz : (q.rights : Int) ≤ 255 := by omega
  have hw : IntKind.u64.wrap (q.rights : Int) = q.rights := u64_nat (by omega)
  generalize q.rights = z at *
  clear hq
  go_enter Tryd.func32, Tryd.ntmps32
  go_wp2_with (fail)
  go_ret
  exact ⟨rfl, HB.out⟩
set_option maxRecDepth 100000 in
set_option maxHeartbeats 4000000 in
theorem num107_any (q : CallM) (a : Option Addr) (n c : Nat) (hq : q.pk ≤ 255) (w : World) : Calls Tryd.prog 32 #[.agg (q.cells a n c), .int .i32 107] w fun e w' => e = .returned (.int .u64 ((q.pk : Nat) : Int)) ∧ Below w.heap.size w w' := by
  have HB := Lib.hid (call_box w q a n c)
  have k : (w.alloc (.cells (q.cells a n c) 29)).cell? ⟨w.heap.size, 8, none⟩ = some (.int .u8 (q.pk : Int)) := by simp [go_sem]
  have hz : (q.pk : Int) ≤ 255 := by omega
  have hw : IntKind.u64.wrap (q.pk : Int) = q.pk := u64_nat (by omega)
  generalize q.pk = z at *
  clear hq
  go_enter Tryd.func32, Tryd.ntmps32
  go_wp2_with (fail)
  go_ret
  exact ⟨rfl, HB.out⟩
set_option maxRecDepth 100000 in
set_option maxHeartbeats 4000000 in
theorem num109_any (q : CallM) (a : Option Addr) (n c : Nat) (hq : q.pm ≤ 255) (w : World) : Calls Tryd.prog 32 #[.agg (q.cells a n c), .int .i32 109] w fun e w' => e = .returned (.int .u64 ((q.pm : Nat) : Int)) ∧ Below w.heap.size w w' := by
  have HB := Lib.hid (call_box w q a n c)
  have k : (w.alloc (.cells (q.cells a n c) 29)).cell? ⟨w.heap.size, 9, none⟩ = some (.int .u8 (q.pm : Int)) := by simp [go_sem]
  have hz : (q.pm : Int) ≤ 255 := by omega
  have hw : IntKind.u64.wrap (q.pm : Int) = q.pm := u64_nat (by omega)
  generalize q.pm = z at *
  clear hq
  go_enter Tryd.func32, Tryd.ntmps32
  go_wp2_with (fail)
  go_ret
  exact ⟨rfl, HB.out⟩
set_option maxRecDepth 100000 in
set_option maxHeartbeats 4000000 in
theorem num98_any (q : CallM) (a : Option Addr) (n c : Nat) (hn : n ≤ 2100) (w : World) : Calls Tryd.prog 32 #[.agg (q.cells a n c), .int .i32 98] w fun e w' => e = .returned (.int .u64 ((n : Nat) : Int)) ∧ Below w.heap.size w w' := by
  have HB := Lib.hid (call_box w q a n c)
  have k : (w.alloc (.cells (q.cells a n c) 29)).cell? ⟨w.heap.size, 11, none⟩ = some (.slice a n c) := by simp [go_sem]
  have hw : IntKind.u64.wrap (n : Int) = n := u64_nat (by omega)
  clear hn
  go_enter Tryd.func32, Tryd.ntmps32
  go_wp2_with (fail)
  go_ret
  exact ⟨rfl, HB.out⟩
/-- What number wants of a call. -/
structure NumOk (q : CallM) (n : Nat) : Prop where
  rights : q.rights ≤ 255
  pk : q.pk ≤ 255
  pm : q.pm ≤ 255
  n : n ≤ 2100
theorem number_l {q : CallM} {n : Nat} (h : NumOk q n) (a : Option Addr) (c : Nat) {l : Nat} (hl : l ∈ allF) (w : World) : Calls Tryd.prog 32 #[.agg (q.cells a n c), .int .i32 (l : Int)] w fun e w' => e = .returned (.int .u64 ((fldC q n l : Nat) : Int)) ∧ Below w.heap.size w w' := by
  simp only [allF, List.mem_cons, List.not_mem_nil, or_false] at hl
  rcases hl with rfl | rfl | rfl | rfl | rfl | rfl | rfl | rfl | rfl | rfl | rfl
  · exact num112_any q a n c w
  · exact num103_any q a n c w
  · exact num99_any q a n c w
  · exact num110_any q a n c w
  · exact num97_any q a n c w
  · exact num115_any q a n c w
  · exact num104_any q a n c w
  · exact num114_any q a n c h.rights w
  · exact num107_any q a n c h.pk w
  · exact num109_any q a n c h.pm w
  · exact num98_any q a n c h.n w
end
/-! A law's row out of its walk, where the row lists variables (a tied card): the walk may use what the listed variables hold. Of no program. -/
section
open Go.ChangeShapes Go.WideShapes Go.ChangeAt Go.RowKit

/-- What a law's walk owes: true, and below the old heap's size nothing has turned. -/
def Law (C : Checked) (k : FuncId) (fn : Func) (X : World → Prop) : Prop :=
  ∀ {H : Type} {enc : TypeId × Value → H} (W : World) (base : Nat) (args : Array Value) (ds : List (DataW H)) (ps : List MemPlace),
    (∀ (j : Nat) t v, fn.params[j]? = some t → args[j]? = some v → Value.okWide C.prog W .any base t v) →
    DataW.TrodAll enc C.prog W 0 (fun _ => true) true fn.params.toList args.toList ds ps → X W →
    (DataW.weightsEach C.prog fn.params.toList ds).all (· ≤ reachBytes) = true →
    Calls C.prog k args W fun e W' => e = .returned (.bool true) ∧ Below W.heap.size W W'

theorem law_lifted {C : Checked} {k : FuncId} {fn : Func} {s : ChangeSpec} {X : World → Prop} {tb : TypeId} (hX : ∀ w w' : World, w.heap = w'.heap → X w → X w')
    (own : ownKnob C.prog.godebug = none) (laidOut : laidOutB C.prog = true) (hk : C.prog.inits.idxOf? k = none) (hfn : C.prog.funcs[k]? = some fn) (hvars : s.vars = [])
    (hparams : ∀ t ∈ fn.params.toList, C.prog.readableRec t = true ∧ t < C.prog.types.size) (hres : fn.resultTypes = #[tb]) (hbool : C.prog.underlying tb = some .bool)
    (hspec : ∀ (H : Type) (ds : List (DataW H)), ds.length = fn.params.toList.length → s.fn H ds = { results := [.lit (.bool true)], args := ds })
    (walk : Law C k fn X) (os : Os) (started : os.Started) (H : Type) (enc : TypeId × Value → H)
    (witness : ∃ (w : World) (tape : Tape) (i : Input), w.os = os ∧ (w.forCall tape i).Shaped C.prog ∧ i.vars = [] ∧ Input.okWide C.prog (w.forCall tape i) .any w.heap.size k i ∧
      ((s.pre enc C.prog fn [] false (w.forCall tape i).memory i.args ∧ X (w.forCall tape i).memory) ∧ sizedMet enc C.prog fn (OpenSpec.ofChange s) false (w.forCall tape i).memory i.args) ∧ ({} : Assume).holds C.prog (lone (Frame.enter C.prog k i.args .normal) [] (w.forCall tape i))) :
    ReturnsInHanded {} C os k .any (fun w args => (s.pre enc C.prog fn [] false w args ∧ X w) ∧ sizedMet enc C.prog fn (OpenSpec.ofChange s) false w args)
      (s.post enc C.prog fn false true false false) := by
  refine returnsInHanded_of_change_and (C := C) (X := fun w _ => X w) (fun w w' _ hh h => hX w w' hh h) own started hk hfn witness ?_
  intro W base args ds gs before hval hW _ hwt hL _
  have hW' := hW
  obtain ⟨p, q, hA, hV, rfl, hfz, hnd⟩ := hW
  rw [hvars] at hV
  obtain ⟨rfl, rfl⟩ : gs = [] ∧ q = [] := by
    cases gs with
    | nil => exact ⟨rfl, hV⟩
    | cons g r => exact absurd hV (by intro h; cases h)
  have hwt' : (DataW.weightsEach C.prog fn.params.toList ds).all (· ≤ reachBytes) = true := by
    have e : s.plain.varTypes C.prog = [] := by
      have : s.plain.vars = [] := hvars
      simp [DataSpec.varTypes, this]
    simpa [e] using hwt
  refine (walk W base args ds p hval hA hL hwt').mono fun e W' ⟨he, bel⟩ => ?_
  subst he
  have hlen := trodAll_length _ _ _ _ hA
  have es := hspec H (ds ++ []) (by simpa using hlen)
  have hlt : ∀ x ∈ p, x.block < W.heap.size := fun x hx => by simpa using hW'.lt x (by simp [hx])
  refine ⟨_, rfl, ds, [], p ++ [], [], p, [], hW', ?_, ?_, ?_, bel.frame _, fun h => by cases h⟩
  · rw [es, hres]; exact trodAll_mk1 (shut_bool hbool true)
  · rw [es]
    have := trodAll_below laidOut bel _ _ _ _ hparams hlt hA
    simpa using this
  · rw [es, hvars]; rfl
end
/-! Ranges over strings of letters: the iterator lies in a block of its own. Of no program. -/
section
open Go.RowKit Go

/-- A string by its bytes' numbers. -/
def strN (L : List Nat) : ByteArray := ⟨(L.map UInt8.ofNat).toArray⟩
theorem strN_size (L : List Nat) : (strN L).size = L.length := by simp [strN, ByteArray.size]
theorem strN_at {L : List Nat} (h7 : ∀ l ∈ L, l < 128) {p : Nat} (h : p < (strN L).size) {l : Nat} (hl : L[p]? = some l) : ((strN L)[p]'h).toNat = l := by
  have hp : p < L.length := by rw [← strN_size L]; exact h
  have e : (strN L)[p]'h = UInt8.ofNat (L[p]'hp) := by
    show (strN L).data[p]'_ = _
    simp [strN]
  rw [List.getElem?_eq_getElem hp] at hl
  have hl := Option.some.inj hl
  have := h7 l (by rw [← hl]; exact List.getElem_mem hp)
  rw [e, hl]
  simp
  omega
def IterAt (w : World) (b : Nat) (s : ByteArray) (p : Nat) : Prop := w.heap[b]? = some (.stringIter s p)
theorem IterAt.new (w : World) (s : ByteArray) : IterAt (w.iter s 0) w.heap.size s 0 := World.iter_heap w s 0
theorem IterAt.lt {w : World} {b p : Nat} {s : ByteArray} (h : IterAt w b s p) : b < w.heap.size := (Array.getElem?_eq_some_iff.1 h).1
theorem IterAt.later {w w' : World} {b p : Nat} {s : ByteArray} (h : IterAt w b s p) (hb : Below w.heap.size w w') : IterAt w' b s p := by
  unfold IterAt
  rw [hb.block b h.lt]
  exact h
theorem IterAt.only {S : Nat → Prop} {w w' : World} {b p : Nat} {s : ByteArray} (h : IterAt w b s p) (ho : Only S w w') (hs : ¬ S b) : IterAt w' b s p := by
  unfold IterAt
  rw [ho.block b h.lt hs]
  exact h
theorem iter_below (w : World) (s : ByteArray) : Below w.heap.size w (w.iter s 0) := (Below.refl _ w).alloc (Nat.le_refl _) _
section
variable {P : Program} {ops : Array Oper} {rest : List Oper} {o : Oper} {a : Act} {Q : Exit → Act → World → Prop}
/-- Another letter. -/
theorem wpList_next_more (w : World) (hg : o.guard = none) (it : Operand) (hop : o.op = Op.next it true) (b : Nat) (L : List Nat) (h7 : ∀ l ∈ L, l < 128) (p l : Nat) (hl : L[p]? = some l) (hit : a.eval it = .pointer (some ⟨b, 0, none⟩)) (h : IterAt w b (strN L) p)
    (hK : ∀ w', IterAt w' b (strN L) (p + 1) → Only (fun j => j = b) w w' → w'.heap.size = w.heap.size → wpList P ops Q rest (a.put o.dst (.tuple #[.bool true, .int .i64 (p : Int), .int .i32 (l : Int)])) w') :
    wpList P ops Q (o :: rest) a w := by
  refine wpList_plain hg fun K' hK' => ?_
  unfold Oper.wp
  have hp : p < L.length := by
    rcases Nat.lt_or_ge p L.length with h1 | h1
    · exact h1
    · rw [List.getElem?_eq_none h1] at hl; cases hl
  have hs : p < (strN L).size := by rw [strN_size]; exact hp
  have hv := strN_at h7 hs hl
  have hd := decode_ascii (strN L) p hs (by rw [hv]; exact h7 l (List.mem_of_getElem? hl))
  rw [hv] at hd
  have hrun : (Instr.next (.pointer (some ⟨b, 0, none⟩)) true o.type).run P w = .ok (.tuple #[.bool true, .int .i64 (p : Int), .int .i32 (l : Int)]) { w with heap := w.heap.setIfInBounds b (.stringIter (strN L) (p + 1)) } := by
    unfold IterAt at h
    simp only [Instr.next, getObj, setObj, Sem.run_bind, Sem.run, h, Result.andThen, hs, if_true, hd]
    simp [goInt]
  simp [execOp, hop, hit, hrun, Result.andThen]
  refine hK' _ _ (hK _ ?_ ⟨rfl, rfl, rfl, by simp, fun k hk hn => ?_⟩ (by simp))
  · unfold IterAt
    have hb := h.lt
    simp [hb]
  · show (w.heap.setIfInBounds b _)[k]? = _
    rw [Array.getElem?_setIfInBounds_ne (fun e => hn e.symm)]
/-- No letter more. -/
theorem wpList_next_end (w : World) (hg : o.guard = none) (it : Operand) (hop : o.op = Op.next it true) (b : Nat) (L : List Nat) (hit : a.eval it = .pointer (some ⟨b, 0, none⟩)) (h : IterAt w b (strN L) L.length)
    (hK : wpList P ops Q rest (a.put o.dst (.tuple #[.bool false])) w) : wpList P ops Q (o :: rest) a w := by
  refine wpList_plain hg fun K' hK' => ?_
  unfold Oper.wp
  have hs : ¬ L.length < (strN L).size := by rw [strN_size]; omega
  have hrun : (Instr.next (.pointer (some ⟨b, 0, none⟩)) true o.type).run P w = .ok (.tuple #[.bool false]) w := by
    unfold IterAt at h
    simp [Instr.next, getObj, Sem.run, h, hs]
  simp [execOp, hop, hit, hrun, Result.andThen]
  exact hK' _ _ hK
end
end
/-! calls, the landed: every. -/
section
open Go.RowKit Go
attribute [local go_sem] Oper.semAt_some

theorem iterPos_at {w : World} {b p : Nat} {s : ByteArray} (h : IterAt w b s p) : w.iterPos b = p := by
  unfold IterAt at h
  simp [World.iterPos, h]
theorem all_take {f : Nat → Bool} {L : List Nat} {p l : Nat} (hl : L[p]? = some l) (h : (L.take p).all f = true) (hf : f l = true) : (L.take (p + 1)).all f = true := by
  rw [List.take_add_one, hl, Option.toList_some, List.all_append, h, List.all_cons, hf]
  rfl
theorem all_no {f : Nat → Bool} {L : List Nat} {p l : Nat} (hl : L[p]? = some l) (hf : f l = false) : L.all f = false := by
  cases h : L.all f with
  | false => rfl
  | true =>
    have := List.all_eq_true.1 h l (List.mem_of_getElem? hl)
    rw [hf] at this
    cases this
theorem at_letter {L : List Nat} {p : Nat} (h : p < L.length) : ∃ l, L[p]? = some l := ⟨_, List.getElem?_eq_getElem h⟩
/-- The letters that are left to come. -/
theorem iter_left {w w' : World} {b p q n : Nat} {s : ByteArray} (h : IterAt w b s p) (h' : IterAt w' b s q) (hq : p < q) (hp : p < n) : n - w'.iterPos b < n - w.iterPos b := by
  rw [iterPos_at h, iterPos_at h']
  omega

set_option maxRecDepth 100000 in
set_option maxHeartbeats 4000000 in
theorem every1_any (F : Nat) (p1 : Option Addr) (f : Nat → Bool) (L : List Nat) (h7 : ∀ l ∈ L, l < 128) (w : World) (eg : ∀ args w, (callFunc F args).run Tryd.prog w = .ok (.enter F args) w)
    (hF : ∀ W l, l ∈ L → Below w.heap.size w W → Calls Tryd.prog F #[.int .i32 (l : Int), .pointer p1] W fun e W' => e = .returned (.bool (f l)) ∧ Below W.heap.size W W') :
    Calls Tryd.prog 34 #[.string (strN L), .func (.func F) #[] #[.pointer p1]] w fun e w' => e = .returned (.bool (L.all f)) ∧ Below w.heap.size w w' := by
  have HF := Lib.hid hF
  have H7 := Lib.hid h7
  have HB0 := Lib.hid (iter_below w (strN L))
  have HI0 := Lib.hid (IterAt.new w (strN L))
  have HA0 := Lib.hid (show (L.take 0).all f = true from rfl)
  clear hF h7
  go_enter Tryd.func34, Tryd.ntmps34
  go_wp2_with (fail)
  generalize hwi : w.iter (strN L) 0 = wi at *
  clear hwi
  go_loopw [9] (fun v wr => ∃ p : Nat, p ≤ L.length ∧ Hid (IterAt wr w.heap.size (strN L) p) ∧ Hid ((L.take p).all f = true) ∧ Hid (Below w.heap.size w wr)) (fun _ wr => L.length - wr.iterPos w.heap.size)
  case atStart => exact ⟨0, Nat.zero_le _, HI0, HA0, HB0⟩
  case round =>
    clear HI0 HA0 HB0
    obtain ⟨p, hp, HI, HA, HB⟩ := hrel
    by_cases hlt : p < L.length
    · obtain ⟨l, hl⟩ := at_letter hlt
      have HLT := Lib.hid hlt
      have HL := Lib.hid hl
      have HM := Lib.hid (List.mem_of_getElem? hl)
      clear hlt hp hl
      go_wp2_with (first | (refine wpList_next_more wr rfl _ rfl w.heap.size L H7.out p l HL.out rfl HI.out ?_; intro w1 hi1 ho1 hs1) | fail)
      have HI1 := Lib.hid hi1
      have HB1 := Lib.hid (ho1.below HB.out HB.out.size (fun k hk => by omega))
      have HC := Lib.hid (HF.out w1 l HM.out HB1.out)
      clear hi1 ho1 hs1
      cases hf : f l with
      | false =>
        have HN := Lib.hid (all_no HL.out hf)
        rw [hf] at HC
        clear hf
        go_wp2_with (fail)
        refine HC.out.mono ?_
        rintro e w2 ⟨rfl, hb2⟩
        have HB2 := Lib.hid (HB1.out.trans (hb2.mono HB1.out.size))
        clear hb2
        go_wp2_with (fail)
        go_ret
        exact ⟨by rw [HN.out]; rfl, HB2.out⟩
      | true =>
        have HA1 := Lib.hid (all_take HL.out HA.out hf)
        rw [hf] at HC
        clear hf
        go_wp2_with (fail)
        refine HC.out.mono ?_
        rintro e w2 ⟨rfl, hb2⟩
        have HB2 := Lib.hid (HB1.out.trans (hb2.mono HB1.out.size))
        have HI2 := Lib.hid (HI1.out.later hb2)
        clear hb2
        go_wp2_with (fail)
        go_roundw
        case rel => exact ⟨p + 1, HLT.out, HI2, HA1, HB2⟩
        case measure => exact iter_left HI.out HI2.out (Nat.lt_succ_self _) HLT.out
    · obtain rfl : p = L.length := by omega
      have HN := Lib.hid (show L.all f = true from by have h := HA.out; rwa [List.take_length] at h)
      clear hlt hp
      go_wp2_with (first | (refine wpList_next_end wr rfl _ rfl w.heap.size L rfl HI.out ?_) | fail)
      go_ret
      exact ⟨by rw [HN.out]; rfl, HB.out⟩
set_option maxRecDepth 100000 in
set_option maxHeartbeats 4000000 in
theorem every2_any (F : Nat) (p1 p2 : Option Addr) (f : Nat → Bool) (L : List Nat) (h7 : ∀ l ∈ L, l < 128) (w : World) (eg : ∀ args w, (callFunc F args).run Tryd.prog w = .ok (.enter F args) w)
    (hF : ∀ W l, l ∈ L → Below w.heap.size w W → Calls Tryd.prog F #[.int .i32 (l : Int), .pointer p1, .pointer p2] W fun e W' => e = .returned (.bool (f l)) ∧ Below W.heap.size W W') :
    Calls Tryd.prog 34 #[.string (strN L), .func (.func F) #[] #[.pointer p1, .pointer p2]] w fun e w' => e = .returned (.bool (L.all f)) ∧ Below w.heap.size w w' := by
  have HF := Lib.hid hF
  have H7 := Lib.hid h7
  have HB0 := Lib.hid (iter_below w (strN L))
  have HI0 := Lib.hid (IterAt.new w (strN L))
  have HA0 := Lib.hid (show (L.take 0).all f = true from rfl)
  clear hF h7
  go_enter Tryd.func34, Tryd.ntmps34
  go_wp2_with (fail)
  generalize hwi : w.iter (strN L) 0 = wi at *
  clear hwi
  go_loopw [9] (fun v wr => ∃ p : Nat, p ≤ L.length ∧ Hid (IterAt wr w.heap.size (strN L) p) ∧ Hid ((L.take p).all f = true) ∧ Hid (Below w.heap.size w wr)) (fun _ wr => L.length - wr.iterPos w.heap.size)
  case atStart => exact ⟨0, Nat.zero_le _, HI0, HA0, HB0⟩
  case round =>
    clear HI0 HA0 HB0
    obtain ⟨p, hp, HI, HA, HB⟩ := hrel
    by_cases hlt : p < L.length
    · obtain ⟨l, hl⟩ := at_letter hlt
      have HLT := Lib.hid hlt
      have HL := Lib.hid hl
      have HM := Lib.hid (List.mem_of_getElem? hl)
      clear hlt hp hl
      go_wp2_with (first | (refine wpList_next_more wr rfl _ rfl w.heap.size L H7.out p l HL.out rfl HI.out ?_; intro w1 hi1 ho1 hs1) | fail)
      have HI1 := Lib.hid hi1
      have HB1 := Lib.hid (ho1.below HB.out HB.out.size (fun k hk => by omega))
      have HC := Lib.hid (HF.out w1 l HM.out HB1.out)
      clear hi1 ho1 hs1
      cases hf : f l with
      | false =>
        have HN := Lib.hid (all_no HL.out hf)
        rw [hf] at HC
        clear hf
        go_wp2_with (fail)
        refine HC.out.mono ?_
        rintro e w2 ⟨rfl, hb2⟩
        have HB2 := Lib.hid (HB1.out.trans (hb2.mono HB1.out.size))
        clear hb2
        go_wp2_with (fail)
        go_ret
        exact ⟨by rw [HN.out]; rfl, HB2.out⟩
      | true =>
        have HA1 := Lib.hid (all_take HL.out HA.out hf)
        rw [hf] at HC
        clear hf
        go_wp2_with (fail)
        refine HC.out.mono ?_
        rintro e w2 ⟨rfl, hb2⟩
        have HB2 := Lib.hid (HB1.out.trans (hb2.mono HB1.out.size))
        have HI2 := Lib.hid (HI1.out.later hb2)
        clear hb2
        go_wp2_with (fail)
        go_roundw
        case rel => exact ⟨p + 1, HLT.out, HI2, HA1, HB2⟩
        case measure => exact iter_left HI.out HI2.out (Nat.lt_succ_self _) HLT.out
    · obtain rfl : p = L.length := by omega
      have HN := Lib.hid (show L.all f = true from by have h := HA.out; rwa [List.take_length] at h)
      clear hlt hp
      go_wp2_with (first | (refine wpList_next_end wr rfl _ rfl w.heap.size L rfl HI.out ?_) | fail)
      go_ret
      exact ⟨by rw [HN.out]; rfl, HB.out⟩
end
/-! calls: what the variable fields holds, read out of the row's list. -/
section
open Go.ChangeShapes Go.WideShapes Go.ChangeAt Go.RowKit

def laidL : List (String × DataW Unit) := [("byre/calls.fields", Rows.laid_byre_calls_fields)]
theorem gFld : Tryd.prog.globalNamed "byre/calls.fields" = some 0 := by kernel_rfl
theorem tFld : (Tryd.prog.globals[0]?).map (·.type) = some 59 := by kernel_rfl
theorem cellsS : Tryd.prog.cellsOf 9 = 1 := by kernel_rfl
theorem fldParts : (Rows.laid_byre_calls_fields : DataW Unit) = .agg ((List.range 22).map fun (k : Nat) => DataW.lit (Lit.string ((letK k).map UInt8.ofNat))) := by kernel_rfl
/-- The variable lies as the text lays it. -/
def FldAt (w : World) : Prop := ∀ k, k < 22 → w.cell? ⟨0, k, none⟩ = some (.string (strN (letK k)))
theorem FldAt.later {w w' : World} (h : FldAt w) (hb : Below w.heap.size w w') : FldAt w' := fun k hk => by
  rw [hb.cell (World.block_lt_of_cell? _ _ (h k hk))]; exact h k hk
theorem fld_of_laid {W : World} (h : laidMetH Tryd.prog laidL W) : FldAt W := by
  rw [MakeChecks.laidMetH_plain _ _ _ (by kernel_rfl)] at h
  obtain ⟨ps, ⟨g, t, cs, fuel, p, q, hg, ht, hvar, hd, _, _⟩, _⟩ := h
  obtain rfl := Option.some.inj (gFld.symm.trans hg)
  obtain rfl := Option.some.inj (tFld.symm.trans ht)
  obtain ⟨xs, m, rfl, hx, hlen, hn, hel⟩ := DataW.trod_array Tryd.underlying59 hd
  rw [fldParts] at hx
  simp only [Prod.mk.injEq, DataW.agg.injEq] at hx
  intro j hj
  have h1 := hel j hj
  have hxj : (xs.map (·.1))[j]? = some (.lit (.string ((letK j).map UInt8.ofNat))) := by
    rw [← hx.1, List.getElem?_map, List.getElem?_range hj]
    rfl
  rw [List.getElem?_map] at hxj
  cases hy : xs[j]? with
  | none => rw [hy] at hxj; cases hxj
  | some y =>
    rw [hy] at hxj h1
    simp only [Option.map_some, Option.some.injEq] at hxj
    rw [cellsS, Nat.mul_one] at h1
    obtain ⟨k, e1, e2, _⟩ := DataW.trod_string Tryd.underlying9 h1
    rw [e2] at hxj
    simp only [DataW.lit.injEq, Lit.string.injEq] at hxj
    have := World.var?_cell gFld hvar j
    rw [this]
    have e3 : cs.toList[j]? = some (.string k) := by
      have : (cs.toList.drop j)[0]? = some (.string k) := by
        have h2 : ((cs.toList.drop j).take 1)[0]? = some (.string k) := by rw [e1]; rfl
        simpa using h2
      simpa using this
    have e4 : k = strN (letK j) := by
      unfold strN
      rw [← hxj]
    rw [← e4]
    simpa using e3
end
/-! calls, the landed: May, bytes.Equal. -/
section
open Go.RowKit Go
attribute [local go_sem] Oper.semAt_some

theorem index_mem (M : List UInt8) (c : UInt8) : decide (0 ≤ Lib.indexByte M c) = M.contains c := by
  induction M with
  | nil => rfl
  | cons b M ih =>
    have hg := Lib.indexByte_ge M c
    rw [List.contains_cons, ← ih, show Lib.indexByte (b :: M) c = if b == c then 0 else if Lib.indexByte M c == -1 then -1 else Lib.indexByte M c + 1 from rfl]
    by_cases h : b = c
    · subst h
      rw [if_pos (beq_self_eq_true _), beq_self_eq_true]
      rfl
    · rw [if_neg (by simpa using h), show (c == b) = false from by simpa using fun e => h e.symm, Bool.false_or]
      by_cases h2 : Lib.indexByte M c = -1
      · rw [h2]
        rfl
      · rw [if_neg (by simpa using h2)]
        exact decide_eq_decide.2 (by omega)
theorem ofNat_inj {a b : Nat} (ha : a < 128) (hb : b < 128) : UInt8.ofNat a = UInt8.ofNat b ↔ a = b := by
  refine ⟨fun h => ?_, fun h => by rw [h]⟩
  have := congrArg UInt8.toNat h
  simp at this
  omega
theorem letter_in {L : List Nat} (h7 : ∀ l ∈ L, l < 128) {l : Nat} (hl : l < 128) : (L.map UInt8.ofNat).contains (UInt8.ofNat l) = L.contains l := by
  induction L with
  | nil => rfl
  | cons b L ih =>
    rw [List.map_cons, List.contains_cons, List.contains_cons, ih fun x hx => h7 x (List.mem_cons_of_mem _ hx)]
    congr 1
    have := ofNat_inj hl (h7 b (List.mem_cons_self ..))
    by_cases e : l = b
    · rw [e, beq_self_eq_true, beq_self_eq_true]
    · rw [show (l == b) = false from by simpa using e, show (UInt8.ofNat l == UInt8.ofNat b) = false from by simpa using fun h => e (this.1 h)]
theorem letK_lt (k : Nat) : ∀ l ∈ letK k, l < 128 := fun l h => allF_lt (letK_all k l h)
theorem crune_any (k l : Nat) (hl : l < 128) (w : World) : Calls Tryd.prog 36 #[.string (strN (letK k)), .int .i32 (l : Int)] w fun e w' => e = .returned (.bool ((letK k).contains l)) ∧ w = w' := by
  refine (show Calls Tryd.prog 36 #[.string (strN (letK k)), .int .i32 (l : Int)] w fun e w' => e = .returned (.bool (decide (0 ≤ Lib.indexByte (strN (letK k)).data.toList (l : Int).toNat.toUInt8))) ∧ w' = w from
    Any.strings_ContainsRune_ascii Tryd.crune (strN (letK k)) (l : Int) w (by omega) (by omega)).mono ?_
  rintro e w' ⟨rfl, rfl⟩
  refine ⟨?_, rfl⟩
  rw [index_mem]
  have e1 : (strN (letK k)).data.toList = (letK k).map UInt8.ofNat := by simp [strN]
  have e2 : (l : Int).toNat.toUInt8 = UInt8.ofNat l := by simp
  rw [e1, e2, letter_in (letK_lt k) hl]
set_option maxRecDepth 100000 in
theorem beq_any {w : World} {a b : Option Addr} {n m c d : Nat} {x y : Nat → UInt8} (S : Src w a n x) (R : Src w b m y) : Calls Tryd.prog 39 #[.slice a n c, .slice b m d] w fun e w' => e = .returned (.bool ((strB n x).toList == (strB m y).toList)) ∧ w = w' := by
  have hs1 := run_string_src (c := c) S
  have hs2 := run_string_src (c := d) R
  clear S R
  generalize strB n x = s1 at *
  generalize strB m y = s2 at *
  go_enter Tryd.func39, Tryd.ntmps39
  go_wp2_with (fail)
  go_ret
  exact ⟨rfl, rfl⟩
/-- A call in a block of its own. -/
def CallAt (w : World) (b : Nat) (q : CallM) (a : Option Addr) (n c : Nat) : Prop := w.heap[b]? = some (.cells (q.cells a n c) 29 (0, 0))
theorem CallAt.new (w : World) (q : CallM) (a : Option Addr) (n c : Nat) : CallAt (w.alloc (.cells (q.cells a n c) 29)) w.heap.size q a n c := heap_alloc_new w _
theorem CallAt.lt {w : World} {b : Nat} {q : CallM} {a : Option Addr} {n c : Nat} (h : CallAt w b q a n c) : b < w.heap.size := (Array.getElem?_eq_some_iff.1 h).1
theorem CallAt.later {w w' : World} {b : Nat} {q : CallM} {a : Option Addr} {n c : Nat} (h : CallAt w b q a n c) (hb : Below w.heap.size w w') : CallAt w' b q a n c := by
  unfold CallAt
  rw [hb.block b h.lt]
  exact h
theorem CallAt.cell {w : World} {b : Nat} {q : CallM} {a : Option Addr} {n c : Nat} (h : CallAt w b q a n c) (i : Nat) {v : Value} (hv : (q.cells a n c)[i]? = some v) : w.cell? ⟨b, i, none⟩ = some v := by
  rw [cell_of_row _ _ _ _ _ _ h]
  exact hv
/-- What May asks of a letter. -/
def mayL (q : CallM) (n l : Nat) : Bool := decide (fldC q n l = 0) || (letK q.kind).contains l
set_option maxRecDepth 100000 in
set_option maxHeartbeats 4000000 in
theorem may1_any {q : CallM} {n : Nat} (hN : NumOk q n) (hk : okK q.kind = true) {a : Option Addr} {c b : Nat} {W : World} (hB : CallAt W b q a n c) (hF : FldAt W) {l : Nat} (hl : l ∈ allF) :
    Calls Tryd.prog 35 #[.int .i32 (l : Int), .pointer (some ⟨b, 0, none⟩)] W fun e W' => e = .returned (.bool (mayL q n l)) ∧ Below W.heap.size W W' := by
  have HN := Lib.hid (number_l hN a c hl W)
  have HB := Lib.hid hB
  have HF := Lib.hid hF
  have h7 := allF_lt hl
  have HC := Lib.hid (fun V => crune_any q.kind l h7 V)
  have hk1 : 1 ≤ q.kind ∧ q.kind ≤ 21 := of_decide_eq_true hk
  have HK := Lib.hid (hF q.kind (by omega))
  have hkI : (q.kind : Int) < 22 := by omega
  have HQ := Lib.hid (show mayL q n l = (decide (fldC q n l = 0) || (letK q.kind).contains l) from rfl)
  generalize mayL q n l = R at *
  clear hB hF hN hl hk hk1 h7
  go_enter Tryd.func35, Tryd.ntmps35
  go_wp2_with (first | (refine wpList_load_call rfl (.tmp 1) rfl b rfl HB.out ?_) | fail)
  refine HN.out.mono ?_
  rintro e w1 ⟨rfl, hb1⟩
  have HB1 := Lib.hid hb1
  by_cases hz : fldC q n l = 0
  · have HE := Lib.hid (show R = true from by rw [HQ.out, decide_eq_true hz]; rfl)
    rw [hz]
    clear hb1 hz HQ
    go_wp2_with (fail)
    go_ret
    exact ⟨by rw [HE.out]; rfl, HB1.out⟩
  · have HE := Lib.hid (show R = (letK q.kind).contains l from by rw [HQ.out, decide_eq_false hz]; rfl)
    have hzI : (((fldC q n l : Nat) : Int) == 0) = false := by rw [beq_eq_false_iff_ne]; omega
    have k0 := (HB.out.later hb1).cell 0 (v := .int .u8 (q.kind : Int)) rfl
    have kf : w1.cell? ⟨0, q.kind, none⟩ = some (.string (strN (letK q.kind))) := by rw [hb1.cell (World.block_lt_of_cell? _ _ HK.out)]; exact HK.out
    generalize fldC q n l = z at *
    generalize q.kind = k at *
    clear hb1 hz HQ
    go_wp2_with (fail)
    refine (HC.out _).mono ?_
    rintro e w2 ⟨rfl, rfl⟩
    rw [← HE.out]
    go_wp2_with (fail)
    go_ret
    exact ⟨rfl, HB1.out⟩
theorem strN_all : strN allF = { data := #[112, 103, 99, 110, 97, 115, 104, 114, 107, 109, 98] } := by rfl
/-- What May says, by letters. -/
def mayF (q : CallM) (n : Nat) : Bool := okK q.kind && (decide (n ≤ 8) && allF.all (mayL q n))
set_option maxRecDepth 100000 in
set_option maxHeartbeats 4000000 in
theorem kmay_any {q : CallM} {n : Nat} (hN : NumOk q n) (hk : q.kind ≤ 255) (a : Option Addr) (c : Nat) {w : World} (hF : FldAt w) : Calls Tryd.prog 13 #[.agg (q.cells a n c)] w fun e w' => e = .returned (.bool (mayF q n)) ∧ Below w.heap.size w w' := by
  have HB := Lib.hid (call_box w q a n c)
  have HC := Lib.hid (CallAt.new w q a n c)
  have HF := Lib.hid (hF.later (call_box w q a n c))
  have k0 := HC.out.cell 0 (v := .int .u8 (q.kind : Int)) rfl
  have k11 := HC.out.cell 11 (v := .slice a n c) rfl
  have HKD := Lib.hid (fun V => isKind_any q.kind hk V)
  have HN := Lib.hid hN
  have hnI : (n : Int) ≤ 2100 := by have := hN.n; omega
  have HQ := Lib.hid (show mayF q n = (okK q.kind && (decide (n ≤ 8) && allF.all (mayL q n))) from rfl)
  generalize mayF q n = R at *
  have eg : ∀ args w, (callFunc 35 args).run Tryd.prog w = .ok (.enter 35 args) w := enters_of Tryd.func35 (by kernel_rfl) rfl
  clear hN hk hF
  go_enter Tryd.func13, Tryd.ntmps13
  go_wp2_with (fail)
  generalize w.alloc (.cells (q.cells a n c) 29) = w1 at *
  refine (HKD.out _).mono ?_
  rintro e w2 ⟨rfl, rfl⟩
  cases hok : okK q.kind with
  | false =>
    have HE := Lib.hid (show R = false from by rw [HQ.out, hok]; rfl)
    clear hok HQ
    go_wp2_with (fail)
    go_ret
    exact ⟨by rw [HE.out]; rfl, HB.out⟩
  | true =>
    by_cases hn : n ≤ 8
    · have HE := Lib.hid (show R = allF.all (mayL q n) from by rw [HQ.out, hok, decide_eq_true hn]; rfl)
      have hn8 : (n : Int) ≤ 8 := by omega
      have HOK := Lib.hid hok
      clear hok HQ hn
      go_wp2_with (fail)
      rw [← strN_all]
      refine (every1_any 35 (some ⟨w.heap.size, 0, none⟩) (mayL q n) allF (fun l hl => allF_lt hl) w1 eg (fun W l hl hb => may1_any HN.out HOK.out (HC.out.later hb) (HF.out.later hb) hl)).mono ?_
      rintro e w2 ⟨rfl, hb2⟩
      have HB2 := Lib.hid (HB.out.trans (hb2.mono HB.out.size))
      clear hb2 k0 k11
      go_wp2_with (fail)
      go_ret
      exact ⟨by rw [HE.out]; rfl, HB2.out⟩
    · have HE := Lib.hid (show R = false from by rw [HQ.out, hok, decide_eq_false hn]; rfl)
      have hn8 : ¬ (n : Int) ≤ 8 := by omega
      clear hok HQ hn
      go_wp2_with (fail)
      go_ret
      exact ⟨by rw [HE.out]; rfl, HB.out⟩
end
/-! calls, the landed: Same. -/
section
open Go.RowKit Go
attribute [local go_sem] Oper.semAt_some

def sameG (q : CallM) (n : Nat) (r : CallM) (m l : Nat) : Bool := decide (fldC q n l = fldC r m l)
theorem beq_nat (a b : Nat) : ((a : Int) == (b : Int)) = decide (a = b) := by
  by_cases h : a = b
  · subst h; simp
  · rw [decide_eq_false h, beq_eq_false_iff_ne]; omega
set_option maxRecDepth 100000 in
set_option maxHeartbeats 4000000 in
theorem same1_any {q r : CallM} {n m : Nat} (hN : NumOk q n) (hM : NumOk r m) {a a2 : Option Addr} {c d b b2 : Nat} {W : World} (hB : CallAt W b q a n c) (hB2 : CallAt W b2 r a2 m d) {l : Nat} (hl : l ∈ allF) :
    Calls Tryd.prog 40 #[.int .i32 (l : Int), .pointer (some ⟨b, 0, none⟩), .pointer (some ⟨b2, 0, none⟩)] W fun e W' => e = .returned (.bool (sameG q n r m l)) ∧ Below W.heap.size W W' := by
  have HN := Lib.hid (fun V => number_l hN a c hl V)
  have HM := Lib.hid (fun V => number_l hM a2 d hl V)
  have HQ := Lib.hid (show sameG q n r m l = ((fldC q n l : Int) == (fldC r m l : Int)) from (beq_nat _ _).symm)
  have L1 := Lib.hid (fun U (hU : Kept W.heap.size W U) => load_callB (hB.later hU.below))
  have L2 := Lib.hid (fun U (hU : Kept W.heap.size W U) => load_callB (hB2.later hU.below))
  generalize sameG q n r m l = R at *
  generalize fldC q n l = z1 at *
  generalize fldC r m l = z2 at *
  clear hB hB2 hN hM hl
  go_enter Tryd.func40, Tryd.ntmps40
  go_wp2_with (fail)
  refine wp_region_lex (Kept W.heap.size W) [(0, false), (1, false), (3, false), (4, false), (2, true), (5, true), (6, false), (7, false)] (by kernel_rfl) (by kernel_rfl) rfl (by kernel_rfl) (Below.refl _ W).drew ?_
  intro W0 hK0
  have HK0 := Lib.hid hK0
  clear hK0
  refine lexH_load rfl rfl _ _ rfl rfl L1.out ?_
  simp only [List.getElem_toArray, List.getElem_cons_zero, Act.put, List.setIfInBounds_toArray, List.set_cons_zero, List.set_cons_succ]
  refine lexH_yieldE rfl rfl ?_
  apply Exists.intro
  refine ⟨fun W hW => ?_, ?_⟩
  focus (go_simp; exact rfl)
  simp only [List.getElem_toArray, List.getElem_cons_succ, List.getElem_cons_zero, Act.put, List.setIfInBounds_toArray, List.set_cons_zero, List.set_cons_succ]
  refine lexH_load rfl rfl _ _ rfl rfl L2.out ?_
  simp only [List.getElem_toArray, List.getElem_cons_succ, List.getElem_cons_zero, Act.put, List.setIfInBounds_toArray, List.set_cons_zero, List.set_cons_succ]
  refine lexH_yieldE rfl rfl ?_
  apply Exists.intro
  refine ⟨fun W hW => ?_, ?_⟩
  focus (go_simp; exact rfl)
  simp only [List.getElem_toArray, List.getElem_cons_succ, List.getElem_cons_zero, Act.put, List.setIfInBounds_toArray, List.set_cons_zero, List.set_cons_succ]
  refine lexH_call 32 #[.agg (q.cells a n c), .int .i32 (l : Int)] rfl rfl ?_ ?_
  focus (go_simp; done)
  refine (HN.out _).mono ?_
  rintro e W1 ⟨rfl, hb1⟩
  have HK1 := Lib.hid (HK0.out.call (Nat.le_refl _) hb1)
  refine ⟨_, rfl, HK1.out, ?_⟩
  clear hb1 HK0
  simp only [List.getElem_toArray, List.getElem_cons_succ, List.getElem_cons_zero, Act.put, List.setIfInBounds_toArray, List.set_cons_zero, List.set_cons_succ]
  refine lexH_call 32 #[.agg (r.cells a2 m d), .int .i32 (l : Int)] rfl rfl ?_ ?_
  focus (go_simp; done)
  refine (HM.out _).mono ?_
  rintro e W2 ⟨rfl, hb1⟩
  have HK2 := Lib.hid (HK1.out.call (Nat.le_refl _) hb1)
  refine ⟨_, rfl, HK2.out, ?_⟩
  clear hb1 HK1
  simp only [List.getElem_toArray, List.getElem_cons_succ, List.getElem_cons_zero, Act.put, List.setIfInBounds_toArray, List.set_cons_zero, List.set_cons_succ]
  refine lexH_yield rfl rfl (v := .bool ((z1 : Int) == (z2 : Int))) (fun W _ => by go_simp; done) ?_
  simp only [List.getElem_toArray, List.getElem_cons_succ, List.getElem_cons_zero, Act.put, List.setIfInBounds_toArray, List.set_cons_zero, List.set_cons_succ]
  rw [← HQ.out]
  refine lexH_yieldE rfl rfl ?_
  apply Exists.intro
  refine ⟨fun W hW => ?_, ?_⟩
  focus (go_simp; exact rfl)
  simp only [List.getElem_toArray, List.getElem_cons_succ, List.getElem_cons_zero, Act.put, List.setIfInBounds_toArray, List.set_cons_zero, List.set_cons_succ]
  refine lexH_nil ?_
  go_wp2_with (fail)
  go_ret
  exact ⟨rfl, HK2.out.below⟩
/-- What Same says, by letters. -/
def sameF (q : CallM) (n : Nat) (r : CallM) (m : Nat) (s1 s2 : ByteArray) : Bool := decide (q.kind = r.kind) && ((s1.toList == s2.toList) && allF.all (sameG q n r m))
set_option maxRecDepth 100000 in
set_option maxHeartbeats 4000000 in
theorem ksame_any {q r : CallM} {n m : Nat} (hN : NumOk q n) (hM : NumOk r m) {a a2 : Option Addr} {c d : Nat} {x y : Nat → UInt8} {w : World} (S : Src w a n x) (R : Src w a2 m y) :
    Calls Tryd.prog 16 #[.agg (q.cells a n c), .agg (r.cells a2 m d)] w fun e w' => e = .returned (.bool (sameF q n r m (strB n x) (strB m y))) ∧ Below w.heap.size w w' := by
  have hb1 := call_box w q a n c
  have hb2 := call_box (w.alloc (.cells (q.cells a n c) 29)) r a2 m d
  have HB := Lib.hid (hb1.trans (hb2.mono hb1.size))
  have HC := Lib.hid ((CallAt.new w q a n c).later hb2)
  have HD := Lib.hid (show CallAt ((w.alloc (.cells (q.cells a n c) 29)).alloc (.cells (r.cells a2 m d) 29)) (w.heap.size + 1) r a2 m d from by
    have h := CallAt.new (w.alloc (.cells (q.cells a n c) 29)) r a2 m d
    rwa [show (w.alloc (.cells (q.cells a n c) 29)).heap.size = w.heap.size + 1 by simp] at h)
  have HS := Lib.hid (S.later HB.out)
  have HR := Lib.hid (R.later HB.out)
  have k0 := HC.out.cell 0 (v := .int .u8 (q.kind : Int)) rfl
  have k11 := HC.out.cell 11 (v := .slice a n c) rfl
  have j0 := HD.out.cell 0 (v := .int .u8 (r.kind : Int)) rfl
  have j11 := HD.out.cell 11 (v := .slice a2 m d) rfl
  have HN := Lib.hid hN
  have HM := Lib.hid hM
  have HQ := Lib.hid (show sameF q n r m (strB n x) (strB m y) = (decide (q.kind = r.kind) && (((strB n x).toList == (strB m y).toList) && allF.all (sameG q n r m))) from rfl)
  generalize sameF q n r m (strB n x) (strB m y) = R0 at *
  have eg : ∀ args w, (callFunc 40 args).run Tryd.prog w = .ok (.enter 40 args) w := enters_of Tryd.func40 (by kernel_rfl) rfl
  clear hN hM S R hb1 hb2
  by_cases hk : q.kind = r.kind
  · have hkI : ((q.kind : Int) == (r.kind : Int)) = true := by rw [hk, beq_self_eq_true]
    have HE := Lib.hid (show R0 = (((strB n x).toList == (strB m y).toList) && allF.all (sameG q n r m)) from by rw [HQ.out, decide_eq_true hk]; rfl)
    generalize q.kind = z1 at *
    generalize r.kind = z2 at *
    clear hk HQ
    go_enter Tryd.func16, Tryd.ntmps16
    go_wp2_with (fail)
    generalize (w.alloc (.cells (q.cells a n c) 29)).alloc (.cells (r.cells a2 m d) 29) = w1 at *
    generalize hpb : w.heap.size + 1 = pb at *
    refine (beq_any HS.out HR.out).mono ?_
    rintro e w2 ⟨rfl, rfl⟩
    cases hs : ((strB n x).toList == (strB m y).toList) with
    | false =>
      have HF := Lib.hid (show R0 = false from by rw [HE.out, hs]; rfl)
      clear hs HE
      go_wp2_with (fail)
      go_ret
      exact ⟨by rw [HF.out]; rfl, HB.out⟩
    | true =>
      have HF := Lib.hid (show R0 = allF.all (sameG q n r m) from by rw [HE.out, hs]; rfl)
      clear hs HE
      go_wp2_with (fail)
      rw [← strN_all]
      refine (every2_any 40 (some ⟨w.heap.size, 0, none⟩) (some ⟨pb, 0, none⟩) (sameG q n r m) allF (fun l hl => allF_lt hl) w1 eg (fun W l hl hb => same1_any HN.out HM.out (HC.out.later hb) (HD.out.later hb) hl)).mono ?_
      rintro e w2 ⟨rfl, hb2⟩
      have HB2 := Lib.hid (HB.out.trans (hb2.mono HB.out.size))
      rw [← HF.out]
      clear hb2 k0 k11 j0 j11
      go_wp2_with (fail)
      go_ret
      exact ⟨rfl, HB2.out⟩
  · have hkI : ((q.kind : Int) == (r.kind : Int)) = false := by rw [beq_eq_false_iff_ne]; omega
    have HE := Lib.hid (show R0 = false from by rw [HQ.out, decide_eq_false hk]; rfl)
    generalize q.kind = z1 at *
    generalize r.kind = z2 at *
    clear hk HQ
    go_enter Tryd.func16, Tryd.ntmps16
    go_wp2_with (fail)
    go_ret
    exact ⟨by rw [HE.out]; rfl, HB.out⟩
end
/-! calls, the landed: what the letters say is what the document says. Pure. -/
section
open Go Go.RowKit

/-- A call as it may come, from wherever. -/
structure KIn (q : CallM) (n : Nat) : Prop where
  ok : q.Ok
  pid : -9223372036854775808 ≤ q.pid ∧ q.pid ≤ 9223372036854775807
  node : -9223372036854775808 ≤ q.node ∧ q.node ≤ 9223372036854775807
  page : -9223372036854775808 ≤ q.page ∧ q.page ≤ 9223372036854775807
  count : -9223372036854775808 ≤ q.count ∧ q.count ≤ 9223372036854775807
  addr : -9223372036854775808 ≤ q.addr ∧ q.addr ≤ 9223372036854775807
  size : -9223372036854775808 ≤ q.size ∧ q.size ≤ 9223372036854775807
  n : n ≤ 2100
theorem KIn.of {q : CallM} {n : Nat} (h : CsIn q n) : KIn q n := ⟨h.ok, h.pid, h.node, h.page, h.count, h.addr, h.size, by have := h.n; omega⟩
theorem NumOk.of {q : CallM} {n : Nat} (h : KIn q n) : NumOk q n := ⟨h.ok.rights, h.ok.pk, h.ok.pm, by have := h.n; omega⟩
set_option maxRecDepth 100000 in
set_option maxHeartbeats 4000000 in
theorem may_all {q : CallM} {n : Nat} (h : KIn q n) (hk : okK q.kind = true) : allF.all (mayL q n) = ((hasK q.kind || decide (n = 0)) && ((ofN q.kind fun i => (listN q).getD i 0).row == q.row)) := by
  have hk2 : 1 ≤ q.kind ∧ q.kind ≤ 21 := of_decide_eq_true hk
  have e1 := uI_zero h.pid
  have e2 := uI_zero h.node
  have e3 := uI_zero h.page
  have e4 := uI_zero h.count
  have e5 := uI_zero h.addr
  have e6 := uI_zero h.size
  have w1 := wrap_uI h.pid
  have w2 := wrap_uI h.node
  have w3 := wrap_uI h.page
  have w4 := wrap_uI h.count
  have w5 := wrap_uI h.addr
  have w6 := wrap_uI h.size
  have r1 : q.rights % 256 = q.rights := Nat.mod_eq_of_lt (by have := h.ok.rights; omega)
  have r2 : q.pk % 256 = q.pk := Nat.mod_eq_of_lt (by have := h.ok.pk; omega)
  have r3 : q.pm % 256 = q.pm := Nat.mod_eq_of_lt (by have := h.ok.pm; omega)
  clear h hk
  obtain ⟨kind, pid, node, page, count, addr, size, rights, pk, pm, handle⟩ := q
  dsimp only at *
  rw [Bool.eq_iff_iff]
  rcases (show kind = 1 ∨ kind = 2 ∨ kind = 3 ∨ kind = 4 ∨ kind = 5 ∨ kind = 6 ∨ kind = 7 ∨ kind = 8 ∨ kind = 9 ∨ kind = 10 ∨ kind = 11 ∨ kind = 12 ∨ kind = 13 ∨ kind = 14 ∨ kind = 15 ∨ kind = 16 ∨ kind = 17 ∨ kind = 18 ∨ kind = 19 ∨ kind = 20 ∨ kind = 21 by omega) with rfl | rfl | rfl | rfl | rfl | rfl | rfl | rfl | rfl | rfl | rfl | rfl | rfl | rfl | rfl | rfl | rfl | rfl | rfl | rfl | rfl
  all_goals simp [allF, mayL, fldC, letK, listN, ofN, CallM.row, hasK, e1, e2, e3, e4, e5, e6, w1, w2, w3, w4, w5, w6, r1, r2, r3]
  all_goals omega
theorem may_eq {q : CallM} {n : Nat} (h : KIn q n) : mayF q n = mayC q n := by
  unfold mayF mayC
  cases hk : okK q.kind with
  | false => rfl
  | true => rw [may_all h hk]
set_option maxRecDepth 100000 in
set_option maxHeartbeats 4000000 in
theorem same_all {q r : CallM} {n : Nat} (h : KIn q n) (g : KIn r n) : (decide (q.kind = r.kind) && allF.all (sameG q n r n)) = (q.row == r.row) := by
  have e1 := uI_inj h.pid g.pid
  have e2 := uI_inj h.node g.node
  have e3 := uI_inj h.page g.page
  have e4 := uI_inj h.count g.count
  have e5 := uI_inj h.addr g.addr
  have e6 := uI_inj h.size g.size
  clear h g
  obtain ⟨a1, a2, a3, a4, a5, a6, a7, a8, a9, a10, a11⟩ := q
  obtain ⟨b1, b2, b3, b4, b5, b6, b7, b8, b9, b10, b11⟩ := r
  dsimp only at *
  rw [Bool.eq_iff_iff]
  simp [allF, sameG, fldC, CallM.row, e1, e2, e3, e4, e5, e6]
  omega
theorem strB_len {n m : Nat} {x y : Nat → UInt8} (h : ((strB n x).toList == (strB m y).toList) = true) : n = m := (lisX_inj (beq_strB.1 h)).1
theorem same_eq {q r : CallM} {n m : Nat} (h : KIn q n) (g : KIn r m) (x y : Nat → UInt8) : sameF q n r m (strB n x) (strB m y) = sameC q r (strB n x) (strB m y) := by
  unfold sameF sameC
  cases hs : ((strB n x).toList == (strB m y).toList) with
  | false => rw [Bool.false_and, Bool.and_false]; rfl
  | true =>
    obtain rfl := strB_len hs
    rw [Bool.true_and, Bool.true_and, same_all h g]
end
/-! calls, the landed: formed, Wrong. -/
section
open Go.RowKit Go
attribute [local go_sem] Oper.semAt_some

theorem wpList_load_cfk {ops : Array Oper} {rest : List Oper} {o : Oper} {ac : Act} {w : World} {Q : Exit → Act → World → Prop} {A : Array Value} {g : Nat → Int} (hw : Region.wanted o (yielded ops ac.tmps) = true) (x : Operand) (ho : o.op = .load 50 x) (p : Nat) (hx : ac.eval x = .pointer (some ⟨p, 0, none⟩))
    (hB : CfgAt w p A g) (h : wpList Tryd.prog ops Q rest (ac.put o.dst (.agg A)) w) : wpList Tryd.prog ops Q (o :: rest) ac w :=
  BigFrame.wpList_want hw fun _ hK => wp_load_row 50 x ho p hx 50 _ (0, 0) _ hB.block Tryd.underlying50 rfl (by rw [hB.cfg.size]; kernel_rfl) (hK _ _ h)
theorem wrap_byte {z : Nat} (h : z ≤ 255) : wrap64 (z : Int) = z := by
  unfold wrap64
  omega

set_option maxRecDepth 100000 in
set_option maxHeartbeats 8000000 in
theorem fo1_any {A : Array Value} {g : Nat → Int} {q : CallM} {a : Option Addr} {n c : Nat} {w : World} (hA : Cfg A g) (hI : KIn q n) (h : q.kind = 1) :
    Calls Tryd.prog 47 #[.agg A, .agg (q.cells a n c)] w fun e w' => e = .returned (.bool (!badC g q n)) ∧ Below w.heap.size w w' := by
  have HB0 := Lib.hid (wrb_new w hA q a n c)
  have HA := Lib.hid hA
  have HIN := Lib.hid hI
  have k0 : ((w.alloc (.cells A 50)).alloc (.cells (q.cells a n c) 29)).cell? ⟨w.heap.size + 1, 0, none⟩ = some (.int .u8 1) := by
    have hc := HB0.out.cell 0 (.int .u8 (q.kind : Int)) rfl
    rw [h] at hc
    exact hc
  have HE := Lib.hid (show (!badC g q n) = true from by unfold badC; rw [h]; rfl)
  clear hA hI h
  go_enter Tryd.func47, Tryd.ntmps47
  go_wp2_with (fail)
  go_ret
  exact ⟨by rw [HE.out]; rfl, HB0.out.bel⟩

set_option maxRecDepth 100000 in
set_option maxHeartbeats 8000000 in
theorem fo2_any {A : Array Value} {g : Nat → Int} {q : CallM} {a : Option Addr} {n c : Nat} {w : World} (hA : Cfg A g) (hI : KIn q n) (h : q.kind = 2) :
    Calls Tryd.prog 47 #[.agg A, .agg (q.cells a n c)] w fun e w' => e = .returned (.bool (!badC g q n)) ∧ Below w.heap.size w w' := by
  have HB0 := Lib.hid (wrb_new w hA q a n c)
  have HA := Lib.hid hA
  have HIN := Lib.hid hI
  have k0 : ((w.alloc (.cells A 50)).alloc (.cells (q.cells a n c) 29)).cell? ⟨w.heap.size + 1, 0, none⟩ = some (.int .u8 2) := by
    have hc := HB0.out.cell 0 (.int .u8 (q.kind : Int)) rfl
    rw [h] at hc
    exact hc
  have HE := Lib.hid (show (!badC g q n) = true from by unfold badC; rw [h]; rfl)
  clear hA hI h
  go_enter Tryd.func47, Tryd.ntmps47
  go_wp2_with (fail)
  go_ret
  exact ⟨by rw [HE.out]; rfl, HB0.out.bel⟩

set_option maxRecDepth 100000 in
set_option maxHeartbeats 8000000 in
theorem fo11_any {A : Array Value} {g : Nat → Int} {q : CallM} {a : Option Addr} {n c : Nat} {w : World} (hA : Cfg A g) (hI : KIn q n) (h : q.kind = 11) :
    Calls Tryd.prog 47 #[.agg A, .agg (q.cells a n c)] w fun e w' => e = .returned (.bool (!badC g q n)) ∧ Below w.heap.size w w' := by
  have HB0 := Lib.hid (wrb_new w hA q a n c)
  have HA := Lib.hid hA
  have HIN := Lib.hid hI
  have k0 : ((w.alloc (.cells A 50)).alloc (.cells (q.cells a n c) 29)).cell? ⟨w.heap.size + 1, 0, none⟩ = some (.int .u8 11) := by
    have hc := HB0.out.cell 0 (.int .u8 (q.kind : Int)) rfl
    rw [h] at hc
    exact hc
  have HE := Lib.hid (show (!badC g q n) = true from by unfold badC; rw [h]; rfl)
  clear hA hI h
  go_enter Tryd.func47, Tryd.ntmps47
  go_wp2_with (fail)
  go_ret
  exact ⟨by rw [HE.out]; rfl, HB0.out.bel⟩

set_option maxRecDepth 100000 in
set_option maxHeartbeats 8000000 in
theorem fo21_any {A : Array Value} {g : Nat → Int} {q : CallM} {a : Option Addr} {n c : Nat} {w : World} (hA : Cfg A g) (hI : KIn q n) (h : q.kind = 21) :
    Calls Tryd.prog 47 #[.agg A, .agg (q.cells a n c)] w fun e w' => e = .returned (.bool (!badC g q n)) ∧ Below w.heap.size w w' := by
  have HB0 := Lib.hid (wrb_new w hA q a n c)
  have HA := Lib.hid hA
  have HIN := Lib.hid hI
  have k0 : ((w.alloc (.cells A 50)).alloc (.cells (q.cells a n c) 29)).cell? ⟨w.heap.size + 1, 0, none⟩ = some (.int .u8 21) := by
    have hc := HB0.out.cell 0 (.int .u8 (q.kind : Int)) rfl
    rw [h] at hc
    exact hc
  have HE := Lib.hid (show (!badC g q n) = true from by unfold badC; rw [h]; rfl)
  clear hA hI h
  go_enter Tryd.func47, Tryd.ntmps47
  go_wp2_with (fail)
  go_ret
  exact ⟨by rw [HE.out]; rfl, HB0.out.bel⟩

set_option maxRecDepth 100000 in
set_option maxHeartbeats 8000000 in
theorem fo3_any {A : Array Value} {g : Nat → Int} {q : CallM} {a : Option Addr} {n c : Nat} {w : World} (hA : Cfg A g) (hI : KIn q n) (h : q.kind = 3) :
    Calls Tryd.prog 47 #[.agg A, .agg (q.cells a n c)] w fun e w' => e = .returned (.bool (!badC g q n)) ∧ Below w.heap.size w w' := by
  have HB0 := Lib.hid (wrb_new w hA q a n c)
  have HA := Lib.hid hA
  have HIN := Lib.hid hI
  have k0 : ((w.alloc (.cells A 50)).alloc (.cells (q.cells a n c) 29)).cell? ⟨w.heap.size + 1, 0, none⟩ = some (.int .u8 3) := by
    have hc := HB0.out.cell 0 (.int .u8 (q.kind : Int)) rfl
    rw [h] at hc
    exact hc
  have HE := Lib.hid (show (!badC g q n) = (decide (PgsR q.page q.count) && (decide (1 ≤ (q.rights : Int)) && decide ((q.rights : Int) ≤ 3))) from by
    unfold badC pagesC
    rw [h, if_pos (by decide), Bool.not_or, Bool.not_not]
    congr 1
    rw [← Bool.decide_and, ← decide_not]
    exact decide_eq_decide.2 (by omega))
  have hw := wrap_byte hI.ok.rights
  have HR := Lib.hid (fun V => hasRange_any hI.page a n c V)
  clear hA hI h
  go_enter Tryd.func47, Tryd.ntmps47
  go_wp2_with (first | (refine wpList_load_call rfl (.tmp 3) rfl (w.heap.size + 1) rfl HB0.out.blk ?_) | fail)
  generalize (w.alloc (.cells A 50)).alloc (.cells (q.cells a n c) 29) = wb at *
  refine (HR.out _).mono ?_
  rintro e w2 ⟨rfl, hb2⟩
  have HB2 := Lib.hid (HB0.out.later hb2)
  clear hb2 HR k0
  cases hd : decide (PgsR q.page q.count) with
  | false =>
    have HF := Lib.hid (show (!badC g q n) = false from by rw [HE.out, hd]; rfl)
    clear hd HE
    go_wp2_with (fail)
    go_ret
    exact ⟨by rw [HF.out]; rfl, HB2.out.bel⟩
  | true =>
    have HF := Lib.hid (show (!badC g q n) = (decide (1 ≤ (q.rights : Int)) && decide ((q.rights : Int) ≤ 3)) from by rw [HE.out, hd]; rfl)
    have k7 := HB2.out.cell 7 (.int .u8 (q.rights : Int)) rfl
    clear hd HE
    go_wp2_with (fail)
    refine (kwithin_any _ _ _ _).mono ?_
    rintro e w3 ⟨rfl, rfl⟩
    rw [← HF.out]
    go_wp2_with (fail)
    go_ret
    exact ⟨rfl, HB2.out.bel⟩

set_option maxRecDepth 100000 in
set_option maxHeartbeats 8000000 in
theorem fo5_any {A : Array Value} {g : Nat → Int} {q : CallM} {a : Option Addr} {n c : Nat} {w : World} (hA : Cfg A g) (hI : KIn q n) (h : q.kind = 5) :
    Calls Tryd.prog 47 #[.agg A, .agg (q.cells a n c)] w fun e w' => e = .returned (.bool (!badC g q n)) ∧ Below w.heap.size w w' := by
  have HB0 := Lib.hid (wrb_new w hA q a n c)
  have HA := Lib.hid hA
  have HIN := Lib.hid hI
  have k0 : ((w.alloc (.cells A 50)).alloc (.cells (q.cells a n c) 29)).cell? ⟨w.heap.size + 1, 0, none⟩ = some (.int .u8 5) := by
    have hc := HB0.out.cell 0 (.int .u8 (q.kind : Int)) rfl
    rw [h] at hc
    exact hc
  have HE := Lib.hid (show (!badC g q n) = (decide (PgsR q.page q.count) && (decide (1 ≤ (q.rights : Int)) && decide ((q.rights : Int) ≤ 3))) from by
    unfold badC pagesC
    rw [h, if_pos (by decide), Bool.not_or, Bool.not_not]
    congr 1
    rw [← Bool.decide_and, ← decide_not]
    exact decide_eq_decide.2 (by omega))
  have hw := wrap_byte hI.ok.rights
  have HR := Lib.hid (fun V => hasRange_any hI.page a n c V)
  clear hA hI h
  go_enter Tryd.func47, Tryd.ntmps47
  go_wp2_with (first | (refine wpList_load_call rfl (.tmp 3) rfl (w.heap.size + 1) rfl HB0.out.blk ?_) | fail)
  generalize (w.alloc (.cells A 50)).alloc (.cells (q.cells a n c) 29) = wb at *
  refine (HR.out _).mono ?_
  rintro e w2 ⟨rfl, hb2⟩
  have HB2 := Lib.hid (HB0.out.later hb2)
  clear hb2 HR k0
  cases hd : decide (PgsR q.page q.count) with
  | false =>
    have HF := Lib.hid (show (!badC g q n) = false from by rw [HE.out, hd]; rfl)
    clear hd HE
    go_wp2_with (fail)
    go_ret
    exact ⟨by rw [HF.out]; rfl, HB2.out.bel⟩
  | true =>
    have HF := Lib.hid (show (!badC g q n) = (decide (1 ≤ (q.rights : Int)) && decide ((q.rights : Int) ≤ 3)) from by rw [HE.out, hd]; rfl)
    have k7 := HB2.out.cell 7 (.int .u8 (q.rights : Int)) rfl
    clear hd HE
    go_wp2_with (fail)
    refine (kwithin_any _ _ _ _).mono ?_
    rintro e w3 ⟨rfl, rfl⟩
    rw [← HF.out]
    go_wp2_with (fail)
    go_ret
    exact ⟨rfl, HB2.out.bel⟩

set_option maxRecDepth 100000 in
set_option maxHeartbeats 8000000 in
theorem fo4_any {A : Array Value} {g : Nat → Int} {q : CallM} {a : Option Addr} {n c : Nat} {w : World} (hA : Cfg A g) (hI : KIn q n) (h : q.kind = 4) :
    Calls Tryd.prog 47 #[.agg A, .agg (q.cells a n c)] w fun e w' => e = .returned (.bool (!badC g q n)) ∧ Below w.heap.size w w' := by
  have HB0 := Lib.hid (wrb_new w hA q a n c)
  have HA := Lib.hid hA
  have HIN := Lib.hid hI
  have k0 : ((w.alloc (.cells A 50)).alloc (.cells (q.cells a n c) 29)).cell? ⟨w.heap.size + 1, 0, none⟩ = some (.int .u8 4) := by
    have hc := HB0.out.cell 0 (.int .u8 (q.kind : Int)) rfl
    rw [h] at hc
    exact hc
  have HE := Lib.hid (show (!badC g q n) = decide (PgsR q.page q.count) from by
    unfold badC pagesC
    rw [h, if_neg (by decide), if_pos (by decide), Bool.not_not])
  have HR := Lib.hid (fun V => hasRange_any hI.page a n c V)
  clear hA hI h
  go_enter Tryd.func47, Tryd.ntmps47
  go_wp2_with (first | (refine wpList_load_call rfl (.tmp 3) rfl (w.heap.size + 1) rfl HB0.out.blk ?_) | fail)
  generalize (w.alloc (.cells A 50)).alloc (.cells (q.cells a n c) 29) = wb at *
  refine (HR.out _).mono ?_
  rintro e w2 ⟨rfl, hb2⟩
  have HB2 := Lib.hid (HB0.out.later hb2)
  rw [← HE.out]
  clear hb2 HR k0
  go_wp2_with (fail)
  go_ret
  exact ⟨rfl, HB2.out.bel⟩

set_option maxRecDepth 100000 in
set_option maxHeartbeats 8000000 in
theorem fo6_any {A : Array Value} {g : Nat → Int} {q : CallM} {a : Option Addr} {n c : Nat} {w : World} (hA : Cfg A g) (hI : KIn q n) (h : q.kind = 6) :
    Calls Tryd.prog 47 #[.agg A, .agg (q.cells a n c)] w fun e w' => e = .returned (.bool (!badC g q n)) ∧ Below w.heap.size w w' := by
  have HB0 := Lib.hid (wrb_new w hA q a n c)
  have HA := Lib.hid hA
  have HIN := Lib.hid hI
  have k0 : ((w.alloc (.cells A 50)).alloc (.cells (q.cells a n c) 29)).cell? ⟨w.heap.size + 1, 0, none⟩ = some (.int .u8 6) := by
    have hc := HB0.out.cell 0 (.int .u8 (q.kind : Int)) rfl
    rw [h] at hc
    exact hc
  have HE := Lib.hid (show (!badC g q n) = decide (PgsR q.page q.count) from by
    unfold badC pagesC
    rw [h, if_neg (by decide), if_pos (by decide), Bool.not_not])
  have HR := Lib.hid (fun V => hasRange_any hI.page a n c V)
  clear hA hI h
  go_enter Tryd.func47, Tryd.ntmps47
  go_wp2_with (first | (refine wpList_load_call rfl (.tmp 3) rfl (w.heap.size + 1) rfl HB0.out.blk ?_) | fail)
  generalize (w.alloc (.cells A 50)).alloc (.cells (q.cells a n c) 29) = wb at *
  refine (HR.out _).mono ?_
  rintro e w2 ⟨rfl, hb2⟩
  have HB2 := Lib.hid (HB0.out.later hb2)
  rw [← HE.out]
  clear hb2 HR k0
  go_wp2_with (fail)
  go_ret
  exact ⟨rfl, HB2.out.bel⟩

set_option maxRecDepth 100000 in
set_option maxHeartbeats 8000000 in
theorem fo7_any {A : Array Value} {g : Nat → Int} {q : CallM} {a : Option Addr} {n c : Nat} {w : World} (hA : Cfg A g) (hI : KIn q n) (h : q.kind = 7) :
    Calls Tryd.prog 47 #[.agg A, .agg (q.cells a n c)] w fun e w' => e = .returned (.bool (!badC g q n)) ∧ Below w.heap.size w w' := by
  have HB0 := Lib.hid (wrb_new w hA q a n c)
  have HA := Lib.hid hA
  have HIN := Lib.hid hI
  have k0 : ((w.alloc (.cells A 50)).alloc (.cells (q.cells a n c) 29)).cell? ⟨w.heap.size + 1, 0, none⟩ = some (.int .u8 7) := by
    have hc := HB0.out.cell 0 (.int .u8 (q.kind : Int)) rfl
    rw [h] at hc
    exact hc
  have HE := Lib.hid (show (!badC g q n) = decide (PgsR q.page q.count) from by
    unfold badC pagesC
    rw [h, if_neg (by decide), if_pos (by decide), Bool.not_not])
  have HR := Lib.hid (fun V => hasRange_any hI.page a n c V)
  clear hA hI h
  go_enter Tryd.func47, Tryd.ntmps47
  go_wp2_with (first | (refine wpList_load_call rfl (.tmp 3) rfl (w.heap.size + 1) rfl HB0.out.blk ?_) | fail)
  generalize (w.alloc (.cells A 50)).alloc (.cells (q.cells a n c) 29) = wb at *
  refine (HR.out _).mono ?_
  rintro e w2 ⟨rfl, hb2⟩
  have HB2 := Lib.hid (HB0.out.later hb2)
  rw [← HE.out]
  clear hb2 HR k0
  go_wp2_with (fail)
  go_ret
  exact ⟨rfl, HB2.out.bel⟩

set_option maxRecDepth 100000 in
set_option maxHeartbeats 8000000 in
theorem fo8_any {A : Array Value} {g : Nat → Int} {q : CallM} {a : Option Addr} {n c : Nat} {w : World} (hA : Cfg A g) (hI : KIn q n) (h : q.kind = 8) :
    Calls Tryd.prog 47 #[.agg A, .agg (q.cells a n c)] w fun e w' => e = .returned (.bool (!badC g q n)) ∧ Below w.heap.size w w' := by
  have HB0 := Lib.hid (wrb_new w hA q a n c)
  have HA := Lib.hid hA
  have HIN := Lib.hid hI
  have k0 : ((w.alloc (.cells A 50)).alloc (.cells (q.cells a n c) 29)).cell? ⟨w.heap.size + 1, 0, none⟩ = some (.int .u8 8) := by
    have hc := HB0.out.cell 0 (.int .u8 (q.kind : Int)) rfl
    rw [h] at hc
    exact hc
  have k5 := HB0.out.cell 5 (.int .i64 q.addr) rfl
  have k6 := HB0.out.cell 6 (.int .i64 q.size) rfl
  have HE := Lib.hid (show (!badC g q n) = decide (1 ≤ q.size ∧ q.size ≤ 8 ∧ 0 ≤ q.addr ∧ q.addr < 262144 ∧ q.addr % 256 + q.size ≤ 256) from by
    have hs : sizeC q n = q.size := by unfold sizeC; rw [h]; rfl
    unfold badC fewC
    rw [hs, h, if_neg (by decide), if_neg (by decide), if_pos (by decide), ← Bool.decide_or, ← decide_not]
    exact decide_eq_decide.2 (by omega))
  clear hA hI h
  go_enter Tryd.func47, Tryd.ntmps47
  go_wp2_with (fail)
  generalize (w.alloc (.cells A 50)).alloc (.cells (q.cells a n c) 29) = wb at *
  refine (inPage_any _ _ _).mono ?_
  rintro e w2 ⟨rfl, rfl⟩
  rw [← HE.out]
  go_wp2_with (fail)
  go_ret
  exact ⟨rfl, HB0.out.bel⟩

set_option maxRecDepth 100000 in
set_option maxHeartbeats 8000000 in
theorem fo9_any {A : Array Value} {g : Nat → Int} {q : CallM} {a : Option Addr} {n c : Nat} {w : World} (hA : Cfg A g) (hI : KIn q n) (h : q.kind = 9) :
    Calls Tryd.prog 47 #[.agg A, .agg (q.cells a n c)] w fun e w' => e = .returned (.bool (!badC g q n)) ∧ Below w.heap.size w w' := by
  have HB0 := Lib.hid (wrb_new w hA q a n c)
  have HA := Lib.hid hA
  have HIN := Lib.hid hI
  have k0 : ((w.alloc (.cells A 50)).alloc (.cells (q.cells a n c) 29)).cell? ⟨w.heap.size + 1, 0, none⟩ = some (.int .u8 9) := by
    have hc := HB0.out.cell 0 (.int .u8 (q.kind : Int)) rfl
    rw [h] at hc
    exact hc
  have k5 := HB0.out.cell 5 (.int .i64 q.addr) rfl
  have k11 := HB0.out.cell 11 (.slice a n c) rfl
  have HE := Lib.hid (show (!badC g q n) = decide (1 ≤ (n : Int) ∧ (n : Int) ≤ 8 ∧ 0 ≤ q.addr ∧ q.addr < 262144 ∧ q.addr % 256 + (n : Int) ≤ 256) from by
    have hs : sizeC q n = (n : Int) := by unfold sizeC; rw [h]; rfl
    unfold badC fewC
    rw [hs, h, if_neg (by decide), if_neg (by decide), if_pos (by decide), ← Bool.decide_or, ← decide_not]
    exact decide_eq_decide.2 (by omega))
  clear hA hI h
  go_enter Tryd.func47, Tryd.ntmps47
  go_wp2_with (fail)
  generalize (w.alloc (.cells A 50)).alloc (.cells (q.cells a n c) 29) = wb at *
  refine (inPage_any _ _ _).mono ?_
  rintro e w2 ⟨rfl, rfl⟩
  rw [← HE.out]
  go_wp2_with (fail)
  go_ret
  exact ⟨rfl, HB0.out.bel⟩

set_option maxRecDepth 100000 in
set_option maxHeartbeats 8000000 in
theorem fo10_any {A : Array Value} {g : Nat → Int} {q : CallM} {a : Option Addr} {n c : Nat} {w : World} (hA : Cfg A g) (hI : KIn q n) (h : q.kind = 10) :
    Calls Tryd.prog 47 #[.agg A, .agg (q.cells a n c)] w fun e w' => e = .returned (.bool (!badC g q n)) ∧ Below w.heap.size w w' := by
  have HB0 := Lib.hid (wrb_new w hA q a n c)
  have HA := Lib.hid hA
  have HIN := Lib.hid hI
  have k0 : ((w.alloc (.cells A 50)).alloc (.cells (q.cells a n c) 29)).cell? ⟨w.heap.size + 1, 0, none⟩ = some (.int .u8 10) := by
    have hc := HB0.out.cell 0 (.int .u8 (q.kind : Int)) rfl
    rw [h] at hc
    exact hc
  have k6 := HB0.out.cell 6 (.int .i64 q.size) rfl
  have HE := Lib.hid (show (!badC g q n) = (decide (1 ≤ q.size) && decide (q.size ≤ 128)) from by
    have hs : sizeC q n = q.size := by unfold sizeC; rw [h]; rfl
    unfold badC
    rw [hs, h, if_neg (by decide), if_neg (by decide), if_neg (by decide), if_pos (by decide), ← Bool.decide_and, ← decide_not]
    exact decide_eq_decide.2 (by omega))
  clear hA hI h
  go_enter Tryd.func47, Tryd.ntmps47
  go_wp2_with (fail)
  generalize (w.alloc (.cells A 50)).alloc (.cells (q.cells a n c) 29) = wb at *
  refine (kwithin_any _ _ _ _).mono ?_
  rintro e w2 ⟨rfl, rfl⟩
  rw [← HE.out]
  go_wp2_with (fail)
  go_ret
  exact ⟨rfl, HB0.out.bel⟩

set_option maxRecDepth 100000 in
set_option maxHeartbeats 8000000 in
theorem fo12_any {A : Array Value} {g : Nat → Int} {q : CallM} {a : Option Addr} {n c : Nat} {w : World} (hA : Cfg A g) (hI : KIn q n) (h : q.kind = 12) :
    Calls Tryd.prog 47 #[.agg A, .agg (q.cells a n c)] w fun e w' => e = .returned (.bool (!badC g q n)) ∧ Below w.heap.size w w' := by
  have HB0 := Lib.hid (wrb_new w hA q a n c)
  have HA := Lib.hid hA
  have HIN := Lib.hid hI
  have k0 : ((w.alloc (.cells A 50)).alloc (.cells (q.cells a n c) 29)).cell? ⟨w.heap.size + 1, 0, none⟩ = some (.int .u8 12) := by
    have hc := HB0.out.cell 0 (.int .u8 (q.kind : Int)) rfl
    rw [h] at hc
    exact hc
  have k5 := HB0.out.cell 5 (.int .i64 q.addr) rfl
  have k6 := HB0.out.cell 6 (.int .i64 q.size) rfl
  have HE := Lib.hid (show (!badC g q n) = decide (1 ≤ q.size ∧ q.size ≤ 8 ∧ 0 ≤ q.addr ∧ q.addr + q.size ≤ 128) from by
    have hs : sizeC q n = q.size := by unfold sizeC; rw [h]; rfl
    unfold badC fewC
    rw [hs, h, if_neg (by decide), if_neg (by decide), if_neg (by decide), if_neg (by decide), if_pos (by decide), ← Bool.decide_or, ← decide_not]
    exact decide_eq_decide.2 (by omega))
  have HIA := Lib.hid hI.addr
  clear hA hI h
  go_enter Tryd.func47, Tryd.ntmps47
  go_wp2_with (fail)
  generalize (w.alloc (.cells A 50)).alloc (.cells (q.cells a n c) 29) = wb at *
  refine (inObject_any _ _ HIA.out _).mono ?_
  rintro e w2 ⟨rfl, rfl⟩
  rw [← HE.out]
  go_wp2_with (fail)
  go_ret
  exact ⟨rfl, HB0.out.bel⟩

set_option maxRecDepth 100000 in
set_option maxHeartbeats 8000000 in
theorem fo13_any {A : Array Value} {g : Nat → Int} {q : CallM} {a : Option Addr} {n c : Nat} {w : World} (hA : Cfg A g) (hI : KIn q n) (h : q.kind = 13) :
    Calls Tryd.prog 47 #[.agg A, .agg (q.cells a n c)] w fun e w' => e = .returned (.bool (!badC g q n)) ∧ Below w.heap.size w w' := by
  have HB0 := Lib.hid (wrb_new w hA q a n c)
  have HA := Lib.hid hA
  have HIN := Lib.hid hI
  have k0 : ((w.alloc (.cells A 50)).alloc (.cells (q.cells a n c) 29)).cell? ⟨w.heap.size + 1, 0, none⟩ = some (.int .u8 13) := by
    have hc := HB0.out.cell 0 (.int .u8 (q.kind : Int)) rfl
    rw [h] at hc
    exact hc
  have k5 := HB0.out.cell 5 (.int .i64 q.addr) rfl
  have k11 := HB0.out.cell 11 (.slice a n c) rfl
  have HE := Lib.hid (show (!badC g q n) = decide (1 ≤ (n : Int) ∧ (n : Int) ≤ 8 ∧ 0 ≤ q.addr ∧ q.addr + (n : Int) ≤ 128) from by
    have hs : sizeC q n = (n : Int) := by unfold sizeC; rw [h]; rfl
    unfold badC fewC
    rw [hs, h, if_neg (by decide), if_neg (by decide), if_neg (by decide), if_neg (by decide), if_pos (by decide), ← Bool.decide_or, ← decide_not]
    exact decide_eq_decide.2 (by omega))
  have HIA := Lib.hid hI.addr
  clear hA hI h
  go_enter Tryd.func47, Tryd.ntmps47
  go_wp2_with (fail)
  generalize (w.alloc (.cells A 50)).alloc (.cells (q.cells a n c) 29) = wb at *
  refine (inObject_any _ _ HIA.out _).mono ?_
  rintro e w2 ⟨rfl, rfl⟩
  rw [← HE.out]
  go_wp2_with (fail)
  go_ret
  exact ⟨rfl, HB0.out.bel⟩

set_option maxRecDepth 100000 in
set_option maxHeartbeats 8000000 in
theorem fo14_any {A : Array Value} {g : Nat → Int} {q : CallM} {a : Option Addr} {n c : Nat} {w : World} (hA : Cfg A g) (hI : KIn q n) (h : q.kind = 14) :
    Calls Tryd.prog 47 #[.agg A, .agg (q.cells a n c)] w fun e w' => e = .returned (.bool (!badC g q n)) ∧ Below w.heap.size w w' := by
  have HB0 := Lib.hid (wrb_new w hA q a n c)
  have HA := Lib.hid hA
  have HIN := Lib.hid hI
  have k0 : ((w.alloc (.cells A 50)).alloc (.cells (q.cells a n c) 29)).cell? ⟨w.heap.size + 1, 0, none⟩ = some (.int .u8 14) := by
    have hc := HB0.out.cell 0 (.int .u8 (q.kind : Int)) rfl
    rw [h] at hc
    exact hc
  have k8 := HB0.out.cell 8 (.int .u8 (q.pk : Int)) rfl
  have k9 := HB0.out.cell 9 (.int .u8 (q.pm : Int)) rfl
  have HE := Lib.hid (show (!badC g q n) = mayP g q.pk q.pm from by
    unfold badC
    rw [h, if_neg (by decide), if_neg (by decide), if_neg (by decide), if_neg (by decide), if_neg (by decide), if_pos (by decide), Bool.not_not])
  have HM := Lib.hid (fun V => lmay_any A g q.pk q.pm hI.ok.pk hI.ok.pm V hA)
  clear hA hI h
  go_enter Tryd.func47, Tryd.ntmps47
  go_wp2_with (first | (refine wpList_load_cfk rfl (.tmp 2) rfl w.heap.size rfl HB0.out.cfg ?_) | fail)
  generalize (w.alloc (.cells A 50)).alloc (.cells (q.cells a n c) 29) = wb at *
  refine (HM.out _).mono ?_
  rintro e w2 ⟨rfl, hb2⟩
  have HB2 := Lib.hid (HB0.out.later hb2)
  rw [← HE.out]
  clear hb2 k0
  go_wp2_with (fail)
  go_ret
  exact ⟨rfl, HB2.out.bel⟩

set_option maxRecDepth 100000 in
set_option maxHeartbeats 8000000 in
theorem fo15_any {A : Array Value} {g : Nat → Int} {q : CallM} {a : Option Addr} {n c : Nat} {w : World} (hA : Cfg A g) (hI : KIn q n) (h : q.kind = 15) :
    Calls Tryd.prog 47 #[.agg A, .agg (q.cells a n c)] w fun e w' => e = .returned (.bool (!badC g q n)) ∧ Below w.heap.size w w' := by
  have HB0 := Lib.hid (wrb_new w hA q a n c)
  have HA := Lib.hid hA
  have HIN := Lib.hid hI
  have k0 : ((w.alloc (.cells A 50)).alloc (.cells (q.cells a n c) 29)).cell? ⟨w.heap.size + 1, 0, none⟩ = some (.int .u8 15) := by
    have hc := HB0.out.cell 0 (.int .u8 (q.kind : Int)) rfl
    rw [h] at hc
    exact hc
  have HE := Lib.hid (show (!badC g q n) = (decide (PgsR q.page q.count) && mayP g q.pk q.pm) from by
    unfold badC pagesC
    rw [h, if_neg (by decide), if_neg (by decide), if_neg (by decide), if_neg (by decide), if_neg (by decide), if_neg (by decide), if_pos (by decide), Bool.not_or, Bool.not_not, Bool.not_not])
  have HM := Lib.hid (fun V => lmay_any A g q.pk q.pm hI.ok.pk hI.ok.pm V hA)
  have HR := Lib.hid (fun V => hasRange_any hI.page a n c V)
  clear hA hI h
  go_enter Tryd.func47, Tryd.ntmps47
  go_wp2_with (first | (refine wpList_load_call rfl (.tmp 3) rfl (w.heap.size + 1) rfl HB0.out.blk ?_) | fail)
  generalize (w.alloc (.cells A 50)).alloc (.cells (q.cells a n c) 29) = wb at *
  refine (HR.out _).mono ?_
  rintro e w2 ⟨rfl, hb2⟩
  have HB2 := Lib.hid (HB0.out.later hb2)
  clear hb2 HR k0
  cases hd : decide (PgsR q.page q.count) with
  | false =>
    have HF := Lib.hid (show (!badC g q n) = false from by rw [HE.out, hd]; rfl)
    clear hd HE
    go_wp2_with (fail)
    go_ret
    exact ⟨by rw [HF.out]; rfl, HB2.out.bel⟩
  | true =>
    have HF := Lib.hid (show (!badC g q n) = mayP g q.pk q.pm from by rw [HE.out, hd]; rfl)
    clear hd HE
    have k8 := HB2.out.cell 8 (.int .u8 (q.pk : Int)) rfl
    have k9 := HB2.out.cell 9 (.int .u8 (q.pm : Int)) rfl
    go_wp2_with (first | (refine wpList_load_cfk rfl (.tmp 2) rfl w.heap.size rfl HB2.out.cfg ?_) | fail)
    refine (HM.out _).mono ?_
    rintro e w3 ⟨rfl, hb3⟩
    have HB3 := Lib.hid (HB2.out.later hb3)
    rw [← HF.out]
    clear hb3 k8 k9
    go_wp2_with (fail)
    go_ret
    exact ⟨rfl, HB3.out.bel⟩

set_option maxRecDepth 100000 in
set_option maxHeartbeats 8000000 in
theorem fo16_any {A : Array Value} {g : Nat → Int} {q : CallM} {a : Option Addr} {n c : Nat} {w : World} (hA : Cfg A g) (hI : KIn q n) (h : q.kind = 16) :
    Calls Tryd.prog 47 #[.agg A, .agg (q.cells a n c)] w fun e w' => e = .returned (.bool (!badC g q n)) ∧ Below w.heap.size w w' := by
  have HB0 := Lib.hid (wrb_new w hA q a n c)
  have HA := Lib.hid hA
  have HIN := Lib.hid hI
  have k0 : ((w.alloc (.cells A 50)).alloc (.cells (q.cells a n c) 29)).cell? ⟨w.heap.size + 1, 0, none⟩ = some (.int .u8 16) := by
    have hc := HB0.out.cell 0 (.int .u8 (q.kind : Int)) rfl
    rw [h] at hc
    exact hc
  have k3 := HB0.out.cell 3 (.int .i64 q.page) rfl
  have HE := Lib.hid (show (!badC g q n) = (decide (0 ≤ q.page) && decide (q.page < 1024)) from by
    unfold badC
    rw [h, if_neg (by decide), if_neg (by decide), if_neg (by decide), if_neg (by decide), if_neg (by decide), if_neg (by decide), if_neg (by decide), if_pos (by decide), ← Bool.decide_and, ← decide_not]
    exact decide_eq_decide.2 (by omega))
  clear hA hI h
  go_enter Tryd.func47, Tryd.ntmps47
  go_wp2_with (fail)
  generalize (w.alloc (.cells A 50)).alloc (.cells (q.cells a n c) 29) = wb at *
  refine (below_any _ _ _).mono ?_
  rintro e w2 ⟨rfl, rfl⟩
  rw [← HE.out]
  go_wp2_with (fail)
  go_ret
  exact ⟨rfl, HB0.out.bel⟩

set_option maxRecDepth 100000 in
set_option maxHeartbeats 8000000 in
theorem fo17_any {A : Array Value} {g : Nat → Int} {q : CallM} {a : Option Addr} {n c : Nat} {w : World} (hA : Cfg A g) (hI : KIn q n) (h : q.kind = 17) :
    Calls Tryd.prog 47 #[.agg A, .agg (q.cells a n c)] w fun e w' => e = .returned (.bool (!badC g q n)) ∧ Below w.heap.size w w' := by
  have HB0 := Lib.hid (wrb_new w hA q a n c)
  have HA := Lib.hid hA
  have HIN := Lib.hid hI
  have k0 : ((w.alloc (.cells A 50)).alloc (.cells (q.cells a n c) 29)).cell? ⟨w.heap.size + 1, 0, none⟩ = some (.int .u8 17) := by
    have hc := HB0.out.cell 0 (.int .u8 (q.kind : Int)) rfl
    rw [h] at hc
    exact hc
  have k3 := HB0.out.cell 3 (.int .i64 q.page) rfl
  have HE := Lib.hid (show (!badC g q n) = (decide (0 ≤ q.page) && decide (q.page < 1024)) from by
    unfold badC
    rw [h, if_neg (by decide), if_neg (by decide), if_neg (by decide), if_neg (by decide), if_neg (by decide), if_neg (by decide), if_neg (by decide), if_pos (by decide), ← Bool.decide_and, ← decide_not]
    exact decide_eq_decide.2 (by omega))
  clear hA hI h
  go_enter Tryd.func47, Tryd.ntmps47
  go_wp2_with (fail)
  generalize (w.alloc (.cells A 50)).alloc (.cells (q.cells a n c) 29) = wb at *
  refine (below_any _ _ _).mono ?_
  rintro e w2 ⟨rfl, rfl⟩
  rw [← HE.out]
  go_wp2_with (fail)
  go_ret
  exact ⟨rfl, HB0.out.bel⟩

set_option maxRecDepth 100000 in
set_option maxHeartbeats 8000000 in
theorem fo18_any {A : Array Value} {g : Nat → Int} {q : CallM} {a : Option Addr} {n c : Nat} {w : World} (hA : Cfg A g) (hI : KIn q n) (h : q.kind = 18) :
    Calls Tryd.prog 47 #[.agg A, .agg (q.cells a n c)] w fun e w' => e = .returned (.bool (!badC g q n)) ∧ Below w.heap.size w w' := by
  have HB0 := Lib.hid (wrb_new w hA q a n c)
  have HA := Lib.hid hA
  have HIN := Lib.hid hI
  have k0 : ((w.alloc (.cells A 50)).alloc (.cells (q.cells a n c) 29)).cell? ⟨w.heap.size + 1, 0, none⟩ = some (.int .u8 18) := by
    have hc := HB0.out.cell 0 (.int .u8 (q.kind : Int)) rfl
    rw [h] at hc
    exact hc
  have HE := Lib.hid (show (!badC g q n) = (decide (PgsR q.page q.count) && (decide (0 ≤ q.node) && decide (q.node < g 0))) from by
    unfold badC pagesC nodeC
    rw [h, if_neg (by decide), if_neg (by decide), if_neg (by decide), if_neg (by decide), if_neg (by decide), if_neg (by decide), if_neg (by decide), if_neg (by decide), if_pos (by decide), Bool.not_or, Bool.not_not]
    congr 1
    rw [← Bool.decide_and, ← decide_not]
    exact decide_eq_decide.2 (by omega))
  have HR := Lib.hid (fun V => hasRange_any hI.page a n c V)
  clear hA hI h
  go_enter Tryd.func47, Tryd.ntmps47
  go_wp2_with (first | (refine wpList_load_call rfl (.tmp 3) rfl (w.heap.size + 1) rfl HB0.out.blk ?_) | fail)
  generalize (w.alloc (.cells A 50)).alloc (.cells (q.cells a n c) 29) = wb at *
  refine (HR.out _).mono ?_
  rintro e w2 ⟨rfl, hb2⟩
  have HB2 := Lib.hid (HB0.out.later hb2)
  clear hb2 HR k0
  cases hd : decide (PgsR q.page q.count) with
  | false =>
    have HF := Lib.hid (show (!badC g q n) = false from by rw [HE.out, hd]; rfl)
    clear hd HE
    go_wp2_with (fail)
    go_ret
    exact ⟨by rw [HF.out]; rfl, HB2.out.bel⟩
  | true =>
    have HF := Lib.hid (show (!badC g q n) = (decide (0 ≤ q.node) && decide (q.node < g 0)) from by rw [HE.out, hd]; rfl)
    clear hd HE
    have k2 := HB2.out.cell 2 (.int .i64 q.node) rfl
    have kc := HB2.out.cfg.cell 0 (by decide)
    go_wp2_with (fail)
    refine (below_any _ _ _).mono ?_
    rintro e w3 ⟨rfl, rfl⟩
    rw [← HF.out]
    go_wp2_with (fail)
    go_ret
    exact ⟨rfl, HB2.out.bel⟩

set_option maxRecDepth 100000 in
set_option maxHeartbeats 8000000 in
theorem fo19_any {A : Array Value} {g : Nat → Int} {q : CallM} {a : Option Addr} {n c : Nat} {w : World} (hA : Cfg A g) (hI : KIn q n) (h : q.kind = 19) :
    Calls Tryd.prog 47 #[.agg A, .agg (q.cells a n c)] w fun e w' => e = .returned (.bool (!badC g q n)) ∧ Below w.heap.size w w' := by
  have HB0 := Lib.hid (wrb_new w hA q a n c)
  have HA := Lib.hid hA
  have HIN := Lib.hid hI
  have k0 : ((w.alloc (.cells A 50)).alloc (.cells (q.cells a n c) 29)).cell? ⟨w.heap.size + 1, 0, none⟩ = some (.int .u8 19) := by
    have hc := HB0.out.cell 0 (.int .u8 (q.kind : Int)) rfl
    rw [h] at hc
    exact hc
  have k2 := HB0.out.cell 2 (.int .i64 q.node) rfl
  have kc := HB0.out.cfg.cell 0 (by decide)
  have HE := Lib.hid (show (!badC g q n) = (decide (0 ≤ q.node) && decide (q.node < g 0)) from by
    unfold badC nodeC
    rw [h, if_neg (by decide), if_neg (by decide), if_neg (by decide), if_neg (by decide), if_neg (by decide), if_neg (by decide), if_neg (by decide), if_neg (by decide), if_neg (by decide), if_pos (by decide), ← Bool.decide_and, ← decide_not]
    exact decide_eq_decide.2 (by omega))
  clear hA hI h
  go_enter Tryd.func47, Tryd.ntmps47
  go_wp2_with (fail)
  generalize (w.alloc (.cells A 50)).alloc (.cells (q.cells a n c) 29) = wb at *
  refine (below_any _ _ _).mono ?_
  rintro e w2 ⟨rfl, rfl⟩
  rw [← HE.out]
  go_wp2_with (fail)
  go_ret
  exact ⟨rfl, HB0.out.bel⟩

set_option maxRecDepth 100000 in
set_option maxHeartbeats 8000000 in
theorem fo20_any {A : Array Value} {g : Nat → Int} {q : CallM} {a : Option Addr} {n c : Nat} {w : World} (hA : Cfg A g) (hI : KIn q n) (h : q.kind = 20) :
    Calls Tryd.prog 47 #[.agg A, .agg (q.cells a n c)] w fun e w' => e = .returned (.bool (!badC g q n)) ∧ Below w.heap.size w w' := by
  have HB0 := Lib.hid (wrb_new w hA q a n c)
  have HA := Lib.hid hA
  have HIN := Lib.hid hI
  have k0 : ((w.alloc (.cells A 50)).alloc (.cells (q.cells a n c) 29)).cell? ⟨w.heap.size + 1, 0, none⟩ = some (.int .u8 20) := by
    have hc := HB0.out.cell 0 (.int .u8 (q.kind : Int)) rfl
    rw [h] at hc
    exact hc
  have k2 := HB0.out.cell 2 (.int .i64 q.node) rfl
  have kc := HB0.out.cfg.cell 0 (by decide)
  have HE := Lib.hid (show (!badC g q n) = (decide (0 ≤ q.node) && decide (q.node < g 0)) from by
    unfold badC nodeC
    rw [h, if_neg (by decide), if_neg (by decide), if_neg (by decide), if_neg (by decide), if_neg (by decide), if_neg (by decide), if_neg (by decide), if_neg (by decide), if_neg (by decide), if_pos (by decide), ← Bool.decide_and, ← decide_not]
    exact decide_eq_decide.2 (by omega))
  clear hA hI h
  go_enter Tryd.func47, Tryd.ntmps47
  go_wp2_with (fail)
  generalize (w.alloc (.cells A 50)).alloc (.cells (q.cells a n c) 29) = wb at *
  refine (below_any _ _ _).mono ?_
  rintro e w2 ⟨rfl, rfl⟩
  rw [← HE.out]
  go_wp2_with (fail)
  go_ret
  exact ⟨rfl, HB0.out.bel⟩

theorem formed_any {A : Array Value} {g : Nat → Int} {q : CallM} {a : Option Addr} {n c : Nat} {w : World} (hA : Cfg A g) (hI : KIn q n) (hk : okK q.kind = true) :
    Calls Tryd.prog 47 #[.agg A, .agg (q.cells a n c)] w fun e w' => e = .returned (.bool (!badC g q n)) ∧ Below w.heap.size w w' := by
  have h21 := of_decide_eq_true hk
  rcases (show q.kind = 1 ∨ q.kind = 2 ∨ q.kind = 3 ∨ q.kind = 4 ∨ q.kind = 5 ∨ q.kind = 6 ∨ q.kind = 7 ∨ q.kind = 8 ∨ q.kind = 9 ∨ q.kind = 10 ∨ q.kind = 11 ∨ q.kind = 12 ∨ q.kind = 13 ∨ q.kind = 14 ∨ q.kind = 15 ∨ q.kind = 16 ∨ q.kind = 17 ∨ q.kind = 18 ∨ q.kind = 19 ∨ q.kind = 20 ∨ q.kind = 21 by omega) with h | h | h | h | h | h | h | h | h | h | h | h | h | h | h | h | h | h | h | h | h
  · exact fo1_any hA hI h
  · exact fo2_any hA hI h
  · exact fo3_any hA hI h
  · exact fo4_any hA hI h
  · exact fo5_any hA hI h
  · exact fo6_any hA hI h
  · exact fo7_any hA hI h
  · exact fo8_any hA hI h
  · exact fo9_any hA hI h
  · exact fo10_any hA hI h
  · exact fo11_any hA hI h
  · exact fo12_any hA hI h
  · exact fo13_any hA hI h
  · exact fo14_any hA hI h
  · exact fo15_any hA hI h
  · exact fo16_any hA hI h
  · exact fo17_any hA hI h
  · exact fo18_any hA hI h
  · exact fo19_any hA hI h
  · exact fo20_any hA hI h
  · exact fo21_any hA hI h
set_option maxRecDepth 100000 in
set_option maxHeartbeats 8000000 in
theorem kwrong_any {A : Array Value} {g : Nat → Int} {q : CallM} {a : Option Addr} {n c : Nat} {w : World} (hF : FldAt w) (hA : Cfg A g) (hI : KIn q n) :
    Calls Tryd.prog 23 #[.agg A, .agg (q.cells a n c)] w fun e w' => e = .returned (.bool (wrongC g q n)) ∧ Below w.heap.size w w' := by
  have HB0 := Lib.hid (wrb_new w hA q a n c)
  have HA := Lib.hid hA
  have HF := Lib.hid (hF.later HB0.out.bel)
  have HM := Lib.hid (fun V (hV : FldAt V) => kmay_any (NumOk.of hI) hI.ok.kind a c hV)
  have HE := Lib.hid (may_eq hI)
  have HFO := Lib.hid (fun V (hk : okK q.kind = true) => formed_any (a := a) (c := c) (w := V) hA hI hk)
  have HQ := Lib.hid (show wrongC g q n = (!mayB g || (!mayC q n || badC g q n)) from rfl)
  generalize wrongC g q n = R at *
  clear hF hA hI
  go_enter Tryd.func23, Tryd.ntmps23
  go_wp2_with (first | (refine wpList_load_cfk rfl (.tmp 2) rfl w.heap.size rfl HB0.out.cfg ?_) | fail)
  generalize (w.alloc (.cells A 50)).alloc (.cells (q.cells a n c) 29) = wb at *
  generalize hpb : w.heap.size + 1 = pb at *
  refine (may_any A g _ HA.out).mono ?_
  rintro e w2 ⟨rfl, hb2⟩
  have HB2 := Lib.hid (HB0.out.later hb2)
  have HF2 := Lib.hid (HF.out.later hb2)
  clear hb2
  cases hg : mayB g with
  | false =>
    have HR := Lib.hid (show R = true from by rw [HQ.out, hg]; rfl)
    clear hg HQ
    go_wp2_with (fail)
    go_ret
    exact ⟨by rw [HR.out]; rfl, HB2.out.bel⟩
  | true =>
    have HQ2 := Lib.hid (show R = (!mayC q n || badC g q n) from by rw [HQ.out, hg]; rfl)
    have hblk := HB2.out.blk
    rw [hpb] at hblk
    have HK := Lib.hid hblk
    clear hg HQ hblk
    go_wp2_with (first | (refine wpList_load_call rfl (.tmp 3) rfl pb rfl HK.out ?_) | fail)
    refine (HM.out _ HF2.out).mono ?_
    rintro e w3 ⟨rfl, hb3⟩
    rw [HE.out]
    have HB3 := Lib.hid (HB2.out.later hb3)
    clear hb3
    cases hm : mayC q n with
    | false =>
      have HR := Lib.hid (show R = true from by rw [HQ2.out, hm]; rfl)
      clear hm HQ2
      go_wp2_with (fail)
      go_ret
      exact ⟨by rw [HR.out]; rfl, HB3.out.bel⟩
    | true =>
      have HR := Lib.hid (show R = badC g q n from by rw [HQ2.out, hm]; rfl)
      have HOK := Lib.hid (mayC_parts hm).1
      have hblk := HB3.out.blk
      rw [hpb] at hblk
      have HK3 := Lib.hid hblk
      clear hm HQ2 hblk
      go_wp2_with (first | (refine wpList_load_cfk rfl (.tmp 2) rfl w.heap.size rfl HB3.out.cfg ?_) | (refine wpList_load_call rfl (.tmp 3) rfl pb rfl HK3.out ?_) | fail)
      refine (HFO.out _ HOK.out).mono ?_
      rintro e w4 ⟨rfl, hb4⟩
      have HB4 := Lib.hid (HB3.out.later hb4)
      rw [← HR.out]
      clear hb4
      go_wp2_with (fail)
      go_ret
      exact ⟨by cases R <;> rfl, HB4.out.bel⟩
end
end Go.Proofs.YtkmjkkeldbocdaaDoor
