/-
  table: the landed read, leafEntry, Leaf, Get, SetLeaf, Set; of a memory whose words are a root and three leaves.
-/
import Derived.Test.YtnjdcgjaffageaaTbWd
import Derived.Test.YtnjdcgjaffageaaTbMem
import Derived.Test.YtnjdcgjaffageaaTbLv
namespace Go.Proofs.Ytnjdcgjaffageaa
open Go.RowKit Go.Shelf Go
attribute [local go_sem] Oper.semAt_some

section
variable {w : World} {M : MB} {ST : Nat → Nat} {B : Nat → UInt8} {K : Nat → Mk} {R : Nat → Nat} {E : Nat → Nat → Ent}
theorem leafW_lt (r : Nat) (h : r ≤ 3) : leafW r < 18446744073709551616 := by unfold leafW; split <;> omega
theorem leafW_entV (r : Nat) (h : r ≤ 3) : entV (leafW r) = (if r = 0 then 0 else 1, (r : Int)) ∧ entE (leafW r) = 0 := by
  rcases (show r = 0 ∨ r = 1 ∨ r = 2 ∨ r = 3 by omega) with rfl | rfl | rfl | rfl <;> decide
set_option maxRecDepth 100000 in
set_option maxHeartbeats 2000000 in
/-- A word of a frame, read as an entry. -/
theorem read_any (fi ji : Int) (x : Nat) (k : Nat) (n : Int) (hx : x < 18446744073709551616) (hv : entV x = (k, n)) (he : entE x = 0)
    (hw : ∀ W, MemAt W M ST B K → Calls Try.prog 35 #[.pointer (some ⟨M.m, 0, none⟩), .int .i64 fi, .int .i64 ji] W fun e w' => e = .returned (.tuple #[.int .u64 x, .int .i64 0]) ∧ W = w')
    (H : MemAt w M ST B K) :
    Calls Try.prog 24 #[.pointer (some ⟨M.m, 0, none⟩), .int .i64 fi, .int .i64 ji] w fun e w' => e = .returned (.tuple #[.agg #[.int .u8 k, .int .i64 n], .int .i64 0]) ∧ Below w.heap.size w w' := by
  have HB := Lib.hid ((Below.refl w.heap.size w).alloc (Nat.le_refl _) (.cells #[.int .u8 0, .int .i64 0] 23))
  have HR := Lib.hid (ent_row w (0, 0))
  have HC := Lib.hid (hw _ (H.later ((Below.refl w.heap.size w).alloc (Nat.le_refl _) (.cells #[.int .u8 0, .int .i64 0] 23))))
  have HE := Lib.hid (fun W => entry_lan W x hx)
  rw [hv, he] at HE
  clear hw hv he hx H
  go_enter Try.func24, Try.ntmps24
  go_wp2_with (fail)
  refine HC.out.mono ?_
  rintro e w1 ⟨rfl, rfl⟩
  go_wp2_with (fail)
  refine (HE.out _).mono ?_
  rintro e w2 ⟨rfl, hb⟩
  have hr2 := HR.out.later hb
  have HB2 := Lib.hid (HB.out.trans (hb.mono HB.out.size))
  have o0 : w2.cell? ⟨w.heap.size, 0, none⟩ = some (.int .u8 0) := hr2.cell 0 (by decide)
  have o1 : w2.cell? ⟨w.heap.size, 1, none⟩ = some (.int .i64 0) := hr2.cell 1 (by decide)
  have z0 := hr2.frozen 0
  have z1 := hr2.frozen 1
  clear hr2 hb
  go_wp2_with (fail)
  exact ret_ent rfl rfl rfl rfl (x := k) (y := n) (by simp [go_sem, o0]) (by simp [go_sem, o1]) ⟨rfl, (HB2.out.setCell (p := ⟨w.heap.size, 0, none⟩) (Nat.le_refl _) _).setCell (p := ⟨w.heap.size, 1, none⟩) (Nat.le_refl _) _⟩
theorem quoW (P Q : Nat) (h : P < 1024) (hq : P / 32 = Q) : wrap64 ((P : Int) / 32) = (Q : Int) := by
  rw [IntWalk.wrap64_in _ ⟨by omega, by omega⟩]
  omega
set_option maxRecDepth 100000 in
set_option maxHeartbeats 2000000 in
theorem leafE_any (H : MemAt w M ST B K) (T : MemT M B R E) (p q r : Nat) (hp : p < 1024) (hq : p / 32 = q) (hr : R q = r) :
    Calls Try.prog 23 #[.pointer (some ⟨M.m, 0, none⟩), .int .i64 0, .int .i64 p] w fun e w' => e = .returned (.tuple #[.agg #[.int .u8 (if r = 0 then 0 else 1), .int .i64 r], .int .i64 0]) ∧ Below w.heap.size w w' := by
  have hr3 : r ≤ 3 := hr ▸ T.r3 q
  have HB := Lib.hid ((Below.refl w.heap.size w).alloc (Nat.le_refl _) (.cells #[.int .u8 0, .int .i64 0] 23))
  have HR := Lib.hid (ent_row w (0, 0))
  have HQ := Lib.hid (quoW p q hp hq)
  obtain ⟨k, hk⟩ : ∃ k : Nat, k = if r = 0 then 0 else 1 := ⟨_, rfl⟩
  have hkI : (if r = 0 then (0 : Int) else 1) = k := by rw [hk]; split <;> rfl
  rw [hkI]
  have HC := Lib.hid (read_any (M := M) (B := B) (ST := ST) (K := K) 0 q (leafW r) k r (leafW_lt r hr3) (by rw [hk]; exact (leafW_entV r hr3).1) (leafW_entV r hr3).2 (fun W HW => by
    have h := root_word HW T q (by omega)
    rw [hr] at h
    exact h) (H.later ((Below.refl w.heap.size w).alloc (Nat.le_refl _) (.cells #[.int .u8 0, .int .i64 0] 23))))
  have hk1 : ¬ (1 : Int) < k := by rw [hk]; split <;> decide
  have HP := Lib.hid (fun W => pageMay_any p W)
  rw [show decide (Pg (p : Int)) = true from decide_eq_true ⟨by omega, by omega⟩] at HP
  clear H T hr hr3 hk hkI hq hp
  go_enter Try.func23, Try.ntmps23
  go_wp2_with (fail)
  refine (HP.out _).mono ?_
  rintro e w1 ⟨rfl, rfl⟩
  go_wp2_with (fail)
  rw [HQ.out]
  refine HC.out.mono ?_
  rintro e w2 ⟨rfl, hb⟩
  have HB2 := Lib.hid (HB.out.trans (hb.mono HB.out.size))
  have HR2 := Lib.hid (HR.out.later hb)
  have hr3 := ent_row w2 (k, (r : Int))
  have HB3 := Lib.hid (HB2.out.alloc HB2.out.size (.cells #[.int .u8 k, .int .i64 r] 23))
  have hr4 := HR2.out.alloc (.cells #[.int .u8 k, .int .i64 r] 23)
  have o0 : (w2.alloc (.cells #[.int .u8 k, .int .i64 r] 23)).cell? ⟨w.heap.size, 0, none⟩ = some (.int .u8 0) := hr4.cell 0 (by decide)
  have o1 : (w2.alloc (.cells #[.int .u8 k, .int .i64 r] 23)).cell? ⟨w.heap.size, 1, none⟩ = some (.int .i64 0) := hr4.cell 1 (by decide)
  have z0 := hr4.frozen 0
  have z1 := hr4.frozen 1
  have c0 : (w2.alloc (.cells #[.int .u8 k, .int .i64 r] 23)).cell? ⟨w2.heap.size, 0, none⟩ = some (.int .u8 k) := hr3.cell 0 (by decide)
  have c1 : (w2.alloc (.cells #[.int .u8 k, .int .i64 r] 23)).cell? ⟨w2.heap.size, 1, none⟩ = some (.int .i64 r) := hr3.cell 1 (by decide)
  clear hr3 hr4 hb
  go_wp2_with (fail)
  exact ret_ent rfl rfl rfl rfl (x := k) (y := r) (by simp [go_sem, o0]) (by simp [go_sem, o1]) ⟨rfl, (HB3.out.setCell (p := ⟨w.heap.size, 0, none⟩) (Nat.le_refl _) _).setCell (p := ⟨w.heap.size, 1, none⟩) (Nat.le_refl _) _⟩
set_option maxRecDepth 100000 in
theorem leafE_no (m : Option Addr) (p : Int) (hp : ¬ Pg p) : Calls Try.prog 23 #[.pointer m, .int .i64 0, .int .i64 p] w fun e w' => e = .returned (.tuple #[.agg #[.int .u8 0, .int .i64 0], .int .i64 2]) ∧ Below w.heap.size w w' := by
  have HB := Lib.hid ((Below.refl w.heap.size w).alloc (Nat.le_refl _) (.cells #[.int .u8 0, .int .i64 0] 23))
  have HR := Lib.hid (ent_row w (0, 0))
  have HP := Lib.hid (fun W => pageMay_any p W)
  rw [show decide (Pg p) = false from decide_eq_false hp] at HP
  clear hp
  go_enter Try.func23, Try.ntmps23
  go_wp2_with (fail)
  refine (HP.out _).mono ?_
  rintro e w1 ⟨rfl, rfl⟩
  have o0 : (w.alloc (.cells #[.int .u8 0, .int .i64 0] 23)).cell? ⟨w.heap.size, 0, none⟩ = some (.int .u8 0) := HR.out.cell 0 (by decide)
  have o1 : (w.alloc (.cells #[.int .u8 0, .int .i64 0] 23)).cell? ⟨w.heap.size, 1, none⟩ = some (.int .i64 0) := HR.out.cell 1 (by decide)
  have z0 := HR.out.frozen 0
  have z1 := HR.out.frozen 1
  go_wp2_with (fail)
  exact ret_ent rfl rfl rfl rfl o0 o1 ⟨rfl, HB.out⟩
set_option maxRecDepth 100000 in
/-- The page's leaf. -/
theorem leaf_any (H : MemAt w M ST B K) (T : MemT M B R E) (p q r : Nat) (pi : Int) (ep : pi = p) (hp : p < 1024) (hq : p / 32 = q) (hr : R q = r) :
    Calls Try.prog 22 #[.pointer (some ⟨M.m, 0, none⟩), .int .i64 0, .int .i64 pi] w fun e w' => e = .returned (.tuple #[.int .i64 r, .int .i64 (if r = 0 then 7 else 0)]) ∧ Below w.heap.size w w' := by
  subst ep
  have HC := Lib.hid (leafE_any H T p q r hp hq hr)
  clear H T hr hq hp
  by_cases h : r = 0
  · subst h
    rw [if_pos rfl] at HC ⊢
    go_enter Try.func22, Try.ntmps22
    go_wp2_with (fail)
    refine HC.out.mono ?_
    rintro e w1 ⟨rfl, hb⟩
    have hr3 := ent_row w1 (0, 0)
    have c0 : (w1.alloc (.cells #[.int .u8 0, .int .i64 0] 23)).cell? ⟨w1.heap.size, 0, none⟩ = some (.int .u8 0) := hr3.cell 0 (by decide)
    have HB := Lib.hid (hb.alloc hb.size (.cells #[.int .u8 0, .int .i64 0] 23))
    clear hr3 hb
    go_wp2_with (fail)
    go_ret2
    exact ⟨rfl, HB.out⟩
  · rw [if_neg h] at HC ⊢
    clear h
    go_enter Try.func22, Try.ntmps22
    go_wp2_with (fail)
    refine HC.out.mono ?_
    rintro e w1 ⟨rfl, hb⟩
    have hr3 := ent_row w1 (1, (r : Int))
    have c0 : (w1.alloc (.cells #[.int .u8 1, .int .i64 r] 23)).cell? ⟨w1.heap.size, 0, none⟩ = some (.int .u8 1) := hr3.cell 0 (by decide)
    have c1 : (w1.alloc (.cells #[.int .u8 1, .int .i64 r] 23)).cell? ⟨w1.heap.size, 1, none⟩ = some (.int .i64 r) := hr3.cell 1 (by decide)
    have HB := Lib.hid (hb.alloc hb.size (.cells #[.int .u8 1, .int .i64 r] 23))
    clear hr3 hb
    go_wp2_with (fail)
    go_ret2
    exact ⟨rfl, HB.out⟩
set_option maxRecDepth 100000 in
theorem leaf_no (m : Option Addr) (p : Int) (hp : ¬ Pg p) : Calls Try.prog 22 #[.pointer m, .int .i64 0, .int .i64 p] w fun e w' => e = .returned (.tuple #[.int .i64 0, .int .i64 2]) ∧ Below w.heap.size w w' := by
  have HC := Lib.hid (leafE_no (w := w) m p hp)
  clear hp
  go_enter Try.func22, Try.ntmps22
  go_wp2_with (fail)
  refine HC.out.mono ?_
  rintro e w1 ⟨rfl, hb⟩
  have hr3 := ent_row w1 (0, 0)
  have c1 : (w1.alloc (.cells #[.int .u8 0, .int .i64 0] 23)).cell? ⟨w1.heap.size, 1, none⟩ = some (.int .i64 0) := hr3.cell 1 (by decide)
  have HB := Lib.hid (hb.alloc hb.size (.cells #[.int .u8 0, .int .i64 0] 23))
  clear hr3 hb
  go_wp2_with (fail)
  go_ret2
  exact ⟨rfl, HB.out⟩
end
end Go.Proofs.Ytnjdcgjaffageaa
