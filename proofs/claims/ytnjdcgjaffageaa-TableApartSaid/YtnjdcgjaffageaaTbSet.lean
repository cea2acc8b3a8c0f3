/-
  table: the landed Get, SetLeaf, Set.
-/
import Derived.Test.YtnjdcgjaffageaaTbFn
namespace Go.Proofs.Ytnjdcgjaffageaa
open Go.RowKit Go.Shelf Go
attribute [local go_sem] Oper.semAt_some

section
variable {w w1 w' : World} {M : MB} {ST : Nat → Nat} {B : Nat → UInt8} {K : Nat → Mk} {R : Nat → Nat} {E : Nat → Nat → Ent}
theorem remW (P Q : Nat) (hq : P % 32 = Q) : (P : Int) % 32 = (Q : Int) := by omega
theorem SetT.from (hb : Below w.heap.size w w1) {R' : Nat → Nat} {E' : Nat → Nat → Ent} {c : Int} {e : Ending} (h : SetT w1 M ST B K R' E' c e w') : SetT w M ST B K R' E' c e w' := by
  obtain ⟨Y, h1, h2, h3⟩ := h
  exact ⟨Y, h1, h2, h3.at', (Only.of_below hb).trans h3.only, fun k hk => (h3.new k hk).imp id (fun h => Nat.le_trans hb.size h)⟩
theorem entV_of (x : Ent) (h : entOk x) : entV (wordV x) = x ∧ entE (wordV x) = 0 := ⟨ent_word h, if_pos (word_is h)⟩
set_option maxRecDepth 100000 in
set_option maxHeartbeats 2000000 in
theorem get_lan (H : MemAt w M ST B K) (T : MemT M B R E) (p : Nat) (hp : p < 1024) :
    Calls Try.prog 15 #[.pointer (some ⟨M.m, 0, none⟩), .int .i64 0, .int .i64 p] w fun e w' =>
      e = .returned (.tuple #[.agg #[.int .u8 (getX R E p).1, .int .i64 (getX R E p).2], .int .i64 0]) ∧ Below w.heap.size w w' := by
  have HB := Lib.hid ((Below.refl w.heap.size w).alloc (Nat.le_refl _) (.cells #[.int .u8 0, .int .i64 0] 23))
  have HR := Lib.hid (ent_row w (0, 0))
  obtain ⟨r, hr⟩ : ∃ r, R (p / 32) = r := ⟨_, rfl⟩
  have hr3 : r ≤ 3 := hr ▸ T.r3 _
  have HM := Lib.hid (H.later HB.out)
  have HT := Lib.hid T
  have HC := Lib.hid (leafE_any HM.out T p _ r hp rfl hr)
  obtain ⟨j, hj⟩ : ∃ j, p % 32 = j := ⟨_, rfl⟩
  have HQ := Lib.hid (remW p j hj)
  have hj32 : j < 32 := by omega
  unfold getX
  rw [hr, hj]
  clear H T hr hj hp
  by_cases h : r = 0
  · subst h
    rw [if_pos rfl] at HC ⊢
    dsimp only
    clear hr3 hj32
    go_enter Try.func15, Try.ntmps15
    go_wp2_with (fail)
    refine HC.out.mono ?_
    rintro e w2 ⟨rfl, hb⟩
    have HB2 := Lib.hid (HB.out.trans (hb.mono HB.out.size))
    have HR2 := Lib.hid (HR.out.later hb)
    have hr3 := ent_row w2 (0, (0 : Int))
    have HB3 := Lib.hid (HB2.out.alloc HB2.out.size (.cells #[.int .u8 0, .int .i64 0] 23))
    have hr4 := HR2.out.alloc (.cells #[.int .u8 0, .int .i64 0] 23)
    have o0 : (w2.alloc (.cells #[.int .u8 0, .int .i64 0] 23)).cell? ⟨w.heap.size, 0, none⟩ = some (.int .u8 0) := hr4.cell 0 (by decide)
    have o1 : (w2.alloc (.cells #[.int .u8 0, .int .i64 0] 23)).cell? ⟨w.heap.size, 1, none⟩ = some (.int .i64 0) := hr4.cell 1 (by decide)
    have z0 := hr4.frozen 0
    have z1 := hr4.frozen 1
    have c0 : (w2.alloc (.cells #[.int .u8 0, .int .i64 0] 23)).cell? ⟨w2.heap.size, 0, none⟩ = some (.int .u8 0) := hr3.cell 0 (by decide)
    have c1 : (w2.alloc (.cells #[.int .u8 0, .int .i64 0] 23)).cell? ⟨w2.heap.size, 1, none⟩ = some (.int .i64 0) := hr3.cell 1 (by decide)
    clear hr3 hr4 hb
    go_wp2_with (fail)
    exact ret_ent rfl rfl rfl rfl (x := 0) (y := 0) (by simp [go_sem, o0]) (by simp [go_sem, o1]) ⟨rfl, (HB3.out.setCell (p := ⟨w.heap.size, 0, none⟩) (Nat.le_refl _) _).setCell (p := ⟨w.heap.size, 1, none⟩) (Nat.le_refl _) _⟩
  · rw [if_neg h] at HC ⊢
    have h1 : 1 ≤ r := by omega
    have hok := HT.out.eok r j
    have HL := Lib.hid (fun W (HW : MemAt W M ST B K) => leaf_word HW HT.out r j h1 hr3 hj32)
    obtain ⟨k, n, hx⟩ : ∃ k n, E r j = (k, n) := ⟨_, _, rfl⟩
    obtain ⟨hv, he⟩ := entV_of _ hok
    have hlt := entV_lt (E r j)
    rw [hx] at hv he hlt HL ⊢
    have HD := Lib.hid (fun W (HW : MemAt W M ST B K) => read_any (r : Int) (j : Int) (wordV (k, n)) k n hlt hv he HL.out HW)
    dsimp only
    clear hr3 hj32 h h1 hok hx hv he hlt
    go_enter Try.func15, Try.ntmps15
    go_wp2_with (fail)
    refine HC.out.mono ?_
    rintro e w2 ⟨rfl, hb⟩
    have HB2 := Lib.hid (HB.out.trans (hb.mono HB.out.size))
    have HR2 := Lib.hid (HR.out.later hb)
    have hr3 := ent_row w2 (1, (r : Int))
    have HB3 := Lib.hid (HB2.out.alloc HB2.out.size (.cells #[.int .u8 1, .int .i64 r] 23))
    have HR3 := Lib.hid (HR2.out.alloc (.cells #[.int .u8 1, .int .i64 r] 23))
    have HM3 := Lib.hid ((HM.out.later hb).later ((Below.refl w2.heap.size w2).alloc (Nat.le_refl _) (.cells #[.int .u8 1, .int .i64 r] 23)))
    have c0 : (w2.alloc (.cells #[.int .u8 1, .int .i64 r] 23)).cell? ⟨w2.heap.size, 0, none⟩ = some (.int .u8 1) := hr3.cell 0 (by decide)
    have c1 : (w2.alloc (.cells #[.int .u8 1, .int .i64 r] 23)).cell? ⟨w2.heap.size, 1, none⟩ = some (.int .i64 r) := hr3.cell 1 (by decide)
    clear hr3 hb
    go_wp2_with (fail)
    rw [HQ.out]
    refine (HD.out _ HM3.out).mono ?_
    rintro e w4 ⟨rfl, hb⟩
    have HB4 := Lib.hid (HB3.out.trans (hb.mono HB3.out.size))
    have hr4 := HR3.out.later hb
    have o0 : w4.cell? ⟨w.heap.size, 0, none⟩ = some (.int .u8 0) := hr4.cell 0 (by decide)
    have o1 : w4.cell? ⟨w.heap.size, 1, none⟩ = some (.int .i64 0) := hr4.cell 1 (by decide)
    have z0 := hr4.frozen 0
    have z1 := hr4.frozen 1
    clear hr4 hb c0 c1
    go_wp2_with (fail)
    exact ret_ent rfl rfl rfl rfl (x := k) (y := n) (by simp [go_sem, o0]) (by simp [go_sem, o1]) ⟨rfl, (HB4.out.setCell (p := ⟨w.heap.size, 0, none⟩) (Nat.le_refl _) _).setCell (p := ⟨w.heap.size, 1, none⟩) (Nat.le_refl _) _⟩
theorem wordV_leaf (l : Nat) (hl : l ≤ 3) : wordV (if l = 0 then (0, 0) else (1, (l : Int))) = leafW l ∧ wordE (if l = 0 then (0, 0) else (1, (l : Int))) = 0 := by
  rcases (show l = 0 ∨ l = 1 ∨ l = 2 ∨ l = 3 by omega) with rfl | rfl | rfl | rfl <;> decide
set_option maxRecDepth 100000 in
set_option maxHeartbeats 2000000 in
theorem setLeaf_lan (H : MemAt w M ST B K) (T : MemT M B R E) (p : Int) (l : Nat) (hl : l ≤ 3) :
    Calls Try.prog 13 #[.pointer (some ⟨M.m, 0, none⟩), .int .i64 0, .int .i64 p, .int .i64 (if l = 0 then -1 else (l : Int))] w
      (SetT w M ST B K (if Pg p then setR R (p.toNat / 32) l else R) E (if Pg p then 0 else 2)) := by
  have HM := Lib.hid H
  have HT := Lib.hid T
  have HP := Lib.hid (fun W => pageMay_any p W)
  obtain ⟨hv, he⟩ := wordV_leaf l hl
  obtain ⟨k, n, hx⟩ : ∃ (k : Nat) (n : Int), (if l = 0 then ((0 : Nat), (0 : Int)) else (1, (l : Int))) = (k, n) := ⟨_, _, rfl⟩
  have hkn : k < 256 ∧ InI n := by
    rcases (show l = 0 ∨ l = 1 ∨ l = 2 ∨ l = 3 by omega) with rfl | rfl | rfl | rfl <;> cases hx <;> decide
  rw [hx] at hv he
  have HW := Lib.hid (fun W => word_lan W k n hkn.1 hkn.2)
  rw [hv, he] at HW
  clear hkn hv he
  by_cases hP : Pg p
  · rw [show decide (Pg p) = true from decide_eq_true hP] at HP
    rw [if_pos hP, if_pos hP]
    obtain ⟨P, rfl⟩ : ∃ P : Nat, p = P := ⟨p.toNat, by have := hP.1; omega⟩
    have hP2 : P < 1024 := by have := hP.2; omega
    obtain ⟨q, hq⟩ : ∃ q, P / 32 = q := ⟨_, rfl⟩
    rw [show ((P : Int).toNat / 32) = q by rw [Int.toNat_natCast]; exact hq]
    have HQ := Lib.hid (quoW P q hP2 hq)
    have HS := Lib.hid (fun W (HW : MemAt W M ST B K) => root_set HW HT.out q l (by omega) hl)
    clear H T hP hP2 hq
    by_cases h0 : l = 0
    · subst h0
      rw [if_pos rfl] at hx ⊢
      cases hx
      clear hl
      go_enter Try.func13, Try.ntmps13
      go_wp2_with (fail)
      refine (HW.out _).mono ?_
      rintro e w2 ⟨rfl, hb⟩
      have HB2 := Lib.hid (((Below.refl w.heap.size w).alloc (Nat.le_refl _) (.cells #[.int .u8 0, .int .i64 0] 23)).trans (hb.mono (by simp)))
      clear hb
      go_wp2_with (fail)
      refine (HP.out _).mono ?_
      rintro e w3 ⟨rfl, rfl⟩
      go_wp2_with (fail)
      rw [HQ.out]
      refine (HS.out _ (HM.out.later HB2.out)).mono ?_
      rintro e w4 hS
      have hS2 := hS.from HB2.out
      have e4 := hS.choose_spec.1
      subst e4
      have HS2 := Lib.hid hS2
      clear hS hS2
      go_wp2_with (fail)
      go_ret
      exact HS2.out
    · rw [if_neg h0] at hx ⊢
      cases hx
      have h1 : ((l : Int) == -1) = false := by simp
      have h2 : ¬ (l : Int) = -1 := by omega
      clear hl h0
      go_enter Try.func13, Try.ntmps13
      go_wp2_with (fail)
      refine (HW.out _).mono ?_
      rintro e w2 ⟨rfl, hb⟩
      have HB2 := Lib.hid (((Below.refl w.heap.size w).alloc (Nat.le_refl _) (.cells #[.int .u8 1, .int .i64 l] 23)).trans (hb.mono (by simp)))
      clear hb
      go_wp2_with (fail)
      refine (HP.out _).mono ?_
      rintro e w3 ⟨rfl, rfl⟩
      go_wp2_with (fail)
      rw [HQ.out]
      refine (HS.out _ (HM.out.later HB2.out)).mono ?_
      rintro e w4 hS
      have hS2 := hS.from HB2.out
      have e4 := hS.choose_spec.1
      subst e4
      have HS2 := Lib.hid hS2
      clear hS hS2
      go_wp2_with (fail)
      go_ret
      exact HS2.out
  · rw [show decide (Pg p) = false from decide_eq_false hP] at HP
    rw [if_neg hP, if_neg hP]
    clear hP H T
    by_cases h0 : l = 0
    · subst h0
      rw [if_pos rfl] at hx ⊢
      cases hx
      clear hl
      go_enter Try.func13, Try.ntmps13
      go_wp2_with (fail)
      refine (HW.out _).mono ?_
      rintro e w2 ⟨rfl, hb⟩
      have HB2 := Lib.hid (((Below.refl w.heap.size w).alloc (Nat.le_refl _) (.cells #[.int .u8 0, .int .i64 0] 23)).trans (hb.mono (by simp)))
      clear hb
      go_wp2_with (fail)
      refine (HP.out _).mono ?_
      rintro e w3 ⟨rfl, rfl⟩
      go_wp2_with (fail)
      go_ret
      exact SetT.same HM.out HT.out HB2.out
    · rw [if_neg h0] at hx ⊢
      cases hx
      have h1 : ((l : Int) == -1) = false := by simp
      have h2 : ¬ (l : Int) = -1 := by omega
      clear hl h0
      go_enter Try.func13, Try.ntmps13
      go_wp2_with (fail)
      refine (HW.out _).mono ?_
      rintro e w2 ⟨rfl, hb⟩
      have HB2 := Lib.hid (((Below.refl w.heap.size w).alloc (Nat.le_refl _) (.cells #[.int .u8 1, .int .i64 l] 23)).trans (hb.mono (by simp)))
      clear hb
      go_wp2_with (fail)
      refine (HP.out _).mono ?_
      rintro e w3 ⟨rfl, rfl⟩
      go_wp2_with (fail)
      go_ret
      exact SetT.same HM.out HT.out HB2.out
set_option maxRecDepth 100000 in
set_option maxHeartbeats 2000000 in
theorem set_lan (H : MemAt w M ST B K) (T : MemT M B R E) (p : Int) (k : Nat) (n : Int) (hk : k < 256) (hn : InI n) :
    Calls Try.prog 14 #[.pointer (some ⟨M.m, 0, none⟩), .int .i64 0, .int .i64 p, .agg #[.int .u8 k, .int .i64 n]] w
      (SetT w M ST B K R (if Pg p ∧ entOk (k, n) ∧ R (p.toNat / 32) ≠ 0 then setX E (R (p.toNat / 32)) (p.toNat % 32) (k, n) else E) (if Pg p ∧ entOk (k, n) then (if R (p.toNat / 32) = 0 then 7 else 0) else 2)) := by
  have HM := Lib.hid H
  have HT := Lib.hid T
  have HB1 := Lib.hid ((Below.refl w.heap.size w).alloc (Nat.le_refl _) (.cells #[.int .u8 k, .int .i64 n] 23))
  have hr := ent_row w (k, n)
  have c0 : (w.alloc (.cells #[.int .u8 k, .int .i64 n] 23)).cell? ⟨w.heap.size, 0, none⟩ = some (.int .u8 k) := hr.cell 0 (by decide)
  have c1 : (w.alloc (.cells #[.int .u8 k, .int .i64 n] 23)).cell? ⟨w.heap.size, 1, none⟩ = some (.int .i64 n) := hr.cell 1 (by decide)
  have HW := Lib.hid (fun W => word_lan W k n hk hn)
  clear hr hk hn
  by_cases ho : entOk (k, n)
  · rw [show wordE (k, n) = 0 from if_pos ho] at HW
    by_cases hP : Pg p
    · obtain ⟨P, rfl⟩ : ∃ P : Nat, p = P := ⟨p.toNat, by have := hP.1; omega⟩
      have hP2 : P < 1024 := by have := hP.2; omega
      rw [show (P : Int).toNat = P from rfl]
      obtain ⟨r, hr⟩ : ∃ r, R (P / 32) = r := ⟨_, rfl⟩
      have hr3 : r ≤ 3 := hr ▸ T.r3 _
      obtain ⟨j, hj⟩ : ∃ j, P % 32 = j := ⟨_, rfl⟩
      rw [if_pos (show Pg (P : Int) ∧ entOk (k, n) from ⟨hP, ho⟩), hr, hj]
      have HL := Lib.hid (fun W (HW : MemAt W M ST B K) => leaf_any HW HT.out P _ r (P : Int) rfl hP2 rfl hr)
      have HQ := Lib.hid (remW P j hj)
      by_cases h0 : r = 0
      · rw [if_neg (fun h => h.2.2 h0)]
        subst h0
        rw [if_pos rfl] at HL ⊢
        clear H T ho hP hP2 hr hr3 hj
        go_enter Try.func14, Try.ntmps14
        go_wp2_with (fail)
        refine (HW.out _).mono ?_
        rintro e w2 ⟨rfl, hb⟩
        have HB2 := Lib.hid (HB1.out.trans (hb.mono HB1.out.size))
        clear hb c0 c1
        go_wp2_with (fail)
        refine (HL.out _ (HM.out.later HB2.out)).mono ?_
        rintro e w3 ⟨rfl, hb⟩
        have HB3 := Lib.hid (HB2.out.trans (hb.mono HB2.out.size))
        clear hb
        go_wp2_with (fail)
        go_ret
        exact SetT.same HM.out HT.out HB3.out
      · rw [if_pos ⟨hP, ho, h0⟩]
        rw [if_neg h0] at HL ⊢
        have HS := Lib.hid (fun W (HW : MemAt W M ST B K) => leaf_set HW HT.out r j (k, n) (by omega) hr3 (by omega) ho)
        clear H T ho hP hP2 hr hr3 hj h0
        go_enter Try.func14, Try.ntmps14
        go_wp2_with (fail)
        refine (HW.out _).mono ?_
        rintro e w2 ⟨rfl, hb⟩
        have HB2 := Lib.hid (HB1.out.trans (hb.mono HB1.out.size))
        clear hb c0 c1
        go_wp2_with (fail)
        refine (HL.out _ (HM.out.later HB2.out)).mono ?_
        rintro e w3 ⟨rfl, hb⟩
        have HB3 := Lib.hid (HB2.out.trans (hb.mono HB2.out.size))
        clear hb
        go_wp2_with (fail)
        rw [HQ.out]
        refine (HS.out _ (HM.out.later HB3.out)).mono ?_
        rintro e w4 hS
        have hS2 := hS.from HB3.out
        have e4 := hS.choose_spec.1
        subst e4
        have HS2 := Lib.hid hS2
        clear hS hS2
        go_wp2_with (fail)
        go_ret
        exact HS2.out
    · rw [if_neg (fun h => hP h.1), if_neg (fun h => hP h.1)]
      have HL := Lib.hid (fun W => leaf_no (w := W) (some ⟨M.m, 0, none⟩) p hP)
      clear hP H T ho
      go_enter Try.func14, Try.ntmps14
      go_wp2_with (fail)
      refine (HW.out _).mono ?_
      rintro e w2 ⟨rfl, hb⟩
      have HB2 := Lib.hid (HB1.out.trans (hb.mono HB1.out.size))
      clear hb c0 c1
      go_wp2_with (fail)
      refine (HL.out _).mono ?_
      rintro e w3 ⟨rfl, hb⟩
      have HB3 := Lib.hid (HB2.out.trans (hb.mono HB2.out.size))
      clear hb
      go_wp2_with (fail)
      go_ret
      exact SetT.same HM.out HT.out HB3.out
  · rw [show wordE (k, n) = 2 from if_neg ho] at HW
    rw [if_neg (fun h => ho h.2.1), if_neg (fun h => ho h.2)]
    clear H T ho
    go_enter Try.func14, Try.ntmps14
    go_wp2_with (fail)
    refine (HW.out _).mono ?_
    rintro e w2 ⟨rfl, hb⟩
    have HB2 := Lib.hid (HB1.out.trans (hb.mono HB1.out.size))
    clear hb c0 c1
    go_wp2_with (fail)
    go_ret
    exact SetT.same HM.out HT.out HB2.out
end
end Go.Proofs.Ytnjdcgjaffageaa
