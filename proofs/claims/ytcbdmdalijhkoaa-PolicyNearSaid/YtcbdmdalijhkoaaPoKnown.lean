/-
  policy's laws: known.
-/
import Derived.Test.YtcbdmdalijhkoaaPoThree
namespace Go.Proofs.Ytcbdmdalijhkoaa
open Go.RowKit Go
attribute [local go_sem] Oper.semAt_some

theorem three_may : mayB (thG 3 3 0) = true := by decide +kernel
theorem three_good : Good (thG 3 3 0) := (good_iff _).1 three_may
theorem near3 (k : Nat) (hk : k < 3) : nearN (thG 3 3 0) k 3 = if k = 0 then [0, 1, 2] else if k = 1 then [1, 0, 2] else [2, 0, 1] := by
  have hl := ordL_length (thG 3 3 0) k 3
  have h0 := ord_first (g := thG 3 3 0) (k := k) (n := 3) three_good rfl hk
  have l1 := ordL_lt (g := thG 3 3 0) (k := k) (n := 3) (j := 1) (by decide) (by decide)
  have l2 := ordL_lt (g := thG 3 3 0) (k := k) (n := 3) (j := 2) (by decide) (by decide)
  have n1 := ordL_ne (g := thG 3 3 0) (k := k) (n := 3) (i := 0) (j := 1) (by decide) (by decide) (by decide)
  have n2 := ordL_ne (g := thG 3 3 0) (k := k) (n := 3) (i := 0) (j := 2) (by decide) (by decide) (by decide)
  have n3 := ordL_ne (g := thG 3 3 0) (k := k) (n := 3) (i := 1) (j := 2) (by decide) (by decide) (by decide)
  have le := ordL_le (g := thG 3 3 0) (k := k) (n := 3) (i := 1) (j := 2) (by decide) (by decide)
  have dist : ∀ v, v < 3 → v ≠ k → thG 3 3 0 (26 + k * 8 + v) = 9 := by
    have : ∀ k, k < 3 → ∀ v, v < 3 → v ≠ k → thG 3 3 0 (26 + k * 8 + v) = 9 := by decide
    exact this k hk
  unfold nearN
  generalize ordL (thG 3 3 0) k 3 = l at *
  match l, hl with
  | [x, y, z], _ =>
    simp at h0 l1 l2 n1 n2 n3 le
    rw [dist _ l1 (by omega), dist _ l2 (by omega)] at le
    simp only [List.map_cons, List.map_nil]
    rcases (show k = 0 ∨ k = 1 ∨ k = 2 by omega) with rfl | rfl | rfl
    · rw [if_pos rfl, h0, show y.val = 1 by omega, show z.val = 2 by omega]
    · rw [if_neg (by decide), if_pos rfl, h0, show y.val = 0 by omega, show z.val = 2 by omega]
    · rw [if_neg (by decide), if_neg (by decide), h0, show y.val = 0 by omega, show z.val = 1 by omega]
theorem known_e1 : ordE (thG 3 3 0) 3 5 1 5 = 0 := by decide +kernel
theorem known_e2 : ordE (thG 3 3 0) 2 5 2 0 = 0 := by decide +kernel
theorem known_q1 : ordQ (thG 3 3 0) 3 5 1 5 = [2, 0, 1] := by
  unfold ordQ
  rw [if_pos known_e1]
  show polL (thG 3 3 0) 3 3 5 1 5 = _
  unfold polL
  rw [if_neg (by decide), if_neg (by decide), if_pos rfl, near3 1 (by decide)]
  decide +kernel
theorem known_q2 : ordQ (thG 3 3 0) 2 5 2 0 = [2, 0] := by
  unfold ordQ
  rw [if_pos known_e2]
  show polL (thG 3 3 0) 3 2 5 2 0 = _
  unfold polL
  rw [if_neg (by decide), if_neg (by decide), if_neg (by decide), near3 2 (by decide)]
  decide +kernel
theorem lst_lit3 (w : World) (t : TypeId) (x y z : Nat) : LstAt (w.alloc (.cells #[.int .i64 (x : Int), .int .i64 (y : Int), .int .i64 (z : Int)] t)) (.slice (some ⟨w.heap.size, 0, none⟩) 3 3) [x, y, z] := by
  refine ⟨_, 3, rfl, fun i v hi => ⟨_, _, rfl, ?_⟩⟩
  rw [cell_of_row _ _ _ _ _ _ (heap_alloc_new w _)]
  match i, hi with
  | 0, hi => simp at hi; subst hi; rfl
  | 1, hi => simp at hi; subst hi; rfl
  | 2, hi => simp at hi; subst hi; rfl
theorem lst_lit2 (w : World) (t : TypeId) (x y : Nat) : LstAt (w.alloc (.cells #[.int .i64 (x : Int), .int .i64 (y : Int)] t)) (.slice (some ⟨w.heap.size, 0, none⟩) 2 2) [x, y] := by
  refine ⟨_, 2, rfl, fun i v hi => ⟨_, _, rfl, ?_⟩⟩
  rw [cell_of_row _ _ _ _ _ _ (heap_alloc_new w _)]
  match i, hi with
  | 0, hi => simp at hi; subst hi; rfl
  | 1, hi => simp at hi; subst hi; rfl
section
variable (ok : PoOk)
include ok
set_option maxRecDepth 100000 in
set_option maxHeartbeats 4000000 in
theorem pknown_any (w : World) : Calls Try.prog 11 #[] w fun e w' => e = .returned (.bool true) ∧ Below w.heap.size w w' := by
  go_enter Try.func11, Try.ntmps11
  go_wp2_with (fail)
  refine (three_any w).mono ?_
  rintro e w1 ⟨T1, rfl, hT1, hb1⟩
  have HT1 := Lib.hid hT1
  have HB1 := Lib.hid hb1
  clear hT1 hb1
  go_wp2_with (fail)
  refine (ok.order w1 T1 (thG 3 3 0) 3 5 1 5 HT1.out (by decide) (by decide) ⟨by decide, by decide⟩ ⟨by decide, by decide⟩).mono ?_
  rintro e w2 ⟨v1, rfl, hL1, hb2⟩
  rw [known_e1]
  rw [known_q1] at hL1
  have HL1 := Lib.hid hL1
  have HB2 := Lib.hid (HB1.out.trans (hb2.mono HB1.out.size))
  obtain ⟨a1, c1, rfl, _⟩ := hL1
  clear hb2 HB1
  go_wp2_with (fail)
  refine (three_any w2).mono ?_
  rintro e w3 ⟨T2, rfl, hT2, hb3⟩
  have HT2 := Lib.hid hT2
  have HB3 := Lib.hid (HB2.out.trans (hb3.mono HB2.out.size))
  have HL13 := Lib.hid (HL1.out.later hb3)
  clear hT2 hb3 HB2 HL1
  go_wp2_with (fail)
  refine (ok.order w3 T2 (thG 3 3 0) 2 5 2 0 HT2.out (by decide) (by decide) ⟨by decide, by decide⟩ ⟨by decide, by decide⟩).mono ?_
  rintro e w4 ⟨v2, rfl, hL2, hb4⟩
  rw [known_e2]
  rw [known_q2] at hL2
  have HL2 := Lib.hid hL2
  have HB4 := Lib.hid (HB3.out.trans (hb4.mono HB3.out.size))
  have HL14 := Lib.hid (HL13.out.later hb4)
  obtain ⟨a2, c2, rfl, _⟩ := hL2
  clear hb4 HB3 HL13
  go_wp2_with (fail)
  have hba := (Below.refl w4.heap.size w4).alloc (Nat.le_refl _) (.cells #[.int .i64 2, .int .i64 0, .int .i64 1] 3)
  have HM1 := Lib.hid (lst_lit3 w4 3 2 0 1)
  have HB5 := Lib.hid (HB4.out.trans (hba.mono HB4.out.size))
  have HL15 := Lib.hid (HL14.out.later hba)
  have HL25 := Lib.hid (HL2.out.later hba)
  clear hba HB4 HL14 HL2
  refine (alike_any HL15.out HM1.out (by decide)).mono ?_
  rintro e w5 ⟨rfl, hb⟩
  rw [show sameL [2, 0, 1] [2, 0, 1] = true from by decide]
  have HB6 := Lib.hid (HB5.out.trans (hb.mono HB5.out.size))
  have HL26 := Lib.hid (HL25.out.later hb)
  clear hb HB5 HL15 HL25 HM1
  go_wp2_with (fail)
  have hba := (Below.refl w5.heap.size w5).alloc (Nat.le_refl _) (.cells #[.int .i64 2, .int .i64 0] 3)
  have HM2 := Lib.hid (lst_lit2 w5 3 2 0)
  have HB7 := Lib.hid (HB6.out.trans (hba.mono HB6.out.size))
  have HL27 := Lib.hid (HL26.out.later hba)
  clear hba HB6 HL26
  refine (alike_any HL27.out HM2.out (by decide)).mono ?_
  rintro e w6 ⟨rfl, hb⟩
  rw [show sameL [2, 0] [2, 0] = true from by decide]
  have HB8 := Lib.hid (HB7.out.trans (hb.mono HB7.out.size))
  clear hb HB7 HL27 HM2
  go_wp2_with (fail)
  refine (ok.allowed w6 2 5 1 (by decide) (by decide) ⟨by decide, by decide⟩).mono ?_
  rintro e w7 ⟨rfl, hb⟩
  rw [show allowP 2 5 1 = false from by decide]
  have HB9 := Lib.hid (HB8.out.trans (hb.mono HB8.out.size))
  clear hb HB8
  go_wp2_with (fail)
  go_ret
  exact ⟨rfl, HB9.out⟩
end
end Go.Proofs.Ytcbdmdalijhkoaa
