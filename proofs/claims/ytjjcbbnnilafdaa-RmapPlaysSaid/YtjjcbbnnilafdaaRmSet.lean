/-
  rmap, the document's: Set, Clear.
-/
import Derived.Test.YtjjcbbnnilafdaaRmRef
namespace Go.Proofs.Ytjjcbbnnilafdaa
open Go.RowKit Go.Shelf Go
attribute [local go_sem] Oper.semAt_some

/-- What a call that turns leaves. -/
def RsP (w : World) (rb lb N : Nat) (E : Int) (g : Nat → Ownr) (e : Ending) (w' : World) : Prop := e = .returned (.int .i64 E) ∧ RefM w' rb lb N g ∧ Only (fun k => k = lb) w w'
section
variable {w w' : World} {rb lb N : Nat} {f : Nat → Ownr}
theorem RsP.same (R : RefM w rb lb N f) {E : Int} (hb : Below w.heap.size w w') : RsP w rb lb N E f (.returned (.int .i64 E)) w' := ⟨rfl, R.later hb, Only.of_below hb⟩
theorem RefM.put (R : RefM w rb lb N f) (i y1 y2 : Nat) : RefM ((w.setCell ⟨lb, i * 2, none⟩ (.int .i64 y1)).setCell ⟨lb, i * 2 + 1, none⟩ (.int .i64 y2)) rb lb N (updO f i (y1, y2)) ∧
    Only (fun k => k = lb) w ((w.setCell ⟨lb, i * 2, none⟩ (.int .i64 y1)).setCell ⟨lb, i * 2 + 1, none⟩ (.int .i64 y2)) := by
  have ho : Only (fun k => k = lb) w ((w.setCell ⟨lb, i * 2, none⟩ (.int .i64 y1)).setCell ⟨lb, i * 2 + 1, none⟩ (.int .i64 y2)) :=
    (Only.setCell (S := fun k => k = lb) w ⟨lb, i * 2, none⟩ rfl _).trans (Only.setCell (S := fun k => k = lb) _ ⟨lb, i * 2 + 1, none⟩ rfl _)
  obtain ⟨cap, e⟩ := R.c0
  refine ⟨⟨⟨cap, ho.cell R.ne e⟩, ((R.row.setCell (i * 2) (.int .i64 y1)).setCell (i * 2 + 1) (.int .i64 y2)).ext (fun j _ => ?_), R.ne⟩, ho⟩
  unfold updV pgV updO
  by_cases h1 : j = i * 2 + 1
  · subst h1
    rw [if_pos rfl, if_neg (by omega), if_pos (by omega)]
  · rw [if_neg h1]
    by_cases h0 : j = i * 2
    · subst h0
      rw [if_pos rfl, if_pos (by omega), if_pos (by omega)]
    · rw [if_neg h0, if_neg (show ¬ j / 2 = i by omega)]
theorem frI_nat (p : Int) (q : Nat) (hp : 1 ≤ p) : (0 ≤ frI f N p q) ↔ (findF f (p.toNat, q) N).isSome = true := by
  unfold frI
  rw [if_pos hp]
  cases findF f (p.toNat, q) N with
  | some i => simp
  | none => simp
set_option maxRecDepth 100000 in
set_option maxHeartbeats 4000000 in
theorem rset_any (R : RefM w rb lb N f) (hN : N ≤ 1024) (x p q : Int) : Calls Try.prog 13 #[.pointer (some ⟨rb, 0, none⟩), .int .i64 x, .int .i64 p, .int .i64 q] w (RsP w rb lb N (rsE f N x p q) (rsF f N x p q)) := by
  have HR := Lib.hid R
  obtain ⟨cap, c0⟩ := R.c0
  have HM := Lib.hid (fun W => rmay_any W p q)
  clear R
  by_cases hx0 : x < 0
  · have e1 : rsE f N x p q = 2 := if_neg (fun h => by have := h.1.1; omega)
    have e2 : rsF f N x p q = f := if_neg (by rw [e1]; decide)
    rw [e1, e2]
    clear e1 e2 HM
    go_enter Try.func13, Try.ntmps13
    go_wp2_with (fail)
    go_ret
    exact RsP.same HR.out (Below.refl _ _)
  · by_cases hxN : (N : Int) ≤ x
    · have e1 : rsE f N x p q = 2 := if_neg (fun h => by have := h.1.2; omega)
      have e2 : rsF f N x p q = f := if_neg (by rw [e1]; decide)
      rw [e1, e2]
      clear e1 e2 HM
      go_enter Try.func13, Try.ntmps13
      go_wp2_with (fail)
      go_ret
      exact RsP.same HR.out (Below.refl _ _)
    · have hxN2 : ¬ (N : Int) ≤ x := hxN
      by_cases hpg : PgOk p q
      · obtain ⟨X, rfl⟩ : ∃ X : Nat, x = X := ⟨x.toNat, by omega⟩
        obtain ⟨P, rfl⟩ : ∃ P : Nat, p = P := ⟨p.toNat, by have := hpg.1; omega⟩
        obtain ⟨Q, rfl⟩ : ∃ Q : Nat, q = Q := ⟨q.toNat, by have := hpg.2.2.1; omega⟩
        have hlt : X < N := by omega
        have hltI : (X : Int) < (N : Int) := by omega
        have HD := Lib.hid (decide_eq_true hpg)
        have hp1 := hpg.1
        obtain ⟨y, hy⟩ : ∃ y, f X = y := ⟨_, rfl⟩
        obtain ⟨y1, y2⟩ := y
        obtain ⟨k0, k1⟩ := HR.out.at hlt hy
        have hfx : FrOk N (X : Int) ∧ PgOk (P : Int) (Q : Int) := ⟨⟨by omega, by omega⟩, hpg⟩
        have HF := Lib.hid (rfind_any HR.out hN (P : Int) Q)
        by_cases h0 : y1 = 0
        · have hy0 : ((y1 : Int) == 0) = true := by simp [h0]
          cases hs : (findF f ((P : Int).toNat, (Q : Int).toNat) N).isSome with
          | true =>
            have e1 : rsE f N X P Q = 8 := by
              unfold rsE
              rw [if_pos hfx, Int.toNat_natCast, hy, if_neg (by simp [h0])]
              rw [hs]
              rfl
            have e2 : rsF f N X P Q = f := if_neg (by rw [e1]; decide)
            rw [e1, e2]
            have hfr : (0 : Int) ≤ frI f N P Q := (frI_nat (P : Int) Q hp1).2 (by rw [← hs]; simp)
            generalize frI f N P Q = fr at *
            subst h0
            clear e1 e2 hs hfx hy hpg hy0
            go_enter Try.func13, Try.ntmps13
            go_wp2_with (fail)
            refine (HM.out _).mono ?_
            rintro e w1 ⟨rfl, rfl⟩
            rw [HD.out]
            go_wp2_with (fail)
            refine HF.out.mono ?_
            rintro e w2 ⟨rfl, hb⟩
            have HB := Lib.hid hb
            clear hb
            go_wp2_with (fail)
            go_ret
            exact RsP.same HR.out HB.out
          | false =>
            have e1 : rsE f N X P Q = 0 := by
              unfold rsE
              rw [if_pos hfx, Int.toNat_natCast, hy, if_neg (by simp [h0])]
              rw [hs]
              rfl
            have e2 : rsF f N X P Q = updO f X (P, Q) := by
              unfold rsF
              rw [if_pos e1]
              simp
            rw [e1, e2]
            have hfr : frI f N P Q < 0 := by
              apply Classical.byContradiction
              intro h
              have h2 := (frI_nat (f := f) (N := N) (P : Int) Q hp1).1 (Int.not_lt.1 h)
              rw [Int.toNat_natCast] at h2 hs
              rw [Int.toNat_natCast] at hs
              rw [h2] at hs
              cases hs
            generalize frI f N P Q = fr at *
            subst h0
            clear e1 e2 hs hfx hy hpg hy0
            go_enter Try.func13, Try.ntmps13
            go_wp2_with (fail)
            refine (HM.out _).mono ?_
            rintro e w1 ⟨rfl, rfl⟩
            rw [HD.out]
            go_wp2_with (fail)
            refine HF.out.mono ?_
            rintro e w2 ⟨rfl, hb⟩
            have HR2 := Lib.hid (HR.out.later hb)
            have HB := Lib.hid hb
            obtain ⟨cap2, c02⟩ := HR2.out.c0
            have d0 := HR2.out.row.cell (X * 2) (by omega)
            have d1 := HR2.out.row.cell (X * 2 + 1) (by omega)
            have z0 := HR2.out.row.frozen (X * 2)
            have z1 := HR2.out.row.frozen (X * 2 + 1)
            clear hb
            go_wp2_with (fail)
            go_ret
            obtain ⟨a1, a2⟩ := HR2.out.put X P Q
            exact ⟨rfl, a1, (Only.of_below HB.out).trans a2⟩
        · have e1 : rsE f N X P Q = 80 := by
            unfold rsE
            rw [if_pos hfx, Int.toNat_natCast, hy, if_pos h0]
          have e2 : rsF f N X P Q = f := if_neg (by rw [e1]; decide)
          rw [e1, e2]
          have hy0 : ((y1 : Int) == 0) = false := by simp; omega
          have hy1 : ¬ y1 = 0 := h0
          clear e1 e2 hfx hy hpg HF
          go_enter Try.func13, Try.ntmps13
          go_wp2_with (fail)
          refine (HM.out _).mono ?_
          rintro e w1 ⟨rfl, rfl⟩
          rw [HD.out]
          go_wp2_with (fail)
          go_ret
          exact RsP.same HR.out (Below.refl _ _)
      · have e1 : rsE f N x p q = 2 := if_neg (fun h => hpg h.2)
        have e2 : rsF f N x p q = f := if_neg (by rw [e1]; decide)
        have HD := Lib.hid (decide_eq_false hpg)
        rw [e1, e2]
        clear e1 e2 hpg
        go_enter Try.func13, Try.ntmps13
        go_wp2_with (fail)
        refine (HM.out _).mono ?_
        rintro e w1 ⟨rfl, rfl⟩
        rw [HD.out]
        go_wp2_with (fail)
        go_ret
        exact RsP.same HR.out (Below.refl _ _)
set_option maxRecDepth 100000 in
set_option maxHeartbeats 4000000 in
theorem rclear_any (R : RefM w rb lb N f) (x : Int) : Calls Try.prog 15 #[.pointer (some ⟨rb, 0, none⟩), .int .i64 x] w (RsP w rb lb N (rcE f N x) (rcF f N x)) := by
  have HR := Lib.hid R
  obtain ⟨cap, c0⟩ := R.c0
  clear R
  by_cases hx0 : x < 0
  · have e1 : rcE f N x = 2 := if_neg (fun h => by have := h.1; omega)
    have e2 : rcF f N x = f := if_neg (by rw [e1]; decide)
    rw [e1, e2]
    clear e1 e2
    go_enter Try.func15, Try.ntmps15
    go_wp2_with (fail)
    go_ret
    exact RsP.same HR.out (Below.refl _ _)
  · by_cases hxN : (N : Int) ≤ x
    · have e1 : rcE f N x = 2 := if_neg (fun h => by have := h.2; omega)
      have e2 : rcF f N x = f := if_neg (by rw [e1]; decide)
      rw [e1, e2]
      clear e1 e2
      go_enter Try.func15, Try.ntmps15
      go_wp2_with (fail)
      go_ret
      exact RsP.same HR.out (Below.refl _ _)
    · obtain ⟨X, rfl⟩ : ∃ X : Nat, x = X := ⟨x.toNat, by omega⟩
      have hlt : X < N := by omega
      have hltI : (X : Int) < (N : Int) := by omega
      obtain ⟨y, hy⟩ : ∃ y, f X = y := ⟨_, rfl⟩
      obtain ⟨y1, y2⟩ := y
      obtain ⟨k0, k1⟩ := HR.out.at hlt hy
      have hfx : FrOk N (X : Int) := ⟨by omega, by omega⟩
      by_cases h0 : y1 = 0
      · have e1 : rcE f N X = 7 := by
          unfold rcE
          rw [if_pos hfx, Int.toNat_natCast, hy, if_pos h0]
        have e2 : rcF f N X = f := if_neg (by rw [e1]; decide)
        rw [e1, e2]
        subst h0
        have k0 : w.cell? ⟨lb, X * 2, none⟩ = some (.int .i64 0) := k0
        clear e1 e2 hfx hy
        go_enter Try.func15, Try.ntmps15
        go_wp2_with (fail)
        go_ret
        exact RsP.same HR.out (Below.refl _ _)
      · have e1 : rcE f N X = 0 := by
          unfold rcE
          rw [if_pos hfx, Int.toNat_natCast, hy, if_neg h0]
        have e2 : rcF f N X = updO f X (0, 0) := by
          unfold rcF
          rw [if_pos e1, Int.toNat_natCast]
        rw [e1, e2]
        have hy0 : ((y1 : Int) == 0) = false := by simp; omega
        have z0 := HR.out.row.frozen (X * 2)
        have z1 := HR.out.row.frozen (X * 2 + 1)
        clear e1 e2 hfx hy
        go_enter Try.func15, Try.ntmps15
        go_wp2_with (fail)
        go_ret
        obtain ⟨a1, a2⟩ := HR.out.put X 0 0
        exact ⟨rfl, a1, a2⟩
end
end Go.Proofs.Ytjjcbbnnilafdaa
