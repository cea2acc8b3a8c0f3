/-
  areas: the landed Map, Unmap, Protect, Mapped, New, Copy.
-/
import Derived.Test.YthnkbipdlepbaaaArTurn
namespace Go.Proofs.Ythnkbipdlepbaaa
open Go.RowKit Go.Shelf Go
attribute [local go_sem] Oper.semAt_some

/-- The areas, as a thing. -/
def thA (d : Nat) (L : Rns) : Thg := ⟨fun w => AAt w d L, fun k => k = d, fun _ _ _ h ho hs => RowAt.only h ho (hs d rfl), fun _ h k hk => by rw [hk]; exact RowAt.lt h⟩
def IsAr (X : Thg) (d : Nat) (f : Nat → Nat) : Prop := X = thA d (rns f) ∧ (∀ i, f i ≤ 3) ∧ (∀ i, 1024 ≤ i → f i = 0) ∧ (rns f).length ≤ 32
/-- What a call that turns leaves. -/
def SetQ (w : World) (d : Nat) (f : Nat → Nat) (E : Int) (g : Nat → Nat) (e : Ending) (w' : World) : Prop := ∃ Y, e = .returned (.int .i64 E) ∧ IsAr Y d g ∧ TTurn w (thA d (rns f)) w' Y
section
variable {w w' : World} {d : Nat} {f : Nat → Nat}
theorem SetQ.same (h : IsAr (thA d (rns f)) d f) (hA : AAt w d (rns f)) {E : Int} (hb : Below w.heap.size w w') : SetQ w d f E f (.returned (.int .i64 E)) w' :=
  ⟨thA d (rns f), rfl, h, RowAt.later hA hb, Only.of_below hb, fun _ hk => .inl hk⟩
/-- Behind a turn. -/
theorem SetQ.turned {w1 : World} (h : IsAr (thA d (rns f)) d f) (hb : Below w.heap.size w w1) {p c r : Nat} (hpc : p + c ≤ 1024) (hr : r ≤ 3) {e : Ending} (hT : TurnP w1 d (rns f) (turnR (rns f) p c r) e w') : SetQ w d f (setE f p c r) (setA f p c r) e w' := by
  have e1 : turnR (rns f) p c r = rns (setF f p c r) := turnR_runs f p c r hpc _ (fun i => rfl)
  rw [e1] at hT
  obtain ⟨h1, h2, h3⟩ := hT
  have ho : Only (fun k => k = d) w w' := (Only.of_below hb).trans h3
  by_cases h32 : 32 < (rns (setF f p c r)).length
  · rw [if_pos h32] at h1 h2
    have e2 : setE f p c r = 9 := if_pos h32
    have e3 : setA f p c r = f := if_pos h32
    rw [e2, e3]
    exact ⟨thA d (rns f), h1, h, h2, ho, fun _ hk => .inl hk⟩
  · rw [if_neg h32] at h1 h2
    have e2 : setE f p c r = 0 := if_neg h32
    have e3 : setA f p c r = setF f p c r := if_neg h32
    rw [e2, e3]
    refine ⟨thA d (rns (setF f p c r)), h1, ⟨rfl, fun i => ?_, fun i hi => ?_, by omega⟩, h2, ho, fun _ hk => .inl hk⟩
    · unfold setF
      split
      · exact hr
      · exact h.2.1 i
    · unfold setF
      rw [if_neg (by omega)]
      exact h.2.2.1 i hi
set_option maxRecDepth 100000 in
set_option maxHeartbeats 2000000 in
theorem askedFor_yes (p c : Int) (r : Nat) (h : MayR p c) (h1 : 1 ≤ r) (h3 : r ≤ 3) : Calls Try.prog 26 #[.pointer (some ⟨d, 0, none⟩), .int .i64 p, .int .i64 c, .int .u8 r] w fun e w' => e = .returned (.int .i64 0) ∧ w = w' := by
  have HK := Lib.hid (asked_yes (d := d) w p c h)
  have n1 : ((r : Int) == 0) = false := by simp; omega
  have n2 : ¬ (3 : Int) < (r : Int) := by omega
  clear h h1 h3
  go_enter Try.func26, Try.ntmps26
  go_wp2_with (fail)
  refine HK.out.mono ?_
  rintro e w1 ⟨rfl, rfl⟩
  go_wp2_with (fail)
  go_ret
  exact ⟨rfl, rfl⟩
set_option maxRecDepth 100000 in
set_option maxHeartbeats 2000000 in
theorem askedFor_no (p c : Int) (r : Nat) (hp : LeI p) (hn : ¬ (MayR p c ∧ 1 ≤ r ∧ r ≤ 3)) : Calls Try.prog 26 #[.pointer (some ⟨d, 0, none⟩), .int .i64 p, .int .i64 c, .int .u8 r] w fun e w' => e = .returned (.int .i64 2) ∧ w = w' := by
  by_cases h : MayR p c
  · have HK := Lib.hid (asked_yes (d := d) w p c h)
    by_cases h1 : r = 0
    · subst h1
      clear h hn hp
      go_enter Try.func26, Try.ntmps26
      go_wp2_with (fail)
      refine HK.out.mono ?_
      rintro e w1 ⟨rfl, rfl⟩
      go_wp2_with (fail)
      go_ret
      exact ⟨rfl, rfl⟩
    · have n1 : ((r : Int) == 0) = false := by simp; omega
      have n2 : (3 : Int) < (r : Int) := by
        have : ¬ (1 ≤ r ∧ r ≤ 3) := fun h2 => hn ⟨h, h2⟩
        omega
      clear h hn hp h1
      go_enter Try.func26, Try.ntmps26
      go_wp2_with (fail)
      refine HK.out.mono ?_
      rintro e w1 ⟨rfl, rfl⟩
      go_wp2_with (fail)
      go_ret
      exact ⟨rfl, rfl⟩
  · have HK := Lib.hid (asked_wrong (d := d) w p c h hp)
    clear h hn hp
    go_enter Try.func26, Try.ntmps26
    go_wp2_with (fail)
    refine HK.out.mono ?_
    rintro e w1 ⟨rfl, rfl⟩
    go_wp2_with (fail)
    go_ret
    exact ⟨rfl, rfl⟩
set_option maxRecDepth 100000 in
set_option maxHeartbeats 4000000 in
theorem amap_any (h : IsAr (thA d (rns f)) d f) (hA : AAt w d (rns f)) (p c : Int) (r : Nat) (hp : Okp p r) :
    Calls Try.prog 11 #[.pointer (some ⟨d, 0, none⟩), .int .i64 p, .int .i64 c, .int .u8 r] w (SetQ w d f (mapE f p c r) (mapA f p c r)) := by
  have D := runs_desc f 1024
  unfold mapE mapA
  by_cases hm : MayR p c ∧ 1 ≤ r ∧ r ≤ 3
  · rw [if_pos hm, if_pos hm]
    have HK := Lib.hid (askedFor_yes (d := d) (w := w) p c r hm.1 hm.2.1 hm.2.2)
    obtain ⟨k, ek, ek2⟩ := nat_int hm.1.1
    obtain ⟨n, en, en2⟩ := nat_int (show 0 ≤ c by have := hm.1.2.2.1; omega)
    have hfit : k + n ≤ 1024 := by have := hm.1.2.2.2.2; omega
    have hr3 := hm.2.2
    rw [ek2, en2]
    clear hm
    subst ek; subst en
    clear ek2 en2 hp
    have HM := Lib.hid (amapped_any hA D h.2.2.2 k n hfit)
    have HI := Lib.hid h
    have HA := Lib.hid hA
    have HD := Lib.hid D
    by_cases hc : 0 < cntM f k n
    · rw [if_pos hc, if_pos hc]
      have hcI : (0 : Int) < (cntM f k n : Int) := by omega
      clear hc h hA D
      generalize cntM f k n = C at *
      go_enter Try.func11, Try.ntmps11
      go_wp2_with (fail)
      refine HK.out.mono ?_
      rintro e w1 ⟨rfl, rfl⟩
      go_wp2_with (fail)
      refine HM.out.mono ?_
      rintro e w2 ⟨rfl, hb⟩
      have HB := Lib.hid hb
      clear hb
      go_wp2_with (fail)
      go_ret
      exact SetQ.same HI.out HA.out HB.out
    · rw [if_neg hc, if_neg hc]
      obtain hc0 : cntM f k n = 0 := by omega
      rw [hc0] at HM
      clear hc h hA D hc0
      go_enter Try.func11, Try.ntmps11
      go_wp2_with (fail)
      refine HK.out.mono ?_
      rintro e w1 ⟨rfl, rfl⟩
      go_wp2_with (fail)
      refine HM.out.mono ?_
      rintro e w2 ⟨rfl, hb⟩
      have HB := Lib.hid hb
      clear hb
      go_wp2_with (fail)
      refine (aturn_any (HA.out.later HB.out) HD.out HI.out.2.2.2 k n r hfit).mono ?_
      intro e w3 hT
      have hq := SetQ.turned HI.out HB.out hfit hr3 hT
      obtain ⟨Y, rfl, hY, hTT⟩ := hq
      have HF := Lib.hid (show SetQ w d f (setE f k n r) (setA f k n r) (.returned (.int .i64 (setE f k n r))) w3 from ⟨Y, rfl, hY, hTT⟩)
      clear hT hY hTT
      go_wp2_with (fail)
      go_ret
      exact HF.out
  · rw [if_neg hm, if_neg hm]
    have HK := Lib.hid (askedFor_no (d := d) (w := w) p c r hp.2 hm)
    have HI := Lib.hid h
    have HA := Lib.hid hA
    clear h hA D hm hp
    go_enter Try.func11, Try.ntmps11
    go_wp2_with (fail)
    refine HK.out.mono ?_
    rintro e w1 ⟨rfl, rfl⟩
    go_wp2_with (fail)
    go_ret
    exact SetQ.same HI.out HA.out (Below.refl _ _)
set_option maxRecDepth 100000 in
set_option maxHeartbeats 4000000 in
theorem aunmap_any (h : IsAr (thA d (rns f)) d f) (hA : AAt w d (rns f)) (p c : Int) (hp : LeI p) :
    Calls Try.prog 13 #[.pointer (some ⟨d, 0, none⟩), .int .i64 p, .int .i64 c] w (SetQ w d f (unmE f p c) (unmA f p c)) := by
  have D := runs_desc f 1024
  unfold unmE unmA
  by_cases hm : MayR p c
  · rw [if_pos hm, if_pos hm]
    have HK := Lib.hid (asked_yes (d := d) w p c hm)
    obtain ⟨k, ek, ek2⟩ := nat_int hm.1
    obtain ⟨n, en, en2⟩ := nat_int (show 0 ≤ c by have := hm.2.2.1; omega)
    have hfit : k + n ≤ 1024 := by have := hm.2.2.2.2; omega
    rw [ek2, en2]
    clear hm
    subst ek; subst en
    clear ek2 en2 hp
    have HI := Lib.hid h
    have HA := Lib.hid hA
    have HD := Lib.hid D
    have HB := Lib.hid (Below.refl w.heap.size w)
    clear h hA D
    go_enter Try.func13, Try.ntmps13
    go_wp2_with (fail)
    refine HK.out.mono ?_
    rintro e w1 ⟨rfl, rfl⟩
    go_wp2_with (fail)
    refine (aturn_any (HA.out.later HB.out) HD.out HI.out.2.2.2 k n 0 hfit).mono ?_
    intro e w3 hT
    have hq := SetQ.turned HI.out HB.out hfit (by omega) hT
    obtain ⟨Y, rfl, hY, hTT⟩ := hq
    have HF := Lib.hid (show SetQ w d f (setE f k n 0) (setA f k n 0) (.returned (.int .i64 (setE f k n 0))) w3 from ⟨Y, rfl, hY, hTT⟩)
    clear hT hY hTT
    go_wp2_with (fail)
    go_ret
    exact HF.out
  · rw [if_neg hm, if_neg hm]
    have HK := Lib.hid (asked_wrong (d := d) w p c hm hp)
    clear hm hp D
    have HI := Lib.hid h
    have HA := Lib.hid hA
    clear h hA
    go_enter Try.func13, Try.ntmps13
    go_wp2_with (fail)
    refine HK.out.mono ?_
    rintro e w1 ⟨rfl, rfl⟩
    go_wp2_with (fail)
    go_ret
    exact SetQ.same HI.out HA.out (Below.refl _ _)
set_option maxRecDepth 100000 in
set_option maxHeartbeats 4000000 in
theorem ampd_any (h : IsAr (thA d (rns f)) d f) (hA : AAt w d (rns f)) (p c : Int) (hp : LeI p) :
    Calls Try.prog 17 #[.pointer (some ⟨d, 0, none⟩), .int .i64 p, .int .i64 c] w fun e w' => e = .returned (.int .i64 (mpdE f p c)) ∧ Below w.heap.size w w' := by
  have D := runs_desc f 1024
  unfold mpdE
  by_cases hm : MayR p c
  · rw [if_pos hm]
    have HK := Lib.hid (asked_yes (d := d) w p c hm)
    obtain ⟨k, ek, ek2⟩ := nat_int hm.1
    obtain ⟨n, en, en2⟩ := nat_int (show 0 ≤ c by have := hm.2.2.1; omega)
    have hfit : k + n ≤ 1024 := by have := hm.2.2.2.2; omega
    rw [ek2, en2]
    clear hm
    subst ek; subst en
    clear ek2 en2 hp
    have HM := Lib.hid (amapped_any hA D h.2.2.2 k n hfit)
    clear h hA D
    generalize cntM f k n = C at *
    by_cases hc : C < n
    · rw [if_pos hc]
      have hcI : (C : Int) < (n : Int) := by omega
      clear hc
      go_enter Try.func17, Try.ntmps17
      go_wp2_with (fail)
      refine HK.out.mono ?_
      rintro e w1 ⟨rfl, rfl⟩
      go_wp2_with (fail)
      refine HM.out.mono ?_
      rintro e w2 ⟨rfl, hb⟩
      have HB := Lib.hid hb
      clear hb
      go_wp2_with (fail)
      go_ret
      exact ⟨rfl, HB.out⟩
    · rw [if_neg hc]
      have hcI : ¬ (C : Int) < (n : Int) := by omega
      clear hc
      go_enter Try.func17, Try.ntmps17
      go_wp2_with (fail)
      refine HK.out.mono ?_
      rintro e w1 ⟨rfl, rfl⟩
      go_wp2_with (fail)
      refine HM.out.mono ?_
      rintro e w2 ⟨rfl, hb⟩
      have HB := Lib.hid hb
      clear hb
      go_wp2_with (fail)
      go_ret
      exact ⟨rfl, HB.out⟩
  · rw [if_neg hm]
    have HK := Lib.hid (asked_wrong (d := d) w p c hm hp)
    clear hm hp D h hA
    go_enter Try.func17, Try.ntmps17
    go_wp2_with (fail)
    refine HK.out.mono ?_
    rintro e w1 ⟨rfl, rfl⟩
    go_wp2_with (fail)
    go_ret
    exact ⟨rfl, Below.refl _ _⟩
set_option maxRecDepth 100000 in
set_option maxHeartbeats 4000000 in
theorem apro_any (h : IsAr (thA d (rns f)) d f) (hA : AAt w d (rns f)) (p c : Int) (r : Nat) (hp : Okp p r) :
    Calls Try.prog 15 #[.pointer (some ⟨d, 0, none⟩), .int .i64 p, .int .i64 c, .int .u8 r] w (SetQ w d f (proE f p c r) (proA f p c r)) := by
  have D := runs_desc f 1024
  unfold proE proA mpdE
  by_cases hm : MayR p c ∧ 1 ≤ r ∧ r ≤ 3
  · rw [if_pos hm.2, if_pos hm.2, if_pos hm.1]
    have HK := Lib.hid (askedFor_yes (d := d) (w := w) p c r hm.1 hm.2.1 hm.2.2)
    obtain ⟨k, ek, ek2⟩ := nat_int hm.1.1
    obtain ⟨n, en, en2⟩ := nat_int (show 0 ≤ c by have := hm.1.2.2.1; omega)
    have hfit : k + n ≤ 1024 := by have := hm.1.2.2.2.2; omega
    have hr3 := hm.2.2
    rw [ek2, en2]
    clear hm
    subst ek; subst en
    clear ek2 en2 hp
    have HM := Lib.hid (amapped_any hA D h.2.2.2 k n hfit)
    have HI := Lib.hid h
    have HA := Lib.hid hA
    have HD := Lib.hid D
    clear h hA D
    by_cases hc : cntM f k n < n
    · rw [if_pos hc, if_neg (by decide), if_neg (by decide)]
      have hcI : (cntM f k n : Int) < (n : Int) := by omega
      clear hc
      generalize cntM f k n = C at *
      go_enter Try.func15, Try.ntmps15
      go_wp2_with (fail)
      refine HK.out.mono ?_
      rintro e w1 ⟨rfl, rfl⟩
      go_wp2_with (fail)
      refine HM.out.mono ?_
      rintro e w2 ⟨rfl, hb⟩
      have HB := Lib.hid hb
      clear hb
      go_wp2_with (fail)
      go_ret
      exact SetQ.same HI.out HA.out HB.out
    · rw [if_neg hc, if_pos rfl, if_pos rfl]
      have hcI : ¬ (cntM f k n : Int) < (n : Int) := by omega
      clear hc
      generalize cntM f k n = C at *
      go_enter Try.func15, Try.ntmps15
      go_wp2_with (fail)
      refine HK.out.mono ?_
      rintro e w1 ⟨rfl, rfl⟩
      go_wp2_with (fail)
      refine HM.out.mono ?_
      rintro e w2 ⟨rfl, hb⟩
      have HB := Lib.hid hb
      clear hb
      go_wp2_with (fail)
      refine (aturn_any (HA.out.later HB.out) HD.out HI.out.2.2.2 k n r hfit).mono ?_
      intro e w3 hT
      have hq := SetQ.turned HI.out HB.out hfit (by omega) hT
      obtain ⟨Y, rfl, hY, hTT⟩ := hq
      have HF := Lib.hid (show SetQ w d f (setE f k n r) (setA f k n r) (.returned (.int .i64 (setE f k n r))) w3 from ⟨Y, rfl, hY, hTT⟩)
      clear hT hY hTT
      go_wp2_with (fail)
      go_ret
      exact HF.out
  · have e1 : (if 1 ≤ r ∧ r ≤ 3 then (if (if MayR p c then (if cntM f p.toNat c.toNat < c.toNat then (7 : Int) else 0) else 2) = 0 then setE f p.toNat c.toNat r else (if MayR p c then (if cntM f p.toNat c.toNat < c.toNat then 7 else 0) else 2)) else 2) = 2 := by
      by_cases h2 : 1 ≤ r ∧ r ≤ 3
      · rw [if_pos h2, if_neg (fun h3 => hm ⟨h3, h2⟩), if_neg (by decide)]
      · rw [if_neg h2]
    have e2 : (if 1 ≤ r ∧ r ≤ 3 then (if (if MayR p c then (if cntM f p.toNat c.toNat < c.toNat then (7 : Int) else 0) else 2) = 0 then setA f p.toNat c.toNat r else f) else f) = f := by
      by_cases h2 : 1 ≤ r ∧ r ≤ 3
      · rw [if_pos h2, if_neg (fun h3 => hm ⟨h3, h2⟩), if_neg (by decide)]
      · rw [if_neg h2]
    rw [e1, e2]
    have HK := Lib.hid (askedFor_no (d := d) (w := w) p c r hp.2 hm)
    clear hm hp D e1 e2
    have HI := Lib.hid h
    have HA := Lib.hid hA
    clear h hA
    go_enter Try.func15, Try.ntmps15
    go_wp2_with (fail)
    refine HK.out.mono ?_
    rintro e w1 ⟨rfl, rfl⟩
    go_wp2_with (fail)
    go_ret
    exact SetQ.same HI.out HA.out (Below.refl _ _)
end
end Go.Proofs.Ythnkbipdlepbaaa
