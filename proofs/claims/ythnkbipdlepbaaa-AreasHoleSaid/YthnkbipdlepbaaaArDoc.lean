/-
  areas, the document's: Map, Unmap, Mapped, Protect.
-/
import Derived.Test.YthnkbipdlepbaaaArSet
namespace Go.Proofs.Ythnkbipdlepbaaa
open Go.RowKit Go
def mapE (f : Nat → Nat) (p c : Int) (r : Nat) : Int := if MayR p c ∧ 1 ≤ r ∧ r ≤ 3 then (if 0 < cntM f p.toNat c.toNat then 8 else setE f p.toNat c.toNat r) else 2
def mapA (f : Nat → Nat) (p c : Int) (r : Nat) : Nat → Nat := if MayR p c ∧ 1 ≤ r ∧ r ≤ 3 then (if 0 < cntM f p.toNat c.toNat then f else setA f p.toNat c.toNat r) else f
def unmE (f : Nat → Nat) (p c : Int) : Int := if MayR p c then setE f p.toNat c.toNat 0 else 2
def unmA (f : Nat → Nat) (p c : Int) : Nat → Nat := if MayR p c then setA f p.toNat c.toNat 0 else f
def mpdE (f : Nat → Nat) (p c : Int) : Int := if MayR p c then (if cntM f p.toNat c.toNat < c.toNat then 7 else 0) else 2
def proE (f : Nat → Nat) (p c : Int) (r : Nat) : Int := if 1 ≤ r ∧ r ≤ 3 then (if mpdE f p c = 0 then setE f p.toNat c.toNat r else mpdE f p c) else 2
def proA (f : Nat → Nat) (p c : Int) (r : Nat) : Nat → Nat := if 1 ≤ r ∧ r ≤ 3 then (if mpdE f p c = 0 then setA f p.toNat c.toNat r else f) else f
section
variable {w : World} {rb : Nat} {f : Nat → Nat}
theorem nat_int {p : Int} (h : 0 ≤ p) : ∃ k : Nat, p = k ∧ p.toNat = k := ⟨p.toNat, by omega, rfl⟩
set_option maxRecDepth 100000 in
set_option maxHeartbeats 2000000 in
theorem rmpd_any (R : RefR w rb f) (p c : Int) : Calls Try.prog 18 #[.pointer (some ⟨rb, 0, none⟩), .int .i64 p, .int .i64 c] w fun e w' => e = .returned (.int .i64 (mpdE f p c)) ∧ Below w.heap.size w w' := by
  have HB := Lib.hid (Below.refl w.heap.size w)
  unfold mpdE
  by_cases hm : MayR p c
  · rw [if_pos hm]
    have HM := Lib.hid (decide_eq_true hm)
    obtain ⟨k, ek, ek2⟩ := nat_int hm.1
    obtain ⟨n, en, en2⟩ := nat_int (show 0 ≤ c by have := hm.2.2.1; omega)
    have hfit : k + n ≤ 1024 := by have := hm.2.2.2.2; omega
    have HC := Lib.hid (rmapped_any R k n hfit)
    rw [ek2, en2]
    clear hm R
    subst ek; subst en
    clear ek2 en2
    generalize cntM f k n = C at *
    by_cases hc : C < n
    · rw [if_pos hc]
      have hcI : (C : Int) < n := by omega
      clear hc
      go_enter Try.func18, Try.ntmps18
      go_wp2_with (fail)
      refine (rmay_any k n _).mono ?_
      rintro e w' ⟨rfl, rfl⟩
      rw [HM.out]
      go_wp2_with (fail)
      refine HC.out.mono ?_
      rintro e w1 ⟨rfl, h1⟩
      have HB1 := Lib.hid h1
      clear h1
      go_wp2_with (fail)
      go_ret
      exact ⟨rfl, HB1.out⟩
    · rw [if_neg hc]
      have hcI : ¬ (C : Int) < n := by omega
      clear hc
      go_enter Try.func18, Try.ntmps18
      go_wp2_with (fail)
      refine (rmay_any k n _).mono ?_
      rintro e w' ⟨rfl, rfl⟩
      rw [HM.out]
      go_wp2_with (fail)
      refine HC.out.mono ?_
      rintro e w1 ⟨rfl, h1⟩
      have HB1 := Lib.hid h1
      clear h1
      go_wp2_with (fail)
      go_ret
      exact ⟨rfl, HB1.out⟩
  · rw [if_neg hm]
    have HM := Lib.hid (decide_eq_false hm)
    clear hm R
    go_enter Try.func18, Try.ntmps18
    go_wp2_with (fail)
    refine (rmay_any p c _).mono ?_
    rintro e w' ⟨rfl, rfl⟩
    rw [HM.out]
    go_wp2_with (fail)
    go_ret
    exact ⟨rfl, HB.out⟩
set_option maxRecDepth 100000 in
set_option maxHeartbeats 2000000 in
theorem runm_any (R : RefR w rb f) (p c : Int) : Calls Try.prog 14 #[.pointer (some ⟨rb, 0, none⟩), .int .i64 p, .int .i64 c] w (SetP w rb (unmE f p c) (unmA f p c)) := by
  have HR := Lib.hid R
  unfold unmE unmA
  by_cases hm : MayR p c
  · rw [if_pos hm, if_pos hm]
    have HM := Lib.hid (decide_eq_true hm)
    obtain ⟨k, ek, ek2⟩ := nat_int hm.1
    obtain ⟨n, en, en2⟩ := nat_int (show 0 ≤ c by have := hm.2.2.1; omega)
    have hfit : k + n ≤ 1024 := by have := hm.2.2.2.2; omega
    have HC := Lib.hid (rset_any R k n 0 hfit)
    rw [ek2, en2]
    clear hm R
    subst ek; subst en
    clear ek2 en2
    go_enter Try.func14, Try.ntmps14
    go_wp2_with (fail)
    refine (rmay_any k n _).mono ?_
    rintro e w' ⟨rfl, rfl⟩
    rw [HM.out]
    go_wp2_with (fail)
    refine HC.out.mono ?_
    rintro e w1 ⟨rfl, h1, h2⟩
    have H1 := Lib.hid h1
    have H2 := Lib.hid h2
    clear h1 h2
    go_wp2_with (fail)
    go_ret
    exact ⟨rfl, H1.out, H2.out⟩
  · rw [if_neg hm, if_neg hm]
    have HM := Lib.hid (decide_eq_false hm)
    clear hm R
    go_enter Try.func14, Try.ntmps14
    go_wp2_with (fail)
    refine (rmay_any p c _).mono ?_
    rintro e w' ⟨rfl, rfl⟩
    rw [HM.out]
    go_wp2_with (fail)
    go_ret
    exact ⟨rfl, HR.out, Only.refl _ _⟩
set_option maxRecDepth 100000 in
set_option maxHeartbeats 2000000 in
theorem rmap_any (R : RefR w rb f) (p c : Int) (r : Nat) : Calls Try.prog 12 #[.pointer (some ⟨rb, 0, none⟩), .int .i64 p, .int .i64 c, .int .u8 r] w (SetP w rb (mapE f p c r) (mapA f p c r)) := by
  have HR := Lib.hid R
  unfold mapE mapA
  by_cases hm : MayR p c
  · by_cases h3 : 1 ≤ r ∧ r ≤ 3
    · have hmr : MayR p c ∧ 1 ≤ r ∧ r ≤ 3 := ⟨hm, h3⟩
      rw [if_pos hmr, if_pos hmr]
      clear hmr
      have HM := Lib.hid (decide_eq_true hm)
      obtain ⟨k, ek, ek2⟩ := nat_int hm.1
      obtain ⟨n, en, en2⟩ := nat_int (show 0 ≤ c by have := hm.2.2.1; omega)
      have hfit : k + n ≤ 1024 := by have := hm.2.2.2.2; omega
      have HC := Lib.hid (rmapped_any R k n hfit)
      have HF := Lib.hid (fun (V : World) (hV : RefR V rb f) => rset_any hV k n r hfit)
      have r1 : ¬ (r : Int) < 1 := by omega
      have r3 : ¬ (3 : Int) < r := by omega
      rw [ek2, en2]
      clear hm R h3
      subst ek; subst en
      clear ek2 en2
      generalize cntM f k n = C at *
      by_cases hc : 0 < C
      · rw [if_pos hc, if_pos hc]
        have hcI : (0 : Int) < C := by omega
        clear hc
        go_enter Try.func12, Try.ntmps12
        go_wp2_with (fail)
        refine (rmay_any k n _).mono ?_
        rintro e w' ⟨rfl, rfl⟩
        rw [HM.out]
        go_wp2_with (fail)
        refine HC.out.mono ?_
        rintro e w1 ⟨rfl, h1⟩
        have HB1 := Lib.hid h1
        clear h1
        go_wp2_with (fail)
        go_ret
        exact ⟨rfl, HR.out.later HB1.out, Only.of_below HB1.out⟩
      · rw [if_neg hc, if_neg hc]
        have hcI : ¬ (0 : Int) < C := by omega
        clear hc
        go_enter Try.func12, Try.ntmps12
        go_wp2_with (fail)
        refine (rmay_any k n _).mono ?_
        rintro e w' ⟨rfl, rfl⟩
        rw [HM.out]
        go_wp2_with (fail)
        refine HC.out.mono ?_
        rintro e w1 ⟨rfl, h1⟩
        have HB1 := Lib.hid h1
        have HR1 := Lib.hid (HR.out.later h1)
        clear h1
        go_wp2_with (fail)
        refine (HF.out w1 HR1.out).mono ?_
        rintro e w2 ⟨rfl, h1, h2⟩
        have H1 := Lib.hid h1
        have H2 := Lib.hid ((Only.of_below HB1.out).trans h2)
        clear h1 h2
        go_wp2_with (fail)
        go_ret
        exact ⟨rfl, H1.out, H2.out⟩
    · rw [if_neg (fun h => h3 h.2), if_neg (fun h => h3 h.2)]
      have HM := Lib.hid (decide_eq_true hm)
      clear hm R
      by_cases r1 : (r : Int) < 1
      · clear h3
        go_enter Try.func12, Try.ntmps12
        go_wp2_with (fail)
        refine (rmay_any p c _).mono ?_
        rintro e w' ⟨rfl, rfl⟩
        rw [HM.out]
        go_wp2_with (fail)
        go_ret
        exact ⟨rfl, HR.out, Only.refl _ _⟩
      · have r3 : (3 : Int) < r := by omega
        clear h3
        go_enter Try.func12, Try.ntmps12
        go_wp2_with (fail)
        refine (rmay_any p c _).mono ?_
        rintro e w' ⟨rfl, rfl⟩
        rw [HM.out]
        go_wp2_with (fail)
        go_ret
        exact ⟨rfl, HR.out, Only.refl _ _⟩
  · rw [if_neg (fun h => hm h.1), if_neg (fun h => hm h.1)]
    have HM := Lib.hid (decide_eq_false hm)
    clear hm R
    go_enter Try.func12, Try.ntmps12
    go_wp2_with (fail)
    refine (rmay_any p c _).mono ?_
    rintro e w' ⟨rfl, rfl⟩
    rw [HM.out]
    go_wp2_with (fail)
    go_ret
    exact ⟨rfl, HR.out, Only.refl _ _⟩
set_option maxRecDepth 100000 in
set_option maxHeartbeats 2000000 in
theorem rpro_any (R : RefR w rb f) (p c : Int) (r : Nat) : Calls Try.prog 16 #[.pointer (some ⟨rb, 0, none⟩), .int .i64 p, .int .i64 c, .int .u8 r] w (SetP w rb (proE f p c r) (proA f p c r)) := by
  have HR := Lib.hid R
  unfold proE proA
  by_cases h3 : 1 ≤ r ∧ r ≤ 3
  · rw [if_pos h3, if_pos h3]
    have r1 : ¬ (r : Int) < 1 := by omega
    have r3 : ¬ (3 : Int) < r := by omega
    have HC := Lib.hid (rmpd_any R p c)
    by_cases hm : mpdE f p c = 0
    · rw [if_pos hm, if_pos hm]
      have hmr : MayR p c := by
        refine Decidable.of_not_not fun hn => ?_
        unfold mpdE at hm
        rw [if_neg hn] at hm
        cases hm
      obtain ⟨k, ek, ek2⟩ := nat_int hmr.1
      obtain ⟨n, en, en2⟩ := nat_int (show 0 ≤ c by have := hmr.2.2.1; omega)
      have hfit : k + n ≤ 1024 := by have := hmr.2.2.2.2; omega
      have HF := Lib.hid (fun (V : World) (hV : RefR V rb f) => rset_any hV k n r hfit)
      rw [hm] at HC
      rw [ek2, en2]
      clear R h3 hm hmr
      subst ek; subst en
      clear ek2 en2
      go_enter Try.func16, Try.ntmps16
      go_wp2_with (fail)
      refine HC.out.mono ?_
      rintro e w1 ⟨rfl, h1⟩
      have HB1 := Lib.hid h1
      have HR1 := Lib.hid (HR.out.later h1)
      clear h1
      go_wp2_with (fail)
      refine (HF.out w1 HR1.out).mono ?_
      rintro e w2 ⟨rfl, h1, h2⟩
      have H1 := Lib.hid h1
      have H2 := Lib.hid ((Only.of_below HB1.out).trans h2)
      clear h1 h2
      go_wp2_with (fail)
      go_ret
      exact ⟨rfl, H1.out, H2.out⟩
    · rw [if_neg hm, if_neg hm]
      have hmI : (mpdE f p c == 0) = false := by simpa using hm
      clear R h3 hm
      generalize mpdE f p c = E at *
      go_enter Try.func16, Try.ntmps16
      go_wp2_with (fail)
      refine HC.out.mono ?_
      rintro e w1 ⟨rfl, h1⟩
      have HB1 := Lib.hid h1
      have HR1 := Lib.hid (HR.out.later h1)
      clear h1
      go_wp2_with (fail)
      go_ret
      exact ⟨rfl, HR1.out, Only.of_below HB1.out⟩
  · rw [if_neg h3, if_neg h3]
    by_cases r1 : (r : Int) < 1
    · clear h3 R
      go_enter Try.func16, Try.ntmps16
      go_wp2_with (fail)
      go_ret
      exact ⟨rfl, HR.out, Only.refl _ _⟩
    · have r3 : (3 : Int) < r := by omega
      clear h3 R
      go_enter Try.func16, Try.ntmps16
      go_wp2_with (fail)
      go_ret
      exact ⟨rfl, HR.out, Only.refl _ _⟩
end
end Go.Proofs.Ythnkbipdlepbaaa
