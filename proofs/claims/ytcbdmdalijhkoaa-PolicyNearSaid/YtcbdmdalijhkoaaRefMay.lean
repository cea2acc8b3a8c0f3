/-
  The document's own answer: whether a config may be.
-/
import Derived.Test.YtcbdmdalijhkoaaPlaces
namespace Go.Proofs.Ytcbdmdalijhkoaa
open Go.RowKit Go

def homeR (g : Nat → Int) (i : Nat) : Bool := if (i : Int) < g 1 then decide (0 ≤ g (2 + i)) && decide (g (2 + i) < g 0) else g (2 + i) == 0
def frameR (g : Nat → Int) (i : Nat) : Bool := if (i : Int) < g 0 then decide (4 ≤ g (18 + i)) && (decide (g (18 + i) ≤ 128) && decide (g 93 ≤ g (18 + i))) else g (18 + i) == 0
def cellR (g : Nat → Int) (i k : Nat) : Bool :=
  if (i : Int) < g 0 ∧ (k : Int) < g 0 ∧ i ≠ k then decide (1 ≤ g (26 + i * 8 + k)) && (decide (g (26 + i * 8 + k) ≤ 255) && g (26 + i * 8 + k) == g (26 + k * 8 + i)) else g (26 + i * 8 + k) == 0
def rowR (g : Nat → Int) (i : Nat) : Bool := frameR g i && allR 8 (cellR g i)
def headR (g : Nat → Int) : Bool := withinB (g 0) 1 8 && (withinB (g 1) 1 16 && withinB (g 90) 0 1024)
def tailR (g : Nat → Int) : Bool := decide (0 ≤ g 91) && (decide (g 91 ≤ g 92) && decide (g 92 ≤ g 93))
def mayR (g : Nat → Int) : Bool := headR g && (allR 16 (homeR g) && (allR 8 (rowR g) && tailR g))

theorem bareG_at (g : Nat → Int) (c n : Nat) (hc : g 1 = c) (hn : g 0 = n) (i : Nat) : bareG g i =
    if i < 2 then g i else if i < 18 then (if i < 2 + c then g i else 0) else if i < 26 then (if i < 18 + n then g i else 0)
    else if i < 90 then (if (i - 26) / 8 < n ∧ (i - 26) % 8 < n then g i else 0) else g i := by
  unfold bareG
  rw [hc, hn]
  simp only [Int.toNat_natCast]
  unfold bareR
  by_cases a1 : i < 2
  · simp only [a1, if_true]
  · simp only [a1, if_false]
    by_cases a2 : i < 18
    · simp only [a2, if_true]
    · simp only [a2, if_false]
      by_cases a3 : i < 26
      · simp only [a3, if_true]
      · simp only [a3, if_false]
        by_cases a4 : i < 90
        · simp only [a4, if_true]
          by_cases a5 : (i - 26) / 8 < n
          · by_cases a6 : (i - 26) % 8 < n
            · rw [if_pos a5, if_neg (by omega), if_pos ⟨a5, a6⟩]
            · rw [if_pos a5, if_pos (by omega), if_neg (by omega)]
          · rw [if_neg a5, if_neg (by omega)]
        · simp only [a4, if_false]

theorem mayR_good (g : Nat → Int) : mayR g = true ↔ Good g := by
  constructor
  · intro h
    simp only [mayR, headR, tailR, Bool.and_eq_true, decide_eq_true_eq] at h
    obtain ⟨⟨h0, h1, h2⟩, h3, h4, h5, h6, h7⟩ := h
    have e0 := of_withinB h0
    have e1 := of_withinB h1
    have e2 := of_withinB h2
    obtain ⟨n, hn⟩ := Int.eq_ofNat_of_zero_le (show 0 ≤ g 0 by omega)
    obtain ⟨c, hc⟩ := Int.eq_ofNat_of_zero_le (show 0 ≤ g 1 by omega)
    have hh : ∀ i : Nat, i < 16 → if i < c then 0 ≤ g (2 + i) ∧ g (2 + i) < n else g (2 + i) = 0 := fun i hi => by
      have := of_allR h3 i hi
      unfold homeR at this
      rw [hc, hn] at this
      by_cases a : (i : Int) < c
      · rw [if_pos a] at this; rw [if_pos (by omega)]; simpa using this
      · rw [if_neg a] at this; rw [if_neg (by omega)]; simpa using this
    have hf : ∀ i : Nat, i < 8 → (if i < n then 4 ≤ g (18 + i) ∧ g (18 + i) ≤ 128 ∧ g 93 ≤ g (18 + i) else g (18 + i) = 0) := fun i hi => by
      have := of_allR h4 i hi
      simp only [rowR, Bool.and_eq_true] at this
      have := this.1
      unfold frameR at this
      rw [hn] at this
      by_cases a : (i : Int) < n
      · rw [if_pos a] at this; rw [if_pos (by omega)]; simpa using this
      · rw [if_neg a] at this; rw [if_neg (by omega)]; simpa using this
    have hd : ∀ i k : Nat, i < 8 → k < 8 → (if i < n ∧ k < n ∧ i ≠ k then 1 ≤ g (26 + i * 8 + k) ∧ g (26 + i * 8 + k) ≤ 255 ∧ g (26 + i * 8 + k) = g (26 + k * 8 + i) else g (26 + i * 8 + k) = 0) := fun i k hi hk => by
      have := of_allR h4 i hi
      simp only [rowR, Bool.and_eq_true] at this
      have := of_allR this.2 k hk
      unfold cellR at this
      rw [hn] at this
      by_cases a : (i : Int) < n ∧ (k : Int) < n ∧ i ≠ k
      · rw [if_pos a] at this; rw [if_pos ⟨by omega, by omega, a.2.2⟩]; simpa using this
      · rw [if_neg a] at this; rw [if_neg (by omega)]; simpa using this
    refine ⟨e0.1, e0.2, e1.1, e1.2, e2.1, e2.2, fun i hi => ?_, fun i hi => ?_, fun a ha => ?_, fun a b ha hb => ?_, h5, h6, h7, fun i hi => ?_, fun i hi => ?_⟩
    · have := hh i (by omega); rw [if_pos (by omega)] at this; omega
    · have := hf i (by omega); rw [if_pos (by omega)] at this; omega
    · have := hd a a (by omega) (by omega); rw [if_neg (by omega)] at this; exact this
    · have := hd a b (by omega) (by omega); rw [if_pos ⟨by omega, by omega, by omega⟩] at this; omega
    · have := hf i (by omega); rw [if_pos (by omega)] at this; omega
    · rw [bareG_at g c n hc hn]
      by_cases a1 : i < 2
      · rw [if_pos a1]
      · rw [if_neg a1]
        by_cases a2 : i < 18
        · rw [if_pos a2]
          by_cases a3 : i < 2 + c
          · rw [if_pos a3]
          · have := hh (i - 2) (by omega)
            rw [if_neg (by omega), show 2 + (i - 2) = i by omega] at this
            rw [if_neg a3, this]
        · rw [if_neg a2]
          by_cases a3 : i < 26
          · rw [if_pos a3]
            by_cases a4 : i < 18 + n
            · rw [if_pos a4]
            · have := hf (i - 18) (by omega)
              rw [if_neg (by omega), show 18 + (i - 18) = i by omega] at this
              rw [if_neg a4, this]
          · rw [if_neg a3]
            by_cases a4 : i < 90
            · rw [if_pos a4]
              by_cases a5 : (i - 26) / 8 < n ∧ (i - 26) % 8 < n
              · rw [if_pos a5]
              · have := hd ((i - 26) / 8) ((i - 26) % 8) (by omega) (by omega)
                rw [if_neg (by omega), show 26 + (i - 26) / 8 * 8 + (i - 26) % 8 = i by omega] at this
                rw [if_neg a5, this]
            · rw [if_neg a4]
  · intro G
    have n1 := G.n1
    have n2 := G.n2
    have c1 := G.c1
    have c2 := G.c2
    obtain ⟨n, hn⟩ := Int.eq_ofNat_of_zero_le (show 0 ≤ g 0 by omega)
    obtain ⟨c, hc⟩ := Int.eq_ofNat_of_zero_le (show 0 ≤ g 1 by omega)
    have hb := fun i hi => (G.behind i hi).trans (bareG_at g c n hc hn i)
    simp only [mayR, headR, tailR, Bool.and_eq_true, decide_eq_true_eq]
    refine ⟨⟨decide_eq_true ⟨G.n1, G.n2⟩, decide_eq_true ⟨G.c1, G.c2⟩, decide_eq_true ⟨G.s1, G.s2⟩⟩, allR_true (fun i hi => ?_), allR_true (fun i hi => ?_), G.min0, G.low, G.high⟩
    · unfold homeR
      by_cases a : (i : Int) < g 1
      · have := G.home i a
        rw [if_pos a]; simp; omega
      · have := hb (2 + i) (by omega)
        rw [if_neg (by omega), if_pos (by omega), if_neg (by omega)] at this
        rw [if_neg a, this]; rfl
    · simp only [rowR, Bool.and_eq_true]
      refine ⟨?_, allR_true (fun k hk => ?_)⟩
      · unfold frameR
        by_cases a : (i : Int) < g 0
        · have h1 := G.frames i a
          have h2 := G.least i a
          rw [if_pos a]; simp; omega
        · have := hb (18 + i) (by omega)
          rw [if_neg (by omega), if_neg (by omega), if_pos (by omega), if_neg (by omega)] at this
          rw [if_neg a, this]; rfl
      · unfold cellR
        by_cases a : (i : Int) < g 0 ∧ (k : Int) < g 0 ∧ i ≠ k
        · rw [if_pos a]
          by_cases h : k < i
          · obtain ⟨d1, d2, d3⟩ := G.dist i k a.1 h
            simp; omega
          · obtain ⟨d1, d2, d3⟩ := G.dist k i a.2.1 (by omega)
            simp; omega
        · rw [if_neg a]
          by_cases h1 : (i : Int) < g 0 ∧ (k : Int) < g 0
          · obtain rfl : i = k := by omega
            simpa using G.self i h1.1
          · have := hb (26 + i * 8 + k) (by omega)
            rw [if_neg (by omega), if_neg (by omega), if_neg (by omega), if_pos (by omega), if_neg (by omega)] at this
            rw [this]; rfl
theorem mayR_eq (g : Nat → Int) : mayR g = mayB g := by
  rw [Bool.eq_iff_iff, mayR_good, good_iff]
end Go.Proofs.Ytcbdmdalijhkoaa
