/-
  locks' law: what a list of calls comes to.
-/
import Derived.Test.YtepapbecnadllaaLkKnown
import Derived.Test.YtepapbecnadllaaLkOps
namespace Go.Proofs.Ytepapbecnadllaa
open Go.RowKit Go

def stepH (n : Nat) (H : Nat → Int) (o : Op3) : Nat → Int := if o.kind = 1 then freeH n H o.who o.lock else tryH n H o.who o.lock
/-- The table, the arguments, and all below, behind some calls. -/
structure StAt (w : World) (d n : Nat) (H : Nat → Int) (wr : World) : Prop where
  tab : LkAt wr d n H
  bel : Below w.heap.size w wr
  d1 : w.heap.size ≤ d
theorem StAt.later {w : World} {d n : Nat} {H : Nat → Int} {wr w' : World} (L : StAt w d n H wr) (h : Below wr.heap.size wr w') : StAt w d n H w' := ⟨L.tab.later h, L.bel.trans (h.mono L.bel.size), L.d1⟩
theorem StAt.turn {w : World} {d n : Nat} {H H' : Nat → Int} {wr w' : World} (L : StAt w d n H wr) (T : LkAt w' d n H') (h : Only (Eq d) wr w') : StAt w d n H' w' :=
  ⟨T, h.below L.bel L.bel.size (fun k hk => by have := L.d1; omega), L.d1⟩
theorem StAt.other {S : Nat → Prop} {w : World} {d n : Nat} {H : Nat → Int} {wr w' : World} (L : StAt w d n H wr) (h : Only S wr w') (hs : ∀ k, S k → w.heap.size ≤ k) (hd : ¬ S d) : StAt w d n H w' :=
  ⟨L.tab.only h hd, h.below L.bel L.bel.size hs, L.d1⟩

theorem askB_iff {n : Nat} {who l : Int} : askB n who l = true ↔ 0 ≤ who ∧ 0 ≤ l ∧ l < n := by
  simp [askB, hasB]
theorem fromB_false {H : Nat → Int} {l : Nat} {who : Int} (h : ∀ i, l ≤ i → i < 64 → H i ≠ who) : fromB H l who = false :=
  hasI_false fun i hi => h (l + i) (by omega) (by omega)
theorem fromB_true {H : Nat → Int} {l : Nat} {who : Int} (k : Nat) (h1 : l ≤ k) (h2 : k < 64) (h : H k = who) : fromB H l who = true :=
  hasI_true (k - l) (by omega) (by rw [show l + (k - l) = k by omega]; exact h)
theorem fromB_not {H : Nat → Int} {l : Nat} {who : Int} (h : fromB H l who = false) (i : Nat) (h1 : l ≤ i) (h2 : i < 64) : H i ≠ who := fun e => by
  rw [fromB_true i h1 h2 e] at h; cases h
/-- Who asks for a lock above all that are held has it. -/
theorem try_above {n : Nat} {H : Nat → Int} {who : Int} {k : Nat} (hw : 0 ≤ who) (hk : k < n) (h : ∀ i, k ≤ i → H i = -1) : tryB n H who k = true ∧ tryE n H who k = 0 := by
  have ha : askB n who k = true := askB_iff.2 ⟨hw, by omega, by omega⟩
  have hf : fromB H k who = false := fromB_false fun i hi _ => by rw [h i hi]; omega
  unfold tryB tryE
  rw [ha, Int.toNat_natCast, hf, h k (Nat.le_refl _)]
  exact ⟨rfl, rfl⟩
theorem try_no {n : Nat} {H : Nat → Int} {who l : Int} (h : tryB n H who l = false) : tryH n H who l = H := by
  unfold tryH; rw [h]; rfl
theorem try_yes {n : Nat} {H : Nat → Int} {who l : Int} (h : tryB n H who l = true) : 0 ≤ who ∧ ∃ k : Nat, l = k ∧ k < n ∧ H k = -1 ∧ (∀ i, k ≤ i → i < 64 → H i ≠ who) ∧ tryH n H who l = updH H k who := by
  have e : tryH n H who l = updH H l.toNat who := by unfold tryH; rw [if_pos h]
  unfold tryB at h
  simp only [Bool.and_eq_true, Bool.not_eq_true', beq_iff_eq] at h
  obtain ⟨ha, hf, hh⟩ := h
  obtain ⟨k, rfl, hk, hw⟩ := askB_nat ha
  rw [Int.toNat_natCast] at hf hh e
  exact ⟨hw, k, rfl, hk, hh, fromB_not hf, e⟩
theorem free_yes {n : Nat} {H : Nat → Int} {who l : Int} (h : freeE n H who l = 0) : 0 ≤ who ∧ ∃ k : Nat, l = k ∧ k < n ∧ H k = who ∧ freeH n H who l = updH H k (-1) := by
  have e : freeH n H who l = updH H l.toNat (-1) := by unfold freeH; rw [if_pos h]
  unfold freeE at h
  by_cases ha : askB n who l = true
  · obtain ⟨k, rfl, hk, hw⟩ := askB_nat ha
    rw [if_pos ha, Int.toNat_natCast] at h
    rw [Int.toNat_natCast] at e
    by_cases hh : H k = who
    · exact ⟨hw, k, rfl, hk, hh, e⟩
    · rw [if_neg hh] at h; omega
  · rw [if_neg ha] at h; omega
theorem free_no {n : Nat} {H : Nat → Int} {who l : Int} (h : freeE n H who l ≠ 0) : freeH n H who l = H := by
  unfold freeH; rw [if_neg h]
theorem stepH_free {n : Nat} {H : Nat → Int} {o : Op3} (h : o.kind = 1) : stepH n H o = freeH n H o.who o.lock := if_pos h
theorem stepH_try {n : Nat} {H : Nat → Int} {o : Op3} (h : o.kind ≠ 1) : stepH n H o = tryH n H o.who o.lock := if_neg h
end Go.Proofs.Ytepapbecnadllaa
