/-
  handles, by numbers: there and back, which is greater, the next one.
-/
import Derived.Test.YtljdmhiamonokaaDoorHdKnown
namespace Go.Proofs.YtljdmhiamonokaaDoor
open Go.RowKit Go
theorem mk_yes {t : Nat} {f x : Int} (h : May t f x) : mkE t f x = 0 ∧ mkV t f x = (t : Int) * 32768 + f * 32 + x := by
  unfold mkE mkV
  rw [if_pos h, if_pos h]
  exact ⟨rfl, rfl⟩
theorem mk_no {t : Nat} {f x : Int} (h : ¬ May t f x) : mkE t f x = 2 ∧ mkV t f x = 0 := by
  unfold mkE mkV
  rw [if_neg h, if_neg h]
  exact ⟨rfl, rfl⟩
/-- What is made is read as it was made. -/
theorem read_made {t : Nat} {f x : Int} (h : May t f x) : ∃ n : Nat, mkV t f x = n ∧ n < 18446744073709551616 ∧ 1 ≤ n ∧ (rdT n : Int) = t ∧ (rdF n : Int) = f ∧ (rdX n : Int) = x ∧ rdE n = 0 := by
  have h0 := h
  obtain ⟨⟨h1, h2⟩, ⟨h3, h4⟩, h5, h6⟩ := h
  have e1 := mk_yes h0
  refine ⟨t * 32768 + f.toNat * 32 + x.toNat, by rw [e1.2]; omega, by omega, by omega, ?_⟩
  have a2 : fldN 2 (t * 32768 + f.toNat * 32 + x.toNat) = t := by simp [fldN]; omega
  have a1 : fldN 1 (t * 32768 + f.toNat * 32 + x.toNat) = f.toNat := by simp [fldN]; omega
  have a0 : fldN 0 (t * 32768 + f.toNat * 32 + x.toNat) = x.toNat := by simp [fldN]; omega
  have ok : rdOk (t * 32768 + f.toNat * 32 + x.toNat) = true := by
    unfold rdOk
    rw [a2, a1, a0]
    exact decide_eq_true ⟨⟨h1, h2⟩, ⟨by omega, by omega⟩, by omega, by omega⟩
  unfold rdT rdF rdX rdE
  rw [if_pos ok, if_pos ok, if_pos ok, if_pos ok, a2, a1, a0]
  exact ⟨rfl, by omega, by omega, rfl⟩
/-- What is read makes it again. -/
theorem made_read {h : Nat} (hok : rdOk h = true) : rdE h = 0 ∧ mkE (rdT h) (rdF h) (rdX h) = 0 ∧ mkV (rdT h) (rdF h) (rdX h) = h := by
  have hm := of_decide_eq_true hok
  unfold rdE rdT rdF rdX
  rw [if_pos hok, if_pos hok, if_pos hok, if_pos hok]
  obtain ⟨e1, e2⟩ := mk_yes hm
  refine ⟨rfl, e1, ?_⟩
  rw [e2]
  simp [fldN]
  omega
theorem none_read {h : Nat} (hok : ¬ rdOk h = true) : rdE h = 120 ∧ (rdT h : Int) = 0 ∧ (rdF h : Int) = 0 ∧ (rdX h : Int) = 0 := by
  unfold rdE rdT rdF rdX
  rw [if_neg hok, if_neg hok, if_neg hok, if_neg hok]
  exact ⟨rfl, rfl, rfl, rfl⟩
/-- Of two turns the greater one. -/
theorem mk_lt {a b : Nat} {f x g y : Int} (h : May a f x) (k : May b g y) (hab : a < b) : mkV a f x < mkV b g y := by
  rw [(mk_yes h).2, (mk_yes k).2]
  obtain ⟨_, ⟨h3, h4⟩, h5, h6⟩ := h
  obtain ⟨_, ⟨k3, k4⟩, k5, k6⟩ := k
  omega
theorem mk_eq {a : Nat} {f x g y : Int} (h : May a f x) (k : May a g y) : mkV a f x = mkV a g y ↔ f = g ∧ x = y := by
  rw [(mk_yes h).2, (mk_yes k).2]
  obtain ⟨_, ⟨h3, h4⟩, h5, h6⟩ := h
  obtain ⟨_, ⟨k3, k4⟩, k5, k6⟩ := k
  omega
end Go.Proofs.YtljdmhiamonokaaDoor
