/-
  areas' laws: runs told to a body that appends them to a boxed slice; a call's pure facts.
-/
import Derived.Test.YthnkbipdlepbaaaArStep
import Derived.Test.YthnkbipdlepbaaaArSame
namespace Go.Proofs.Ythnkbipdlepbaaa
open Go.RowKit Go.Shelf Go

abbrev TRs : TypeId := 49
theorem hteR : (TRs : TypeId) ≠ TRun := by decide
/-- The boxed slice holds what has been told. -/
def GrowR (w : World) (bx : Nat) (L : Rns) (pre : List (Fin L.length)) (W : World) : Prop :=
  ∃ v, Boxed W bx TRs v ∧ W.ownsRow w.heap.size TRun 3 v pre.length (recV encR (toldL L pre)) ∧ Only (fun k => k = bx) w W
theorem growR_own {w : World} {bx : Nat} (L : Rns) (hbx : bx < w.heap.size) : OwnFrom w.heap.size (GrowR w bx L) := by
  rintro s X Y row ⟨v, hv, hr, ho⟩ hg hrow
  refine ⟨v, hv.kept hg (fun e => ?_), hr.kept hg ?_, hg.os.trans ho.os, hg.tape.trans ho.tape, hg.output.trans ho.output, Nat.le_trans ho.size hg.size, fun k hk hs => (hg.block k (by have := ho.size; omega) (fun e => by have := (hrow k e.symm).1; omega)).trans (ho.block k hk hs)⟩
  · have := (hrow bx e.symm).1
    omega
  · rcases hr.2 with ⟨rfl, _⟩ | ⟨g, cap, cur, rfl, _, hgb, _⟩
    · exact .inl rfl
    · refine .inr fun e' => ?_
      obtain ⟨_, o, ho, hc⟩ := hrow g (by simpa [Value.ownBlock] using e'.symm)
      rw [hgb] at ho; cases ho; cases hc
theorem GrowR.le {w W : World} {bx : Nat} {L : Rns} {pre : List (Fin L.length)} (h : GrowR w bx L pre W) : w.heap.size ≤ W.heap.size := by
  obtain ⟨v, hv, hr, ho⟩ := h
  exact ho.size
theorem GrowR.later {w W W' : World} {bx : Nat} {L : Rns} {pre : List (Fin L.length)} (h : GrowR w bx L pre W) (hb : Below W.heap.size W W') : GrowR w bx L pre W' := by
  obtain ⟨v, hv, hr, ho⟩ := h
  exact ⟨v, (hb.block bx hv.lt).trans hv, owns_later hr hb, ho.trans (Only.of_below hb)⟩
/-- A run of an own row. -/
theorem ownR_at {W : World} {base : Nat} {v : Value} {M : Rns} (P : W.ownsRow base TRun 3 v M.length (recV encR M)) (j : Nat) (hj : j < M.length) : ∃ g cap, v = .slice (some ⟨g, 0, none⟩) M.length cap ∧
    W.cell? ⟨g, j * 3, none⟩ = some (.int .i64 (M[j]'hj).1) ∧ W.cell? ⟨g, j * 3 + 1, none⟩ = some (.int .i64 (M[j]'hj).2.1) ∧ W.cell? ⟨g, j * 3 + 2, none⟩ = some (.int .u8 (M[j]'hj).2.2) := by
  obtain ⟨a, cap, rfl, hR⟩ := RecsAt.of_owns P
  obtain ⟨g, rfl, _, _, hr⟩ := hR.get encR_len j hj
  exact ⟨g, cap, rfl, hr 0 _ rfl, hr 1 _ rfl, hr 2 _ rfl⟩
theorem ownR_slice {W : World} {base : Nat} {v : Value} {M : Rns} (P : W.ownsRow base TRun 3 v M.length (recV encR M)) : ∃ a cap, v = .slice a M.length cap := by
  obtain ⟨a, cap, rfl, _⟩ := RecsAt.of_owns P
  exact ⟨a, cap, rfl⟩
/-! ### Mapped, and unmapped again -/
section
variable {f : Nat → Nat} {p c : Int} {r : Nat}
theorem cntM_zero : ∀ {n : Nat} {p : Nat}, cntM f p n = 0 → ∀ i, p ≤ i → i < p + n → f i = 0
  | 0, _, _ => fun i h1 h2 => by omega
  | n + 1, p, h => fun i h1 h2 => by
    unfold cntM at h
    split at h
    · rename_i h0
      by_cases e : i = p + n
      · rw [e]; exact h0
      · exact cntM_zero h i h1 (by omega)
    · omega
theorem cntM_all : ∀ {n : Nat} {p : Nat}, (∀ i, p ≤ i → i < p + n → f i ≠ 0) → cntM f p n = n
  | 0, _, _ => rfl
  | n + 1, p, h => by
    unfold cntM
    rw [if_neg (h (p + n) (by omega) (by omega)), cntM_all (fun i h1 h2 => h i h1 (by omega))]
theorem setF_back {n q : Nat} (h : ∀ i, q ≤ i → i < q + n → f i = 0) : setF (setF f q n r) q n 0 = f := by
  funext i
  unfold setF
  by_cases hi : q ≤ i ∧ i < q + n
  · rw [if_pos hi, h i hi.1 hi.2]
  · rw [if_neg hi, if_neg hi]
/-- What is mapped, and unmapped then. -/
theorem map_back (h : mapE f p c r = 0) (hl : (rns f).length ≤ 32) : mpdE (mapA f p c r) p c = 0 ∧ unmE (mapA f p c r) p c = 0 ∧ unmA (mapA f p c r) p c = f ∧ mpdE f p 1 = 7 := by
  unfold mapE at h
  split at h
  case isFalse => cases h
  rename_i hm
  split at h
  case isTrue => cases h
  rename_i h0
  have eA : mapA f p c r = setF f p.toNat c.toNat r := by
    unfold mapA setA
    rw [if_pos hm, if_neg h0, if_neg]
    intro h32
    unfold setE at h
    rw [if_pos h32] at h
    cases h
  have hz := cntM_zero (show cntM f p.toNat c.toNat = 0 by omega)
  obtain ⟨⟨m1, m2, m3, m4, m5⟩, r1, r3⟩ := hm
  have hmay : MayR p c := ⟨m1, m2, m3, m4, m5⟩
  have hb := setF_back (r := r) hz
  have hns : ¬ 32 < (runsTo (setF (setF f p.toNat c.toNat r) p.toNat c.toNat 0) 1024).length := by rw [hb]; exact Nat.not_lt.2 hl
  refine ⟨?_, ?_, ?_, ?_⟩
  · unfold mpdE
    rw [eA, if_pos hmay, if_neg]
    rw [cntM_all (fun i h1 h2 => by unfold setF; rw [if_pos ⟨h1, h2⟩]; omega)]
    exact Nat.lt_irrefl _
  · unfold unmE setE
    rw [eA, if_pos hmay, if_neg hns]
  · unfold unmA setA
    rw [eA, if_pos hmay, if_neg hns, hb]
  · unfold mpdE
    rw [if_pos (show MayR p 1 from ⟨m1, m2, by decide, by decide, by omega⟩), if_pos]
    have h1 : cntM f p.toNat 1 = 0 := by
      unfold cntM
      rw [if_pos (hz (p.toNat + 0) (by omega) (by omega))]
      rfl
    show cntM f p.toNat 1 < 1
    omega
end
end Go.Proofs.Ythnkbipdlepbaaa
