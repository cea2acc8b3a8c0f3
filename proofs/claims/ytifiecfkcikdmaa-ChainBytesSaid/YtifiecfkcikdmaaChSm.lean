/-
  chain, pure: nothing but one object's bytes has turned.
-/
import Derived.Test.YtifiecfkcikdmaaChTk
import Derived.Test.YtifiecfkcikdmaaChPlay
import Derived.Test.YtifiecfkcikdmaaStr
import Derived.Laws.Strings
namespace Go.Proofs.Ytifiecfkcikdmaa

def SmB (S S' : Sl) (kk : Int) : Prop := ∀ p : Nat, p < 256 → ¬ ((S'.place kk).1 ≤ (p : Int) ∧ (p : Int) < (S'.place kk).2) → S'.bt p = S.bt p
theorem place_eq {S S' : Sl} (h1 : S'.sz = S.sz) (h2 : S'.co = S.co) (i : Int) : S'.place i = S.place i := by
  have hn : S'.n = S.n := by unfold Sl.n; rw [h1, h2]
  unfold Sl.place Sl.has Sl.pos
  rw [hn, h1, h2]
theorem place_nat {S : Sl} {i : Nat} (h : i < S.n) : S.place (i : Int) = ((S.pos i : Int), (S.pos i + S.sz : Int)) := by
  unfold Sl.place
  rw [if_pos (has_nat.2 h), Int.toNat_natCast]
theorem place_bd {S : Sl} (I : SlI S) (i : Int) : ∃ f t : Nat, S.place i = ((f : Int), (t : Int)) ∧ t ≤ 256 := by
  unfold Sl.place
  split
  · rename_i h
    have hi := has_iff.1 h
    have := I.fit (i := i.toNat) (by omega)
    exact ⟨S.pos i.toNat, S.pos i.toNat + S.sz, by simp, by omega⟩
  · exact ⟨0, 0, rfl, by omega⟩
theorem sm_refl (S : Sl) (kk : Int) : SmB S S kk := fun _ _ _ => rfl
theorem sm_take {S : Sl} (I : SlI S) {i : Nat} {l : List Nat} (h : S.ch = i :: l) : SmB S S.take.2.2 (i : Int) := by
  intro p _ hp
  have hi := I.lt i (by rw [h]; simp)
  obtain ⟨h1, h2⟩ := take_same S
  rw [place_eq h1 h2, place_nat hi] at hp
  rw [take_cons h]
  show putB S.bt (S.pos i) S.sz (fun _ => 0) p = S.bt p
  unfold putB
  rw [if_neg (by omega)]
theorem sm_given {S : Sl} (I : SlI S) {i : Nat} (hi : i < S.n) : SmB S (S.given i) (i : Int) := by
  intro p _ hp
  have h8 := I.parts.1
  rw [place_eq (S := S) (S' := S.given i) rfl rfl, place_nat hi] at hp
  show updC S.bt (S.pos i) (nxt S.ch 0) p = S.bt p
  rw [updC_other _ (by omega)]
theorem sm_wrote {S : Sl} {i j : Nat} (hi : i < S.n) (hj : j ≤ S.sz) (x : Nat → UInt8) : SmB S (bS S (S.pos i) j x) (i : Int) := by
  intro p _ hp
  rw [place_eq (S := S) (S' := bS S (S.pos i) j x) rfl rfl, place_nat hi] at hp
  show putB S.bt (S.pos i) j x p = S.bt p
  unfold putB
  rw [if_neg (by omega)]
theorem strB_idx {n i : Nat} {f : Nat → UInt8} (h : i < n) (h' : i < (strB n f).size) : (strB n f)[i] = f i := by
  rw [← strB_get (f := f) h]
  show (strB n f).data[i] = _
  have h2 : i < (strB n f).data.size := h'
  rw [List.getD_eq_getElem?_getD, Array.getElem?_toList, Array.getElem?_eq_getElem h2]
  rfl
theorem run_index_strB {n i : Nat} {f : Nat → UInt8} (h : i < n) (W : Go.World) : (Go.Instr.index 9 (.string (strB n f)) (.int .i64 (i : Int))).run Try.prog W = .ok (.int .u8 (f i).toNat) W := by
  rw [Go.run_index_string W 9 _ _ _ Try.underlying9, dif_pos ⟨by omega, by rw [strB_size]; omega⟩]
  simp only [Int.toNat_natCast]
  rw [strB_idx h]
end Go.Proofs.Ytifiecfkcikdmaa
