/-
  chain, pure: all objects taken one by one; what Give comes to.
-/
import Derived.Test.YtifiecfkcikdmaaChPure
namespace Go.Proofs.Ytifiecfkcikdmaa

/-- k objects taken. -/
def tkI (S : Sl) : Nat → Sl
  | 0 => S
  | k + 1 => (tkI S k).take.2.2
theorem take_cons {S : Sl} {i : Nat} {l : List Nat} (h : S.ch = i :: l) : S.take = ((i : Int), 0, { S with ch := l, out := updC S.out i true, bt := putB S.bt (S.pos i) S.sz (fun _ => 0) }) := by
  unfold Sl.take
  rw [h]
theorem take_nil {S : Sl} (h : S.ch = []) : S.take = (0, 9, S) := by
  unfold Sl.take
  rw [h]
theorem take_same (S : Sl) : S.take.2.2.sz = S.sz ∧ S.take.2.2.co = S.co := by
  unfold Sl.take
  split <;> exact ⟨rfl, rfl⟩
theorem tkI_same (S : Sl) : ∀ k, (tkI S k).sz = S.sz ∧ (tkI S k).co = S.co
  | 0 => ⟨rfl, rfl⟩
  | k + 1 => by
    obtain ⟨h1, h2⟩ := take_same (tkI S k)
    obtain ⟨h3, h4⟩ := tkI_same S k
    exact ⟨h1.trans h3, h2.trans h4⟩
theorem tkI_inv {S : Sl} (I : SlI S) : ∀ k, SlI (tkI S k)
  | 0 => I
  | k + 1 => (tkI_inv I k).take
theorem drop_range {n k : Nat} (h : k < n) : (List.range n).drop k = k :: (List.range n).drop (k + 1) := by
  rw [List.drop_eq_getElem_cons (by simpa using h)]
  simp
theorem tkI_ch {S : Sl} {n : Nat} (h : S.ch = List.range n) : ∀ k, k ≤ n → (tkI S k).ch = (List.range n).drop k
  | 0, _ => h
  | k + 1, hk => by
    have h1 := tkI_ch h k (by omega)
    rw [drop_range (by omega)] at h1
    show (tkI S k).take.2.2.ch = _
    rw [take_cons h1]
theorem tkI_take {S : Sl} {n k : Nat} (h : S.ch = List.range n) (hk : k < n) : (tkI S k).take = ((k : Int), 0, tkI S (k + 1)) := by
  have h1 := tkI_ch h k (by omega)
  rw [drop_range hk] at h1
  show _ = ((k : Int), 0, (tkI S k).take.2.2)
  rw [take_cons h1]
theorem tkI_full {S : Sl} {n : Nat} (h : S.ch = List.range n) : (tkI S n).take = (0, 9, tkI S n) := by
  refine take_nil ?_
  rw [tkI_ch h n (Nat.le_refl n)]
  exact List.drop_eq_nil_of_le (by simp)
theorem new_ch (sz co : Nat) (f : Nat → UInt8) : (Sl.new sz co f).ch = List.range ((256 - co) / sz) := rfl
theorem tkI_place {S : Sl} {k : Nat} (i : Nat) (hi : i < S.n) : (tkI S k).place (i : Int) = ((S.pos i : Int), (S.pos i + S.sz : Int)) := by
  obtain ⟨h1, h2⟩ := tkI_same S k
  have hn : (tkI S k).n = S.n := by unfold Sl.n; rw [h1, h2]
  unfold Sl.place
  rw [if_pos (has_nat.2 (by rw [hn]; exact hi)), Int.toNat_natCast]
  unfold Sl.pos
  rw [h1, h2]
/-- Give is heard, or not. -/
theorem give_or (S : Sl) (k : Int) : (∃ i : Nat, k = i ∧ i < S.n ∧ S.give k = (0, S.given i)) ∨ ∃ e : Int, e ≠ 0 ∧ S.give k = (e, S) := by
  unfold Sl.give
  split
  · exact .inr ⟨2, by decide, rfl⟩
  · rename_i h
    have hh : S.has k = true := by simpa using h
    have hi := has_iff.1 hh
    split
    · exact .inr ⟨8, by decide, rfl⟩
    · split
      · exact .inr ⟨80, by decide, rfl⟩
      · exact .inl ⟨k.toNat, by omega, by omega, rfl⟩
theorem given_same (S : Sl) (i : Nat) : (S.given i).sz = S.sz ∧ (S.given i).co = S.co ∧ (S.given i).ch = i :: S.ch := ⟨rfl, rfl, rfl⟩
end Go.Proofs.Ytifiecfkcikdmaa
