/-
  table: the memory's side of IsT: the landed frames' memory of four frames, whose words are a root and three leaves.
-/
import Derived.Test.YtnjdcgjaffageaaTbKnown
import Derived.Test.YtnjdcgjaffageaaFrWord
import Derived.Test.YtnjdcgjaffageaaFrNew
namespace Go.Proofs.Ytnjdcgjaffageaa
open Go.RowKit Go.Shelf Go

theorem numB_put (B : Nat → UInt8) (o x : Nat) : ∀ k, k ≤ 8 → numB (putB B o 8 (byteOf x)) o k = x % 2 ^ (8 * k)
  | 0, _ => by simp [numB, Nat.mod_one]
  | k + 1, hk => by
    have h1 := numB_put B o x k (by omega)
    have h2 : putB B o 8 (byteOf x) (o + k) = byteOf x k := by
      unfold putB; rw [if_pos (by omega), Nat.add_sub_cancel_left]
    unfold numB
    rw [h1, h2, byteOf_nat, show 8 * (k + 1) = 8 * k + 8 by omega, Nat.pow_add, Nat.mod_mul, Nat.mul_comm (2 ^ (8 * k))]
theorem numB_whole (B : Nat → UInt8) (o x : Nat) (hx : x < 18446744073709551616) : numB (putB B o 8 (byteOf x)) o 8 = x := by
  rw [numB_put B o x 8 (Nat.le_refl _)]
  exact Nat.mod_eq_of_lt hx
theorem numB_eq {B C : Nat → UInt8} {o : Nat} : ∀ k, (∀ i, i < k → B (o + i) = C (o + i)) → numB B o k = numB C o k
  | 0, _ => rfl
  | k + 1, h => by rw [numB, numB, numB_eq k (fun i hi => h i (by omega)), h k (by omega)]
theorem numB_else (B : Nat → UInt8) (o p : Nat) (x : Nat → UInt8) (h : o + 8 ≤ p ∨ p + 8 ≤ o) : numB (putB B o 8 x) p 8 = numB B p 8 :=
  numB_eq 8 fun i hi => by
    unfold putB
    rw [if_neg (by omega)]
theorem numB_zero (o : Nat) : ∀ k, numB (fun _ => 0) o k = 0
  | 0 => rfl
  | k + 1 => by rw [numB, numB_zero o k]; simp
/-- A root's word. -/
def leafW (r : Nat) : Nat := if r = 0 then 0 else 4 * r + 1
theorem leafW_ent (r : Nat) : leafW r = wordV (if r = 0 then (0, 0) else (1, (r : Int))) ∨ 65535 < r := by
  by_cases h : r = 0
  · left
    subst h
    rfl
  · by_cases h2 : 65535 < r
    · exact .inr h2
    · left
      rw [if_neg h]
      unfold leafW wordV
      rw [if_neg h, if_pos ⟨by dsimp only; omega, by dsimp only; omega, by dsimp only; omega, fun h3 => absurd h3 (show ¬ (1 : Nat) = 0 by decide)⟩]
      dsimp only
      omega
/-- Its words are these. -/
structure MemT (M : MB) (B : Nat → UInt8) (R : Nat → Nat) (E : Nat → Nat → Ent) : Prop where
  T4 : M.T = 4
  root : ∀ i, i < 32 → numB B (0 * 256 + i * 8) 8 = leafW (R i)
  leaf : ∀ f, 1 ≤ f → f ≤ 3 → ∀ j, j < 32 → numB B (f * 256 + j * 8) 8 = wordV (E f j)
  r3 : ∀ i, R i ≤ 3
  eok : ∀ f j, entOk (E f j)
theorem entV_lt (x : Ent) : wordV x < 18446744073709551616 := by
  unfold wordV
  split
  · next h =>
    obtain ⟨h1, h2, h3, _⟩ := h
    omega
  · omega
section
variable {M : MB} {B : Nat → UInt8} {R : Nat → Nat} {E : Nat → Nat → Ent}
theorem MemT.zero (h : M.T = 4) : MemT M (fun _ => 0) (fun _ => 0) (fun _ _ => (0, 0)) :=
  ⟨h, fun i _ => numB_zero _ _, fun f _ _ j _ => numB_zero _ _, fun _ => Nat.zero_le _, fun _ _ => by decide⟩
theorem MemT.setRoot (H : MemT M B R E) (i l : Nat) (hi : i < 32) (hl : l ≤ 3) : MemT M (putB B (0 * 256 + i * 8) 8 (byteOf (leafW l))) (setR R i l) E := by
  refine ⟨H.T4, fun j hj => ?_, fun f h1 h3 j hj => ?_, fun j => ?_, H.eok⟩
  · unfold setR
    by_cases h : j = i
    · subst h
      rw [if_pos rfl, numB_whole _ _ _ (by unfold leafW; split <;> omega)]
    · rw [if_neg h, numB_else _ _ _ _ (by omega)]
      exact H.root j hj
  · rw [numB_else _ _ _ _ (by omega)]
    exact H.leaf f h1 h3 j hj
  · unfold setR
    split
    · exact hl
    · exact H.r3 j
theorem MemT.setLeaf (H : MemT M B R E) (f i : Nat) (x : Ent) (h1 : 1 ≤ f) (h3 : f ≤ 3) (hi : i < 32) (hx : entOk x) : MemT M (putB B (f * 256 + i * 8) 8 (byteOf (wordV x))) R (setX E f i x) := by
  refine ⟨H.T4, fun j hj => ?_, fun g g1 g3 j hj => ?_, H.r3, fun g j => ?_⟩
  · rw [numB_else _ _ _ _ (by omega)]
    exact H.root j hj
  · unfold setX
    by_cases h : g = f ∧ j = i
    · obtain ⟨rfl, rfl⟩ := h
      rw [if_pos ⟨rfl, rfl⟩, numB_whole _ _ _ (entV_lt _)]
    · rw [if_neg h, numB_else _ _ _ _ (by omega)]
      exact H.leaf g g1 g3 j hj
  · unfold setX
    split
    · exact hx
    · exact H.eok g j
end
def MB.has (M : MB) (k : Nat) : Prop := k = M.m ∨ k = M.sb ∨ k = M.bb ∨ k = M.kb
/-- The memory, as a thing. -/
def thM (M : MB) (ST : Nat → Nat) (B : Nat → UInt8) (K : Nat → Mk) : Thg where
  At w := MemAt w M ST B K
  has := M.has
  only := fun _ _ _ h ho hs => h.only ho (hs _ (.inl rfl)) (hs _ (.inr (.inl rfl))) (hs _ (.inr (.inr (.inl rfl)))) (hs _ (.inr (.inr (.inr rfl))))
  lt := fun w h k hk => by
    rcases hk with rfl | rfl | rfl | rfl
    · obtain ⟨_, e⟩ := h.c0
      exact World.block_lt_of_cell? _ _ e
    · exact h.starts.lt
    · exact h.bytes.lt
    · exact h.marks.lt
/-- What the laws want of it. -/
def IsTab (X : Thg) (m : Nat) (R : Nat → Nat) (E : Nat → Nat → Ent) : Prop := ∃ M ST B K, M.m = m ∧ X = thM M ST B K ∧ MemT M B R E
section
variable {w w' : World} {M : MB} {ST : Nat → Nat} {B : Nat → UInt8} {K : Nat → Mk} {R : Nat → Nat} {E : Nat → Nat → Ent}
/-- Its words, read. -/
theorem root_word (H : MemAt w M ST B K) (T : MemT M B R E) (i : Nat) (hi : i < 32) :
    Calls Try.prog 35 #[.pointer (some ⟨M.m, 0, none⟩), .int .i64 0, .int .i64 i] w fun e w' => e = .returned (.tuple #[.int .u64 (leafW (R i)), .int .i64 0]) ∧ w = w' := by
  have h := word_ok H 0 i (by rw [T.T4]; decide) hi
  rw [T.root i hi] at h
  exact h
theorem leaf_word (H : MemAt w M ST B K) (T : MemT M B R E) (f j : Nat) (h1 : 1 ≤ f) (h3 : f ≤ 3) (hj : j < 32) :
    Calls Try.prog 35 #[.pointer (some ⟨M.m, 0, none⟩), .int .i64 f, .int .i64 j] w fun e w' => e = .returned (.tuple #[.int .u64 (wordV (E f j)), .int .i64 0]) ∧ w = w' := by
  have h := word_ok H f j (by rw [T.T4]; omega) hj
  rw [T.leaf f h1 h3 j hj] at h
  exact h
/-- What SetWord leaves. -/
def SetT (w : World) (M : MB) (ST : Nat → Nat) (B : Nat → UInt8) (K : Nat → Mk) (R : Nat → Nat) (E : Nat → Nat → Ent) (c : Int) (e : Ending) (w' : World) : Prop :=
  ∃ Y, e = .returned (.int .i64 c) ∧ IsTab Y M.m R E ∧ TTurn w (thM M ST B K) w' Y
theorem SetT.same (H : MemAt w M ST B K) (T : MemT M B R E) {c : Int} (hb : Below w.heap.size w w') : SetT w M ST B K R E c (.returned (.int .i64 c)) w' :=
  ⟨thM M ST B K, rfl, ⟨M, ST, B, K, rfl, rfl, T⟩, H.later hb, Only.of_below hb, fun _ hk => .inl hk⟩
theorem SetT.wrote {B' : Nat → UInt8} {e : Ending} (T : MemT M B' R E) (h : WroteAt w M ST B' K e w') : SetT w M ST B K R E 0 e w' :=
  ⟨thM M ST B' K, h.1, ⟨M, ST, B', K, rfl, rfl, T⟩, h.2.1, h.2.2.mono (fun k hk => by rw [← hk]; exact .inr (.inr (.inl rfl))), fun _ hk => .inl hk⟩
theorem root_set (H : MemAt w M ST B K) (T : MemT M B R E) (i l : Nat) (hi : i < 32) (hl : l ≤ 3) :
    Calls Try.prog 21 #[.pointer (some ⟨M.m, 0, none⟩), .int .i64 0, .int .i64 i, .int .u64 (leafW l)] w (SetT w M ST B K (setR R i l) E 0) :=
  (setword_ok H 0 i (leafW l) (by rw [T.T4]; decide) hi).mono fun _ _ h => SetT.wrote (T.setRoot i l hi hl) h
theorem leaf_set (H : MemAt w M ST B K) (T : MemT M B R E) (f i : Nat) (x : Ent) (h1 : 1 ≤ f) (h3 : f ≤ 3) (hi : i < 32) (hx : entOk x) :
    Calls Try.prog 21 #[.pointer (some ⟨M.m, 0, none⟩), .int .i64 f, .int .i64 i, .int .u64 (wordV x)] w (SetT w M ST B K R (setX E f i x) 0) :=
  (setword_ok H f i (wordV x) (by rw [T.T4]; omega) hi).mono fun _ _ h => SetT.wrote (T.setLeaf f i x h1 h3 hi hx) h
/-- A memory is made. -/
theorem tmade_any (w : World) (A : Array Value) (hA : Cfg A fourG) : Calls Try.prog 11 #[.agg A] w fun e w' =>
    ∃ m Y, e = .returned (.tuple #[.pointer (some ⟨m, 0, none⟩), .int .i64 0]) ∧ IsTab Y m (fun _ => 0) (fun _ _ => (0, 0)) ∧ TTurn w Thg.no w' Y := by
  refine (fnew_ok A fourG 4 w hA four_good four_total (by decide)).mono ?_
  rintro e w' ⟨M, rfl, hM, _, hT, l1, l2, l3, l4, hb⟩
  rw [four_total] at hT
  refine ⟨M.m, _, rfl, ⟨M, _, _, _, rfl, rfl, MemT.zero (by omega)⟩, hM, Only.of_below hb, fun k hk => .inr ?_⟩
  rcases hk with rfl | rfl | rfl | rfl <;> assumption
end
end Go.Proofs.Ytnjdcgjaffageaa
