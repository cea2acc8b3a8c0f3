/-
  areas' laws: two areas, apart; ranges mapped in either order.
-/
import Derived.Test.YthnkbipdlepbaaaArGrow
namespace Go.Proofs.Ythnkbipdlepbaaa
open Go.RowKit Go
/-- Two areas that lie apart from block w0's size on. -/
def P2 (IsA : Thg → Nat → (Nat → Nat) → Prop) (w0 : World) (d : Nat) (f : Nat → Nat) (d2 : Nat) (g : Nat → Nat) (w : World) : Prop :=
  ∃ X Y, IsA X d f ∧ X.At w ∧ IsA Y d2 g ∧ Y.At w ∧ Below w0.heap.size w0 w ∧ (∀ k, X.has k → w0.heap.size ≤ k ∧ ¬ Y.has k) ∧ (∀ k, Y.has k → w0.heap.size ≤ k)
section
variable {IsA : Thg → Nat → (Nat → Nat) → Prop} (ok : AreasOk IsA) {w0 w w' : World} {d d2 : Nat} {f g h : Nat → Nat}
theorem P2.bel (H : P2 IsA w0 d f d2 g w) : Below w0.heap.size w0 w := by
  obtain ⟨_, _, _, _, _, _, h, _⟩ := H
  exact h
theorem P2.swap (H : P2 IsA w0 d f d2 g w) : P2 IsA w0 d2 g d f w := by
  obtain ⟨X, Y, h1, h2, h3, h4, h5, h6, h7⟩ := H
  exact ⟨Y, X, h3, h4, h1, h2, h5, fun k hk => ⟨h7 k hk, fun h => (h6 k h).2 hk⟩, fun k hk => (h6 k hk).1⟩
theorem P2.later (H : P2 IsA w0 d f d2 g w) (hb : Below w.heap.size w w') : P2 IsA w0 d f d2 g w' := by
  obtain ⟨X, Y, h1, h2, h3, h4, h5, h6, h7⟩ := H
  exact ⟨X, Y, h1, X.later h2 hb, h3, Y.later h4 hb, h5.trans (hb.mono h5.size), h6, h7⟩
theorem P2.turn {X X' Y : Thg} (h3 : IsA Y d2 g) (h4 : Y.At w) (h5 : Below w0.heap.size w0 w) (h6 : ∀ k, X.has k → w0.heap.size ≤ k ∧ ¬ Y.has k) (h7 : ∀ k, Y.has k → w0.heap.size ≤ k) (hX : IsA X' d h) (hT : TTurn w X w' X') : P2 IsA w0 d h d2 g w' := by
  refine ⟨X', Y, hX, hT.at', h3, Y.only _ _ _ h4 hT.only (fun k hk e => (h6 k e).2 hk), hT.only.below h5 h5.size (fun k hk => (h6 k hk).1), fun k hk => ?_, h7⟩
  rcases hT.new k hk with h | h
  · exact h6 k h
  · refine ⟨Nat.le_trans h5.size h, fun hy => ?_⟩
    have := Y.lt w h4 k hy
    omega
include ok
theorem P2.inv (H : P2 IsA w0 d f d2 g w) : (∀ i, f i ≤ 3) ∧ (∀ i, 1024 ≤ i → f i = 0) ∧ (rns f).length ≤ 32 := by
  obtain ⟨_, _, h1, _⟩ := H
  exact ok.inv h1
theorem new2_any (w : World) : Calls Try.prog 9 #[] w fun e w' => ∃ d Y, e = .returned (.pointer (some ⟨d, 0, none⟩)) ∧ IsA Y d (fun _ => 0) ∧ TTurn w Thg.no w' Y := ok.new w
theorem new_p2 (H : AK IsA w0 d f w) : Calls Try.prog 9 #[] w fun e w' => ∃ d2, e = .returned (.pointer (some ⟨d2, 0, none⟩)) ∧ P2 IsA w0 d f d2 (fun _ => 0) w' := by
  obtain ⟨X, h1, h2, h3, h4⟩ := H
  refine (ok.new w).mono ?_
  rintro e w1 ⟨d2, Y, rfl, hY, hT⟩
  have hb : Below w.heap.size w w1 := ⟨hT.only.os, hT.only.tape, hT.only.output, hT.only.size, fun k hk => hT.only.block k hk (fun h => h)⟩
  have hn : ∀ k, Y.has k → w.heap.size ≤ k := fun k hk => (hT.new k hk).elim (fun h => False.elim h) id
  exact ⟨d2, rfl, X, Y, h1, X.later h2 hb, hY, hT.at', h3.trans (hb.mono h3.size), fun k hk => ⟨h4 k hk, fun hy => by have := hn k hy; have := X.lt w h2 k hk; omega⟩, fun k hk => Nat.le_trans h3.size (hn k hk)⟩
theorem map_p2 (H : P2 IsA w0 d f d2 g w) (p c : Int) (r : Nat) (hr : Okp p r) : Calls Try.prog 11 #[.pointer (some ⟨d, 0, none⟩), .int .i64 p, .int .i64 c, .int .u8 r] w fun e w' => e = .returned (.int .i64 (mapE f p c r)) ∧ P2 IsA w0 d (mapA f p c r) d2 g w' := by
  obtain ⟨X, Y, h1, h2, h3, h4, h5, h6, h7⟩ := H
  exact (ok.map p c r hr h1 h2).mono fun _ _ ⟨X', e, hX, hT⟩ => ⟨e, P2.turn h3 h4 h5 h6 h7 hX hT⟩
theorem unm_p2 (H : P2 IsA w0 d f d2 g w) (p c : Int) (hp : LeI p) : Calls Try.prog 13 #[.pointer (some ⟨d, 0, none⟩), .int .i64 p, .int .i64 c] w fun e w' => e = .returned (.int .i64 (unmE f p c)) ∧ P2 IsA w0 d (unmA f p c) d2 g w' := by
  obtain ⟨X, Y, h1, h2, h3, h4, h5, h6, h7⟩ := H
  exact (ok.unmap p c hp h1 h2).mono fun _ _ ⟨X', e, hX, hT⟩ => ⟨e, P2.turn h3 h4 h5 h6 h7 hX hT⟩
theorem pro_p2 (H : P2 IsA w0 d f d2 g w) (p c : Int) (r : Nat) (hr : Okp p r) : Calls Try.prog 15 #[.pointer (some ⟨d, 0, none⟩), .int .i64 p, .int .i64 c, .int .u8 r] w fun e w' => e = .returned (.int .i64 (proE f p c r)) ∧ P2 IsA w0 d (proA f p c r) d2 g w' := by
  obtain ⟨X, Y, h1, h2, h3, h4, h5, h6, h7⟩ := H
  exact (ok.protect p c r hr h1 h2).mono fun _ _ ⟨X', e, hX, hT⟩ => ⟨e, P2.turn h3 h4 h5 h6 h7 hX hT⟩
theorem play_p2 (H : P2 IsA w0 d f d2 g w) (o : OpA) (hr : o.ok) : Calls Try.prog 25 #[.pointer (some ⟨d, 0, none⟩), .agg #[.int .i64 o.kind, .int .i64 o.page, .int .i64 o.count, .int .u8 o.rights]] w fun e w' => e = .returned (.tuple #[]) ∧ P2 IsA w0 d (playA f o) d2 g w' := by
  obtain ⟨X, Y, h1, h2, h3, h4, h5, h6, h7⟩ := H
  exact (play_t ok h1 h2 o hr).mono fun _ _ ⟨e, X', hX, hT⟩ => ⟨e, P2.turn h3 h4 h5 h6 h7 hX hT⟩
end
/-! ### In either order -/
section
variable {f : Nat → Nat} {p c q n : Int} {r s : Nat}
theorem map_yes (h : mapE f p c r = 0) : MayR p c ∧ 1 ≤ r ∧ (∀ i, p.toNat ≤ i → i < p.toNat + c.toNat → f i = 0) ∧ mapA f p c r = setF f p.toNat c.toNat r := by
  unfold mapE at h
  split at h
  case isFalse => cases h
  rename_i hm
  split at h
  case isTrue => cases h
  rename_i h0
  refine ⟨hm.1, hm.2.1, cntM_zero (by omega), ?_⟩
  unfold mapA setA
  rw [if_pos hm, if_neg h0, if_neg]
  intro h32
  unfold setE at h
  rw [if_pos h32] at h
  cases h
theorem map_either (h1 : mapE f p c r = 0) (h2 : mapE (mapA f p c r) q n s = 0) (h3 : mapE f q n s = 0) (h4 : mapE (mapA f q n s) p c r = 0) : mapA (mapA f p c r) q n s = mapA (mapA f q n s) p c r := by
  obtain ⟨_, r1, _, e1⟩ := map_yes h1
  obtain ⟨_, _, z2, e2⟩ := map_yes h2
  obtain ⟨_, _, _, e3⟩ := map_yes h3
  obtain ⟨_, _, _, e4⟩ := map_yes h4
  rw [e2, e4, e1, e3]
  rw [e1] at z2
  funext i
  have hz := z2 i
  unfold setF at hz ⊢
  by_cases a : p.toNat ≤ i ∧ i < p.toNat + c.toNat
  · by_cases b : q.toNat ≤ i ∧ i < q.toNat + n.toNat
    · have := hz b.1 b.2
      rw [if_pos a] at this
      omega
    · simp only [if_neg b, if_pos a]
  · simp only [if_neg a]
end
end Go.Proofs.Ythnkbipdlepbaaa
