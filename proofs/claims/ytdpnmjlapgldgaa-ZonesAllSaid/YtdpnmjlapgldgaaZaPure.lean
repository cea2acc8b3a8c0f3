/-
  ZonesAll, pure: one frame after the other is taken, all are given back.
-/
import Derived.Test.YtdpnmjlapgldgaaM07
namespace Go.Proofs.Ytdpnmjlapgldgaa

/-- How many frames are free, of the first nodes. -/
def sumFree (L : Nat → List (Int × Int)) : Nat → Nat
  | 0 => 0
  | k + 1 => sumFree L k + freeT (L k)
/-- What is above the floor, of those of the first nodes that are asked. -/
def wOf (aq : Nat → Bool) (floor : Nat) (L : Nat → List (Int × Int)) (i : Nat) : Nat := if aq i = true then freeT (L i) - floor else 0
def sumW (aq : Nat → Bool) (floor : Nat) (L : Nat → List (Int × Int)) : Nat → Nat
  | 0 => 0
  | k + 1 => sumW aq floor L k + wOf aq floor L k
section
variable {aq : Nat → Bool} {floor x : Nat} {L : Nat → List (Int × Int)} {M : List (Int × Int)}
theorem sumFree_out : ∀ {k : Nat}, k ≤ x → sumFree (updN L x M) k = sumFree L k
  | 0, _ => rfl
  | k + 1, h => by
    unfold sumFree
    rw [sumFree_out (by omega), updN_other _ (by omega)]
theorem sumFree_upd : ∀ {k : Nat}, x < k → sumFree (updN L x M) k + freeT (L x) = sumFree L k + freeT M
  | 0, h => by omega
  | k + 1, h => by
    unfold sumFree
    by_cases e : x = k
    · subst e
      rw [sumFree_out (Nat.le_refl _), updN_same]
      omega
    · have := sumFree_upd (k := k) (by omega)
      rw [updN_other _ (by omega)]
      omega
theorem sumW_out : ∀ {k : Nat}, k ≤ x → sumW aq floor (updN L x M) k = sumW aq floor L k
  | 0, _ => rfl
  | k + 1, h => by
    unfold sumW wOf
    rw [sumW_out (by omega), updN_other _ (by omega)]
theorem sumW_upd (ha : aq x = true) : ∀ {k : Nat}, x < k → sumW aq floor (updN L x M) k + (freeT (L x) - floor) = sumW aq floor L k + (freeT M - floor)
  | 0, h => by omega
  | k + 1, h => by
    unfold sumW wOf
    by_cases e : x = k
    · subst e
      rw [sumW_out (Nat.le_refl _), updN_same, if_pos ha, if_pos ha]
      omega
    · have := sumW_upd ha (k := k) (by omega)
      rw [updN_other _ (by omega)]
      omega
theorem sumW_pos : ∀ {k : Nat}, 0 < sumW aq floor L k → ∃ i, i < k ∧ aq i = true ∧ floor < freeT (L i)
  | 0, h => absurd h (Nat.lt_irrefl 0)
  | k + 1, h => by
    unfold sumW at h
    by_cases h1 : 0 < sumW aq floor L k
    · obtain ⟨i, hi, h2⟩ := sumW_pos h1
      exact ⟨i, by omega, h2⟩
    · have h2 : 0 < wOf aq floor L k := by omega
      unfold wOf at h2
      by_cases ha : aq k = true
      · rw [if_pos ha] at h2
        exact ⟨k, by omega, ha, by omega⟩
      · rw [if_neg ha] at h2
        exact absurd h2 (Nat.lt_irrefl 0)
theorem sumW_zero : ∀ {k i : Nat}, sumW aq floor L k = 0 → i < k → aq i = true → freeT (L i) ≤ floor
  | 0, i, _, hi, _ => absurd hi (Nat.not_lt_zero i)
  | k + 1, i, h, hi, ha => by
    unfold sumW at h
    by_cases e : i = k
    · subst e
      have h2 : wOf aq floor L i = 0 := by omega
      unfold wOf at h2
      rw [if_pos ha] at h2
      omega
    · exact sumW_zero (by omega) (show i < k by omega) ha
theorem sumW_le : ∀ {k : Nat}, sumW aq floor L k ≤ sumFree L k
  | 0 => Nat.le_refl _
  | k + 1 => by
    unfold sumW sumFree wOf
    have := sumW_le (k := k)
    split <;> omega
end
/-- The least one of which p holds. -/
theorem least_of {p : Nat → Prop} : ∀ (n : Nat), p n → ∃ m, m ≤ n ∧ p m ∧ ∀ i, i < m → ¬ p i := by
  intro n
  induction n using Nat.strongRecOn with
  | _ n ih =>
    intro h
    by_cases hex : ∃ i, i < n ∧ p i
    · obtain ⟨i, hi, hp⟩ := hex
      obtain ⟨m, h1, h2⟩ := ih i hi hp
      exact ⟨m, by omega, h2⟩
    · exact ⟨n, Nat.le_refl _, h, fun i hi hp => hex ⟨i, hi, hp⟩⟩
/-- A frame that is taken. -/
def frT (g : Nat → Int) (N : Nat) (T : Nat → List (Int × Int)) (f : Int) : Prop := ∃ (i : Nat) (y : Int), i < N ∧ (y, (0 : Int)) ∈ T i ∧ f = sumF g i + y
/-- All nodes aq they are meant, and single frames taken. -/
structure ZaI (g : Nat → Int) (N : Nat) (L T : Nat → List (Int × Int)) : Prop where
  inv : ∀ i, i < N → Inv (frN g i) (L i) (T i)
  one : ∀ i, i < N → ∀ p ∈ T i, p.2 = 0
  pos : ∀ i, i < N → 0 ≤ g (18 + i)
section
variable {g : Nat → Int} {N : Nat} {L T : Nat → List (Int × Int)} {aq : Nat → Bool} {floor : Nat} {z : Nat → Int} {len : Nat}
theorem ZaI.at_ (I : ZaI g N L T) {i : Nat} (hi : i < N) {y : Int} (h : (y, (0 : Int)) ∈ T i) : ∃ x : Nat, y = x ∧ x < frN g i ∧ (((x : Nat) : Int), ((0 : Nat) : Int)) ∈ T i := by
  obtain ⟨a, o, e⟩ := (I.inv i hi).natT _ h
  injection e with e1 e2
  subst e1
  obtain ⟨_, _, hlt, _⟩ := (I.inv i hi).give (x := a) (o := 0) h
  exact ⟨a, rfl, hlt, h⟩
theorem ZaI.at (I : ZaI g N L T) {f : Int} (h : frT g N T f) : 0 ≤ f ∧ f < ((nodL g N).length : Int) := by
  obtain ⟨i, y, hi, hm, rfl⟩ := h
  obtain ⟨x, rfl, hx, _⟩ := I.at_ hi hm
  obtain ⟨h1, h2, _⟩ := nodeF_at I.pos hi (y := (x : Int)) (by omega) (by omega)
  exact ⟨h1, h2⟩
/-- A frame is one node's. -/
theorem fr_one (hp : ∀ i, i < N → 0 ≤ g (18 + i)) {i j : Nat} {x y : Nat} (hi : i < N) (hj : j < N) (hx : x < frN g i) (hy : y < frN g j) (e : sumF g i + (x : Int) = sumF g j + (y : Int)) : i = j ∧ x = y := by
  obtain ⟨_, _, h1⟩ := nodeF_at hp hi (y := (x : Int)) (by omega) (by omega)
  obtain ⟨_, _, h2⟩ := nodeF_at hp hj (y := (y : Int)) (by omega) (by omega)
  rw [e] at h1
  have : i = j := h1.symm.trans h2
  subst this
  exact ⟨rfl, by omega⟩
/-- One frame is had, aq long aq there is one above the floor. -/
theorem za_take (I : ZaI g N L T) (hok : ∀ i, i < len → 0 ≤ z i ∧ z i < (N : Int)) (has : ∀ i, aq i = true ↔ ∃ j, j < len ∧ z j = (i : Int)) (high : Bool) (h : 0 < sumW aq floor L N) :
    ∃ f L' T', zTake g N L T (nodesL z len) (floor : Int) high = (f, 0, L', T') ∧ ¬ frT g N T f ∧ (0 ≤ f ∧ f < ((nodL g N).length : Int)) ∧ (∀ x, frT g N T' x ↔ frT g N T x ∨ x = f) ∧ ZaI g N L' T' ∧ sumFree L' N + 1 = sumFree L N ∧ sumW aq floor L' N + 1 = sumW aq floor L N := by
  obtain ⟨i0, hi0, ha0, hf0⟩ := sumW_pos h
  obtain ⟨j0, hj0, hz0⟩ := (has i0).1 ha0
  obtain ⟨j, hjle, hj, hmin⟩ := least_of (p := fun j => j < len ∧ (floor : Int) < (zFree N L (z j) : Int)) j0 ⟨hj0, by rw [hz0, zFree_at hi0]; omega⟩
  obtain ⟨hj1, hj2⟩ := hj
  obtain ⟨hz1, hz2⟩ := hok j hj1
  obtain ⟨x, hx⟩ : ∃ x : Nat, z j = x := ⟨(z j).toNat, by omega⟩
  have hxN : x < N := by omega
  have hax : aq x = true := (has x).2 ⟨j, hj1, hx⟩
  have e1 := zTake_at (g := g) (T := T) (high := high) hok (show ¬ (floor : Int) < 0 by omega) hj1 hj2 (fun i hi hc => hmin i hi ⟨by omega, hc⟩)
  rw [hx, zFree_at hxN] at hj2
  rcases take_one (I.inv x hxN) high with ⟨_, y, M, e2, hM, _, J, hy, hnone⟩ | ⟨h0, _⟩
  · have hy0 : ∀ o, ((y : Int), o) ∉ T x := tkL_none.1 hnone
    refine ⟨sumF g x + y, updN L x M, updN T x (T x ++ [((y : Int), 0)]), ?_, ?_, ?_, ?_, ⟨?_, ?_, I.pos⟩, ?_, ?_⟩
    · rw [e1, hx]
      exact zTakeOf_at hxN e2
    · rintro ⟨i, y', hi, hm, e⟩
      obtain ⟨x', rfl, hx', hm'⟩ := I.at_ hi hm
      obtain ⟨rfl, rfl⟩ := fr_one I.pos hxN hi hy hx' e
      exact hy0 _ hm
    · obtain ⟨h1, h2, _⟩ := nodeF_at I.pos hxN (y := (y : Int)) (by omega) (by omega)
      exact ⟨h1, h2⟩
    · intro f
      constructor
      · rintro ⟨i, y', hi, hm, rfl⟩
        by_cases e : i = x
        · subst e
          rw [updN_same, List.mem_append, List.mem_singleton] at hm
          rcases hm with hm | hm
          · exact .inl ⟨i, y', hi, hm, rfl⟩
          · injection hm with h1 _
            exact .inr (by rw [h1])
        · rw [updN_other _ e] at hm
          exact .inl ⟨i, y', hi, hm, rfl⟩
      · rintro (⟨i, y', hi, hm, rfl⟩ | rfl)
        · refine ⟨i, y', hi, ?_, rfl⟩
          by_cases e : i = x
          · subst e
            rw [updN_same]
            exact List.mem_append_left _ hm
          · rw [updN_other _ e]
            exact hm
        · refine ⟨x, y, hxN, ?_, rfl⟩
          rw [updN_same]
          simp
    · intro i hi
      by_cases e : i = x
      · subst e
        rw [updN_same, updN_same]
        exact J
      · rw [updN_other _ e, updN_other _ e]
        exact I.inv i hi
    · intro i hi p hp
      by_cases e : i = x
      · subst e
        rw [updN_same, List.mem_append, List.mem_singleton] at hp
        rcases hp with hp | rfl
        · exact I.one i hi p hp
        · rfl
      · rw [updN_other _ e] at hp
        exact I.one i hi p hp
    · have := sumFree_upd (L := L) (M := M) hxN
      omega
    · have := sumW_upd (floor := floor) (L := L) (M := M) hax hxN
      omega
  · omega
/-- There is none above the floor. -/
theorem za_none (hok : ∀ i, i < len → 0 ≤ z i ∧ z i < (N : Int)) (has : ∀ i, aq i = true ↔ ∃ j, j < len ∧ z j = (i : Int)) (high : Bool) (h : sumW aq floor L N = 0) :
    zTake g N L T (nodesL z len) (floor : Int) high = (0, 6, L, T) := by
  refine zTake_none hok (by omega) fun i hi hc => ?_
  obtain ⟨h1, h2⟩ := hok i hi
  obtain ⟨x, hx⟩ : ∃ x : Nat, z i = x := ⟨(z i).toNat, by omega⟩
  have hxN : x < N := by omega
  have := sumW_zero h hxN ((has x).2 ⟨i, hi, hx⟩)
  rw [hx, zFree_at hxN] at hc
  omega
/-- A frame that is taken is given back. -/
theorem za_give (I : ZaI g N L T) {f : Int} (h : frT g N T f) : ∃ L' T', zGive g N L T f 0 = (0, L', T') ∧ ZaI g N L' T' ∧ ∀ x, frT g N T' x ↔ frT g N T x ∧ x ≠ f := by
  obtain ⟨i, y, hi, hm, rfl⟩ := h
  obtain ⟨x, rfl, hx, hm'⟩ := I.at_ hi hm
  obtain ⟨J, _, _, e⟩ := (I.inv i hi).give hm'
  refine ⟨_, _, zGive_at I.pos hi (by omega) (by omega) e, ⟨?_, ?_, I.pos⟩, ?_⟩
  · intro k hk
    by_cases ek : k = i
    · subst ek
      rw [updN_same, updN_same]
      exact J
    · rw [updN_other _ ek, updN_other _ ek]
      exact I.inv k hk
  · intro k hk p hp
    by_cases ek : k = i
    · subst ek
      rw [updN_same] at hp
      exact I.one k hk p (mem_dropL.1 hp).1
    · rw [updN_other _ ek] at hp
      exact I.one k hk p hp
  · intro f
    constructor
    · rintro ⟨k, y', hk, hm2, rfl⟩
      by_cases ek : k = i
      · subst ek
        rw [updN_same, mem_dropL] at hm2
        refine ⟨⟨k, y', hk, hm2.1, rfl⟩, fun e2 => hm2.2 ?_⟩
        rw [show y' = (x : Int) by omega]
        rfl
      · rw [updN_other _ ek] at hm2
        refine ⟨⟨k, y', hk, hm2, rfl⟩, fun e2 => ?_⟩
        obtain ⟨x', rfl, hx', _⟩ := I.at_ hk hm2
        exact ek (fr_one I.pos hk hi hx' hx e2).1
    · rintro ⟨⟨k, y', hk, hm2, rfl⟩, hne⟩
      refine ⟨k, y', hk, ?_, rfl⟩
      by_cases ek : k = i
      · subst ek
        rw [updN_same, mem_dropL]
        refine ⟨hm2, fun e2 => hne ?_⟩
        injection e2 with e3 _
        rw [e3]
      · rw [updN_other _ ek]
        exact hm2
/-- Nothing is taken: all is free. -/
theorem za_free (I : ZaI g N L T) (h : ∀ f, ¬ frT g N T f) {i : Nat} (hi : i < N) : freeT (L i) = frN g i := by
  have hT : T i = [] := List.eq_nil_iff_forall_not_mem.2 fun p hp => by
    obtain ⟨y, o⟩ := p
    have := I.one i hi _ hp
    dsimp only at this
    subst this
    exact h _ ⟨i, y, hi, hp, rfl⟩
  have J := I.inv i hi
  rw [hT] at J
  have e := J.unique (inv_new J.n1 J.n2) (fun _ _ => Iff.rfl)
  have := J.n2
  rw [e, newL_free _ (by omega)]
end
end Go.Proofs.Ytdpnmjlapgldgaa
