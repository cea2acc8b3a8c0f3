/-
  areas: parts of runs, put together again; how many pages of a range; the run of a page. Of no program.
-/
import Derived.Test.YthnkbipdlepbaaaArRef
namespace Go.Proofs.Ythnkbipdlepbaaa
open Go

/-- What of a run is from s on and ahead of t. -/
def partR (x : Nat × Nat × Nat) (s t : Nat) : Nat × Nat × Nat := (max s x.1, min t (x.1 + x.2.1) - max s x.1, x.2.2)
/-- The last run. -/
def lastR (M : Rns) : Nat × Nat × Nat := M.getD (M.length - 1) (0, 0, 0)
/-- A run behind the others. -/
def joinR (M : Rns) (x : Nat × Nat × Nat) : Rns :=
  if x.2.1 = 0 ∨ x.2.2 = 0 then M
  else if 0 < M.length ∧ (lastR M).1 + (lastR M).2.1 = x.1 ∧ (lastR M).2.2 = x.2.2 then M.set (M.length - 1) ((lastR M).1, (lastR M).2.1 + x.2.1, (lastR M).2.2)
  else M ++ [x]
theorem lastR_append (M : Rns) (y : Nat × Nat × Nat) : lastR (M ++ [y]) = y := by simp [lastR, List.getD]
theorem lastR_set (M : Rns) (y z : Nat × Nat × Nat) : (M ++ [y]).set ((M ++ [y]).length - 1) z = M ++ [z] := by simp
section
variable {f g : Nat → Nat} {n m : Nat} {L M : Rns} {x : Nat × Nat × Nat}
theorem Desc.zeros (D : Desc f n L) (h : n ≤ m) (h0 : ∀ k, n ≤ k → k < m → f k = 0) : Desc f m L := by
  obtain ⟨c, rfl⟩ := Nat.exists_eq_add_of_le h
  clear h
  induction c with
  | zero => exact D
  | succ c ih => exact (ih fun k h1 h2 => h0 k h1 (by omega)).zero (h0 (n + c) (by omega) (by omega))
theorem Desc.mores (D : Desc f n (M ++ [x])) (he : x.1 + x.2.1 = n) : ∀ c, (∀ k, n ≤ k → k < n + c → f k = x.2.2) → Desc f (n + c) (M ++ [(x.1, x.2.1 + c, x.2.2)])
  | 0, _ => D
  | c + 1, hv => (Desc.mores D he c fun k h1 h2 => hv k h1 (by omega)).more (by dsimp only; omega) (hv (n + c) (by omega) (by omega)).symm
theorem join_desc (D : Desc f n M) (h1 : n ≤ x.1) (h0 : ∀ k, n ≤ k → k < x.1 → f k = 0) (hv : ∀ k, x.1 ≤ k → k < x.1 + x.2.1 → f k = x.2.2) : Desc f (x.1 + x.2.1) (joinR M x) := by
  have D1 := D.zeros h1 h0
  unfold joinR
  by_cases hc : x.2.1 = 0 ∨ x.2.2 = 0
  · rw [if_pos hc]
    refine D1.zeros (Nat.le_add_right _ _) fun k h2 h3 => ?_
    rcases hc with h | h
    · omega
    · rw [hv k h2 h3, h]
  · rw [if_neg hc]
    have hc1 : x.2.1 ≠ 0 := fun e => hc (.inl e)
    have hc2 : x.2.2 ≠ 0 := fun e => hc (.inr e)
    by_cases hl : 0 < M.length ∧ (lastR M).1 + (lastR M).2.1 = x.1 ∧ (lastR M).2.2 = x.2.2
    · rw [if_pos hl]
      obtain ⟨P, y, rfl⟩ : ∃ P y, M = P ++ [y] := by
        rcases List.eq_nil_or_concat M with h | ⟨P, y, h⟩
        · subst h; exact absurd hl.1 (by decide)
        · exact ⟨P, y, by simpa using h⟩
      rw [lastR_append] at hl ⊢
      rw [lastR_set]
      refine D1.mores hl.2.1 _ fun k h2 h3 => ?_
      rw [hv k h2 h3, hl.2.2]
    · rw [if_neg hl]
      have hx := hv x.1 (Nat.le_refl _) (by omega)
      have D2 := D1.one (by rw [hx]; exact hc2) (fun h => hl (by
        obtain ⟨P, y, rfl, e1, e2, e3⟩ := D1.last h.1 (by rw [h.2, hx]; exact hc2)
        rw [lastR_append]
        exact ⟨by simp, e2, by rw [e3, h.2, hx]⟩))
      rw [hx] at D2
      have D3 := D2.mores rfl (x.2.1 - 1) fun k h2 h3 => hv k (by omega) (by omega)
      dsimp only at D3
      rw [show x.1 + 1 + (x.2.1 - 1) = x.1 + x.2.1 by omega, show 1 + (x.2.1 - 1) = x.2.1 by omega] at D3
      exact D3
/-- Where the first k runs end. -/
def endK (L : Rns) : Nat → Nat
  | 0 => 0
  | k + 1 => (L.getD k (0, 0, 0)).1 + (L.getD k (0, 0, 0)).2.1
theorem getD_at (k : Nat) (hk : k < L.length) : L.getD k (0, 0, 0) = L[k] := by simp [List.getD, hk]
/-- Between runs nothing is mapped. -/
theorem Desc.gap (D : Desc f 1024 L) (k : Nat) (hk : k ≤ L.length) (j : Nat) (h1 : endK L k ≤ j) (h2 : ∀ h : k < L.length, j < (L[k]).1) (h3 : j < 1024) : f j = 0 := by
  refine Decidable.byContradiction fun h0 => ?_
  obtain ⟨x, hx, a1, a2⟩ := D.cov j h3 h0
  obtain ⟨i, hi, rfl⟩ := List.getElem_of_mem hx
  have hr := List.pairwise_iff_getElem.1 D.ris
  rcases Nat.lt_or_ge i k with h | h
  · obtain ⟨k, rfl⟩ : ∃ q, k = q + 1 := ⟨k - 1, by omega⟩
    rw [endK, getD_at k (by omega)] at h1
    rcases Nat.lt_or_ge i k with h4 | h4
    · have h5 := (hr i k hi (by omega) h4).1
      have h6 := D.pos (L[k]'(by omega)) (List.getElem_mem _)
      omega
    · obtain rfl : i = k := by omega
      omega
  · have h4 := h2 (by omega)
    rcases Nat.lt_or_ge k i with h5 | h5
    · have h6 := (hr k i (by omega) hi h5).1
      have h7 := D.pos (L[k]'(by omega)) (List.getElem_mem _)
      omega
    · obtain rfl : i = k := by omega
      omega
theorem Desc.end_le (D : Desc f 1024 L) (k : Nat) (hk : k < L.length) : endK L k ≤ (L[k]).1 := by
  cases k with
  | zero => exact Nat.zero_le _
  | succ k =>
    rw [endK, getD_at k (by omega)]
    exact (List.pairwise_iff_getElem.1 D.ris k (k + 1) (by omega) hk (by omega)).1
theorem endK_next (k : Nat) (hk : k < L.length) : endK L (k + 1) = (L[k]).1 + (L[k]).2.1 := by rw [endK, getD_at k hk]
/-- The first k runs, cut at t. -/
def cutA (L : Rns) (t k : Nat) : Rns := (L.take k).foldl (fun M x => joinR M (partR x 0 t)) []
/-- What of the first k runs is from s on, behind the others. -/
def cutB (L : Rns) (s : Nat) (M : Rns) (k : Nat) : Rns := (L.take k).foldl (fun M x => joinR M (partR x s 1024)) M
theorem take_next (k : Nat) (hk : k < L.length) : L.take (k + 1) = L.take k ++ [L[k]] := by
  rw [List.take_add_one, List.getElem?_eq_getElem hk]
  rfl
theorem cutA_zero (L : Rns) (t : Nat) : cutA L t 0 = [] := by simp [cutA]
theorem cutB_zero (L : Rns) (s : Nat) (M : Rns) : cutB L s M 0 = M := by simp [cutB]
theorem cutA_next (t k : Nat) (hk : k < L.length) : cutA L t (k + 1) = joinR (cutA L t k) (partR (L[k]) 0 t) := by
  rw [cutA, take_next k hk, List.foldl_append]
  rfl
theorem cutB_next (s : Nat) (M : Rns) (k : Nat) (hk : k < L.length) : cutB L s M (k + 1) = joinR (cutB L s M k) (partR (L[k]) s 1024) := by
  rw [cutB, take_next k hk, List.foldl_append]
  rfl
theorem cutA_desc (D : Desc f 1024 L) {t : Nat} (ht : t ≤ 1024) (hg : ∀ k, k < t → g k = f k) : ∀ k, k ≤ L.length → Desc g (min t (endK L k)) (cutA L t k)
  | 0, _ => by
    rw [cutA_zero, endK, Nat.min_zero]
    exact Desc.nil g
  | k + 1, hk => by
    have ih := cutA_desc D ht hg k (by omega)
    have hk' : k < L.length := hk
    have h1 := D.end_le k hk'
    have h2 := D.pos (L[k]) (List.getElem_mem _)
    rw [cutA_next t k hk', endK_next k hk']
    have hgap : ∀ j, endK L k ≤ j → j < (L[k]).1 → j < 1024 → f j = 0 := fun j a b c => D.gap k (Nat.le_of_lt hk') j a (fun _ => b) c
    have hval := D.val (L[k]) (List.getElem_mem _)
    generalize L[k] = x at *
    rcases Nat.lt_or_ge x.1 t with h3 | h3
    · have hp : partR x 0 t = (x.1, min t (x.1 + x.2.1) - x.1, x.2.2) := by simp [partR]
      rw [hp]
      have h4 := join_desc (x := (x.1, min t (x.1 + x.2.1) - x.1, x.2.2)) ih (show min t (endK L k) ≤ x.1 by omega) (fun j a b => by
        dsimp only at b
        rw [hg j (by omega)]
        exact hgap j (by omega) b (by omega)) (fun j a b => by
        dsimp only at a b ⊢
        rw [hg j (by omega)]
        exact hval j a (by omega))
      dsimp only at h4
      rwa [show x.1 + (min t (x.1 + x.2.1) - x.1) = min t (x.1 + x.2.1) by omega] at h4
    · have hp : joinR (cutA L t k) (partR x 0 t) = cutA L t k := by
        unfold joinR
        rw [if_pos]
        left
        simp only [partR]
        omega
      rw [hp]
      refine ih.zeros (by omega) fun j a b => ?_
      rw [hg j (by omega)]
      exact hgap j (by omega) (by omega) (by omega)
theorem cutA_all (D : Desc f 1024 L) {t : Nat} (ht : t ≤ 1024) (hg : ∀ k, k < t → g k = f k) : Desc g t (cutA L t L.length) := by
  refine (cutA_desc D ht hg _ (Nat.le_refl _)).zeros (Nat.min_le_left _ _) fun j a b => ?_
  rw [hg j b]
  exact D.gap L.length (Nat.le_refl _) j (by omega) (fun h => absurd h (Nat.lt_irrefl _)) (by omega)
theorem cutB_desc (D : Desc f 1024 L) {s : Nat} (hs : s ≤ 1024) (hg : ∀ k, s ≤ k → g k = f k) (DM : Desc g s M) : ∀ k, k ≤ L.length → Desc g (max s (endK L k)) (cutB L s M k)
  | 0, _ => by rw [cutB_zero, endK, Nat.max_zero]; exact DM
  | k + 1, hk => by
    have ih := cutB_desc D hs hg DM k (by omega)
    have hk' : k < L.length := hk
    have h1 := D.end_le k hk'
    have h2 := D.pos (L[k]) (List.getElem_mem _)
    rw [cutB_next s M k hk', endK_next k hk']
    have hgap : ∀ j, endK L k ≤ j → j < (L[k]).1 → j < 1024 → f j = 0 := fun j a b c => D.gap k (Nat.le_of_lt hk') j a (fun _ => b) c
    have hval := D.val (L[k]) (List.getElem_mem _)
    generalize L[k] = x at *
    rcases Nat.lt_or_ge s (x.1 + x.2.1) with h3 | h3
    · have hp : partR x s 1024 = (max s x.1, x.1 + x.2.1 - max s x.1, x.2.2) := by
        simp only [partR]
        rw [show min 1024 (x.1 + x.2.1) = x.1 + x.2.1 by omega]
      rw [hp]
      have h4 := join_desc (x := (max s x.1, x.1 + x.2.1 - max s x.1, x.2.2)) ih (show max s (endK L k) ≤ max s x.1 by omega) (fun j a b => by
        dsimp only at b
        rw [hg j (by omega)]
        exact hgap j (by omega) (by omega) (by omega)) (fun j a b => by
        dsimp only at a b ⊢
        rw [hg j (by omega)]
        exact hval j (by omega) (by omega))
      dsimp only at h4
      rwa [show max s x.1 + (x.1 + x.2.1 - max s x.1) = max s (x.1 + x.2.1) by omega] at h4
    · have hp : joinR (cutB L s M k) (partR x s 1024) = cutB L s M k := by
        unfold joinR
        rw [if_pos]
        left
        simp only [partR]
        omega
      rw [hp]
      refine ih.zeros (by omega) fun j a b => ?_
      rw [hg j (by omega)]
      exact hgap j (by omega) (by omega) (by omega)
theorem cutB_all (D : Desc f 1024 L) {s : Nat} (hs : s ≤ 1024) (hg : ∀ k, s ≤ k → g k = f k) (DM : Desc g s M) : Desc g 1024 (cutB L s M L.length) := by
  have h1 := cutB_desc D hs hg DM _ (Nat.le_refl _)
  have h2 : endK L L.length ≤ 1024 := by
    cases h : L.length with
    | zero => exact Nat.zero_le _
    | succ k =>
      rw [endK_next k (by omega)]
      exact (D.pos _ (List.getElem_mem _)).2.2
  refine h1.zeros (by omega) fun j a b => ?_
  rw [hg j (by omega)]
  exact D.gap L.length (Nat.le_refl _) j (by omega) (fun h => absurd h (Nat.lt_irrefl _)) b
/-- The runs with a range turned. -/
def turnR (L : Rns) (p c r : Nat) : Rns := cutB L (p + c) (joinR (cutA L p L.length) (p, c, r)) L.length
end
theorem turnR_runs (f : Nat → Nat) (p c r : Nat) (h : p + c ≤ 1024) (g : Nat → Nat) (hg : ∀ i, g i = if p ≤ i ∧ i < p + c then r else f i) : turnR (runsTo f 1024) p c r = runsTo g 1024 := by
  have D := runs_desc f 1024
  refine desc_runs (cutB_all D h (fun k hk => by rw [hg, if_neg (by omega)]) ?_)
  exact join_desc (x := (p, c, r)) (cutA_all D (by omega) (fun k hk => by rw [hg, if_neg (by omega)])) (Nat.le_refl _) (fun k a b => by dsimp only at b; omega) (fun k a b => by dsimp only at a b ⊢; rw [hg, if_pos ⟨a, b⟩])
/-- How many of the range's pages the first k runs have. -/
def sumR (L : Rns) (p c k : Nat) : Nat := ((L.take k).map fun x => (partR x p (p + c)).2.1).sum
theorem sumR_zero (L : Rns) (p c : Nat) : sumR L p c 0 = 0 := by simp [sumR]
theorem sumR_next {L : Rns} (p c k : Nat) (hk : k < L.length) : sumR L p c (k + 1) = sumR L p c k + (partR (L[k]) p (p + c)).2.1 := by
  rw [sumR, take_next k hk, List.map_append, List.sum_append]
  simp [sumR]
theorem sum_none : ∀ l : List Nat, (∀ y ∈ l, y = 0) → l.sum = 0
  | [], _ => rfl
  | x :: r, h => by rw [List.sum_cons, h x (by simp), sum_none r fun y hy => h y (List.mem_cons_of_mem _ hy)]
theorem sum_zero (j : Nat) : ∀ L : Rns, (∀ x ∈ L, ¬ (x.1 ≤ j ∧ j < x.1 + x.2.1)) → (L.map fun x => if x.1 ≤ j ∧ j < x.1 + x.2.1 then 1 else 0).sum = 0
  | [], _ => rfl
  | x :: r, h => by
    rw [List.map_cons, List.sum_cons, if_neg (h x (by simp)), sum_zero j r fun y hy => h y (List.mem_cons_of_mem _ hy)]
theorem sum_cover {f : Nat → Nat} {L : Rns} (D : Desc f 1024 L) (j : Nat) (hj : j < 1024) : (L.map fun x => if x.1 ≤ j ∧ j < x.1 + x.2.1 then 1 else 0).sum = if f j = 0 then 0 else 1 := by
  by_cases h0 : f j = 0
  · rw [if_pos h0]
    refine sum_zero j L fun x hx h => ?_
    have := D.val x hx j h.1 h.2
    have := D.pos x hx
    omega
  · rw [if_neg h0]
    obtain ⟨x, hx, h1, h2⟩ := D.cov j hj h0
    obtain ⟨A, B, rfl⟩ := List.append_of_mem hx
    obtain ⟨r1, r2, r3⟩ := List.pairwise_append.1 D.ris
    have r4 := List.pairwise_cons.1 r2
    rw [List.map_append, List.map_cons, List.sum_append, List.sum_cons, if_pos ⟨h1, h2⟩, sum_zero j A (fun y hy h => ?_), sum_zero j B (fun y hy h => ?_)]
    · have h5 := (r4.1 y hy).1
      omega
    · have h5 := (r3 y hy x (by simp)).1
      have h6 := D.pos y (by simp [hy])
      omega
theorem sum_next (p c : Nat) : ∀ L : Rns, (∀ x ∈ L, 1 ≤ x.2.1) → (L.map fun x => (partR x p (p + (c + 1))).2.1).sum = (L.map fun x => (partR x p (p + c)).2.1).sum + (L.map fun x => if x.1 ≤ p + c ∧ p + c < x.1 + x.2.1 then 1 else 0).sum
  | [], _ => rfl
  | x :: r, h => by
    have h1 := h x (by simp)
    rw [List.map_cons, List.sum_cons, List.map_cons, List.sum_cons, List.map_cons, List.sum_cons, sum_next p c r fun y hy => h y (List.mem_cons_of_mem _ hy)]
    have h2 : (partR x p (p + (c + 1))).2.1 = (partR x p (p + c)).2.1 + if x.1 ≤ p + c ∧ p + c < x.1 + x.2.1 then 1 else 0 := by
      simp only [partR]
      split <;> omega
    omega
theorem sumR_all {f : Nat → Nat} {L : Rns} (D : Desc f 1024 L) (p : Nat) : ∀ c, p + c ≤ 1024 → sumR L p c L.length = cntM f p c
  | 0, _ => by
    unfold sumR cntM
    rw [List.take_length]
    refine sum_none _ fun y hy => ?_
    obtain ⟨x, hx, rfl⟩ := List.mem_map.1 hy
    simp only [partR]
    omega
  | c + 1, h => by
    have ih := sumR_all D p c (by omega)
    unfold sumR at ih ⊢
    rw [List.take_length] at ih ⊢
    rw [sum_next p c L fun x hx => (D.pos x hx).1, ih, sum_cover D (p + c) (by omega), cntM]
    split <;> rfl
/-- A page's rights, by its run. -/
theorem Desc.hit {f : Nat → Nat} {L : Rns} (D : Desc f 1024 L) {x : Nat × Nat × Nat} (hx : x ∈ L) {p : Int} (h1 : (x.1 : Int) ≤ p) (h2 : p < (x.1 : Int) + (x.2.1 : Int)) : rgV f p = x.2.2 ∧ 1 ≤ x.2.2 := by
  have h3 := D.pos x hx
  unfold rgV
  rw [if_pos ⟨by omega, by omega⟩]
  exact ⟨D.val x hx _ (by omega) (by omega), h3.2.1⟩
theorem Desc.miss {f : Nat → Nat} {L : Rns} (D : Desc f 1024 L) {p : Int} (h : ∀ k (hk : k < L.length), ¬ (((L[k]).1 : Int) ≤ p ∧ p < ((L[k]).1 : Int) + ((L[k]).2.1 : Int))) : rgV f p = 0 := by
  unfold rgV
  split
  · next hp =>
    refine Decidable.byContradiction fun h0 => ?_
    obtain ⟨x, hx, a1, a2⟩ := D.cov p.toNat (by omega) h0
    obtain ⟨i, hi, rfl⟩ := List.getElem_of_mem hx
    exact h i hi ⟨by omega, by omega⟩
  · rfl
end Go.Proofs.Ythnkbipdlepbaaa
