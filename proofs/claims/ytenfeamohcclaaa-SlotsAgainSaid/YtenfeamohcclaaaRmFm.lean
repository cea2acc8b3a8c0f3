/-
  rmap, by numbers: frames by pages, as a finite function; whose frames are, as a row. Of no program.
-/
import Derived.Test.YtenfeamohcclaaaRmPure
import Derived.Test.YtenfeamohcclaaaLMap
namespace Go.Proofs.Ytenfeamohcclaaa
open Go

/-- Frames by pages. -/
def fmO (f : Nat → Ownr) (N : Nat) (x : Int × Int) : Option Int := if 1 ≤ x.1 ∧ 0 ≤ x.2 then (findF f (x.1.toNat, x.2.toNat) N).map (fun (i : Nat) => (i : Int)) else none
theorem findF_cong {f g : Nat → Ownr} {x : Ownr} : ∀ {n}, (∀ i, i < n → (g i = x ↔ f i = x)) → findF g x n = findF f x n
  | 0, _ => rfl
  | n + 1, h => by
    unfold findF
    rw [findF_cong (n := n) (fun i hi => h i (by omega))]
    cases findF f x n with
    | some j => rfl
    | none =>
      dsimp only
      by_cases e : f n = x
      · rw [if_pos e, if_pos ((h n (by omega)).2 e)]
      · rw [if_neg e, if_neg (fun q => e ((h n (by omega)).1 q))]
theorem findF_no {f : Nat → Ownr} {x : Ownr} : ∀ {n}, (∀ i, i < n → f i ≠ x) → findF f x n = none
  | 0, _ => rfl
  | n + 1, h => by
    unfold findF
    rw [findF_no (n := n) (fun i hi => h i (by omega))]
    dsimp only
    rw [if_neg (h n (by omega))]
theorem findF_only {f : Nat → Ownr} {x : Ownr} {i : Nat} : ∀ {n}, i < n → f i = x → (∀ j, j < n → j ≠ i → f j ≠ x) → findF f x n = some i
  | 0, h, _, _ => absurd h (Nat.not_lt_zero _)
  | n + 1, h, hx, ho => by
    unfold findF
    by_cases e : i = n
    · rw [findF_no (n := n) (fun j hj => ho j (by omega) (by omega))]
      dsimp only
      rw [if_pos (by rw [← e]; exact hx), e]
    · rw [findF_only (n := n) (by omega) hx (fun j hj => ho j (by omega))]
section
variable {f : Nat → Ownr} {N : Nat}
theorem fmO_some {x : Int × Int} {i : Int} (h : fmO f N x = some i) : ∃ k : Nat, i = k ∧ k < N ∧ 1 ≤ x.1 ∧ 0 ≤ x.2 ∧ f k = (x.1.toNat, x.2.toNat) := by
  unfold fmO at h
  by_cases hx : 1 ≤ x.1 ∧ 0 ≤ x.2
  · rw [if_pos hx] at h
    cases h1 : findF f (x.1.toNat, x.2.toNat) N with
    | none => rw [h1] at h; cases h
    | some k =>
      rw [h1] at h
      obtain ⟨h2, h3⟩ := findF_some h1
      exact ⟨k, (Option.some.inj h).symm, h2, hx.1, hx.2, h3⟩
  · rw [if_neg hx] at h; cases h
theorem fmO_new (N : Nat) : fmO (fun _ => (0, 0)) N = fun _ => none := by
  funext x
  cases h : fmO (fun _ => (0, 0)) N x with
  | none => rfl
  | some i =>
    obtain ⟨k, _, _, h1, _, h2⟩ := fmO_some h
    have := congrArg Prod.fst h2
    dsimp only at this
    omega
/-- At most as many as frames. -/
theorem fmO_count {l : List (Int × Int)} (hn : l.Nodup) (hl : ∀ x, x ∈ l → (fmO f N x).isSome = true) : l.length ≤ N := by
  refine nodup_inj hn (fun x => (fmO f N x).getD 0) N (fun x hx => ?_) (fun x hx y hy e => ?_)
  · obtain ⟨i, hi⟩ := Option.isSome_iff_exists.1 (hl x hx)
    obtain ⟨k, rfl, h1, _⟩ := fmO_some hi
    simp only [hi, Option.getD_some]
    omega
  · obtain ⟨i, hi⟩ := Option.isSome_iff_exists.1 (hl x hx)
    obtain ⟨j, hj⟩ := Option.isSome_iff_exists.1 (hl y hy)
    simp only [hi, hj, Option.getD_some] at e
    subst e
    obtain ⟨k, e1, _, a1, a2, a3⟩ := fmO_some hi
    obtain ⟨k2, e2, _, b1, b2, b3⟩ := fmO_some hj
    obtain rfl : k = k2 := by omega
    rw [a3] at b3
    obtain ⟨x1, x2⟩ := x
    obtain ⟨y1, y2⟩ := y
    have c1 := congrArg Prod.fst b3
    have c2 := congrArg Prod.snd b3
    dsimp only at a1 a2 b1 b2 c1 c2
    have d1 : x1 = y1 := by omega
    have d2 : x2 = y2 := by omega
    rw [d1, d2]
/-- A frame that was nobody's is that page's. -/
theorem fmO_set {X P Q : Nat} (hX : X < N) (hP : 1 ≤ P) (h0 : (f X).1 = 0) (hno : findF f (P, Q) N = none) (y : Int × Int) :
    fmO (updO f X (P, Q)) N y = lput (fmO f N) ((P : Int), (Q : Int)) (X : Int) y := by
  obtain ⟨a, b⟩ := y
  unfold lput
  by_cases e : (a, b) = ((P : Int), (Q : Int))
  · rw [if_pos e]
    cases e
    unfold fmO
    dsimp only
    rw [if_pos ⟨by omega, by omega⟩, Int.toNat_natCast, Int.toNat_natCast, findF_only (i := X) hX (by unfold updO; rw [if_pos rfl]) (fun j hj hne => by
      unfold updO
      rw [if_neg hne]
      exact findF_none hno j hj)]
    rfl
  · rw [if_neg e]
    unfold fmO
    dsimp only
    by_cases h : 1 ≤ a ∧ 0 ≤ b
    · rw [if_pos h, if_pos h, findF_cong (f := f) (fun i hi => ?_)]
      unfold updO
      by_cases ei : i = X
      · subst ei
        rw [if_pos rfl]
        constructor
        · intro q
          exfalso
          apply e
          have c1 := congrArg Prod.fst q
          have c2 := congrArg Prod.snd q
          dsimp only at c1 c2
          rw [show a = (P : Int) by omega, show b = (Q : Int) by omega]
        · intro q
          have c1 := congrArg Prod.fst q
          dsimp only at c1
          omega
      · rw [if_neg ei]
    · rw [if_neg h, if_neg h]
/-- A frame that was somebody's is nobody's. -/
theorem fmO_cut (I : RmI f N) {X P Q : Nat} (hX : X < N) (hP : 1 ≤ P) (hf : f X = (P, Q)) (y : Int × Int) :
    fmO (updO f X (0, 0)) N y = lcut (fmO f N) ((P : Int), (Q : Int)) y := by
  obtain ⟨a, b⟩ := y
  unfold lcut
  by_cases e : (a, b) = ((P : Int), (Q : Int))
  · rw [if_pos e]
    cases e
    unfold fmO
    dsimp only
    rw [if_pos ⟨by omega, by omega⟩, Int.toNat_natCast, Int.toNat_natCast, findF_no (fun j hj q => ?_)]
    · rfl
    · unfold updO at q
      by_cases ej : j = X
      · rw [if_pos ej] at q
        have c1 := congrArg Prod.fst q
        dsimp only at c1
        omega
      · rw [if_neg ej] at q
        exact ej (I.one j X hj hX (by rw [q]; dsimp only; omega) (by rw [q, hf]))
  · rw [if_neg e]
    unfold fmO
    dsimp only
    by_cases h : 1 ≤ a ∧ 0 ≤ b
    · rw [if_pos h, if_pos h, findF_cong (f := f) (fun i hi => ?_)]
      unfold updO
      by_cases ei : i = X
      · subst ei
        rw [if_pos rfl]
        constructor
        · intro q
          have c1 := congrArg Prod.fst q
          dsimp only at c1
          omega
        · intro q
          exfalso
          apply e
          rw [hf] at q
          have c1 := congrArg Prod.fst q
          have c2 := congrArg Prod.snd q
          dsimp only at c1 c2
          rw [show a = (P : Int) by omega, show b = (Q : Int) by omega]
      · rw [if_neg ei]
    · rw [if_neg h, if_neg h]
end
/-- Whose frames are, as they lie. -/
def owV (f : Nat → Ownr) (j : Nat) : Value := if j % 2 = 0 then .int .i64 (f (j / 2)).1 else .int .i64 (f (j / 2)).2
def owL (f : Nat → Ownr) (N : Nat) : List Value := (List.range (N * 2)).map (owV f)
theorem owL_len (f : Nat → Ownr) (N : Nat) : (owL f N).length = N * 2 := by simp [owL]
theorem owL_at {f : Nat → Ownr} {N j : Nat} (hj : j < N * 2) : (owL f N)[j]? = some (owV f j) := by
  unfold owL
  rw [List.getElem?_map, List.getElem?_range hj]
  rfl
theorem owL_one (f : Nat → Ownr) (N : Nat) : ∀ u ∈ owL f N, u.oneCell' = true := by
  intro u hu
  obtain ⟨j, _, rfl⟩ := List.mem_map.1 hu
  unfold owV
  split <;> rfl
theorem owL_set {f : Nat → Ownr} {N i y1 y2 : Nat} : ((owL f N).set (i * 2) (.int .i64 y1)).set (i * 2 + 1) (.int .i64 y2) = owL (updO f i (y1, y2)) N := by
  refine List.ext_getElem? fun j => ?_
  by_cases hj : j < N * 2
  · rw [owL_at hj, List.getElem?_set, List.getElem?_set, List.length_set, owL_len, owL_at hj]
    unfold owV updO
    by_cases h1 : i * 2 + 1 = j
    · subst h1
      rw [if_pos rfl, if_pos (by omega), if_neg (by omega), if_pos (by omega)]
    · rw [if_neg h1]
      by_cases h0 : i * 2 = j
      · subst h0
        rw [if_pos rfl, if_pos (by omega), if_pos (by omega), if_pos (by omega)]
      · rw [if_neg h0, if_neg (show ¬ j / 2 = i by omega)]
  · rw [List.getElem?_eq_none (by simp [owL_len]; omega), List.getElem?_eq_none (by rw [owL_len]; omega)]
/-- Pages of a process are told one behind the other. -/
theorem ofL_preF (f : Nat → Ownr) (N : Nat) (p : Int) (i : Nat) : ∀ n, i ≤ n → ∃ T, ofL f N p n = ofL f N p i ++ T
  | 0, h => ⟨[], by rw [show i = 0 by omega]; simp⟩
  | n + 1, h => by
    by_cases e : i = n + 1
    · exact ⟨[], by rw [e]; simp⟩
    · obtain ⟨T, hT⟩ := ofL_preF f N p i n (by omega)
      by_cases hp : 1 ≤ p
      · cases hf : findF f (p.toNat, n) N with
        | none => exact ⟨T, by rw [ofL, if_pos hp, hf]; exact hT⟩
        | some x => exact ⟨T ++ [(n, x)], by rw [ofL, if_pos hp, hf]; dsimp only; rw [hT, List.append_assoc]⟩
      · have h0 : ∀ m, ofL f N p m = [] := fun m => by cases m <;> simp [ofL, hp]
        exact ⟨[], by rw [h0, h0]; rfl⟩
/-- The next one that is told. -/
theorem ofL_atF {f : Nat → Ownr} {N : Nat} {p : Int} {i x : Nat} (hi : i < 1024) (hp : 1 ≤ p) (h : findF f (p.toNat, i) N = some x) :
    ∃ hj : (ofL f N p i).length < (ofL f N p 1024).length, (ofL f N p 1024)[(ofL f N p i).length]'hj = (i, x) ∧ (ofL f N p (i + 1)).length = (ofL f N p i).length + 1 := by
  obtain ⟨T, hT⟩ := ofL_preF f N p (i + 1) 1024 hi
  have e : ofL f N p (i + 1) = ofL f N p i ++ [(i, x)] := by rw [ofL, if_pos hp, h]
  rw [e] at hT
  have hl : (ofL f N p 1024).length = (ofL f N p i).length + 1 + T.length := by rw [hT]; simp; omega
  refine ⟨by omega, ?_, by rw [e]; simp⟩
  have h2 : (ofL f N p 1024)[(ofL f N p i).length]? = some (i, x) := by rw [hT]; simp
  exact (List.getElem?_eq_some_iff.1 h2).2
/-- No page, no telling. -/
theorem ofL_skipF {f : Nat → Ownr} {N : Nat} {p : Int} {i : Nat} (h : fmO f N (p, (i : Int)) = none) : ofL f N p (i + 1) = ofL f N p i := by
  unfold fmO at h
  dsimp only at h
  by_cases hp : 1 ≤ p
  · rw [if_pos ⟨hp, by omega⟩, Int.toNat_natCast] at h
    rw [ofL, if_pos hp]
    cases hf : findF f (p.toNat, i) N with
    | none => rfl
    | some x => rw [hf] at h; cases h
  · cases i <;> simp [ofL, hp]
theorem ofL_takeF {f : Nat → Ownr} {N : Nat} {p x : Int} {i : Nat} (h : fmO f N (p, (i : Int)) = some x) : ∃ k : Nat, x = k ∧ 1 ≤ p ∧ findF f (p.toNat, i) N = some k := by
  unfold fmO at h
  dsimp only at h
  by_cases hp : 1 ≤ p
  · rw [if_pos ⟨hp, by omega⟩, Int.toNat_natCast] at h
    cases hf : findF f (p.toNat, i) N with
    | none => rw [hf] at h; cases h
    | some k => rw [hf] at h; exact ⟨k, (Option.some.inj h).symm, hp, rfl⟩
  · rw [if_neg (fun q => hp q.1)] at h; cases h
end Go.Proofs.Ytenfeamohcclaaa
