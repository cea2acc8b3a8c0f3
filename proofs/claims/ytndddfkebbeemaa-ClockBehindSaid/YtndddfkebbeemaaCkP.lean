/-
  clock, by numbers: the states as a function of the frames' numbers; at which look a Next tells. Of no program.
-/
import Derived.Test.YtndddfkebbeemaaClPure
import Derived.Test.YtndddfkebbeemaaLMap
namespace Go.Proofs.Ytndddfkebbeemaa
open Go

/-- What is known of a frame: active, touched. -/
def stM (L : List Fr) (x : Int) : Option (Bool × Bool) := (L.find? fun y => decide ((y.1 : Int) = x)).map (·.2)
theorem stM_nil : stM [] = fun _ => none := rfl
theorem stM_cons (y : Fr) (L : List Fr) (x : Int) : stM (y :: L) x = if (y.1 : Int) = x then some y.2 else stM L x := by
  unfold stM
  by_cases h : (y.1 : Int) = x
  · simp [h]
  · simp [h]
theorem hasL_cons (y : Fr) (L : List Fr) (x : Int) : hasL (y :: L) x = (decide ((y.1 : Int) = x) || hasL L x) := by
  unfold hasL namesL
  rw [Bool.eq_iff_iff]
  simp only [List.map_cons, List.mem_cons, decide_eq_true_eq, Bool.or_eq_true]
  constructor
  · rintro ⟨h0, h | h⟩
    · exact .inl (by omega)
    · exact .inr ⟨h0, h⟩
  · rintro (h | ⟨h0, h⟩)
    · exact ⟨by omega, .inl (by omega)⟩
    · exact ⟨h0, .inr h⟩
theorem stM_has : ∀ (L : List Fr) (x : Int), (stM L x).isSome = hasL L x
  | [], x => by simp [stM, hasL, namesL]
  | y :: L, x => by
    rw [stM_cons, hasL_cons, ← stM_has L x]
    by_cases h : (y.1 : Int) = x <;> simp [h]
theorem stM_app : ∀ (L : List Fr) (y : Fr) (x : Int), stM (L ++ [y]) x = if hasL L x = true then stM L x else if (y.1 : Int) = x then some y.2 else none
  | [], y, x => by rw [List.nil_append, stM_cons]; simp [hasL, namesL, stM]
  | z :: L, y, x => by
    rw [List.cons_append, stM_cons, stM_app L y x, stM_cons, hasL_cons]
    by_cases h : (z.1 : Int) = x <;> simp [h]
theorem ck_mem {L : List Fr} {n : Nat} : hasL L (n : Int) = true ↔ n ∈ namesL L := by
  unfold hasL
  simp
theorem stM_add {L : List Fr} {x : Int} (h0 : 0 ≤ x) (hn : hasL L x = false) (y : Int) : stM (L ++ [(x.toNat, true, true)]) y = lput (stM L) x (true, true) y := by
  rw [stM_app]
  unfold lput
  by_cases e : y = x
  · subst e
    rw [hn]
    simp
    omega
  · rw [if_neg e]
    have h1 : ¬ ((x.toNat : Nat) : Int) = y := by omega
    dsimp only
    rw [if_neg h1]
    by_cases hh : hasL L y = true
    · rw [if_pos hh]
    · rw [if_neg hh]
      have h2 := stM_has L y
      cases hs : stM L y with
      | none => rfl
      | some v => rw [hs] at h2; exact absurd h2.symm hh
theorem stM_look {x : Fr} {L : List Fr} (hn : (namesL (x :: L)).Nodup) (y : Int) : stM (L ++ [stepF x]) y = lput (stM (x :: L)) (x.1 : Int) (x.2.2, false) y := by
  rw [stM_app]
  have h1 : hasL L (x.1 : Int) = false := by
    rw [Bool.eq_false_iff]
    intro h
    exact (List.nodup_cons.1 hn).1 (ck_mem.1 h)
  unfold lput
  by_cases e : y = (x.1 : Int)
  · subst e
    rw [h1]
    simp [stepF]
  · rw [if_neg e, stM_cons]
    have h2 : ¬ ((stepF x).1 : Int) = y := fun h => e (by rw [← h]; rfl)
    have h4 : ¬ ((x.1 : Nat) : Int) = y := fun h => e h.symm
    rw [if_neg h2, if_neg h4]
    by_cases hh : hasL L y = true
    · rw [if_pos hh]
    · rw [if_neg hh]
      have h3 := stM_has L y
      cases hs : stM L y with
      | none => rfl
      | some v => rw [hs] at h3; exact absurd h3.symm hh
theorem stM_filter (n : Nat) : ∀ (L : List Fr) (y : Int), stM (L.filter fun z => decide (z.1 ≠ n)) y = lcut (stM L) (n : Int) y
  | [], y => by unfold lcut; simp [stM]
  | z :: L, y => by
    have ih := stM_filter n L y
    unfold lcut at ih ⊢
    by_cases hz : z.1 = n
    · rw [List.filter_cons_of_neg (by simp [hz]), ih, stM_cons]
      by_cases e : y = (n : Int)
      · rw [if_pos e, if_pos e]
      · rw [if_neg e, if_neg e, if_neg (by omega)]
    · rw [List.filter_cons_of_pos (by simp [hz]), stM_cons, ih, stM_cons]
      by_cases e : y = (n : Int)
      · rw [if_pos e, if_pos e, if_neg (by omega)]
      · rw [if_neg e, if_neg e]
theorem stM_rem {L : List Fr} {x : Int} (h : hasL L x = true) (y : Int) : stM (remL L x) y = lcut (stM L) x y := by
  have h0 : 0 ≤ x := (of_decide_eq_true h).1
  obtain ⟨n, rfl⟩ : ∃ n : Nat, x = n := ⟨x.toNat, by omega⟩
  unfold remL
  rw [if_pos h, Int.toNat_natCast]
  exact stM_filter n L y
theorem stM_map (n : Nat) : ∀ (L : List Fr) (y : Int), stM (L.map fun z => if z.1 = n then (z.1, z.2.1, true) else z) y = if y = (n : Int) then (stM L y).map (fun c => (c.1, true)) else stM L y
  | [], y => by simp [stM]
  | z :: L, y => by
    rw [List.map_cons, stM_cons, stM_map n L y, stM_cons]
    by_cases hz : z.1 = n
    · rw [if_pos hz]
      dsimp only
      by_cases e : y = (n : Int)
      · rw [if_pos (by omega), if_pos e, if_pos (by omega)]; rfl
      · rw [if_neg (by omega), if_neg e, if_neg e, if_neg (by omega)]
    · rw [if_neg hz]
      by_cases e : y = (n : Int)
      · rw [if_neg (by omega), if_pos e, if_pos e, if_neg (by omega)]
      · rw [if_neg e, if_neg e]
theorem stM_tou {L : List Fr} {x : Int} {a t : Bool} (h : stM L x = some (a, t)) (y : Int) : stM (touL L x) y = lput (stM L) x (a, true) y := by
  have hh : hasL L x = true := by rw [← stM_has, h]; rfl
  have h0 : 0 ≤ x := (of_decide_eq_true hh).1
  obtain ⟨n, rfl⟩ : ∃ n : Nat, x = n := ⟨x.toNat, by omega⟩
  unfold touL lput
  rw [if_pos hh, Int.toNat_natCast, stM_map]
  by_cases e : y = (n : Int)
  · rw [if_pos e, if_pos e, e, h]; rfl
  · rw [if_neg e, if_neg e]
theorem stM_mem : ∀ {L : List Fr} {z : Fr}, (namesL L).Nodup → z ∈ L → stM L (z.1 : Int) = some z.2
  | [], _, _, h => absurd h List.not_mem_nil
  | y :: L, z, hn, h => by
    obtain ⟨h1, h2⟩ := List.nodup_cons.1 hn
    rw [stM_cons]
    rcases List.mem_cons.1 h with rfl | h
    · rw [if_pos rfl]
    · by_cases e : (y.1 : Int) = (z.1 : Int)
      · exact absurd (show y.1 ∈ List.map (fun x : Fr => x.1) L from List.mem_map.2 ⟨z, h, by omega⟩) h1
      · rw [if_neg e, stM_mem h2 h]
/-- As many different ones as there are. -/
theorem nodup_into : ∀ (l m : List Nat), l.Nodup → (∀ x ∈ l, x ∈ m) → l.length ≤ m.length
  | [], _, _, _ => Nat.zero_le _
  | x :: l, m, hn, h => by
    obtain ⟨h1, h2⟩ := List.nodup_cons.1 hn
    have hx := h x List.mem_cons_self
    have h3 := nodup_into l (m.erase x) h2 (fun y hy => (List.mem_erase_of_ne (fun e => h1 (by rw [← e]; exact hy))).2 (h y (List.mem_cons_of_mem _ hy)))
    have h4 := List.length_erase_of_mem hx
    have h5 := List.length_pos_of_mem hx
    simp only [List.length_cons]
    omega
theorem stM_few {L : List Fr} {k : Nat} (hk : L.length ≤ k) (l : List Int) (hn : l.Nodup) (h : ∀ x, x ∈ l → (stM L x).isSome = true) : l.length ≤ k := by
  have h1 : ∀ x ∈ l, 0 ≤ x ∧ x.toNat ∈ namesL L := fun x hx => of_decide_eq_true ((stM_has L x).symm.trans (h x hx))
  have h2 : (l.map Int.toNat).Nodup := by
    show List.Pairwise (· ≠ ·) (l.map Int.toNat)
    rw [List.pairwise_map]
    exact List.Pairwise.imp_of_mem (R := (· ≠ ·)) (fun {a b} ha hb hne e => hne (by have := (h1 a ha).1; have := (h1 b hb).1; omega)) hn
  have h3 := nodup_into (l.map Int.toNat) (namesL L) h2 (fun y hy => by
    obtain ⟨x, hx, rfl⟩ := List.mem_map.1 hy
    exact (h1 x hx).2)
  rw [List.length_map, namesL_len] at h3
  omega
/-- At which look a Next tells: the ones ahead of it aren't quiet. -/
theorem ck_first : ∀ (k : Nat) (L : List Fr), mass L ≤ k → L ≠ [] → ∃ j x M, looks j L = x :: M ∧ x.quiet ∧ nextL L = ((x.1, true), looks (j + 1) L) ∧ ∀ i, i < j → ∃ y N, looks i L = y :: N ∧ (y.2.1 || y.2.2) = true
  | _, [], _, h => absurd rfl h
  | k, x :: L, hk, _ => by
    by_cases hx : (x.2.1 || x.2.2) = true
    · have hw := wF_step hx
      have hm := mass_look (x := x) (L := L)
      match k, hk with
      | 0, hk => omega
      | k + 1, hk =>
        obtain ⟨j, y, M, h1, h2, h3, h4⟩ := ck_first k (L ++ [stepF x]) (by omega) (by simp)
        refine ⟨j + 1, y, M, h1, h2, ?_, fun i hi => ?_⟩
        · rw [nextL_pass hx, h3]; rfl
        · cases i with
          | zero => exact ⟨x, L, rfl, hx⟩
          | succ i => exact h4 i (by omega)
    · have hq : x.quiet := by
        obtain ⟨n, a, t⟩ := x
        cases a <;> cases t <;> first | exact ⟨rfl, rfl⟩ | exact absurd rfl hx
      refine ⟨0, x, L, rfl, hq, ?_, fun i hi => absurd hi (Nat.not_lt_zero _)⟩
      rw [nextL_quiet hq]; simp [looks, lookL, stepF_quiet hq]
  termination_by k => k
theorem next_at (L : List Fr) (h : L ≠ []) : ∃ j x M, looks j L = x :: M ∧ x.quiet ∧ nextL L = ((x.1, true), looks (j + 1) L) ∧ ∀ i, i < j → ∃ y N, looks i L = y :: N ∧ (y.2.1 || y.2.2) = true := ck_first _ L (Nat.le_refl _) h
theorem looks_succ : ∀ (n : Nat) (L : List Fr), looks (n + 1) L = lookL (looks n L)
  | 0, _ => rfl
  | n + 1, L => looks_succ n (lookL L)
theorem ClI.look {L : List Fr} (h : ClI L) : ClI (lookL L) :=
  ⟨(look_names_perm L).nodup_iff.2 h.nd, fun x hx => h.le x ((look_names_perm L).mem_iff.1 hx), by rw [look_len]; exact h.len⟩
theorem ClI.looks {L : List Fr} (h : ClI L) : ∀ n, ClI (looks n L)
  | 0 => h
  | n + 1 => by rw [looks_succ]; exact (h.looks n).look
end Go.Proofs.Ytndddfkebbeemaa
