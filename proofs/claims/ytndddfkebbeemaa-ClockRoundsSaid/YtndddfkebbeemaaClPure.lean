/-
  clock, by numbers: the ring from the hand on; what becomes of it. Of no program.
-/
import Derived.Deep.LoopGhost
namespace Go.Proofs.Ytndddfkebbeemaa
open Go

/-- A frame in the ring: its number, active, touched. -/
abbrev Fr := Nat × Bool × Bool
abbrev Fr.quiet (x : Fr) : Prop := x.2.1 = false ∧ x.2.2 = false
/-- It is looked at. -/
def stepF (x : Fr) : Fr := (x.1, x.2.2, false)
/-- How often it is passed by yet, at most. -/
def wF (x : Fr) : Nat := if x.2.2 then 2 else if x.2.1 then 1 else 0
def mass (L : List Fr) : Nat := (L.map wF).sum
/-- The hand goes on. -/
def lookL : List Fr → List Fr
  | [] => []
  | x :: L => L ++ [stepF x]
def nextN : Nat → List Fr → (Nat × Bool) × List Fr
  | _, [] => ((0, false), [])
  | 0, x :: L => ((x.1, true), L ++ [stepF x])
  | k + 1, x :: L => if x.2.1 || x.2.2 then nextN k (L ++ [stepF x]) else ((x.1, true), L ++ [stepF x])
def nextL (L : List Fr) : (Nat × Bool) × List Fr := nextN (mass L) L
def namesL (L : List Fr) : List Nat := L.map (·.1)
def hasL (L : List Fr) (x : Int) : Bool := decide (0 ≤ x ∧ x.toNat ∈ namesL L)
def actL (L : List Fr) : Nat := L.countP (·.2.1)
def addE (L : List Fr) (x : Int) : Int := if x < 0 then 2 else if hasL L x then 8 else 0
def addL (L : List Fr) (x : Int) : List Fr := if x < 0 ∨ hasL L x = true then L else L ++ [(x.toNat, true, true)]
def noE (L : List Fr) (x : Int) : Int := if hasL L x then 0 else 7
def remL (L : List Fr) (x : Int) : List Fr := if hasL L x then L.filter (fun y => decide (y.1 ≠ x.toNat)) else L
def touL (L : List Fr) (x : Int) : List Fr := if hasL L x then L.map (fun y => if y.1 = x.toNat then (y.1, y.2.1, true) else y) else L
/-- What may be of a clock. -/
structure ClI (L : List Fr) : Prop where
  nd : (namesL L).Nodup
  le : ∀ x ∈ namesL L, (x : Int) ≤ 9223372036854775807
  len : L.length ≤ 1000

@[simp] theorem stepF_fst (x : Fr) : (stepF x).1 = x.1 := rfl
theorem stepF_quiet {x : Fr} (h : x.quiet) : stepF x = x := by
  obtain ⟨n, a, t⟩ := x
  obtain ⟨h1, h2⟩ := h
  dsimp only at h1 h2
  subst h1; subst h2
  rfl
theorem stepF_two (x : Fr) : (stepF (stepF x)).quiet := ⟨rfl, rfl⟩
theorem wF_step {x : Fr} (h : (x.2.1 || x.2.2) = true) : wF (stepF x) < wF x := by
  obtain ⟨n, a, t⟩ := x
  cases a <;> cases t <;> first | (simp [wF, stepF]; done) | exact absurd h (by simp)
theorem mass_look {x : Fr} {L : List Fr} : mass (L ++ [stepF x]) + wF x = mass (x :: L) + wF (stepF x) := by
  simp [mass]
  omega
theorem look_len (L : List Fr) : (lookL L).length = L.length := by
  cases L <;> simp [lookL]
/-- Whatever fuel is enough is as good. -/
theorem nextN_fuel : ∀ (k : Nat) (L : List Fr), mass L ≤ k → nextN k L = nextN (mass L) L
  | k, [], _ => by cases k <;> simp [nextN, mass]
  | 0, x :: L, h => by rw [Nat.le_zero.1 h]
  | k + 1, x :: L, h => by
    by_cases hx : (x.2.1 || x.2.2) = true
    · have hw := wF_step hx
      have hm := mass_look (x := x) (L := L)
      have h1 : mass (L ++ [stepF x]) ≤ k := by omega
      obtain ⟨m, hm2⟩ : ∃ m, mass (x :: L) = m + 1 := ⟨mass (x :: L) - 1, by omega⟩
      have e1 : nextN (k + 1) (x :: L) = nextN k (L ++ [stepF x]) := by simp only [nextN]; rw [if_pos hx]
      have e2 : nextN (m + 1) (x :: L) = nextN m (L ++ [stepF x]) := by simp only [nextN]; rw [if_pos hx]
      rw [e1, hm2, e2, nextN_fuel k _ h1]
      rw [hm2] at h hm
      by_cases hk : m ≤ k
      · by_cases he : m = k
        · subst he; rw [nextN_fuel m _ h1]
        · exact (nextN_fuel m _ (by omega)).symm
      · omega
    · have e1 : nextN (k + 1) (x :: L) = ((x.1, true), L ++ [stepF x]) := by simp only [nextN]; rw [if_neg hx]
      rw [e1]
      cases hm : mass (x :: L) with
      | zero => rfl
      | succ m => simp only [nextN]; rw [if_neg hx]
  termination_by k => k
theorem nextL_nil : nextL [] = ((0, false), []) := rfl
theorem nextL_quiet {x : Fr} {L : List Fr} (h : x.quiet) : nextL (x :: L) = ((x.1, true), L ++ [x]) := by
  have hx : ¬ (x.2.1 || x.2.2) = true := by rw [h.1, h.2]; decide
  unfold nextL
  cases hm : mass (x :: L) with
  | zero => simp only [nextN]; rw [stepF_quiet h]
  | succ m => simp only [nextN]; rw [if_neg hx, stepF_quiet h]
theorem nextL_pass {x : Fr} {L : List Fr} (h : (x.2.1 || x.2.2) = true) : nextL (x :: L) = nextL (L ++ [stepF x]) := by
  have hw := wF_step h
  have hm := mass_look (x := x) (L := L)
  unfold nextL
  obtain ⟨m, hm2⟩ : ∃ m, mass (x :: L) = m + 1 := ⟨mass (x :: L) - 1, by omega⟩
  rw [hm2]
  have e2 : nextN (m + 1) (x :: L) = nextN m (L ++ [stepF x]) := by simp only [nextN]; rw [if_pos h]
  rw [e2]
  exact nextN_fuel m _ (by omega)
/-- So often is it looked at. -/
def looks : Nat → List Fr → List Fr
  | 0, L => L
  | n + 1, L => looks n (lookL L)
theorem looks_add : ∀ (a b : Nat) (L : List Fr), looks (a + b) L = looks b (looks a L)
  | 0, b, L => by rw [Nat.zero_add]; rfl
  | a + 1, b, L => by rw [show a + 1 + b = a + b + 1 by omega]; exact looks_add a b _
theorem looks_len : ∀ (n : Nat) (L : List Fr), (looks n L).length = L.length
  | 0, _ => rfl
  | n + 1, L => (looks_len n _).trans (look_len L)
theorem looks_app : ∀ (A B : List Fr), looks A.length (A ++ B) = B ++ A.map stepF
  | [], B => by simp [looks]
  | x :: A, B => by
    rw [List.length_cons, looks, List.cons_append, lookL, List.append_assoc, looks_app A (B ++ [stepF x])]
    simp
theorem looks_all (L : List Fr) : looks L.length L = L.map stepF := by
  have := looks_app L []
  simpa using this
/-- A Next looks at least once, and tells the last one then, which is quiet. -/
theorem nextL_looks : ∀ (k : Nat) (L : List Fr), mass L ≤ k → L ≠ [] → ∃ j M x, 1 ≤ j ∧ (nextL L).2 = looks j L ∧ looks j L = M ++ [x] ∧ x.quiet ∧ (nextL L).1 = (x.1, true)
  | _, [], _, h => absurd rfl h
  | k, x :: L, hk, _ => by
    by_cases hx : (x.2.1 || x.2.2) = true
    · have hw := wF_step hx
      have hm := mass_look (x := x) (L := L)
      match k, hk with
      | 0, hk => omega
      | k + 1, hk =>
        obtain ⟨j, M, y, h1, h2, h3, h4, h5⟩ := nextL_looks k (L ++ [stepF x]) (by omega) (by simp)
        refine ⟨j + 1, M, y, by omega, ?_, h3, h4, ?_⟩
        · rw [nextL_pass hx, h2]; rfl
        · rw [nextL_pass hx, h5]
    · have hq : x.quiet := by
        obtain ⟨n, a, t⟩ := x
        cases a <;> cases t <;> first | exact ⟨rfl, rfl⟩ | exact absurd rfl hx
      refine ⟨1, L, x, Nat.le_refl _, ?_, ?_, hq, ?_⟩
      · rw [nextL_quiet hq]; simp [looks, lookL, stepF_quiet hq]
      · simp [looks, lookL, stepF_quiet hq]
      · rw [nextL_quiet hq]
  termination_by k => k
theorem nextL_at (L : List Fr) (h : L ≠ []) : ∃ j M x, 1 ≤ j ∧ (nextL L).2 = looks j L ∧ looks j L = M ++ [x] ∧ x.quiet ∧ (nextL L).1 = (x.1, true) := nextL_looks _ L (Nat.le_refl _) h
theorem nextL_len (L : List Fr) : (nextL L).2.length = L.length := by
  cases L with
  | nil => rfl
  | cons x L =>
    obtain ⟨j, M, y, _, h2, _⟩ := nextL_at (x :: L) (by simp)
    rw [h2, looks_len]
theorem look_names_perm (L : List Fr) : (namesL (lookL L)).Perm (namesL L) := by
  cases L with
  | nil => exact List.Perm.refl _
  | cons x L =>
    simp only [namesL, lookL, List.map_append, List.map_cons, List.map_nil, stepF_fst]
    exact List.perm_append_singleton _ _
theorem looks_names_perm : ∀ (n : Nat) (L : List Fr), (namesL (looks n L)).Perm (namesL L)
  | 0, _ => List.Perm.refl _
  | n + 1, L => (looks_names_perm n _).trans (look_names_perm L)
theorem nextL_perm (L : List Fr) : (namesL (nextL L).2).Perm (namesL L) := by
  cases L with
  | nil => exact List.Perm.refl _
  | cons x L =>
    obtain ⟨j, M, y, _, h2, _⟩ := nextL_at (x :: L) (by simp)
    rw [h2]
    exact looks_names_perm j _
theorem namesL_len (L : List Fr) : (namesL L).length = L.length := by simp [namesL]
theorem ClI.next {L : List Fr} (h : ClI L) : ClI (nextL L).2 :=
  ⟨(nextL_perm L).nodup_iff.2 h.nd, fun x hx => h.le x ((nextL_perm L).mem_iff.1 hx), by rw [nextL_len]; exact h.len⟩
theorem ClI.nil : ClI [] := ⟨List.nodup_nil, fun x hx => absurd hx List.not_mem_nil, by decide⟩
theorem addL_len (L : List Fr) (x : Int) : (addL L x).length ≤ L.length + 1 := by
  unfold addL
  split <;> simp
theorem ClI.add {L : List Fr} (h : ClI L) {x : Int} (hx : x ≤ 9223372036854775807) (hl : L.length < 1000) : ClI (addL L x) := by
  unfold addL
  split
  · exact h
  · rename_i hn
    have h0 : 0 ≤ x := by omega
    have hm : x.toNat ∉ namesL L := fun hm => hn (.inr (decide_eq_true ⟨h0, hm⟩))
    refine ⟨?_, fun y hy => ?_, by simp; omega⟩
    · rw [namesL, List.map_append, List.nodup_append]
      refine ⟨h.nd, List.nodup_cons.2 ⟨List.not_mem_nil, List.nodup_nil⟩, fun a ha b hb => ?_⟩
      simp at hb
      subst hb
      intro e
      subst e
      exact hm ha
    · rw [namesL, List.map_append, List.mem_append] at hy
      rcases hy with hy | hy
      · exact h.le y hy
      · simp at hy
        subst hy
        omega
theorem remL_len (L : List Fr) (x : Int) : (remL L x).length ≤ L.length := by
  unfold remL
  split
  · exact List.length_filter_le _ _
  · exact Nat.le_refl _
theorem remL_sub (L : List Fr) (x : Int) : (remL L x).Sublist L := by
  unfold remL
  split
  · exact List.filter_sublist
  · exact List.Sublist.refl _
theorem ClI.rem {L : List Fr} (h : ClI L) (x : Int) : ClI (remL L x) :=
  ⟨((remL_sub L x).map _).nodup h.nd, fun y hy => h.le y (((remL_sub L x).map _).subset hy), Nat.le_trans (remL_len L x) h.len⟩
theorem touL_names (L : List Fr) (x : Int) : namesL (touL L x) = namesL L := by
  unfold touL
  split
  · unfold namesL
    rw [List.map_map]
    refine List.map_congr_left fun y _ => ?_
    dsimp only [Function.comp]
    split <;> rfl
  · rfl
theorem touL_len (L : List Fr) (x : Int) : (touL L x).length = L.length := by rw [← namesL_len, touL_names, namesL_len]
theorem ClI.tou {L : List Fr} (h : ClI L) (x : Int) : ClI (touL L x) := ⟨by rw [touL_names]; exact h.nd, fun y hy => h.le y (by rwa [touL_names] at hy), by rw [touL_len]; exact h.len⟩
/-- So many Nexts. -/
def nexts : Nat → List Fr → List Fr
  | 0, L => L
  | n + 1, L => nexts n (nextL L).2
theorem nexts_succ : ∀ (n : Nat) (L : List Fr), nexts (n + 1) L = (nextL (nexts n L)).2
  | 0, _ => rfl
  | n + 1, _ => nexts_succ n _
theorem nexts_len : ∀ (n : Nat) (L : List Fr), (nexts n L).length = L.length
  | 0, _ => rfl
  | n + 1, L => (nexts_len n _).trans (nextL_len L)
theorem ClI.nexts {L : List Fr} (h : ClI L) : ∀ n, ClI (nexts n L)
  | 0 => h
  | n + 1 => by rw [nexts_succ]; exact (h.nexts n).next
abbrev allQ (L : List Fr) : Prop := ∀ x ∈ L, x.quiet
theorem allQ_look {L : List Fr} (h : allQ L) : allQ (lookL L) := by
  cases L with
  | nil => exact h
  | cons x L =>
    intro y hy
    rcases List.mem_append.1 hy with hy | hy
    · exact h y (List.mem_cons_of_mem _ hy)
    · simp at hy
      rw [hy, stepF_quiet (h x List.mem_cons_self)]
      exact h x List.mem_cons_self
theorem allQ_looks : ∀ (n : Nat) {L : List Fr}, allQ L → allQ (looks n L)
  | 0, _, h => h
  | n + 1, _, h => allQ_looks n (allQ_look h)
theorem quiet_looks (L : List Fr) (J : Nat) (hJ : 2 * L.length ≤ J) : allQ (looks J L) := by
  obtain ⟨r, rfl⟩ : ∃ r, J = L.length + L.length + r := ⟨J - (L.length + L.length), by omega⟩
  rw [looks_add, looks_add, looks_all]
  have h2 : looks L.length (L.map stepF) = (L.map stepF).map stepF := by
    have := looks_all (L.map stepF)
    rwa [List.length_map] at this
  rw [h2]
  refine allQ_looks r fun x hx => ?_
  obtain ⟨y, hy, rfl⟩ := List.mem_map.1 hx
  obtain ⟨z, _, rfl⟩ := List.mem_map.1 hy
  exact stepF_two z
theorem nexts_looks (L : List Fr) (h : L ≠ []) : ∀ n, ∃ J, n ≤ J ∧ nexts n L = looks J L
  | 0 => ⟨0, Nat.le_refl _, rfl⟩
  | n + 1 => by
    obtain ⟨J, hJ, e⟩ := nexts_looks L h n
    have hne : nexts n L ≠ [] := fun e2 => by
      have := nexts_len n L
      rw [e2] at this
      exact h (List.eq_nil_of_length_eq_zero this.symm)
    obtain ⟨j, M, x, h1, h2, _⟩ := nextL_at _ hne
    exact ⟨J + j, by omega, by rw [nexts_succ, h2, looks_add, e]⟩
/-- Behind three rounds all are quiet. -/
theorem nexts_quiet (L : List Fr) (n : Nat) (hn : 2 * L.length ≤ n) : allQ (nexts n L) := by
  by_cases h : L = []
  · subst h
    intro x hx
    have := nexts_len n []
    rw [List.eq_nil_of_length_eq_zero this] at hx
    exact absurd hx List.not_mem_nil
  · obtain ⟨J, hJ, e⟩ := nexts_looks L h n
    rw [e]
    exact quiet_looks L J (by omega)
/-- Then each tells the first one. -/
theorem nexts_rot : ∀ (A B : List Fr), allQ A → nexts A.length (A ++ B) = B ++ A
  | [], B, _ => by simp [nexts]
  | x :: A, B, h => by
    rw [List.length_cons, nexts, List.cons_append, nextL_quiet (h x List.mem_cons_self), List.append_assoc, nexts_rot A (B ++ [x]) (fun y hy => h y (List.mem_cons_of_mem _ hy))]
    simp
theorem actL_quiet {L : List Fr} (h : allQ L) : actL L = 0 := List.countP_eq_zero.2 fun x hx => by rw [(h x hx).1]; decide
theorem actL_le (L : List Fr) : actL L ≤ L.length := List.countP_le_length
end Go.Proofs.Ytndddfkebbeemaa
