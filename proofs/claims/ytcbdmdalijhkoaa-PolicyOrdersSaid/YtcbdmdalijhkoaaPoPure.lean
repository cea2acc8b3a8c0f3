/-
  policies, by numbers. Of no program.
-/
import Derived.Test.YtcbdmdalijhkoaaPoOrd
namespace Go.Proofs.Ytcbdmdalijhkoaa
open Go

/-- Has a mask a node's bit? -/
def hasM (m n : Nat) : Bool := decide (m / 2 ^ n % 2 = 1)
/-- A mask's nodes among the first n. -/
def inN (m n : Nat) : List Nat := (List.range n).filter (hasM m)
/-- The nearer ones first, as numbers. -/
def nearN (g : Nat → Int) (k n : Nat) : List Nat := (ordL g k n).map Fin.val
/-- From the one on whose place is p modulo how many they are, once round. -/
def rotN (l : List Nat) (p : Nat) : List Nat := (List.range l.length).map fun k => l[(p % l.length + k) % l.length]!
def polL (g : Nat → Int) (n kind mask loc page : Nat) : List Nat :=
  if kind = 0 then nearN g loc n
  else if kind = 1 then nearN g ((inN mask n)[0]!) n
  else if kind = 3 then rotN (inN mask n) page ++ (nearN g loc n).filter (fun x => !hasM mask x)
  else (nearN g loc n).filter (hasM mask)
/-- Are a mask's bits as a kind wants them? -/
def kindB (kind mask : Nat) : Bool := if kind = 0 then decide ((inN mask 8).length = 0) else if kind = 1 then decide ((inN mask 8).length = 1) else if kind = 2 ∨ kind = 3 then decide (0 < (inN mask 8).length) else false
def mayP (g : Nat → Int) (kind mask : Nat) : Bool := mayB g && ((inN mask 8).all (fun i => decide ((i : Int) < g 0)) && kindB kind mask)
def ordE (g : Nat → Int) (kind mask : Nat) (loc page : Int) : Int := if mayP g kind mask = false ∨ page < 0 then 2 else if loc < 0 ∨ g 0 ≤ loc then 7 else 0
def ordQ (g : Nat → Int) (kind mask : Nat) (loc page : Int) : List Nat := if ordE g kind mask loc page = 0 then polL g (g 0).toNat kind mask loc.toNat page.toNat else []
def allowP (kind mask : Nat) (node : Int) : Bool := decide (0 ≤ node) && (decide (node ≤ 7) && (decide (kind ≠ 2) || hasM mask node.toNat))

theorem inN_succ (m n : Nat) : inN m (n + 1) = if hasM m n then inN m n ++ [n] else inN m n := by
  unfold inN
  rw [List.range_succ, List.filter_append]
  by_cases h : hasM m n = true
  · rw [if_pos h, List.filter_cons_of_pos h]; rfl
  · rw [if_neg h, List.filter_cons_of_neg h]; simp
theorem mem_inN {m n x : Nat} : x ∈ inN m n ↔ x < n ∧ hasM m x = true := by
  unfold inN
  rw [List.mem_filter, List.mem_range]
theorem inN_len (m n : Nat) : (inN m n).length ≤ n := by
  have := List.length_filter_le (hasM m) (List.range n)
  rw [List.length_range] at this
  exact this
theorem inN_lt {m n i : Nat} (h : i < (inN m n).length) : (inN m n)[i] < n := (mem_inN.1 (List.getElem_mem h)).1
theorem nearN_len (g : Nat → Int) (k n : Nat) : (nearN g k n).length = n := by
  unfold nearN
  rw [List.length_map, ordL_length]
theorem mem_nearN {g : Nat → Int} {k n x : Nat} (hn : n ≤ 8) : x ∈ nearN g k n ↔ x < n := by
  unfold nearN
  rw [List.mem_map]
  constructor
  · rintro ⟨y, hy, rfl⟩
    exact (mem_ordL hn).1 hy
  · intro h
    exact ⟨⟨x, by omega⟩, (mem_ordL hn).2 h, rfl⟩
theorem nearN_nodup {g : Nat → Int} {k n : Nat} (hn : n ≤ 8) : (nearN g k n).Nodup := by
  unfold nearN
  show List.Pairwise (· ≠ ·) _
  rw [List.pairwise_map]
  exact List.Pairwise.imp (fun h e => h (Fin.ext e)) (ordL_nodup hn)
theorem inN_nodup (m n : Nat) : (inN m n).Nodup := List.Nodup.sublist List.filter_sublist List.nodup_range
theorem rotN_len (l : List Nat) (p : Nat) : (rotN l p).length = l.length := by
  unfold rotN
  rw [List.length_map, List.length_range]
/-- Turned round: the later ones, then the earlier ones. -/
theorem rotN_split (l : List Nat) (p : Nat) : rotN l p = l.drop (p % l.length) ++ l.take (p % l.length) := by
  by_cases h0 : l.length = 0
  · have : l = [] := List.eq_nil_of_length_eq_zero h0
    subst this
    simp [rotN]
  · have hs := Nat.mod_lt p (Nat.pos_of_ne_zero h0)
    unfold rotN
    generalize p % l.length = s at *
    refine List.ext_getElem (by simp; omega) (fun i h1 h2 => ?_)
    rw [List.length_map, List.length_range] at h1
    rw [List.getElem_map, List.getElem_range, List.getElem_append]
    split
    · next h3 =>
      rw [List.length_drop] at h3
      rw [List.getElem_drop, Nat.mod_eq_of_lt (by omega), getElem!_pos l _ (by omega)]
    · next h3 =>
      rw [List.length_drop] at h3
      rw [List.getElem_take, getElem!_pos l _ (Nat.mod_lt _ (by omega))]
      refine getElem_congr_idx ?_
      rw [List.length_drop]
      have : (s + i) % l.length = s + i - l.length := by
        rw [Nat.mod_eq_sub_mod (by omega), Nat.mod_eq_of_lt (by omega)]
      omega
theorem rotN_perm (l : List Nat) (p : Nat) : (rotN l p).Perm l := by
  rw [rotN_split]
  refine List.perm_append_comm.trans ?_
  rw [List.take_append_drop]
theorem kindB_pos {kind mask : Nat} (h : kindB kind mask = true) : kind ≤ 3 ∧ (kind = 1 → (inN mask 8).length = 1) ∧ (kind = 2 ∨ kind = 3 → 0 < (inN mask 8).length) ∧ (kind = 0 → (inN mask 8).length = 0) := by
  unfold kindB at h
  by_cases h0 : kind = 0
  · subst h0; simp at h; simp [h]
  · by_cases h1 : kind = 1
    · subst h1; simp at h; simp [h]
    · by_cases h2 : kind = 2 ∨ kind = 3
      · rw [if_neg h0, if_neg h1, if_pos h2] at h
        exact ⟨by omega, fun e => absurd e h1, fun _ => of_decide_eq_true h, fun e => absurd e h0⟩
      · rw [if_neg h0, if_neg h1, if_neg h2] at h
        cases h
/-- All of the mask's nodes are nodes. -/
theorem inN_all {g : Nat → Int} {mask n : Nat} (hn : g 0 = n) (hn8 : n ≤ 8) (h : (inN mask 8).all (fun i => decide ((i : Int) < g 0)) = true) : inN mask n = inN mask 8 := by
  have : ∀ j, n ≤ j → j ≤ 8 → inN mask j = inN mask n := by
    intro j hj hj8
    obtain ⟨t, rfl⟩ : ∃ t, j = n + t := ⟨j - n, by omega⟩
    clear hj
    induction t with
    | zero => rfl
    | succ t ih =>
      rw [show n + (t + 1) = (n + t) + 1 by omega, inN_succ, if_neg ?_]
      · exact ih (by omega)
      · intro hm
        have h2 := List.all_eq_true.1 h (n + t) (mem_inN.2 ⟨by omega, hm⟩)
        have h3 := of_decide_eq_true h2
        omega
  exact (this 8 hn8 (Nat.le_refl _)).symm
end Go.Proofs.Ytcbdmdalijhkoaa
