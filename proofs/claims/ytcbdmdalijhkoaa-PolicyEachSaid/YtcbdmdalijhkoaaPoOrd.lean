/-
  config's orders, by numbers: all nodes, the nearer ones first. Of no program.
-/
import Derived.Test.YtcbdmdalijhkoaaPlaces
namespace Go.Proofs.Ytcbdmdalijhkoaa
open Go.RowKit Go

def encN (x : Fin 8) : Value := .int .i64 (x.val : Int)
/-- x is nearer than y, as the node k has it. -/
def nrB (g : Nat → Int) (k : Nat) (x y : Fin 8) : Bool := decide (g (26 + k * 8 + x.val) < g (26 + k * 8 + y.val) ∨ g (26 + k * 8 + x.val) = g (26 + k * 8 + y.val) ∧ x.val < y.val)
/-- The first n nodes. -/
def allN (n : Nat) : Array (Fin 8) := ((List.range n).map (Fin.ofNat 8)).toArray
theorem allN_size (n : Nat) : (allN n).size = n := by simp [allN]
theorem allN_get (n j : Nat) (hn : n ≤ 8) (h : j < n) : ((allN n)[j]!).val = j := by
  rw [getElem!_pos _ _ (by rw [allN_size]; exact h)]
  simp [allN, Fin.ofNat, Nat.mod_eq_of_lt (show j < 8 by omega)]
/-- The order of the node k. -/
def ordL (g : Nat → Int) (k n : Nat) : List (Fin 8) := (allN n).toList.mergeSort fun x y => !(nrB g k y x)
theorem ordL_length (g : Nat → Int) (k n : Nat) : (ordL g k n).length = n := by
  unfold ordL; rw [List.length_mergeSort]; simp [allN]
theorem ordL_perm (g : Nat → Int) (k n : Nat) : (ordL g k n).Perm (allN n).toList := List.mergeSort_perm _ _
theorem ordL_sorted (g : Nat → Int) (k n : Nat) : (ordL g k n).Pairwise fun x y => (!(nrB g k y x)) = true := by
  refine List.pairwise_mergeSort (le := fun x y => !(nrB g k y x)) (fun x y z h1 h2 => ?_) (fun x y => ?_) _
  · unfold nrB at *
    simp only [Bool.not_eq_true', decide_eq_false_iff_not] at *
    omega
  · unfold nrB
    simp only [Bool.or_eq_true, Bool.not_eq_true', decide_eq_false_iff_not]
    omega
theorem allN_nodup (n : Nat) (hn : n ≤ 8) : (allN n).toList.Nodup := by
  simp only [allN]
  refine List.pairwise_map.2 (List.Pairwise.imp_of_mem (fun hx hy h e => ?_) (List.pairwise_lt_range (n := n)))
  simp at hx hy
  have := congrArg Fin.val e
  simp [Fin.ofNat, Nat.mod_eq_of_lt (show _ < 8 from Nat.lt_of_lt_of_le hx hn), Nat.mod_eq_of_lt (show _ < 8 from Nat.lt_of_lt_of_le hy hn)] at this
  omega
theorem mem_allN {n : Nat} (hn : n ≤ 8) {x : Fin 8} : x ∈ (allN n).toList ↔ x.val < n := by
  simp only [allN, List.mem_map, List.mem_range]
  constructor
  · rintro ⟨i, hi, rfl⟩
    simp [Fin.ofNat, Nat.mod_eq_of_lt (show i < 8 by omega)]; omega
  · intro h
    exact ⟨x.val, h, by ext; simp [Fin.ofNat, Nat.mod_eq_of_lt x.isLt]⟩
theorem mem_ordL {g : Nat → Int} {k n : Nat} (hn : n ≤ 8) {x : Fin 8} : x ∈ ordL g k n ↔ x.val < n := by
  rw [(ordL_perm g k n).mem_iff, mem_allN hn]
theorem ordL_nodup {g : Nat → Int} {k n : Nat} (hn : n ≤ 8) : (ordL g k n).Nodup := (ordL_perm g k n).nodup_iff.2 (allN_nodup n hn)
theorem ordL_lt {g : Nat → Int} {k n j : Nat} (hn : n ≤ 8) (hj : j < n) : ((ordL g k n)[j]!).val < n := by
  have hl := ordL_length g k n
  rw [getElem!_pos _ _ (by omega)]
  exact (mem_ordL hn).1 (List.getElem_mem _)
theorem ordL_ne {g : Nat → Int} {k n i j : Nat} (hn : n ≤ 8) (hij : i < j) (hj : j < n) : ((ordL g k n)[i]!).val ≠ ((ordL g k n)[j]!).val := by
  have hl := ordL_length g k n
  rw [getElem!_pos _ _ (by omega), getElem!_pos _ _ (by omega)]
  intro e
  have := (List.pairwise_iff_getElem.1 (ordL_nodup (g := g) (k := k) hn)) i j (by omega) (by omega) hij
  exact this (Fin.ext e)
theorem ordL_le {g : Nat → Int} {k n i j : Nat} (hij : i < j) (hj : j < n) :
    g (26 + k * 8 + ((ordL g k n)[i]!).val) < g (26 + k * 8 + ((ordL g k n)[j]!).val) ∨ g (26 + k * 8 + ((ordL g k n)[i]!).val) = g (26 + k * 8 + ((ordL g k n)[j]!).val) ∧ ((ordL g k n)[i]!).val ≤ ((ordL g k n)[j]!).val := by
  have hl := ordL_length g k n
  rw [getElem!_pos _ _ (by omega), getElem!_pos _ _ (by omega)]
  have := (List.pairwise_iff_getElem.1 (ordL_sorted g k n)) i j (by omega) (by omega) hij
  unfold nrB at this
  simp only [Bool.not_eq_true', decide_eq_false_iff_not] at this
  omega

/-- How far another node is: 1 at least. -/
theorem Good.far {g : Nat → Int} (G : Good g) {a b : Nat} (ha : (a : Int) < g 0) (hb : (b : Int) < g 0) (hne : a ≠ b) : 1 ≤ g (26 + a * 8 + b) := by
  by_cases h : b < a
  · exact (G.dist a b ha h).2.1
  · obtain ⟨h1, h2, _⟩ := G.dist b a hb (by omega)
    omega
theorem ord_first {g : Nat → Int} {k n : Nat} (G : Good g) (hn : g 0 = n) (hk : k < n) : ((ordL g k n)[0]!).val = k := by
  have hn8 : n ≤ 8 := by have := G.n2; omega
  have hl := ordL_length g k n
  have hm : (⟨k, by omega⟩ : Fin 8) ∈ ordL g k n := (mem_ordL hn8).2 hk
  obtain ⟨p, hp, e⟩ := List.getElem_of_mem hm
  by_cases h0 : p = 0
  · subst h0
    rw [getElem!_pos (ordL g k n) 0 hp, e]
  · have h1 := ordL_le (g := g) (k := k) (n := n) (i := 0) (j := p) (by omega) (by omega)
    have h2 := ordL_ne (g := g) (k := k) (n := n) (i := 0) (j := p) hn8 (by omega) (by omega)
    have h3 := ordL_lt (g := g) (k := k) (n := n) (j := 0) hn8 (by omega)
    have e2 : ((ordL g k n)[p]!).val = k := by rw [getElem!_pos (ordL g k n) p hp, e]
    rw [e2] at h1 h2
    have h4 := G.far (a := k) (b := ((ordL g k n)[0]!).val) (by omega) (by omega) (fun h => h2 h.symm)
    have h5 := G.self k (by omega)
    omega
/-- Which nodes are among the first i of the order. -/
def seenB (l : List (Fin 8)) (i j : Nat) : Bool := (List.range i).any fun p => l[p]!.val == j
theorem seenB_succ (l : List (Fin 8)) (i j : Nat) : seenB l (i + 1) j = (seenB l i j || l[i]!.val == j) := by
  simp [seenB, List.range_succ]

theorem not_seen {g : Nat → Int} {n k i : Nat} (hn : n ≤ 8) (hi : i < n) : seenB (ordL g k n) i ((ordL g k n)[i]!).val = false := by
  unfold seenB
  rw [List.any_eq_false]
  intro p hp
  simp at hp
  have := ordL_ne (g := g) (k := k) (n := n) (i := p) (j := i) hn hp hi
  simpa using this

end Go.Proofs.Ytcbdmdalijhkoaa
