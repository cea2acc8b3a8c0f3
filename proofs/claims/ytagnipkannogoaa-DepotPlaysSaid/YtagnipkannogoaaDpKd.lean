/-
  DepotKeeps: the numbers that are there, call by call.
-/
import Derived.Test.YtagnipkannogoaaDpKeep
namespace Go.Proofs.Ytagnipkannogoaa
open Go.RowKit Go
/-- Objects with the numbers from n on. -/
def obN (n c : Nat) : Obs := (List.range c).map fun (i : Nat) => (((n + i : Nat) : Int), 0)
section
variable {n c N k : Nat} {F : List Obs} {Q m : Obs} {X Y : List Int}
theorem obN_succ : obN n (c + 1) = obN n c ++ [(((n + c : Nat) : Int), 0)] := by
  unfold obN
  rw [List.range_succ, List.map_append]
  rfl
theorem obN_len : (obN n c).length = c := by simp [obN]
theorem obN_row : Row1 (obN n c) := ⟨n, fun k h => by simp [obN]⟩
theorem fr_append (A B : Obs) : fr (A ++ B) = fr A ++ fr B := by simp [fr]
theorem fr_obN : fr (obN n c) = (List.range c).map fun (i : Nat) => ((n + i : Nat) : Int) := by
  unfold fr obN
  rw [List.map_map]
  rfl
theorem fr_len (A : Obs) : (fr A).length = A.length := by simp [fr]
theorem fr_perm {A B : Obs} (h : A.Perm B) : (fr A).Perm (fr B) := h.map _
/-- Numbers below n, each once. -/
def KX (n : Nat) (X : List Int) : Prop := X.Nodup ∧ ∀ x ∈ X, ∃ i : Nat, x = i ∧ i < n
theorem KX.perm (h : KX n X) (hp : X.Perm Y) : KX n Y := ⟨hp.nodup_iff.1 h.1, fun x hx => h.2 x (hp.mem_iff.2 hx)⟩
theorem KX.more (h : KX n X) (c : Nat) : KX (n + c) X := ⟨h.1, fun x hx => by
  obtain ⟨i, e, hi⟩ := h.2 x hx
  exact ⟨i, e, by omega⟩⟩
theorem KX.right (h : KX n (X ++ Y)) : KX n Y := ⟨(List.nodup_append.1 h.1).2.1, fun x hx => h.2 x (List.mem_append_right _ hx)⟩
theorem KX.not (h : KX n X) {i : Nat} (hi : n ≤ i) : (i : Int) ∉ X := fun hx => by
  obtain ⟨j, e, hj⟩ := h.2 _ hx
  omega
theorem KX.put (h : KX n X) (c : Nat) : KX (n + c) (fr (obN n c) ++ X) := by
  refine ⟨List.nodup_append.2 ⟨?_, h.1, fun x hx y hy e => ?_⟩, fun x hx => ?_⟩
  · rw [fr_obN]
    exact List.pairwise_map.2 (List.nodup_range.imp (fun {a b} h e => h (by omega)))
  · subst e
    rw [fr_obN] at hx
    obtain ⟨i, _, e⟩ := List.mem_map.1 hx
    rw [← e] at hy
    exact h.not (by omega) hy
  · rcases List.mem_append.1 hx with hx | hx
    · rw [fr_obN] at hx
      obtain ⟨i, hi, e⟩ := List.mem_map.1 hx
      have := List.mem_range.1 hi
      exact ⟨n + i, e.symm, by omega⟩
    · obtain ⟨i, e, hi⟩ := h.2 x hx
      exact ⟨i, e, by omega⟩
theorem all_put (F : List Obs) (m Q : Obs) : (dpAll (F ++ [m]) Q).Perm (m ++ dpAll F Q) := by
  unfold dpAll
  rw [List.flatten_append, List.flatten_cons, List.flatten_nil, List.append_nil, List.append_assoc, ← List.append_assoc m]
  exact List.perm_append_comm_assoc _ _ _ |>.trans (by rw [← List.append_assoc])
theorem all_drain (F : List Obs) (Q : Obs) (k : Nat) : (dpAll F Q).Perm (Q.take k ++ dpAll F (Q.drop k)) := by
  unfold dpAll
  have h : (F.flatten ++ Q) = F.flatten ++ (Q.take k ++ Q.drop k) := by rw [List.take_append_drop]
  rw [h]
  exact List.perm_append_comm_assoc _ _ _
theorem all_queue (F : List Obs) (Q : Obs) (x : Ob) : dpAll F (Q ++ [x]) = dpAll F Q ++ [x] := by
  unfold dpAll
  rw [List.append_assoc]
theorem all_len (F : List Obs) (Q : Obs) (h : ∀ m ∈ F, m.length = N) : (dpAll F Q).length = F.length * N + Q.length := by
  unfold dpAll
  rw [List.length_append, flat_len h]
theorem seenL_low (h : ∀ i : Nat, i < n → ((i : Int) ∈ X ↔ (i : Int) ∈ Y)) : seenL n X = seenL n Y := by
  unfold seenL
  apply List.map_congr_left
  intro i hi
  unfold inS
  simp only [h i (List.mem_range.1 hi)]
theorem seenL_snoc : seenL (n + 1) (X ++ [(n : Int)]) = seenL n X ++ [1] := by
  rw [seenL_more1 (by simp)]
  congr 1
  exact seenL_low (fun i hi => by
    rw [List.mem_append, List.mem_singleton]
    exact ⟨fun h => h.resolve_right (by omega), .inl⟩)
theorem KX.snoc (h : KX n X) : KX (n + 1) (X ++ [(n : Int)]) := ⟨List.nodup_append.2 ⟨h.1, by simp, fun x hx y hy e => by
    rw [List.mem_singleton] at hy
    subst hy
    subst e
    exact h.not (Nat.le_refl n) hx⟩, fun x hx => by
  rcases List.mem_append.1 hx with hx | hx
  · obtain ⟨i, e, hi⟩ := h.2 x hx
    exact ⟨i, e, by omega⟩
  · exact ⟨n, List.mem_singleton.1 hx, by omega⟩⟩
theorem fr_take_succ {A : Obs} {j : Nat} (h : j < A.length) : (fr A).take (j + 1) = (fr A).take j ++ [A[j].1] := by
  rw [takeN_next (by rw [fr_len]; exact h)]
  congr 2
  exact List.getElem_map _
theorem mem_mid {A : List Int} {q x : Int} : x ∈ (A ++ [q]) ++ X ↔ x ∈ q :: (A ++ X) := by
  simp only [List.mem_append, List.mem_cons, List.not_mem_nil, or_false]
  constructor
  · rintro ((h | h) | h)
    · exact .inr (.inl h)
    · exact .inl h
    · exact .inr (.inr h)
  · rintro (h | h | h)
    · exact .inl (.inr h)
    · exact .inl (.inl h)
    · exact .inr h
theorem seenL_perm (h : X.Perm Y) : seenL n X = seenL n Y := seenL_ext (fun _ => h.mem_iff)
end
end Go.Proofs.Ytagnipkannogoaa
