/-
  The ring behind a Next: turned, and what is told is its last one. Of no program.
-/
import Derived.Test.YtndddfkebbeemaaClTold
namespace Go.Proofs.Ytndddfkebbeemaa
open Go.RowKit Go.Shelf Go

theorem look_rot {N : List Nat} {L : List Fr} {r : Nat} (hr : r < N.length) (h : namesL L = N.drop r ++ N.take r) : ∃ s, s < N.length ∧ namesL (lookL L) = N.drop s ++ N.take s := by
  cases L with
  | nil =>
    have := congrArg List.length h
    simp [namesL] at this
    omega
  | cons x L =>
    have e : namesL (lookL (x :: L)) = namesL L ++ [x.1] := by simp [namesL, lookL]
    have e2 : x.1 :: namesL L = N.drop r ++ N.take r := by rw [← h]; rfl
    rw [List.drop_eq_getElem_cons hr, List.cons_append] at e2
    injection e2 with e3 e4
    rw [e, e3, e4, List.append_assoc, List.take_append_getElem]
    by_cases hs : r + 1 < N.length
    · exact ⟨r + 1, hs, rfl⟩
    · refine ⟨0, by omega, ?_⟩
      rw [show r + 1 = N.length by omega]
      simp
theorem looks_rot {N : List Nat} : ∀ (j : Nat) {L : List Fr} {r : Nat}, r < N.length → namesL L = N.drop r ++ N.take r → ∃ s, s < N.length ∧ namesL (looks j L) = N.drop s ++ N.take s
  | 0, _, r, hr, h => ⟨r, hr, h⟩
  | j + 1, _, _, hr, h => by
    obtain ⟨s, hs, e⟩ := look_rot hr h
    exact looks_rot j hs e
theorem rot_at {N : List Nat} {s i : Nat} (hs : s < N.length) (hi : i < N.length) : (N.drop s ++ N.take s)[i]? = N[(s + i) % N.length]? := by
  by_cases h : s + i < N.length
  · rw [Nat.mod_eq_of_lt h, List.getElem?_append_left (by rw [List.length_drop]; omega), List.getElem?_drop]
  · rw [show (s + i) % N.length = s + i - N.length by rw [Nat.mod_eq_sub_mod (by omega), Nat.mod_eq_of_lt (by omega)], List.getElem?_append_right (by rw [List.length_drop]; omega), List.length_drop, List.getElem?_take_of_lt (by omega)]
    congr 1
    omega
theorem beh_mod {s j i r : Nat} (h : (s + j) % i = r) (hr : r < i) (hi : i ≤ 100) (hs : s < i) (hj : j < i) : ((s : Int) + j) % (i : Int) = r ∧ ((s : Int) + j).tmod (i : Int) = r ∧ wrap64 (((s : Int) + j).tmod (i : Int)) = r ∧ wrap64 (((s : Int) + j) % (i : Int)) = r ∧ (IntKind.i64.wrap ((s : Int) + j)).tmod (i : Int) = r := by
  have hm0 : ((s : Int) + j) % (i : Int) = r := by rw [← h]; rfl
  have hm1 : ((s : Int) + j).tmod (i : Int) = r := by rw [Int.tmod_eq_emod_of_nonneg (by omega)]; exact hm0
  have hw : wrap64 (r : Int) = r := IntWalk.wrap64_in _ ⟨by omega, by omega⟩
  have hw2 : IntKind.i64.wrap ((s : Int) + j) = (s : Int) + j := IntWalk.i64_in _ ⟨by omega, by omega⟩
  exact ⟨hm0, hm1, by rw [hm1, hw], by rw [hm0, hw], by rw [hw2, hm1]⟩
/-- Behind a Next. -/
theorem next_beh {L : List Fr} (h : L ≠ []) : ∃ x s, (nextL L).1 = (x, true) ∧ s < L.length ∧ (namesL (nextL L).2)[L.length - 1]? = some x ∧ ∀ i, i < L.length → (namesL (nextL L).2)[i]? = (namesL L)[(s + i) % L.length]? := by
  have hl : 0 < L.length := List.length_pos_iff.2 h
  obtain ⟨j, M, x, _, h2, h3, _, h5⟩ := nextL_at L h
  obtain ⟨s, hs, e⟩ := looks_rot (N := namesL L) j (L := L) (r := 0) (by rw [namesL_len]; exact hl) (by simp)
  rw [namesL_len] at hs
  refine ⟨x.1, s, h5, hs, ?_, fun i hi => ?_⟩
  · have hlen : M.length + 1 = L.length := by
      have := looks_len j L
      rw [h3] at this
      simpa using this
    rw [h2, h3, show L.length - 1 = M.length by omega]
    simp [namesL]
  · rw [h2, e, rot_at (by rw [namesL_len]; exact hs) (by rw [namesL_len]; exact hi), namesL_len]
end Go.Proofs.Ytndddfkebbeemaa
