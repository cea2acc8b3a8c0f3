/-
  clock's laws: the quiet ring turns; a list of numbers beside the clock.
-/
import Derived.Test.YtndddfkebbeemaaClOps
import Derived.Test.YtndddfkebbeemaaAppAt
import Derived.Test.YtndddfkebbeemaaLexApp
import Derived.Test.YtndddfkebbeemaaArr
import Derived.Test.YtndddfkebbeemaaRec
import Derived.Deep.DeepCutAuto
import Derived.Deep.CutBlock
namespace Go.Proofs.Ytndddfkebbeemaa
open Go.RowKit Go.Shelf Go
attribute [local go_sem] Oper.semAt_some

/-- The ring, turned by i. -/
def rotQ (Q : List Fr) (i : Nat) : List Fr := Q.drop i ++ Q.take i
theorem rotQ_zero (Q : List Fr) : rotQ Q 0 = Q := by simp [rotQ]
theorem rotQ_all {Q : List Fr} {n : Nat} (h : Q.length = n) : rotQ Q n = Q := by simp [rotQ, ← h]
theorem rotQ_mem {Q : List Fr} {i : Nat} {x : Fr} : x ∈ rotQ Q i ↔ x ∈ Q := by
  have h := List.take_append_drop i Q
  constructor
  · intro hx
    rw [← h]
    rcases List.mem_append.1 hx with hx | hx
    · exact List.mem_append_right _ hx
    · exact List.mem_append_left _ hx
  · intro hx
    rw [← h] at hx
    rcases List.mem_append.1 hx with hx | hx
    · exact List.mem_append_right _ hx
    · exact List.mem_append_left _ hx
theorem rotQ_next {Q : List Fr} (h : allQ Q) {i : Nat} (hi : i < Q.length) : nextL (rotQ Q i) = ((Q[i].1, true), rotQ Q (i + 1)) := by
  unfold rotQ
  rw [List.drop_eq_getElem_cons hi, List.cons_append, nextL_quiet (h _ (List.getElem_mem hi)), List.append_assoc, List.take_append_getElem]
theorem names_at {Q : List Fr} {i : Nat} (hi : i < Q.length) : (namesL Q)[i]? = some Q[i].1 := by simp [namesL, hi]
theorem names_ne {Q : List Fr} (h : ClI Q) {i j : Nat} (hi : i < Q.length) (hj : j < i) : (Q[j]'(Nat.lt_trans hj hi)).1 ≠ Q[i].1 := by
  intro e
  have hn := List.pairwise_iff_getElem.1 h.nd j i (by rw [namesL_len]; omega) (by rw [namesL_len]; exact hi) hj
  simp only [namesL, List.getElem_map] at hn
  exact hn e
theorem take_snoc {l : List Nat} {i x : Nat} (h : l[i]? = some x) : l.take i ++ [x] = l.take (i + 1) := by
  rw [List.take_add_one, h]; rfl
theorem name_le {Q : List Fr} (h : ClI Q) {x : Fr} (hx : x ∈ Q) : (x.1 : Int) ≤ 9223372036854775807 := h.le x.1 (List.mem_map_of_mem hx)
theorem has_mem {Q : List Fr} {x : Fr} (hx : x ∈ Q) : hasL Q (x.1 : Int) = true :=
  decide_eq_true ⟨Int.natCast_nonneg _, by rw [Int.toNat_natCast]; exact List.mem_map_of_mem hx⟩
/-- One Next of many. -/
theorem next_one {L : List Fr} (h : L.length ≠ 0) (i : Nat) : ∃ x, nextL (nexts i L) = ((x, true), nexts (i + 1) L) := by
  have hne : nexts i L ≠ [] := fun e => h (by rw [← nexts_len i L, e]; rfl)
  obtain ⟨_, _, x, _, _, _, _, h5⟩ := nextL_at _ hne
  refine ⟨x.1, ?_⟩
  rw [nexts_succ, ← h5]
abbrev encI (x : Nat) : List Value := [.int .i64 x]
theorem encI_len (x : Nat) : (encI x).length = 1 := rfl
theorem infoIntC : (Try.prog.info? 3).map (fun i => (i.zero, i.size, i.bytes)) = some (some (.int .i64 0), 1, 8) := by kernel_rfl
theorem oneI (x : Int) : ∀ u, u ∈ (#[Value.int .i64 x] : Array Value).toList → u.oneCell' = true := by
  intro u h
  simp at h
  subst h
  rfl
/-- The list of numbers, beside the clock. -/
structure CrAt (IsC : Thg → Nat → List Fr → Prop) (w : World) (d : Nat) (L : List Fr) (M : List Nat) (n : Nat) (v : Value) (W : World) : Prop where
  kp : KPT (fun X => IsC X d L) w (fun k => v.ownBlock = some k) W
  len : M.length = n
  row : W.ownsRow w.heap.size 3 1 v n (recV encI M)
section
variable {IsC : Thg → Nat → List Fr → Prop} {w W W' : World} {d n lc : Nat} {L : List Fr} {M : List Nat} {v : Value} {la : Option Addr}
theorem CrAt.later (h : CrAt IsC w d L M n v W) (hb : Below W.heap.size W W') : CrAt IsC w d L M n v W' :=
  ⟨h.kp.later hb, h.len, owns_later h.row hb⟩
theorem CrAt.nil (h : KPT (fun X => IsC X d L) w (fun _ => False) W) : CrAt IsC w d L [] 0 (.slice none 0 0) W :=
  ⟨h.add (Below.refl _ _) (fun k hk => by cases hk), rfl, World.ownsRow_nil _ _ _ _⟩
theorem CrAt.slice (h : CrAt IsC w d L M n v W) : ∃ la lc, v = .slice la n lc := by
  have hr := h.row
  rw [← h.len] at hr
  obtain ⟨a, cap, rfl, _⟩ := RecsAt.of_owns hr
  exact ⟨a, cap, by rw [h.len]⟩
theorem CrAt.at (h : CrAt IsC w d L M n (.slice la n lc) W) (j x : Nat) (hx : M[j]? = some x) : ∃ g, la = some ⟨g, 0, none⟩ ∧ W.cell? ⟨g, j, none⟩ = some (.int .i64 x) := by
  have hr := h.row
  rw [← h.len] at hr
  obtain ⟨a, cap, e, hR⟩ := RecsAt.of_owns hr
  injection e with e1 _ _
  subst e1
  obtain ⟨hj, hx⟩ := List.getElem?_eq_some_iff.1 hx
  obtain ⟨g, rfl, _, _, hr⟩ := hR.get encI_len j hj
  refine ⟨g, rfl, ?_⟩
  have := hr 0 (.int .i64 x) (by rw [hx]; rfl)
  simpa using this
/-- The clock turns; the list stays. -/
theorem CrAt.turn {L2 : List Fr} (h : CrAt IsC w d L M n v W) (hk : KPT (fun X => IsC X d L2) w (fun k => v.ownBlock = some k) W') (ho : Only (fun k => ¬ v.ownBlock = some k) W W') : CrAt IsC w d L2 M n v W' :=
  ⟨hk, h.len, owns_only h.row ho (fun _ hk h => h hk)⟩
/-- It grows. -/
theorem CrAt.grow (h : CrAt IsC w d L M n v W) {v' : Value} {x : Nat} (hr : W'.ownsRow w.heap.size 3 1 v' (n + 1) (recV encI M ++ (#[Value.int .i64 x] : Array Value).toList)) (ho : Only (fun k => v.ownBlock = some k) W W')
    (hw : v'.ownBlock = v.ownBlock ∨ ∀ k, v'.ownBlock = some k → W.heap.size ≤ k) : CrAt IsC w d L (M ++ [x]) (n + 1) v' W' := by
  refine ⟨h.kp.more (Q := fun k => v'.ownBlock = some k) ho (fun k hk => hk) (fun k hk => (h.row.lt k hk).1) (fun k hk => ?_), by rw [List.length_append, h.len]; rfl, by rw [recV_append, recV_single]; exact hr⟩
  rcases hw with h1 | h1
  · exact .inl (by rw [← h1]; exact hk)
  · exact .inr ⟨h1 k hk, (hr.lt k hk).2⟩
end
end Go.Proofs.Ytndddfkebbeemaa
