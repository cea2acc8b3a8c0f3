/-
  A slice of ints that lies anywhere in its block (its head moves on): append with room or without, its tail, what Delete leaves. Of no program.
-/
import Derived.Test.YtndddfkebbeemaaOwn
import Derived.Test.YtndddfkebbeemaaRow
import Derived.Deep.AppendSrc
import Derived.Laws.IdiomCopy
import Derived.Deep.MidRow
import Derived.Lib.RowBridge
namespace Go.Proofs.Ytndddfkebbeemaa
open Go.RowKit Go

abbrev vInt (x : Nat) : Value := .int .i64 (x : Int)
/-- The slice v: the numbers L; its spare cells are there. -/
def WinAt (w : World) (v : Value) (L : List Nat) : Prop :=
  (v = .slice none 0 0 ∧ L = []) ∨ ∃ g o c, v = .slice (some ⟨g, o, none⟩) L.length c ∧ L.length ≤ c ∧ c ≤ maxLen ∧ g < w.heap.size ∧
    (∀ j, j < c → (w.cell? ⟨g, o + j, none⟩).isSome = true ∧ w.frozen? ⟨g, o + j, none⟩ = false) ∧ ∀ j u, L[j]? = some u → w.cell? ⟨g, o + j, none⟩ = some (vInt u)
section
variable {w w' : World} {v : Value} {L : List Nat}
theorem WinAt.nil (w : World) : WinAt w (.slice none 0 0) [] := .inl ⟨rfl, rfl⟩
theorem WinAt.lt (h : WinAt w v L) {k : Nat} (hk : v.ownBlock = some k) : k < w.heap.size := by
  rcases h with ⟨rfl, _⟩ | ⟨g, o, c, rfl, _, _, hg, _⟩
  · simp [Value.ownBlock] at hk
  · simp only [Value.ownBlock, Option.some.injEq] at hk
    omega
theorem WinAt.block (h : WinAt w v L) (hs : w.heap.size ≤ w'.heap.size) (hw : ∀ k, v.ownBlock = some k → w'.heap[k]? = w.heap[k]?) : WinAt w' v L := by
  rcases h with ⟨rfl, e⟩ | ⟨g, o, c, rfl, h1, h2, hg, h3, h4⟩
  · exact .inl ⟨rfl, e⟩
  · have hb := hw g rfl
    exact .inr ⟨g, o, c, rfl, h1, h2, by omega, fun j hj => by
      rw [World.cell?_of_block (a := ⟨g, o + j, none⟩) hb, World.frozen?_of_block (a := ⟨g, o + j, none⟩) hb]; exact h3 j hj, fun j u hu => by
      rw [World.cell?_of_block (a := ⟨g, o + j, none⟩) hb]; exact h4 j u hu⟩
theorem WinAt.block2 (h : WinAt w v L) (hw : ∀ k, v.ownBlock = some k → w'.heap[k]? = w.heap[k]?) : WinAt w' v L := by
  rcases h with ⟨rfl, e⟩ | ⟨g, o, c, rfl, h1, h2, hg, h3, h4⟩
  · exact .inl ⟨rfl, e⟩
  · have hb := hw g rfl
    have hlt : g < w'.heap.size := by
      have h5 : w.heap[g]? = some (w.heap[g]'hg) := Array.getElem?_eq_getElem _
      rw [h5] at hb
      exact (Array.getElem?_eq_some_iff.1 hb).1
    exact .inr ⟨g, o, c, rfl, h1, h2, hlt, fun j hj => by
      rw [World.cell?_of_block (a := ⟨g, o + j, none⟩) hb, World.frozen?_of_block (a := ⟨g, o + j, none⟩) hb]; exact h3 j hj, fun j u hu => by
      rw [World.cell?_of_block (a := ⟨g, o + j, none⟩) hb]; exact h4 j u hu⟩
theorem WinAt.only {S : Nat → Prop} (h : WinAt w v L) (ho : Only S w w') (hs : ∀ k, v.ownBlock = some k → ¬ S k) : WinAt w' v L :=
  h.block ho.size fun k hk => ho.block k (h.lt hk) (hs k hk)
theorem WinAt.later (h : WinAt w v L) (hb : Below w.heap.size w w') : WinAt w' v L := h.only (Only.of_below (S := fun _ => False) hb) (fun _ _ h => h)
/-- Its value is a slice of so many. -/
theorem WinAt.slice (h : WinAt w v L) : ∃ a c, v = .slice a L.length c := by
  rcases h with ⟨rfl, rfl⟩ | ⟨g, o, c, rfl, _⟩
  · exact ⟨_, _, rfl⟩
  · exact ⟨_, _, rfl⟩
/-- Where there is a number. -/
theorem WinAt.where (h : WinAt w v L) (hp : 0 < L.length) : ∃ g o c, v = .slice (some ⟨g, o, none⟩) L.length c ∧ L.length ≤ c ∧ c ≤ maxLen ∧ g < w.heap.size ∧
    (∀ j, j < c → (w.cell? ⟨g, o + j, none⟩).isSome = true ∧ w.frozen? ⟨g, o + j, none⟩ = false) ∧ ∀ j u, L[j]? = some u → w.cell? ⟨g, o + j, none⟩ = some (vInt u) := by
  rcases h with ⟨_, rfl⟩ | h
  · simp at hp
  · exact h
/-- Its tail. -/
theorem WinAt.tail {x : Nat} (h : WinAt w v (x :: L)) : ∃ g o c, v = .slice (some ⟨g, o, none⟩) (L.length + 1) c ∧ L.length + 1 ≤ c ∧ c ≤ maxLen ∧ w.cell? ⟨g, o, none⟩ = some (vInt x) ∧
    WinAt w (.slice (some (if c = 1 then ⟨g, o, none⟩ else ⟨g, o + 1 * 1, none⟩)) L.length (c - 1)) L ∧ (Value.slice (some (if c = 1 then ⟨g, o, none⟩ else ⟨g, o + 1 * 1, none⟩)) L.length (c - 1)).ownBlock = some g := by
  obtain ⟨g, o, c, rfl, h1, h2, hg, h3, h4⟩ := h.where (by simp)
  rw [List.length_cons] at h1
  refine ⟨g, o, c, by simp, h1, h2, by simpa using h4 0 x rfl, ?_, ?_⟩
  · by_cases e : c = 1
    · subst e
      have hl : L = [] := List.length_eq_zero_iff.1 (by omega)
      subst hl
      exact .inr ⟨g, o, 0, by simp, by simp, by unfold maxLen; omega, hg, fun j hj => absurd hj (Nat.not_lt_zero _), fun j u hu => by simp at hu⟩
    · rw [if_neg e]
      refine .inr ⟨g, o + 1 * 1, c - 1, rfl, by omega, by omega, hg, fun j hj => ?_, fun j u hu => ?_⟩
      · rw [show o + 1 * 1 + j = o + (j + 1) by omega]; exact h3 _ (by omega)
      · rw [show o + 1 * 1 + j = o + (j + 1) by omega]; exact h4 _ u (by simpa using hu)
  · by_cases e : c = 1
    · rw [if_pos e]; rfl
    · rw [if_neg e]; rfl
end
section
variable {P : Program} {w : World} {v : Value} {L : List Nat}
theorem win_firsts (h : WinAt w v L) (W : World) (hW : ∀ a, W.cell? a = w.cell? a) {a : Option Addr} {c : Nat} (e : v = .slice a L.length c) :
    (Builtin.firstCells 1 L.length (.slice a L.length c)).run P W = .ok (L.map vInt).toArray W := by
  rcases h with ⟨rfl, rfl⟩ | ⟨g, o, c2, rfl, h1, h2, hg, h3, h4⟩
  · injection e with e1 e2 e3
    subst e1
    exact run_firstCells_none _ _ _ _ _
  · injection e with e1 e2 e3
    subst e1
    refine run_firstCells_some W 1 L.length ⟨g, o, none⟩ L.length c (L.map vInt) (by simp) (fun j u hj => ?_)
    rw [Addr.add_lit, hW]
    rw [List.getElem?_map] at hj
    cases hl : L[j]? with
    | none => rw [hl] at hj; simp at hj
    | some x =>
      rw [hl] at hj
      simp only [Option.map_some, Option.some.injEq] at hj
      rw [← hj]
      exact h4 j x hl
/-- append(s, x). -/
theorem win_append (t e ty : TypeId) (i : TypeInfo) (ht : P.underlying t = some (.slice e)) (hi : P.info? e = some i) (hz : i.zero = some (.int .i64 0)) (hsz : i.size = 1) (hby : i.bytes = 8)
    (h : WinAt w v L) (hl : L.length ≤ 1000) (xb xo : Nat) (x : Nat) (hx : w.cell? ⟨xb, xo, none⟩ = some (vInt x)) :
    ∃ v' w', (Builtin.append_ #[t, t] ty #[v, .slice (some ⟨xb, xo, none⟩) 1 1]).run P w = .ok v' w' ∧ WinAt w' v' (L ++ [x]) ∧ Only (fun k => v.ownBlock = some k) w w' ∧ (v'.ownBlock = v.ownBlock ∨ ∀ k, v'.ownBlock = some k → w.heap.size ≤ k) := by
  have hs : Src P i.size t (.slice (some ⟨xb, xo, none⟩) 1 1) 1 [vInt x] w := Src.ofSlice w ht ⟨xb, xo, none⟩ 1 1 [vInt x] (by rw [hsz]; rfl) (fun j u hj => by
    cases j with
    | zero =>
      simp only [List.getElem?_cons_zero, Option.some.injEq] at hj
      subst hj
      rw [Addr.add_lit, Nat.add_zero]
      exact hx
    | succ j => simp at hj) (fun u hu => by
    simp only [List.mem_singleton] at hu
    subst hu
    rfl)
  have hlen : (L ++ [x]).length = L.length + 1 := by simp
  have grow : ∀ a c, v = .slice a L.length c → c < L.length + 1 → ∃ v' w', (Builtin.append_ #[t, t] ty #[v, .slice (some ⟨xb, xo, none⟩) 1 1]).run P w = .ok v' w' ∧ WinAt w' v' (L ++ [x]) ∧ Only (fun k => v.ownBlock = some k) w w' ∧
      (v'.ownBlock = v.ownBlock ∨ ∀ k, v'.ownBlock = some k → w.heap.size ≤ k) := by
    intro a c hv hc
    have hnc : Builtin.nextslicecap (L.length + 1) c * 8 ≤ 281474976710656 := growslice_fits hc (by omega)
    have hr := run_append_grow_src (P := P) w t t ty e i _ ht hi hz a L.length c (L.map vInt) (by rw [hsz]; exact win_firsts h w.drew (fun _ => rfl) hv) (.slice (some ⟨xb, xo, none⟩) 1 1) 1 [vInt x] hs hc (by omega) (by rw [hby]; exact hnc)
    subst hv
    have hge := grownCap_ge w (L.length + 1) c e
    have hle := grownCap_le_maxLen w (L.length + 1) c e (by unfold maxLen; omega)
    refine ⟨_, _, hr, .inr ⟨w.heap.size, 0, grownCap w (L.length + 1) c e, by rw [hlen], by rw [hlen]; exact hge, hle, by simp, fun j hj => ?_, fun j u hu => ?_⟩, ?_, .inr fun k hk => ?_⟩
    · have hheap : (w.drew.alloc (.cells ((L.map vInt ++ [vInt x]).toArray ++ Builtin.zeroCells (Value.int .i64 0).cells (grownCap w (L.length + 1) c e - (L.length + 1))) e)).heap[w.heap.size]? = some (.cells ((L.map vInt ++ [vInt x]).toArray ++ Builtin.zeroCells (Value.int .i64 0).cells (grownCap w (L.length + 1) c e - (L.length + 1))) e (0, 0)) := heap_alloc_new w.drew _
      have hsize : ((L.map vInt ++ [vInt x]).toArray ++ Builtin.zeroCells (Value.int .i64 0).cells (grownCap w (L.length + 1) c e - (L.length + 1))).size = grownCap w (L.length + 1) c e := by
        rw [Array.size_append, size_zeroCells]
        simp [Value.cells]
        omega
      refine ⟨?_, ?_⟩
      · rw [Nat.zero_add, cell_of_row _ _ _ _ _ _ hheap, Array.getElem?_eq_getElem (by rw [hsize]; exact hj)]
        rfl
      · unfold World.frozen?
        simp only [Nat.zero_add, hheap]
        simp
    · have hheap : (w.drew.alloc (.cells ((L.map vInt ++ [vInt x]).toArray ++ Builtin.zeroCells (Value.int .i64 0).cells (grownCap w (L.length + 1) c e - (L.length + 1))) e)).heap[w.heap.size]? = some (.cells ((L.map vInt ++ [vInt x]).toArray ++ Builtin.zeroCells (Value.int .i64 0).cells (grownCap w (L.length + 1) c e - (L.length + 1))) e (0, 0)) := heap_alloc_new w.drew _
      rw [Nat.zero_add, cell_of_row _ _ _ _ _ _ hheap]
      have hjl : j < (L ++ [x]).length := (List.getElem?_eq_some_iff.1 hu).1
      rw [Array.getElem?_append_left (by simp at hjl ⊢; omega)]
      have h2 : (L.map vInt ++ [vInt x]) = (L ++ [x]).map vInt := by simp
      rw [List.getElem?_toArray, h2, List.getElem?_map, hu]
      rfl
    · have h1 : Only (fun k => (Value.slice a L.length c).ownBlock = some k) w w.drew := ⟨rfl, rfl, rfl, Nat.le_refl _, fun _ _ _ => rfl⟩
      exact h1.trans (Only.alloc _ _ _)
    · simp only [Value.ownBlock, Option.some.injEq] at hk
      omega
  rcases h with ⟨rfl, rfl⟩ | ⟨g, o, c, rfl, h1, h2, hg, h3, h4⟩
  · exact grow none 0 rfl (by simp)
  · by_cases hc : c < L.length + 1
    · exact grow (some ⟨g, o, none⟩) c rfl hc
    · have hr := run_append_room_src (P := P) w t t ty e i ht hi g o L.length c (.slice (some ⟨xb, xo, none⟩) 1 1) 1 [vInt x] hs (by omega)
        (fun j hj => by
          obtain rfl : j = 0 := by simp at hj; omega
          rw [hsz, Nat.mul_one, Nat.add_zero]; exact (h3 _ (by omega)).1)
        (fun j hj => by
          obtain rfl : j = 0 := by simp at hj; omega
          rw [hsz, Nat.mul_one, Nat.add_zero]; exact (h3 _ (by omega)).2)
      rw [hsz, Nat.mul_one] at hr
      refine ⟨_, _, hr, .inr ⟨g, o, c, by rw [hlen], by rw [hlen]; omega, h2, ?_, fun j hj => ⟨?_, ?_⟩, fun j u hu => ?_⟩, Only.setCells (S := fun k => (Value.slice (some ⟨g, o, none⟩) L.length c).ownBlock = some k) rfl _ _ _, .inl rfl⟩
      · exact Nat.lt_of_lt_of_le hg (Only.setCells (S := fun _ => True) (b := g) trivial [vInt x] (o + L.length) w).size
      · exact World.isSome_setCells _ _ _ _ _ (h3 j hj).1
      · rw [World.frozen?_setCells]; exact (h3 j hj).2
      · have hjl : j < L.length + 1 := by have := (List.getElem?_eq_some_iff.1 hu).1; rw [hlen] at this; exact this
        by_cases e : j = L.length
        · subst e
          have h5 := World.cell?_setCells_in g [vInt x] (o + L.length) w (fun k hk => by
            obtain rfl : k = 0 := by simp at hk; omega
            exact (h3 _ (by omega)).1) 0 (by simp)
          rw [Nat.add_zero] at h5
          rw [h5]
          simp at hu
          subst hu
          rfl
        · rw [World.cell?_setCells_out g _ _ _ _ (fun _ _ => .inl (by show o + j < o + L.length; omega))]
          rw [List.getElem?_append_left (by omega)] at hu
          exact h4 j u hu
/-- What Delete leaves: the cells of the row anew, then nothing. -/
theorem win_cut {g o c q : Nat} (h1 : L.length ≤ c) (h2 : c ≤ maxLen) (hg : g < w.heap.size) (h3 : ∀ j, j < c → (w.cell? ⟨g, o + j, none⟩).isSome = true ∧ w.frozen? ⟨g, o + j, none⟩ = false)
    (M : List Nat) (hM : M.length ≤ L.length) (ys : List Value) (hy : ys.length = L.length) (hys : ∀ (j : Nat) (u : Nat), M[j]? = some u → ys[j]? = some (vInt u)) :
    WinAt ((w.drewN q).setCells g o ys) (.slice (some ⟨g, o, none⟩) M.length c) M ∧ Only (fun k => k = g) w ((w.drewN q).setCells g o ys) := by
  have e0 : ∀ a, (w.drewN q).cell? a = w.cell? a := fun _ => rfl
  have ho := Only.setCells (S := fun k => k = g) (b := g) rfl ys o (w.drewN q)
  refine ⟨.inr ⟨g, o, c, rfl, by omega, h2, Nat.lt_of_lt_of_le hg ho.size, fun j hj => ⟨?_, ?_⟩, fun j u hu => ?_⟩, ⟨ho.os, ho.tape, ho.output, ho.size, fun k hk hs => ho.block k hk hs⟩⟩
  · exact World.isSome_setCells _ _ _ _ _ (h3 j hj).1
  · rw [World.frozen?_setCells]; exact (h3 j hj).2
  · have hjl : j < M.length := (List.getElem?_eq_some_iff.1 hu).1
    have h5 := World.cell?_setCells_in g ys o (w.drewN q) (fun k hk => (h3 k (by omega)).1) j (by omega)
    rw [h5]
    have h6 := hys j u hu
    rw [List.getElem?_eq_getElem (by omega)] at h6
    exact h6
end
end Go.Proofs.Ytndddfkebbeemaa
