/-
  buddy: a node as it lies; size, has, put, missing, Frames, Taken.
-/
import Derived.Test.YtilcdnkjfbkpnaaFRange
import Derived.Test.YtilcdnkjfbkpnaaBdFirst
import Derived.Test.YtilcdnkjfbkpnaaShl
namespace Go.Proofs.Ytilcdnkjfbkpnaa
open Go.RowKit Go

noncomputable abbrev EI := elemInt (P := Try.prog) (e := 3) Try.underlying3
noncomputable abbrev EU := elemUnit
/-- The free blocks of an order; the taken ones. -/
def frL (L : List (Int × Int)) (o : Nat) (x : Int) : Option Unit := if (x, (o : Int)) ∈ L then some () else none
def tkL (T : List (Int × Int)) (x : Int) : Option Int := (T.find? fun p => p.1 == x).map (·.2)
def ndV (n : Nat) (mb : Nat → Nat) (tb : Nat) (i : Nat) : Value := if i = 0 then .int .i64 n else if i = 12 then .map (some tb) else .map (some (mb (i - 1)))
/-- A node in block d, its maps in mb and tb. -/
structure NodeAt (w : World) (d n : Nat) (mb : Nat → Nat) (tb : Nat) (L T : List (Int × Int)) : Prop where
  row : RowAt w d 13 (ndV n mb tb)
  free : ∀ o, o < 11 → FMap Try.prog 3 EU w (mb o) (frL L o)
  tkn : FMap Try.prog 3 EI w tb (tkL T)
  inj : ∀ o p, o < 11 → p < 11 → mb o = mb p → o = p
  ntb : ∀ o, o < 11 → mb o ≠ tb
  bnd : ∀ p ∈ L, 0 ≤ p.1 ∧ p.1 < 128
  tbnd : ∀ p ∈ T, 0 ≤ p.1 ∧ p.1 < 128
/-- Its maps. -/
def own6 (mb : Nat → Nat) (tb : Nat) (k : Nat) : Prop := k = tb ∨ ∃ o, o < 11 ∧ k = mb o

theorem frL_some {L : List (Int × Int)} {o : Nat} {x : Int} : (frL L o x).isSome = true ↔ (x, (o : Int)) ∈ L := by
  unfold frL
  split <;> simp_all
theorem frL_put (L : List (Int × Int)) (o : Nat) (x : Int) (p : Nat) : frL (putL L (x, (o : Int))) p = if p = o then fput (frL L o) x () else frL L p := by
  funext y
  unfold frL
  by_cases e : p = o
  · subst e
    rw [if_pos rfl]
    unfold fput
    by_cases h : y = x
    · subst h
      rw [if_pos rfl, if_pos (mem_putL.2 (.inr rfl))]
    · rw [if_neg h]
      show _ = (if (y, (p : Int)) ∈ L then some () else none)
      by_cases h2 : (y, (p : Int)) ∈ L
      · rw [if_pos h2, if_pos (mem_putL.2 (.inl h2))]
      · rw [if_neg h2, if_neg (fun h3 => (mem_putL.1 h3).elim h2 (fun e => h (by injection e)))]
  · rw [if_neg e]
    by_cases h2 : (y, (p : Int)) ∈ L
    · rw [if_pos h2, if_pos (mem_putL.2 (.inl h2))]
    · rw [if_neg h2, if_neg (fun h3 => (mem_putL.1 h3).elim h2 (fun e2 => e (by injection e2 with _ e2; omega)))]
theorem frL_drop (L : List (Int × Int)) (o : Nat) (x : Int) (p : Nat) : frL (dropL L (x, (o : Int))) p = if p = o then fcut (frL L o) x else frL L p := by
  funext y
  unfold frL
  by_cases e : p = o
  · subst e
    rw [if_pos rfl]
    unfold fcut
    by_cases h : y = x
    · subst h
      rw [if_pos rfl, if_neg (fun h3 => (mem_dropL.1 h3).2 rfl)]
    · rw [if_neg h]
      show _ = (if (y, (p : Int)) ∈ L then some () else none)
      by_cases h2 : (y, (p : Int)) ∈ L
      · rw [if_pos h2, if_pos (mem_dropL.2 ⟨h2, fun e => h (by injection e)⟩)]
      · rw [if_neg h2, if_neg (fun h3 => h2 (mem_dropL.1 h3).1)]
  · rw [if_neg e]
    by_cases h2 : (y, (p : Int)) ∈ L
    · rw [if_pos h2, if_pos (mem_dropL.2 ⟨h2, fun e2 => e (by injection e2 with _ e2; omega)⟩)]
    · rw [if_neg h2, if_neg (fun h3 => h2 (mem_dropL.1 h3).1)]
theorem tkL_some {T : List (Int × Int)} {x o : Int} (h : tkL T x = some o) : (x, o) ∈ T := by
  unfold tkL at h
  obtain ⟨p, hp, rfl⟩ := Option.map_eq_some_iff.1 h
  have h1 := List.mem_of_find?_eq_some hp
  have h2 := List.find?_some hp
  have : p.1 = x := by simpa using h2
  subst this
  exact h1
theorem tkL_none {T : List (Int × Int)} {x : Int} : tkL T x = none ↔ ∀ o, (x, o) ∉ T := by
  unfold tkL
  rw [Option.map_eq_none_iff, List.find?_eq_none]
  constructor
  · intro h o hm
    have := h _ hm
    simp at this
  · rintro h ⟨a, o⟩ hm e
    simp at e
    subst e
    exact h o hm

/-- A map is no row. -/
theorem map_row {α : Type} {R : Value → Option (MDat × List MemPlace)} {E : Elem R α} {w : World} {b d n : Nat} {f : Int → Option α} {g : Nat → Value} (h : FMap Try.prog 3 E w b f) (r : RowAt w d n g) : b ≠ d := fun e => by
  subst e
  obtain ⟨D, l, ⟨es, clock, hb, _⟩, _⟩ := h
  obtain ⟨A, t, hA, _⟩ := r
  rw [hb] at hA
  cases hA
theorem map_cell {α : Type} {R : Value → Option (MDat × List MemPlace)} {E : Elem R α} {w : World} {b d o : Nat} {f : Int → Option α} {v : Value} (h : FMap Try.prog 3 E w b f) (r : w.cell? ⟨d, o, none⟩ = some v) : b ≠ d := fun e => by
  subst e
  obtain ⟨D, l, ⟨es, clock, hb, _⟩, _⟩ := h
  simp [World.cell?, hb] at r

section
variable {w w' : World} {d n : Nat} {mb : Nat → Nat} {tb : Nat} {L T : List (Int × Int)}
theorem NodeAt.only {S : Nat → Prop} (N : NodeAt w d n mb tb L T) (h : Only S w w') (h1 : ¬ S d) (h2 : ∀ k, own6 mb tb k → ¬ S k) : NodeAt w' d n mb tb L T :=
  ⟨N.row.only h h1, fun o ho => (N.free o ho).only h (h2 _ (.inr ⟨o, ho, rfl⟩)), N.tkn.only h (h2 _ (.inl rfl)), N.inj, N.ntb, N.bnd, N.tbnd⟩
theorem NodeAt.later (N : NodeAt w d n mb tb L T) (h : Below w.heap.size w w') : NodeAt w' d n mb tb L T :=
  N.only (S := fun _ => False) (Only.of_below h) (fun h => h) (fun _ _ h => h)
theorem NodeAt.c0 (N : NodeAt w d n mb tb L T) : w.cell? ⟨d, 0, none⟩ = some (.int .i64 n) := N.row.cell 0 (by decide)
theorem NodeAt.c12 (N : NodeAt w d n mb tb L T) : w.cell? ⟨d, 12, none⟩ = some (.map (some tb)) := N.row.cell 12 (by decide)
theorem NodeAt.cf (N : NodeAt w d n mb tb L T) {o : Nat} (ho : o < 11) : w.cell? ⟨d, 1 + o, none⟩ = some (.map (some (mb o))) := by
  have h := N.row.cell (1 + o) (by omega)
  unfold ndV at h
  rw [if_neg (by omega), if_neg (by omega), Nat.add_sub_cancel_left] at h
  exact h
theorem NodeAt.lt (N : NodeAt w d n mb tb L T) : d < w.heap.size := N.row.lt
theorem NodeAt.own_lt (N : NodeAt w d n mb tb L T) {k : Nat} (h : own6 mb tb k) : k < w.heap.size := by
  rcases h with rfl | ⟨o, ho, rfl⟩
  · exact N.tkn.lt
  · exact (N.free o ho).lt
/-- Its maps are no rows. -/
theorem NodeAt.own_row (N : NodeAt w d n mb tb L T) {k : Nat} (h : own6 mb tb k) {m : Nat} {g : Nat → Value} (r : RowAt w k m g) : False := by
  rcases h with rfl | ⟨o, ho, rfl⟩
  · exact map_row N.tkn r rfl
  · exact map_row (N.free o ho) r rfl
theorem NodeAt.own_cell (N : NodeAt w d n mb tb L T) {k o : Nat} (h : own6 mb tb k) {v : Value} (r : w.cell? ⟨k, o, none⟩ = some v) : False := by
  rcases h with rfl | ⟨o, ho, rfl⟩
  · exact map_cell N.tkn r rfl
  · exact map_cell (N.free o ho) r rfl
end
theorem int_wf {x : Int} (h : -9223372036854775808 ≤ x ∧ x ≤ 9223372036854775807) : (Lit.int .i64 x).wf = true := by
  simp only [Lit.wf, Bool.and_eq_true, decide_eq_true_eq]
  exact ⟨h.1, h.2⟩
theorem zeroInt (w : World) : (zeroValue 3).run Try.prog w = .ok (.int .i64 0) w := by kernel_rfl
theorem zeroUnit (w : World) : (zeroValue 76).run Try.prog w = .ok (.agg #[]) w := by kernel_rfl
theorem store_unit (w : World) : (storeVar 76 ⟨w.heap.size, 0, none⟩ (.agg #[])).run Try.prog (w.alloc (.cells #[] 76)) = .ok () (w.alloc (.cells #[] 76)) :=
  run_storeVar_new (P := Try.prog) w 76 #[] #[] (show (Try.prog.info? 76).map (·.size) = some 0 by kernel_rfl) rfl (by simp)
theorem ok0 : EI.ok 0 := by show (Lit.int .i64 0).wf = true; decide

section
variable {w w' : World} {d n : Nat} {mb : Nat → Nat} {tb : Nat} {L T : List (Int × Int)}
/-- One of its maps turns. -/
theorem NodeAt.setF (N : NodeAt w d n mb tb L T) {o : Nat} (ho : o < 11) {L' : List (Int × Int)} {g : Int → Option Unit} (h1 : FMap Try.prog 3 EU w' (mb o) g) (h2 : Only (fun k => k = mb o) w w') (e1 : frL L' o = g) (e2 : ∀ p, p ≠ o → frL L' p = frL L p) (hb : ∀ p ∈ L', 0 ≤ p.1 ∧ p.1 < 128) :
    NodeAt w' d n mb tb L' T := by
  refine ⟨N.row.only h2 (fun e => N.own_row (.inr ⟨o, ho, e⟩) N.row), fun p hp => ?_, N.tkn.only h2 (fun e => N.ntb o ho e.symm), N.inj, N.ntb, hb, N.tbnd⟩
  by_cases e : p = o
  · subst e; rw [e1]; exact h1
  · rw [e2 p e]; exact (N.free p hp).only h2 (fun e3 => e (N.inj p o hp ho e3))
theorem NodeAt.setT (N : NodeAt w d n mb tb L T) {T' : List (Int × Int)} {g : Int → Option Int} (h1 : FMap Try.prog 3 EI w' tb g) (h2 : Only (fun k => k = tb) w w') (e1 : tkL T' = g) (hb : ∀ p ∈ T', 0 ≤ p.1 ∧ p.1 < 128) :
    NodeAt w' d n mb tb L T' :=
  ⟨N.row.only h2 (fun e => N.own_row (.inl e) N.row), fun p hp => (N.free p hp).only h2 (N.ntb p hp), by rw [e1]; exact h1, N.inj, N.ntb, N.bnd, hb⟩
end
theorem size_any (k : Nat) (hk : k ≤ 10) (w : World) : Calls Try.prog 27 #[.int .i64 k] w fun e w' => e = .returned (.int .i64 ((2 ^ k : Nat) : Int)) ∧ w = w' := by
  go_enter Try.func27, Try.ntmps27
  go_wp2_with (refine wpList_shl1 rfl _ _ _ _ rfl .i64 k _ hk rfl rfl rfl ?_)
  go_ret
  exact ⟨by simp, rfl⟩
section
variable {w : World} {d n : Nat} {mb : Nat → Nat} {tb : Nat} {L T : List (Int × Int)}
set_option maxRecDepth 100000 in
theorem has_any (N : NodeAt w d n mb tb L T) (o : Nat) (ho : o < 11) (x : Int) (hx : -9223372036854775808 ≤ x ∧ x ≤ 9223372036854775807) :
    Calls Try.prog 42 #[.pointer (some ⟨d, 0, none⟩), .int .i64 x, .int .i64 o] w fun e w' => e = .returned (.bool (frL L o x).isSome) ∧ Below w.heap.size w w' := by
  have hT := N.free o ho
  have hc := N.cf ho
  have hw := int_wf hx
  go_enter Try.func42, Try.ntmps42
  go_wp2_with (first | (at_lookup; (refine wpList_look_fmap rfl _ _ _ rfl 3 76 Try.underlying3 Try.underlying45 EU () trivial (zeroUnit _) (mb o) (frL L o) rfl hT x rfl hw ?_)) | (refine wpList_store_run rfl 76 _ _ rfl w.heap.size _ _ rfl rfl (store_unit w) ?_) | fail)
  go_ret
  exact ⟨rfl, (Below.refl _ w).alloc (Nat.le_refl _) _⟩
set_option maxRecDepth 100000 in
theorem put6_any (N : NodeAt w d n mb tb L T) (o : Nat) (ho : o < 11) (x : Int) (hx : 0 ≤ x ∧ x < 128) :
    Calls Try.prog 26 #[.pointer (some ⟨d, 0, none⟩), .int .i64 x, .int .i64 o] w fun e w' => e = .returned (.tuple #[]) ∧ NodeAt w' d n mb tb (putL L (x, (o : Int))) T ∧ Only (fun k => k = mb o) w w' := by
  have hT := N.free o ho
  have hc := N.cf ho
  have hw := int_wf (x := x) (by omega)
  go_enter Try.func26, Try.ntmps26
  go_wp2_with (first | (at_mapUpdate; (refine wpList_store_fmap rfl _ _ _ _ rfl 3 76 Try.underlying3 Try.underlying45 EU (mb o) (frL L o) rfl hT x rfl hw 128 (fun y hy => N.bnd _ (frL_some.1 hy)) (by decide) () rfl trivial ?_; intro w' h1 h2)) | fail)
  go_end0
  refine ⟨rfl, N.setF ho h1 h2 (by rw [frL_put, if_pos rfl]) (fun p hp => by rw [frL_put, if_neg hp]) (fun p hp => ?_), h2⟩
  rcases mem_putL.1 hp with h | rfl
  · exact N.bnd p h
  · exact hx
theorem missing_any (N : NodeAt w d n mb tb L T) (hn : 1 ≤ n) :
    Calls Try.prog 28 #[.pointer (some ⟨d, 0, none⟩)] w fun e w' => e = .returned (.bool false) ∧ w = w' := by
  have hc := N.c0
  have h0 : ((n : Int) == 0) = false := by simp; omega
  go_enter Try.func28, Try.ntmps28
  go_wp2_with (fail)
  go_ret
  exact ⟨rfl, rfl⟩
theorem frames_any (N : NodeAt w d n mb tb L T) :
    Calls Try.prog 20 #[.pointer (some ⟨d, 0, none⟩)] w fun e w' => e = .returned (.int .i64 n) ∧ w = w' := by
  have hc := N.c0
  go_enter Try.func20, Try.ntmps20
  go_wp2_with (fail)
  go_ret
  exact ⟨rfl, rfl⟩
theorem taken6_any (N : NodeAt w d n mb tb L T) (x : Int) (hx : -9223372036854775808 ≤ x ∧ x ≤ 9223372036854775807) :
    Calls Try.prog 17 #[.pointer (some ⟨d, 0, none⟩), .int .i64 x] w fun e w' => e = .returned (.tuple #[.int .i64 ((tkL T x).getD 0), .bool (tkL T x).isSome]) ∧ w = w' := by
  have hT := N.tkn
  have hc := N.c12
  have hw := int_wf hx
  go_enter Try.func17, Try.ntmps17
  go_wp2_with (first | (at_lookup; (refine wpList_look_fmap rfl _ _ _ rfl 3 3 Try.underlying3 Try.underlying47 EI 0 ok0 (zeroInt _) tb (tkL T) rfl hT x rfl hw ?_)) | fail)
  go_ret2
  exact ⟨rfl, rfl⟩
end
end Go.Proofs.Ytilcdnkjfbkpnaa
