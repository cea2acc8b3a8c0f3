/-
  magazine's law: the landed pair beside the document's, and blocks that are neither's.
-/
import Derived.Test.YtaadjgnfihkaeaaMgOps
import Derived.Test.YtaadjgnfihkaeaaMgRPut
namespace Go.Proofs.Ytaadjgnfihkaeaa
open Go.RowKit Go

/-- The landed pair at p has L and O, the document's at r has L2 and O2; the blocks B are neither's. -/
def DB (w0 : World) (p r N : Nat) (L O L2 O2 : Obs) (B : Nat → Prop) (w : World) : Prop :=
  ∃ M R : MP, M.p = p ∧ R.p = r ∧ MAt w M N L O ∧ MAt w R N L2 O2 ∧ Below w0.heap.size w0 w ∧ (∀ k, M.has k ∨ R.has k ∨ B k → w0.heap.size ≤ k) ∧ (∀ k, M.has k → ¬ R.has k) ∧ ∀ k, B k → ¬ M.has k ∧ ¬ R.has k ∧ k < w.heap.size
section
variable {w0 w w' w1 : World} {p r N : Nat} {L O L2 O2 L' O' m : Obs} {B B' : Nat → Prop}
theorem DB.bel (h : DB w0 p r N L O L2 O2 B w) : Below w0.heap.size w0 w := by
  obtain ⟨M, R, e1, e2, hM, hR, hB, _⟩ := h
  exact hB
theorem DB.le (h : DB w0 p r N L O L2 O2 B w) : w0.heap.size ≤ w.heap.size := h.bel.size
theorem DB.n2 (h : DB w0 p r N L O L2 O2 B w) : 1 ≤ N ∧ N ≤ 32 := by
  obtain ⟨M, R, e1, e2, hM, hR, hB, _⟩ := h
  exact ⟨hM.n1, hM.n2⟩
theorem DB.ln (h : DB w0 p r N L O L2 O2 B w) : L.length ≤ N ∧ O.length ≤ N := by
  obtain ⟨M, R, e1, e2, hM, hR, hB, _⟩ := h
  exact ⟨hM.hl, hM.ho⟩
theorem DB.later (h : DB w0 p r N L O L2 O2 B w) (hb : Below w.heap.size w w') : DB w0 p r N L O L2 O2 B w' := by
  obtain ⟨M, R, e1, e2, hM, hR, hB, hl, hd, hq⟩ := h
  exact ⟨M, R, e1, e2, hM.later hb, hR.later hb, hB.trans (hb.mono hB.size), hl, hd, fun k hk => ⟨(hq k hk).1, (hq k hk).2.1, Nat.lt_of_lt_of_le (hq k hk).2.2 hb.size⟩⟩
theorem DB.fewer (h : DB w0 p r N L O L2 O2 B w) (hb : ∀ k, B' k → B k) : DB w0 p r N L O L2 O2 B' w := by
  obtain ⟨M, R, e1, e2, hM, hR, hB, hl, hd, hq⟩ := h
  exact ⟨M, R, e1, e2, hM, hR, hB, fun k hk => hl k (hk.imp id (fun h => h.imp id (hb k))), hd, fun k hk => hq k (hb k hk)⟩
theorem DB.bare (h : DB w0 p r N L O L2 O2 B w) : DB w0 p r N L O L2 O2 (fun _ => False) w := h.fewer (fun _ h => h.elim)
/-- What was made since. -/
theorem DB.aside (h : DB w0 p r N L O L2 O2 B w) (hb : Below w.heap.size w w') : DB w0 p r N L O L2 O2 (fun k => B k ∨ w.heap.size ≤ k ∧ k < w'.heap.size) w' := by
  obtain ⟨M, R, e1, e2, hM, hR, hB, hl, hd, hq⟩ := h
  refine ⟨M, R, e1, e2, hM.later hb, hR.later hb, hB.trans (hb.mono hB.size), ?_, hd, ?_⟩
  · rintro k (hk | hk | hk | hk)
    · exact hl k (.inl hk)
    · exact hl k (.inr (.inl hk))
    · exact hl k (.inr (.inr hk))
    · exact Nat.le_trans hB.size hk.1
  · rintro k (hk | hk)
    · exact ⟨(hq k hk).1, (hq k hk).2.1, Nat.lt_of_lt_of_le (hq k hk).2.2 hb.size⟩
    · exact ⟨fun h => by have := hM.lt h; omega, fun h => by have := hR.lt h; omega, hk.2⟩
/-- What is neither's turns. -/
theorem DB.other {S : Nat → Prop} (h : DB w0 p r N L O L2 O2 B w) (ho : Only S w w') (hs : ∀ k, S k → B k) : DB w0 p r N L O L2 O2 B w' := by
  obtain ⟨M, R, e1, e2, hM, hR, hB, hl, hd, hq⟩ := h
  exact ⟨M, R, e1, e2, hM.only ho (fun k hk h => (hq k (hs k h)).1 hk), hR.only ho (fun k hk h => (hq k (hs k h)).2.1 hk), ho.below hB hB.size (fun k hk => hl k (.inr (.inr (hs k hk)))), hl, hd, fun k hk => ⟨(hq k hk).1, (hq k hk).2.1, Nat.lt_of_lt_of_le (hq k hk).2.2 ho.size⟩⟩
theorem DB.turnP {M M' R : MP} (e1 : M.p = p) (e2 : R.p = r) (hR : MAt w R N L2 O2) (hB : Below w0.heap.size w0 w) (hl : ∀ k, M.has k ∨ R.has k ∨ B k → w0.heap.size ≤ k) (hd : ∀ k, M.has k → ¬ R.has k) (hq : ∀ k, B k → ¬ M.has k ∧ ¬ R.has k ∧ k < w.heap.size)
    (hM : MAt w' M' N L' O') (hT : MTurn w M w' M') : DB w0 p r N L' O' L2 O2 B w' ∧ Only (fun k => ¬ B k) w w' := by
  refine ⟨⟨M', R, hT.pp.trans e1, e2, hM, hR.only hT.only (fun k hk h => hd k h hk), hT.only.below hB hB.size (fun k hk => hl k (.inl hk)), ?_, ?_, ?_⟩, hT.only.mono (fun k hk h => (hq k h).1 hk)⟩
  · rintro k (hk | hk | hk)
    · exact (hT.has k hk).elim (fun h => hl k (.inl h)) (fun h => Nat.le_trans hB.size h)
    · exact hl k (.inr (.inl hk))
    · exact hl k (.inr (.inr hk))
  · intro k hk h2
    rcases hT.has k hk with h3 | h3
    · exact hd k h3 h2
    · have := hR.lt h2; omega
  · intro k hk
    refine ⟨fun h => ?_, (hq k hk).2.1, Nat.lt_of_lt_of_le (hq k hk).2.2 hT.only.size⟩
    rcases hT.has k h with h3 | h3
    · exact (hq k hk).1 h3
    · have := (hq k hk).2.2; omega
theorem DB.swap (h : DB w0 p r N L O L2 O2 B w) : DB w0 r p N L2 O2 L O B w := by
  obtain ⟨M, R, e1, e2, hM, hR, hB, hl, hd, hq⟩ := h
  exact ⟨R, M, e2, e1, hR, hM, hB, fun k hk => hl k (hk.elim (fun h => .inr (.inl h)) (fun h => h.elim .inl (fun h => .inr (.inr h)))), fun k h1 h2 => hd k h2 h1, fun k hk => ⟨(hq k hk).2.1, (hq k hk).1, (hq k hk).2.2⟩⟩
/-- What a call of the landed pair does. -/
def DTurn (w0 : World) (p r N : Nat) (L' O' L2 O2 : Obs) (B : Nat → Prop) (w : World) (v : Value) (e : Ending) (w' : World) : Prop := e = .returned v ∧ DB w0 p r N L' O' L2 O2 B w' ∧ Only (fun k => ¬ B k) w w'
theorem putP (h : DB w0 p r N L O L2 O2 B w) (x y : Int) : Calls Try.prog 12 #[.pointer (some ⟨p, 0, none⟩), .agg #[.int .i64 x, .int .i64 y]] w (DTurn w0 p r N (putM N (x, y) L O).2.1 (putM N (x, y) L O).2.2 L2 O2 B w (.bool (putM N (x, y) L O).1)) := by
  obtain ⟨M, R, e1, e2, hM, hR, hB, hl, hd, hq⟩ := h
  have he := e1
  subst he
  refine (put_any hM x y).mono ?_
  rintro e w1 ⟨M2, rfl, hM2, hT2⟩
  exact ⟨rfl, DB.turnP rfl e2 hR hB hl hd hq hM2 hT2⟩
theorem putR (h : DB w0 p r N L O L2 O2 B w) (x y : Int) : Calls Try.prog 13 #[.pointer (some ⟨r, 0, none⟩), .agg #[.int .i64 x, .int .i64 y]] w (fun e w' => e = .returned (.bool (putM N (x, y) L2 O2).1) ∧ DB w0 p r N L O (putM N (x, y) L2 O2).2.1 (putM N (x, y) L2 O2).2.2 B w' ∧ Only (fun k => ¬ B k) w w') := by
  obtain ⟨M, R, e1, e2, hM, hR, hB, hl, hd, hq⟩ := h.swap
  have he := e1
  subst he
  refine (rput_any hM x y).mono ?_
  rintro e w1 ⟨M2, rfl, hM2, hT2⟩
  obtain ⟨h1, h2⟩ := DB.turnP rfl e2 hR hB hl hd hq hM2 hT2
  exact ⟨rfl, h1.swap, h2⟩
theorem getP (h : DB w0 p r N L O L2 O2 B w) : Calls Try.prog 14 #[.pointer (some ⟨p, 0, none⟩)] w (DTurn w0 p r N (getM L O).2.2.1 (getM L O).2.2.2 L2 O2 B w (.tuple #[.agg #[.int .i64 (getM L O).2.1.1, .int .i64 (getM L O).2.1.2], .bool (getM L O).1])) := by
  obtain ⟨M, R, e1, e2, hM, hR, hB, hl, hd, hq⟩ := h
  have he := e1
  subst he
  refine (get_any hM).mono ?_
  rintro e w1 ⟨M2, rfl, hM2, hT2⟩
  exact ⟨rfl, DB.turnP rfl e2 hR hB hl hd hq hM2 hT2⟩
theorem getR (h : DB w0 p r N L O L2 O2 B w) : Calls Try.prog 15 #[.pointer (some ⟨r, 0, none⟩)] w (fun e w' => e = .returned (.tuple #[.agg #[.int .i64 (getM L2 O2).2.1.1, .int .i64 (getM L2 O2).2.1.2], .bool (getM L2 O2).1]) ∧ DB w0 p r N L O (getM L2 O2).2.2.1 (getM L2 O2).2.2.2 B w' ∧ Only (fun k => ¬ B k) w w') := by
  obtain ⟨M, R, e1, e2, hM, hR, hB, hl, hd, hq⟩ := h.swap
  have he := e1
  subst he
  refine (rget_any hM).mono ?_
  rintro e w1 ⟨M2, rfl, hM2, hT2⟩
  obtain ⟨h1, h2⟩ := DB.turnP rfl e2 hR hB hl hd hq hM2 hT2
  exact ⟨rfl, h1.swap, h2⟩
theorem loadP {v : Value} (h : DB w0 p r N L O L2 O2 B w) (hs : SrcO w v m) : Calls Try.prog 16 #[.pointer (some ⟨p, 0, none⟩), v] w (DTurn w0 p r N (loadM N m L O).2 O L2 O2 B w (.int .i64 (loadM N m L O).1)) := by
  obtain ⟨M, R, e1, e2, hM, hR, hB, hl, hd, hq⟩ := h
  have he := e1
  subst he
  refine (load_any hM hs).mono ?_
  rintro e w1 ⟨M2, rfl, hM2, hT2⟩
  exact ⟨rfl, DB.turnP rfl e2 hR hB hl hd hq hM2 hT2⟩
theorem loadR {v : Value} (h : DB w0 p r N L O L2 O2 B w) (hs : SrcO w v m) : Calls Try.prog 17 #[.pointer (some ⟨r, 0, none⟩), v] w (fun e w' => e = .returned (.int .i64 (loadM N m L2 O2).1) ∧ DB w0 p r N L O (loadM N m L2 O2).2 O2 B w' ∧ Only (fun k => ¬ B k) w w') := by
  obtain ⟨M, R, e1, e2, hM, hR, hB, hl, hd, hq⟩ := h.swap
  have he := e1
  subst he
  refine (rload_any hM hs).mono ?_
  rintro e w1 ⟨M2, rfl, hM2, hT2⟩
  obtain ⟨h1, h2⟩ := DB.turnP rfl e2 hR hB hl hd hq hM2 hT2
  exact ⟨rfl, h1.swap, h2⟩
theorem unlP (h : DB w0 p r N L O L2 O2 B w) : Calls Try.prog 18 #[.pointer (some ⟨p, 0, none⟩)] w fun e w' => ∃ v, e = .returned (.tuple #[v, .int .i64 (unlM N L O).1]) ∧ w'.ownsRow 0 TO 2 v (unlM N L O).2.1.length (recV encO (unlM N L O).2.1) ∧
    DB w0 p r N L (unlM N L O).2.2 L2 O2 (fun k => B k ∨ v.ownBlock = some k) w' ∧ Only (fun k => ¬ B k) w w' := by
  obtain ⟨M, R, e1, e2, hM, hR, hB, hl, hd, hq⟩ := h
  have he := e1
  subst he
  refine (unload_any hM).mono ?_
  rintro e w1 ⟨M2, v, rfl, hv, hM2, hT2, hn⟩
  obtain ⟨⟨M3, R3, e3, e4, hM3, hR3, hB3, hl3, hd3, hq3⟩, ho⟩ := DB.turnP (L2 := L2) (O2 := O2) (B := B) (r := r) rfl e2 hR hB hl hd hq hM2 hT2
  refine ⟨v, rfl, hv, ⟨M2, R, hT2.pp, e2, hM2, hR.only hT2.only (fun k hk h => hd k h hk), hB3, ?_, ?_, ?_⟩, ho⟩
  · rintro k (hk | hk | hk | hk)
    · exact (hT2.has k hk).elim (fun h => hl k (.inl h)) (fun h => Nat.le_trans hB.size h)
    · exact hl k (.inr (.inl hk))
    · exact hl k (.inr (.inr hk))
    · exact hl k (.inl (hn k hk).1)
  · intro k hk h2
    rcases hT2.has k hk with h3 | h3
    · exact hd k h3 h2
    · have := hR.lt h2; omega
  · rintro k (hk | hk)
    · refine ⟨fun h => ?_, (hq k hk).2.1, Nat.lt_of_lt_of_le (hq k hk).2.2 hT2.only.size⟩
      rcases hT2.has k h with h3 | h3
      · exact (hq k hk).1 h3
      · have := (hq k hk).2.2; omega
    · exact ⟨(hn k hk).2, hd k (hn k hk).1, Nat.lt_of_lt_of_le (hM.lt (hn k hk).1) hT2.only.size⟩
theorem unlR (h : DB w0 p r N L O L2 O2 B w) : Calls Try.prog 19 #[.pointer (some ⟨r, 0, none⟩)] w fun e w' => ∃ v, e = .returned (.tuple #[v, .int .i64 (unlM N L2 O2).1]) ∧ w'.ownsRow 0 TO 2 v (unlM N L2 O2).2.1.length (recV encO (unlM N L2 O2).2.1) ∧
    DB w0 p r N L O L2 (unlM N L2 O2).2.2 B w' ∧ Only (fun k => ¬ B k) w w' := by
  obtain ⟨M, R, e1, e2, hM, hR, hB, hl, hd, hq⟩ := h.swap
  have he := e1
  subst he
  refine (runload_any hM).mono ?_
  rintro e w1 ⟨M2, v, rfl, hv, hM2, hT2, hn⟩
  obtain ⟨h1, h2⟩ := DB.turnP rfl e2 hR hB hl hd hq hM2 hT2
  exact ⟨v, rfl, hv, h1.swap, h2⟩
theorem allPP (h : DB w0 p r N L O L2 O2 B w) : Calls Try.prog 21 #[.pointer (some ⟨p, 0, none⟩)] w (AllP w (O ++ L)) := by
  obtain ⟨M, R, e1, e2, hM, hR, hB, hl, hd, hq⟩ := h
  subst e1
  exact all_any hM
theorem allRR (h : DB w0 p r N L O L2 O2 B w) : Calls Try.prog 22 #[.pointer (some ⟨r, 0, none⟩)] w (AllP w (O2 ++ L2)) := by
  obtain ⟨M, R, e1, e2, hM, hR, hB, hl, hd, hq⟩ := h
  subst e2
  exact rall_any hR
theorem lenP (h : DB w0 p r N L O L2 O2 B w) : Calls Try.prog 23 #[.pointer (some ⟨p, 0, none⟩)] w fun e w' => e = .returned (.int .i64 ((L.length + O.length : Nat) : Int)) ∧ Below w.heap.size w w' := by
  obtain ⟨M, R, e1, e2, hM, hR, hB, hl, hd, hq⟩ := h
  subst e1
  exact len_any hM
theorem roundsP (h : DB w0 p r N L O L2 O2 B w) : Calls Try.prog 11 #[.pointer (some ⟨p, 0, none⟩)] w fun e w' => e = .returned (.int .i64 N) ∧ w = w' := by
  obtain ⟨M, R, e1, e2, hM, hR, hB, hl, hd, hq⟩ := h
  subst e1
  exact rounds_any hM
theorem DB.r0 (h : DB w0 p r N L O L2 O2 B w) : w.cell? ⟨r, 0, none⟩ = some (.int .i64 N) := by
  obtain ⟨M, R, e1, e2, hM, hR, hB, hl, hd, hq⟩ := h
  subst e2
  exact hR.c0
/-- Both made. -/
theorem DB.new {n : Int} {e e2 : Ending} (h : NewP w n e w1) (h2 : NewP w1 n e2 w') : ∃ p r, e = .returned (.pointer (some ⟨p, 0, none⟩)) ∧ e2 = .returned (.pointer (some ⟨r, 0, none⟩)) ∧ DB w p r (clN n) [] [] [] [] (fun _ => False) w' := by
  obtain ⟨p, rfl, hM, hb, hp⟩ := h
  obtain ⟨r, rfl, hR, hb2, hr⟩ := h2
  have hpl := hM.row.lt
  refine ⟨p, r, rfl, rfl, _, _, rfl, rfl, hM.later hb2, hR, hb.trans (hb2.mono hb.size), ?_, ?_, fun k hk => hk.elim⟩
  · rintro k ((e | e | e) | (e | e | e) | e)
    · dsimp only at e; omega
    · cases e
    · cases e
    · dsimp only at e; have := hb.size; omega
    · cases e
    · cases e
    · exact e.elim
  · intro k e e2
    have e3 : k = p := e.elim id (fun e => e.elim (fun e => by cases e) (fun e => by cases e))
    have e4 : k = r := e2.elim id (fun e => e.elim (fun e => by cases e) (fun e => by cases e))
    dsimp only at hpl
    omega
end
theorem SrcO.below {w W : World} {v : Value} {l : Obs} (h : SrcO w v l) (hb : Below w.heap.size w W) : SrcO W v l := h.later hb
/-- A row of numbers. -/
def RowZ (w : World) (g n : Nat) : Prop := ∃ A t, w.heap[g]? = some (.cells A t (0, 0)) ∧ ∀ i, i < n → ∃ z, A[i]? = some (.int .i64 z)
section
variable {w w' : World} {g n : Nat}
theorem RowZ.get (h : RowZ w g n) {i : Nat} (hi : i < n) : ∃ z, w.cell? ⟨g, i, none⟩ = some (.int .i64 z) ∧ w.frozen? ⟨g, i, none⟩ = false := by
  obtain ⟨A, t, hA, hz⟩ := h
  obtain ⟨z, e⟩ := hz i hi
  exact ⟨z, by rw [cell_of_row _ _ _ _ _ _ hA]; exact e, by simp [World.frozen?, hA]⟩
theorem RowZ.set (h : RowZ w g n) (i : Nat) (z : Int) : RowZ (w.setCell ⟨g, i, none⟩ (.int .i64 z)) g n := by
  obtain ⟨A, t, hA, hz⟩ := h
  have hR : RowAt w g n (fun j => .int .i64 (if hj : j < n then Classical.choose (hz j hj) else 0)) := ⟨A, t, hA, fun j hj => by
    dsimp only
    rw [dif_pos hj]
    exact Classical.choose_spec (hz j hj)⟩
  obtain ⟨A2, t2, hA2, hz2⟩ := hR.setCell i (.int .i64 z)
  refine ⟨A2, t2, hA2, fun j hj => ?_⟩
  rw [hz2 j hj]
  unfold updV
  split
  · exact ⟨_, rfl⟩
  · exact ⟨_, rfl⟩
theorem RowZ.block (h : RowZ w g n) (hb : w'.heap[g]? = w.heap[g]?) : RowZ w' g n := by
  obtain ⟨A, t, hA, hz⟩ := h
  exact ⟨A, t, by rw [hb]; exact hA, hz⟩
theorem RowZ.lt (h : RowZ w g n) : g < w.heap.size := by
  obtain ⟨A, t, hA, hz⟩ := h
  exact (Array.getElem?_eq_some_iff.1 hA).1
theorem RowZ.later (h : RowZ w g n) (hb : Below w.heap.size w w') : RowZ w' g n := h.block (hb.block g h.lt)
theorem RowZ.only {S : Nat → Prop} (h : RowZ w g n) (ho : Only S w w') (hs : ¬ S g) : RowZ w' g n := h.block (ho.block g h.lt hs)
/-- A list that may be written over. -/
def OwnN (w : World) (v : Value) (n : Nat) : Prop := ∃ a c, v = .slice a n c ∧ (0 < n → ∃ g, a = some ⟨g, 0, none⟩ ∧ RowZ w g (n * 2))
theorem OwnN.of_owns {base : Nat} {v : Value} {l : Obs} (h : w.ownsRow base TO 2 v l.length (recV encO l)) : OwnN w v l.length := by
  obtain ⟨a, c, e, hh⟩ := owns_slice h
  refine ⟨a, c, e, fun hp => ?_⟩
  obtain ⟨g, rfl, _, _, A, t, hA, hx⟩ := hh hp
  refine ⟨g, rfl, A, t, hA, fun i hi => ?_⟩
  rw [hx i hi]
  obtain ⟨q, hq⟩ : ∃ q, l[i / 2]? = some q := ⟨_, List.getElem?_eq_getElem (by omega)⟩
  rcases (show i = i / 2 * 2 + 0 ∨ i = i / 2 * 2 + 1 by omega) with e | e
  · have h2 := recV_at encO_len l (i / 2) q hq 0 _ rfl
    rw [← e] at h2
    exact ⟨_, h2⟩
  · have h2 := recV_at encO_len l (i / 2) q hq 1 _ rfl
    rw [← e] at h2
    exact ⟨_, h2⟩
theorem OwnN.only {S : Nat → Prop} {v : Value} {k : Nat} (h : OwnN w v k) (ho : Only S w w') (hs : ∀ g, v.ownBlock = some g → ¬ S g) : OwnN w' v k := by
  obtain ⟨a, c, rfl, hh⟩ := h
  exact ⟨a, c, rfl, fun hp => by
    obtain ⟨g, rfl, hr⟩ := hh hp
    exact ⟨g, rfl, hr.only ho (hs g rfl)⟩⟩
theorem OwnN.later {v : Value} {k : Nat} (h : OwnN w v k) (hb : Below w.heap.size w w') : OwnN w' v k := by
  obtain ⟨a, c, e, hh⟩ := h
  exact ⟨a, c, e, fun hp => by
    obtain ⟨g, e2, hr⟩ := hh hp
    exact ⟨g, e2, hr.later hb⟩⟩
end
/-- While a list is written over. -/
def WrSt (w0 : World) (p r N : Nat) (L O : Obs) (v : Value) (n : Nat) (w : World) : Prop := DB w0 p r N L O L O (fun k => v.ownBlock = some k) w ∧ OwnN w v n
theorem WrSt.at {w0 w : World} {p r N n k : Nat} {L O : Obs} {v : Value} (h : WrSt w0 p r N L O v n w) (hk : k < n) : ∃ g c, v = .slice (some ⟨g, 0, none⟩) n c ∧
    (∃ z, w.cell? ⟨g, k * 2, none⟩ = some (.int .i64 z) ∧ w.frozen? ⟨g, k * 2, none⟩ = false) ∧ (∃ z, w.cell? ⟨g, k * 2 + 1, none⟩ = some (.int .i64 z) ∧ w.frozen? ⟨g, k * 2 + 1, none⟩ = false) ∧
    ∀ (j : Nat) (z : Int), WrSt w0 p r N L O v n (w.setCell ⟨g, j, none⟩ (.int .i64 z)) := by
  obtain ⟨hD, a, c, e, hh⟩ := h
  obtain ⟨g, rfl, hR⟩ := hh (by omega)
  refine ⟨g, c, e, hR.get (by omega), hR.get (by omega), fun j z => ⟨?_, _, c, e, fun _ => ⟨g, rfl, hR.set j z⟩⟩⟩
  refine hD.other (S := fun k => k = g) (Only.setCell (S := fun k => k = g) w ⟨g, j, none⟩ rfl _) (fun k hk => ?_)
  rw [e, hk]
  rfl
end Go.Proofs.Ytaadjgnfihkaeaa
