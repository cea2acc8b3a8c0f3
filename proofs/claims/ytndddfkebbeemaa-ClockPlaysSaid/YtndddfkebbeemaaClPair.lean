/-
  clock's laws: a clock and its copy, apart, beside blocks of the law's own; a ring without one; a ring with one that came.
-/
import Derived.Test.YtndddfkebbeemaaClGrow
namespace Go.Proofs.Ytndddfkebbeemaa
open Go.RowKit Go.Shelf Go

abbrev C2 (IsC : Thg → Nat → List Fr → Prop) (d : Nat) (L : List Fr) (d2 : Nat) (M : List Fr) : Thg → Prop := fun Z => ∃ X Y, Z = X.two Y ∧ IsC X d L ∧ IsC Y d2 M
section
variable {IsC : Thg → Nat → List Fr → Prop} (ok : ClOk IsC) {w0 w w' : World} {d d2 : Nat} {L M : List Fr} {P : Nat → Prop}
include ok
theorem copy_c2 (h : KPT (fun X => IsC X d L) w0 P w) : Calls Try.prog 19 #[.pointer (some ⟨d, 0, none⟩)] w fun e w' => ∃ d2, e = .returned (.pointer (some ⟨d2, 0, none⟩)) ∧ KPT (C2 IsC d L d2 L) w0 P w' ∧ Only (fun k => ¬ P k) w w' := by
  obtain ⟨X, h1, h2, h3, h4, h5⟩ := h
  refine (ok.copy h1 h2).mono ?_
  rintro e w1 ⟨d2, Y, rfl, hY, hT⟩
  exact ⟨d2, rfl, KPT.turn h3 h4 h5 (Is := C2 IsC d L d2 L) ⟨X, Y, rfl, h1, hY⟩ (TTurn.add h2 hT)⟩
theorem remove_c2 (h : KPT (C2 IsC d L d2 M) w0 P w) (x : Int) (hx : InZ x) (c : Int) (M' : List Fr) (hc : noE M x = c) (hM : remL M x = M') :
    Calls Try.prog 13 #[.pointer (some ⟨d2, 0, none⟩), .int .i64 x] w fun e w' => e = .returned (.int .i64 c) ∧ KPT (C2 IsC d L d2 M') w0 P w' ∧ Only (fun k => ¬ P k) w w' := by
  subst hc; subst hM
  obtain ⟨_, ⟨X, Y, rfl, i1, i2⟩, h2, h3, h4, h5⟩ := h
  exact (ok.remove x hx i2 h2.2.1).mono fun _ _ ⟨Z, e, hZ, hT⟩ => ⟨e, KPT.turn (Is := C2 IsC d L d2 (remL M x)) h3 h4 h5 ⟨X, Z, rfl, i1, hZ⟩ (TTurn.snd h2 hT)⟩
theorem next_c2 (h : KPT (C2 IsC d L d2 M) w0 P w) (n : Nat) (b : Bool) (M' : List Fr) (hv : nextL M = ((n, b), M')) :
    Calls Try.prog 17 #[.pointer (some ⟨d2, 0, none⟩)] w fun e w' => e = .returned (.tuple #[.int .i64 n, .bool b]) ∧ KPT (C2 IsC d L d2 M') w0 P w' ∧ Only (fun k => ¬ P k) w w' := by
  obtain ⟨_, ⟨X, Y, rfl, i1, i2⟩, h2, h3, h4, h5⟩ := h
  refine (ok.next i2 h2.2.1).mono fun e w1 ⟨Z, he, hZ, hT⟩ => ?_
  rw [hv] at he hZ
  exact ⟨he, KPT.turn (Is := C2 IsC d L d2 M') h3 h4 h5 ⟨X, Z, rfl, i1, hZ⟩ (TTurn.snd h2 hT)⟩
end
/-- Without the one at t. -/
theorem rem_at : ∀ {Q : List Fr} {t : Nat} (_ : (namesL Q).Nodup) (ht : t < Q.length), Q.filter (fun y => decide (y.1 ≠ (Q[t]'ht).1)) = Q.eraseIdx t
  | x :: Q, 0, hn, ht => by
    rw [List.eraseIdx_cons_zero, List.getElem_cons_zero, List.filter_cons, if_neg (by simp)]
    refine List.filter_eq_self.2 fun y hy => decide_eq_true fun e => ?_
    have h := (List.nodup_cons.1 (show (x.1 :: namesL Q).Nodup from hn)).1
    exact h (by rw [← e]; exact List.mem_map_of_mem hy)
  | x :: Q, t + 1, hn, ht => by
    have hn2 := List.nodup_cons.1 (show (x.1 :: namesL Q).Nodup from hn)
    have ht2 : t < Q.length := Nat.lt_of_succ_lt_succ ht
    rw [List.eraseIdx_cons_succ, List.getElem_cons_succ, List.filter_cons, if_pos, rem_at hn2.2 ht2]
    exact decide_eq_true fun e => hn2.1 (by rw [e]; exact List.mem_map_of_mem (List.getElem_mem ht2))
theorem remL_at {Q : List Fr} (h : ClI Q) {t : Nat} (ht : t < Q.length) : noE Q ((Q[t]'ht).1 : Int) = 0 ∧ remL Q ((Q[t]'ht).1 : Int) = Q.eraseIdx t := by
  have hh := has_mem (List.getElem_mem ht)
  refine ⟨?_, ?_⟩
  · unfold noE
    rw [hh, if_pos rfl]
  · unfold remL
    rw [hh, if_pos rfl, Int.toNat_natCast]
    exact rem_at h.nd ht
/-- How many of the others are ahead of i. -/
def cutN (t i : Nat) : Nat := if i ≤ t then i else i - 1
theorem erase_at {Q : List Fr} {t i : Nat} (ht : t < Q.length) (hi : i < Q.length) (hne : i ≠ t) : ∃ h : cutN t i < (Q.eraseIdx t).length, (Q.eraseIdx t)[cutN t i] = Q[i] := by
  have hl : (Q.eraseIdx t).length = Q.length - 1 := List.length_eraseIdx_of_lt ht
  have hc : cutN t i < (Q.eraseIdx t).length := by
    rw [hl]; unfold cutN
    split <;> omega
  refine ⟨hc, ?_⟩
  rw [List.getElem_eraseIdx]
  unfold cutN
  by_cases h : i ≤ t
  · simp only [if_pos h]
    rw [dif_pos (by omega)]
  · simp only [if_neg h]
    rw [dif_neg (by omega)]
    congr 1
    omega
theorem cutN_next {t i : Nat} (h : i ≠ t) : cutN t i + 1 = cutN t (i + 1) := by
  unfold cutN
  split <;> split <;> omega
theorem cutN_same (t : Nat) : cutN t (t + 1) = cutN t t := by
  unfold cutN
  rw [if_neg (by omega), if_pos (Nat.le_refl _)]
  rfl
theorem allQ_erase {Q : List Fr} (h : allQ Q) (t : Nat) : allQ (Q.eraseIdx t) := fun x hx => h x ((List.eraseIdx_sublist Q t).subset hx)
/-- The ring with one that came, turned by i. -/
def rotZ (Q : List Fr) (z : Fr) (i : Nat) : List Fr := Q.drop i ++ z :: Q.take i
theorem rotZ_zero (Q : List Fr) (z : Fr) : rotZ Q z 0 = Q ++ [z] := by simp [rotZ]
theorem rotZ_next {Q : List Fr} {z : Fr} (h : allQ Q) {i : Nat} (hi : i < Q.length) : nextL (rotZ Q z i) = ((Q[i].1, true), rotZ Q z (i + 1)) := by
  unfold rotZ
  rw [List.drop_eq_getElem_cons hi, List.cons_append, nextL_quiet (h _ (List.getElem_mem hi)), List.append_assoc, List.cons_append, List.take_append_getElem]
theorem add_new {Q : List Fr} {x : Int} (h0 : ¬ x < 0) (hn : hasL Q x = false) : addE Q x = 0 ∧ addL Q x = Q ++ [(x.toNat, true, true)] := by
  refine ⟨?_, ?_⟩
  · unfold addE
    rw [if_neg h0, hn]
    rfl
  · unfold addL
    rw [if_neg (by rw [hn]; simpa using h0)]
/-- A law's world: the clocks, a boxed list, the range's block. -/
structure NwAt (Is : Thg → Prop) (w : World) (b : Nat) (v : Value) (N : List Nat) (D : Nat) (W : World) : Prop where
  kp : KPT Is w (fun k => k = b ∨ v.ownBlock = some k ∨ k = D) W
  bx : BxL w b v N W
  dk : W.heap[D]? = some (.deferred (some []))
  dl : w.heap.size ≤ D
section
variable {Is Is' : Thg → Prop} {w W W' : World} {b D : Nat} {v : Value} {N : List Nat}
theorem NwAt.later (h : NwAt Is w b v N D W) (hb : Below W.heap.size W W') : NwAt Is w b v N D W' :=
  ⟨h.kp.later hb, h.bx.later hb, (hb.block D (Array.getElem?_eq_some_iff.1 h.dk).1).trans h.dk, h.dl⟩
theorem NwAt.turn (h : NwAt Is w b v N D W) (hk : KPT Is' w (fun k => k = b ∨ v.ownBlock = some k ∨ k = D) W') (ho : Only (fun k => ¬ (k = b ∨ v.ownBlock = some k ∨ k = D)) W W') : NwAt Is' w b v N D W' :=
  ⟨hk, h.bx.only ho (fun h => h (.inl rfl)) (fun _ hk h => h (.inr (.inl hk))), (ho.block D (Array.getElem?_eq_some_iff.1 h.dk).1 (fun h => h (.inr (.inr rfl)))).trans h.dk, h.dl⟩
end
end Go.Proofs.Ytndddfkebbeemaa
