/-
  magazine's laws: a pair as a pile; MagazineLast.
-/
import Derived.Test.YtaadjgnfihkaeaaMgKnown
namespace Go.Proofs.Ytaadjgnfihkaeaa
open Go.RowKit Go
section
variable {N : Nat} {L O : Obs} {x : Ob}
theorem pile_put (hL : L.length ≤ N) (hO : O.length = 0 ∨ O.length = N) (h : (O ++ L).length < 2 * N) : (putM N x L O).1 = true ∧ (putM N x L O).2.2 ++ (putM N x L O).2.1 = O ++ L ++ [x] ∧ ((putM N x L O).2.2.length = 0 ∨ (putM N x L O).2.2.length = N) := by
  rw [List.length_append] at h
  by_cases h1 : L.length = N
  · have h0 : O.length = 0 := by omega
    rw [putM_chg h1 (by omega)]
    obtain rfl : O = [] := List.eq_nil_of_length_eq_zero h0
    exact ⟨rfl, by simp, .inr h1⟩
  · rw [putM_app (by omega)]
    exact ⟨rfl, by simp, hO⟩
theorem pile_full (hL : L.length ≤ N) (hO : O.length = 0 ∨ O.length = N) (hN : 1 ≤ N) (h : ¬ (O ++ L).length < 2 * N) : putM N x L O = (false, L, O) := by
  rw [List.length_append] at h
  exact putM_full (by omega) (by omega)
theorem pile_get {S : Obs} (hO : O.length = 0 ∨ O.length = N) (h : O ++ L = S ++ [x]) : (getM L O).1 = true ∧ (getM L O).2.1 = x ∧ (getM L O).2.2.2 ++ (getM L O).2.2.1 = S ∧ ((getM L O).2.2.2.length = 0 ∨ (getM L O).2.2.2.length = N) := by
  have last : ∀ (K T : Obs) (n : Nat), K.length = n + 1 → T ++ K = S ++ [x] → K.getD n (0, 0) = x ∧ T ++ K.take n = S := by
    intro K T n hn e
    obtain ⟨K2, y, rfl⟩ : ∃ K2 y, K = K2 ++ [y] := by
      refine ⟨K.dropLast, K.getLast (by intro e; rw [e] at hn; cases hn), (List.dropLast_concat_getLast _).symm⟩
    have hk : K2.length = n := by rw [List.length_append, List.length_singleton] at hn; omega
    rw [← List.append_assoc] at e
    obtain ⟨e1, e2⟩ := List.append_inj' e rfl
    injection e2 with e2 _
    subst hk
    refine ⟨?_, ?_⟩
    · rw [List.getD_eq_getElem?_getD, List.getElem?_append_right (Nat.le_refl _), Nat.sub_self]
      exact e2
    · rw [List.take_left]
      exact e1
  by_cases h1 : L.length = 0
  · obtain rfl : L = [] := List.eq_nil_of_length_eq_zero h1
    rw [List.append_nil] at h
    obtain ⟨n, hn⟩ : ∃ n, O.length = n + 1 := ⟨S.length, by rw [h]; simp⟩
    obtain ⟨q1, q2⟩ := last O [] n hn (by simpa using h)
    rw [getM_chg rfl hn]
    exact ⟨rfl, q1, by simpa using q2, .inl rfl⟩
  · obtain ⟨n, hn⟩ : ∃ n, L.length = n + 1 := ⟨L.length - 1, by omega⟩
    obtain ⟨q1, q2⟩ := last L O n hn h
    rw [getM_some hn]
    exact ⟨rfl, q1, q2, hO⟩
end
/-- A pair as a pile. -/
def PS (w0 : World) (p N : Nat) (S : Obs) (w : World) : Prop := ∃ L O, PA w0 p N L O w ∧ O ++ L = S ∧ (O.length = 0 ∨ O.length = N)
section
variable {w0 w w' : World} {p N : Nat} {S : Obs}
theorem PS.later (h : PS w0 p N S w) (hb : Below w.heap.size w w') : PS w0 p N S w' := by
  obtain ⟨L, O, hP, e, hO⟩ := h
  exact ⟨L, O, hP.later hb, e, hO⟩
theorem PS.bel (h : PS w0 p N S w) : Below w0.heap.size w0 w := by
  obtain ⟨L, O, hP, e, hO⟩ := h
  exact hP.bel
theorem PS.n2 (h : PS w0 p N S w) : 1 ≤ N ∧ N ≤ 32 := by
  obtain ⟨L, O, hP, e, hO⟩ := h
  exact hP.n2
theorem PS.ln (h : PS w0 p N S w) : S.length ≤ 2 * N := by
  obtain ⟨L, O, hP, rfl, hO⟩ := h
  have := hP.ln
  rw [List.length_append]
  omega
theorem put_yes (h : PS w0 p N S w) (x y : Int) (hl : S.length < 2 * N) : Calls Try.prog 12 #[.pointer (some ⟨p, 0, none⟩), .agg #[.int .i64 x, .int .i64 y]] w fun e w' => e = .returned (.bool true) ∧ PS w0 p N (S ++ [(x, y)]) w' := by
  obtain ⟨L, O, hP, rfl, hO⟩ := h
  obtain ⟨h1, h2, h3⟩ := pile_put (x := (x, y)) hP.ln.1 hO hl
  refine (put_pa hP x y).mono ?_
  rintro e w1 ⟨rfl, hP2⟩
  rw [h1]
  exact ⟨rfl, _, _, hP2, h2, h3⟩
theorem put_no (h : PS w0 p N S w) (x y : Int) (hl : ¬ S.length < 2 * N) : Calls Try.prog 12 #[.pointer (some ⟨p, 0, none⟩), .agg #[.int .i64 x, .int .i64 y]] w fun e w' => e = .returned (.bool false) ∧ PS w0 p N S w' := by
  obtain ⟨L, O, hP, rfl, hO⟩ := h
  have h1 := pile_full (x := (x, y)) hP.ln.1 hO hP.n2.1 hl
  refine (put_pa hP x y).mono ?_
  rintro e w1 ⟨rfl, hP2⟩
  rw [h1] at hP2 ⊢
  exact ⟨rfl, _, _, hP2, rfl, hO⟩
theorem get_yes {x y : Int} (h : PS w0 p N (S ++ [(x, y)]) w) : Calls Try.prog 14 #[.pointer (some ⟨p, 0, none⟩)] w fun e w' => e = .returned (.tuple #[.agg #[.int .i64 x, .int .i64 y], .bool true]) ∧ PS w0 p N S w' := by
  obtain ⟨L, O, hP, e, hO⟩ := h
  obtain ⟨h1, h2, h3, h4⟩ := pile_get hO e
  refine (get_pa hP).mono ?_
  rintro e w1 ⟨rfl, hP2⟩
  rw [h1, h2]
  exact ⟨rfl, _, _, hP2, h3, h4⟩
theorem get_no (h : PS w0 p N [] w) : Calls Try.prog 14 #[.pointer (some ⟨p, 0, none⟩)] w fun e w' => e = .returned (.tuple #[.agg #[.int .i64 0, .int .i64 0], .bool false]) ∧ PS w0 p N [] w' := by
  obtain ⟨L, O, hP, e, hO⟩ := h
  obtain ⟨rfl, rfl⟩ := List.append_eq_nil_iff.1 e
  refine (get_pa hP).mono ?_
  rintro e w1 ⟨rfl, hP2⟩
  have h1 : getM [] [] = (false, (0, 0), [], []) := getM_none rfl rfl
  rw [h1] at hP2 ⊢
  exact ⟨rfl, _, _, hP2, rfl, .inl rfl⟩
theorem rounds_ps (h : PS w0 p N S w) : Calls Try.prog 11 #[.pointer (some ⟨p, 0, none⟩)] w fun e w' => e = .returned (.int .i64 N) ∧ w = w' := by
  obtain ⟨L, O, hP, e, hO⟩ := h
  exact rounds_pa hP
theorem len_ps (h : PS w0 p N S w) : Calls Try.prog 23 #[.pointer (some ⟨p, 0, none⟩)] w fun e w' => e = .returned (.int .i64 S.length) ∧ PS w0 p N S w' := by
  obtain ⟨L, O, hP, rfl, hO⟩ := h
  refine (len_pa hP).mono ?_
  rintro e w1 ⟨rfl, hP2⟩
  exact ⟨by rw [List.length_append, Nat.add_comm], _, _, hP2, rfl, hO⟩
theorem new_ps (n : Int) (w : World) : Calls Try.prog 9 #[.int .i64 n] w fun e w' => ∃ p, e = .returned (.pointer (some ⟨p, 0, none⟩)) ∧ PS w p (clN n) [] w' :=
  (new_pa n w).mono fun _ _ ⟨p, e, h⟩ => ⟨p, e, _, _, h, rfl, .inl rfl⟩
/-- The same beside blocks B that are none of its. -/
def PSB (w0 : World) (p N : Nat) (S : Obs) (B : Nat → Prop) (w : World) : Prop :=
  ∃ (M : MP) (L O : Obs), M.p = p ∧ MAt w M N L O ∧ Below w0.heap.size w0 w ∧ (∀ k, M.has k → w0.heap.size ≤ k) ∧ O ++ L = S ∧ (O.length = 0 ∨ O.length = N) ∧ ∀ k, B k → ¬ M.has k ∧ k < w.heap.size
theorem PSB.ps {B : Nat → Prop} (h : PSB w0 p N S B w) : PS w0 p N S w := by
  obtain ⟨M, L, O, e, hM, hB, hl, hs, hO, _⟩ := h
  exact ⟨L, O, ⟨M, e, hM, hB, hl⟩, hs, hO⟩
theorem PS.aside (h : PS w0 p N S w) (hb : Below w.heap.size w w') : PSB w0 p N S (fun k => w.heap.size ≤ k ∧ k < w'.heap.size) w' := by
  obtain ⟨L, O, ⟨M, e, hM, hB, hl⟩, hs, hO⟩ := h
  refine ⟨M, L, O, e, hM.later hb, hB.trans (hb.mono hB.size), hl, hs, hO, fun k hk => ⟨fun h => ?_, hk.2⟩⟩
  have := hM.lt h
  omega
theorem PSB.fewer {B B' : Nat → Prop} (h : PSB w0 p N S B w) (hb : ∀ k, B' k → B k) : PSB w0 p N S B' w := by
  obtain ⟨M, L, O, e, hM, hB, hl, hs, hO, hq⟩ := h
  exact ⟨M, L, O, e, hM, hB, hl, hs, hO, fun k hk => hq k (hb k hk)⟩
theorem PSB.later {B : Nat → Prop} (h : PSB w0 p N S B w) (hb : Below w.heap.size w w') : PSB w0 p N S B w' := by
  obtain ⟨M, L, O, e, hM, hB, hl, hs, hO, hq⟩ := h
  exact ⟨M, L, O, e, hM.later hb, hB.trans (hb.mono hB.size), hl, hs, hO, fun k hk => ⟨(hq k hk).1, Nat.lt_of_lt_of_le (hq k hk).2 hb.size⟩⟩
theorem PSB.turn {B : Nat → Prop} {M M' : MP} {L' O' S' : Obs} (e : M.p = p) (hB : Below w0.heap.size w0 w) (hl : ∀ k, M.has k → w0.heap.size ≤ k) (hq : ∀ k, B k → ¬ M.has k ∧ k < w.heap.size) (hM : MAt w' M' N L' O') (hT : MTurn w M w' M') (hs : O' ++ L' = S') (hO : O'.length = 0 ∨ O'.length = N) : PSB w0 p N S' B w' ∧ Only (fun k => ¬ B k) w w' := by
  refine ⟨⟨M', L', O', hT.pp.trans e, hM, hT.only.below hB hB.size hl, fun k hk => (hT.has k hk).elim (hl k) (fun h => Nat.le_trans hB.size h), hs, hO, fun k hk => ⟨fun h => ?_, Nat.lt_of_lt_of_le (hq k hk).2 hT.only.size⟩⟩, hT.only.mono (fun k hk h => (hq k h).1 hk)⟩
  rcases hT.has k h with h2 | h2
  · exact (hq k hk).1 h2
  · have := (hq k hk).2; omega
theorem put_yesB {B : Nat → Prop} (h : PSB w0 p N S B w) (x y : Int) (hl : S.length < 2 * N) : Calls Try.prog 12 #[.pointer (some ⟨p, 0, none⟩), .agg #[.int .i64 x, .int .i64 y]] w fun e w' => e = .returned (.bool true) ∧ PSB w0 p N (S ++ [(x, y)]) B w' ∧ Only (fun k => ¬ B k) w w' := by
  obtain ⟨M, L, O, e, hM, hB, hlo, rfl, hO, hq⟩ := h
  obtain ⟨h1, h2, h3⟩ := pile_put (x := (x, y)) hM.hl hO hl
  have he := e
  subst he
  refine (put_any hM x y).mono ?_
  rintro e2 w1 ⟨M2, rfl, hM2, hT2⟩
  rw [h1]
  exact ⟨rfl, PSB.turn rfl hB hlo hq hM2 hT2 h2 h3⟩
theorem get_yesB {B : Nat → Prop} {x y : Int} (h : PSB w0 p N (S ++ [(x, y)]) B w) : Calls Try.prog 14 #[.pointer (some ⟨p, 0, none⟩)] w fun e w' => e = .returned (.tuple #[.agg #[.int .i64 x, .int .i64 y], .bool true]) ∧ PSB w0 p N S B w' ∧ Only (fun k => ¬ B k) w w' := by
  obtain ⟨M, L, O, e, hM, hB, hlo, hs, hO, hq⟩ := h
  obtain ⟨h1, h2, h3, h4⟩ := pile_get hO hs
  have he := e
  subst he
  refine (get_any hM).mono ?_
  rintro e2 w1 ⟨M2, rfl, hM2, hT2⟩
  rw [h1, h2]
  exact ⟨rfl, PSB.turn rfl hB hlo hq hM2 hT2 h3 h4⟩
theorem nil_or_snoc (S : Obs) : S = [] ∨ ∃ (T : Obs) (x y : Int), S = T ++ [(x, y)] := by
  rcases List.eq_nil_or_concat S with h | ⟨T, ⟨x, y⟩, h⟩
  · exact .inl h
  · exact .inr ⟨T, x, y, by rw [h, List.concat_eq_append]⟩
/-- One object of a list that came in, in every later world. -/
theorem SrcO.at {v : Value} {A : Obs} (h : SrcO w v A) {k : Nat} (hk : k < A.length) : ∃ b o c, v = .slice (some ⟨b, o, none⟩) A.length c ∧ ∀ W, Below w.heap.size w W → W.cell? ⟨b, o + k * 2, none⟩ = some (.int .i64 A[k].1) ∧ W.cell? ⟨b, o + k * 2 + 1, none⟩ = some (.int .i64 A[k].2) := by
  obtain ⟨b, o, c, e, c0, c1⟩ := h.get hk
  exact ⟨b, o, c, e, fun W hW => ⟨by rw [hW.cell (World.block_lt_of_cell? _ _ c0)]; exact c0, by rw [hW.cell (World.block_lt_of_cell? _ _ c1)]; exact c1⟩⟩
end
end Go.Proofs.Ytaadjgnfihkaeaa
