/-
  magazine's laws: a pair in a law's world; the known case.
-/
import Derived.Test.YtaadjgnfihkaeaaMgAll
namespace Go.Proofs.Ytaadjgnfihkaeaa
open Go.RowKit Go
/-- A pair of a law's own. -/
def PA (w0 : World) (p N : Nat) (L O : Obs) (w : World) : Prop := ∃ M : MP, M.p = p ∧ MAt w M N L O ∧ Below w0.heap.size w0 w ∧ ∀ k, M.has k → w0.heap.size ≤ k
section
variable {w0 w w' : World} {p N : Nat} {L O L' O' : Obs}
theorem PA.later (h : PA w0 p N L O w) (hb : Below w.heap.size w w') : PA w0 p N L O w' := by
  obtain ⟨M, e, hM, hB, hl⟩ := h
  exact ⟨M, e, hM.later hb, hB.trans (hb.mono hB.size), hl⟩
theorem PA.bel (h : PA w0 p N L O w) : Below w0.heap.size w0 w := h.choose_spec.2.2.1
theorem PA.turn {M M' : MP} (e : M.p = p) (hB : Below w0.heap.size w0 w) (hl : ∀ k, M.has k → w0.heap.size ≤ k) (hM : MAt w' M' N L' O') (hT : MTurn w M w' M') : PA w0 p N L' O' w' :=
  ⟨M', hT.pp.trans e, hM, hT.only.below hB hB.size hl, fun k hk => (hT.has k hk).elim (hl k) (fun h => Nat.le_trans hB.size h)⟩
theorem PA.new {n : Int} {e : Ending} (h : NewP w n e w') : ∃ p, e = .returned (.pointer (some ⟨p, 0, none⟩)) ∧ PA w p (clN n) [] [] w' := by
  obtain ⟨p, rfl, hM, hb, hp⟩ := h
  refine ⟨p, rfl, _, rfl, hM, hb, ?_⟩
  rintro k (e | e | e)
  · rw [e]; exact hp
  · cases e
  · cases e
theorem PA.n2 (h : PA w0 p N L O w) : 1 ≤ N ∧ N ≤ 32 := by
  obtain ⟨M, e, hM, hB, hl⟩ := h
  exact ⟨hM.n1, hM.n2⟩
theorem PA.ln (h : PA w0 p N L O w) : L.length ≤ N ∧ O.length ≤ N := by
  obtain ⟨M, e, hM, hB, hl⟩ := h
  exact ⟨hM.hl, hM.ho⟩
theorem put_pa (h : PA w0 p N L O w) (x y : Int) : Calls Try.prog 12 #[.pointer (some ⟨p, 0, none⟩), .agg #[.int .i64 x, .int .i64 y]] w fun e w' => e = .returned (.bool (putM N (x, y) L O).1) ∧ PA w0 p N (putM N (x, y) L O).2.1 (putM N (x, y) L O).2.2 w' := by
  obtain ⟨M, e, hM, hB, hl⟩ := h
  subst e
  refine (put_any hM x y).mono ?_
  rintro e w1 ⟨M2, rfl, hM2, hT2⟩
  exact ⟨rfl, PA.turn rfl hB hl hM2 hT2⟩
theorem get_pa (h : PA w0 p N L O w) : Calls Try.prog 14 #[.pointer (some ⟨p, 0, none⟩)] w fun e w' => e = .returned (.tuple #[.agg #[.int .i64 (getM L O).2.1.1, .int .i64 (getM L O).2.1.2], .bool (getM L O).1]) ∧ PA w0 p N (getM L O).2.2.1 (getM L O).2.2.2 w' := by
  obtain ⟨M, e, hM, hB, hl⟩ := h
  subst e
  refine (get_any hM).mono ?_
  rintro e w1 ⟨M2, rfl, hM2, hT2⟩
  exact ⟨rfl, PA.turn rfl hB hl hM2 hT2⟩
theorem rounds_pa (h : PA w0 p N L O w) : Calls Try.prog 11 #[.pointer (some ⟨p, 0, none⟩)] w fun e w' => e = .returned (.int .i64 N) ∧ w = w' := by
  obtain ⟨M, e, hM, hB, hl⟩ := h
  subst e
  exact rounds_any hM
theorem len_pa (h : PA w0 p N L O w) : Calls Try.prog 23 #[.pointer (some ⟨p, 0, none⟩)] w fun e w' => e = .returned (.int .i64 ((L.length + O.length : Nat) : Int)) ∧ PA w0 p N L O w' := by
  obtain ⟨M, e, hM, hB, hl⟩ := h
  subst e
  refine (len_any hM).mono ?_
  rintro e w1 ⟨rfl, hb⟩
  exact ⟨rfl, M, rfl, hM.later hb, hB.trans (hb.mono hB.size), hl⟩
theorem new_pa (n : Int) (w : World) : Calls Try.prog 9 #[.int .i64 n] w fun e w' => ∃ p, e = .returned (.pointer (some ⟨p, 0, none⟩)) ∧ PA w p (clN n) [] [] w' :=
  (new_any n w).mono fun _ _ h => PA.new h
end
/-- What the known case puts. -/
def kn : Nat → Obs × Obs
  | 0 => ([], [])
  | k + 1 => ((putM 2 ((k : Int), 0) (kn k).1 (kn k).2).2.1, (putM 2 ((k : Int), 0) (kn k).1 (kn k).2).2.2)
theorem kn_put : ∀ k : Nat, k < 4 → (putM 2 ((k : Int), 0) (kn k).1 (kn k).2).1 = true := by decide
theorem kn_full : (putM 2 (9, 0) (kn 4).1 (kn 4).2) = (false, (kn 4).1, (kn 4).2) := by decide
theorem kn_get : (getM (kn 4).1 (kn 4).2) = (true, (3, 0), [(2, 0)], [(0, 0), (1, 0)]) := by decide
set_option maxRecDepth 100000 in
set_option maxHeartbeats 8000000 in
theorem known_any (w : World) : Calls Try.prog 8 #[] w fun e w' => e = .returned (.bool true) ∧ Below w.heap.size w w' := by
  go_enter Try.func8, Try.ntmps8
  go_wp2_with (fail)
  refine (new_pa 2 w).mono ?_
  rintro e w1 ⟨p, rfl, hP⟩
  have HP := Lib.hid (show PA w p 2 (kn 0).1 (kn 0).2 w1 from hP)
  clear hP
  go_wp2_with (fail)
  go_loopw [7] (fun i wr => ∃ k : Nat, k ≤ 4 ∧ i = .int .i64 k ∧ Hid (PA w p 2 (kn k).1 (kn k).2 wr)) (fun i _ => 4 - (intOf i).toNat)
  case atStart => exact ⟨0, by omega, rfl, HP⟩
  case round =>
    clear HP
    obtain ⟨k, hk, rfl, HP⟩ := hrel
    by_cases hlt : k < 4
    · have hltI : (k : Int) < 4 := by omega
      have HK := Lib.hid (kn_put k hlt)
      have HLT := Lib.hid hlt
      clear hlt
      go_wp2_with (fail)
      refine (put_pa HP.out (k : Int) 0).mono ?_
      rintro e w2 ⟨rfl, hP2⟩
      rw [HK.out]
      have HP2 := Lib.hid (show PA w p 2 (kn (k + 1)).1 (kn (k + 1)).2 w2 from hP2)
      clear hP2 HP HK
      go_wp2_with (fail)
      go_roundw
      case rel => exact ⟨k + 1, HLT.out, by go_num, HP2⟩
      case measure => have := HLT.out; simp [intOf]; omega
    · obtain rfl : k = 4 := by omega
      rw [show ((4 : Nat) : Int) = 4 from rfl]
      go_wp2_with (fail)
      refine (put_pa HP.out 9 0).mono ?_
      rintro e w2 ⟨rfl, hP2⟩
      rw [kn_full] at hP2 ⊢
      have HP2 := Lib.hid hP2
      clear hP2 HP
      go_wp2_with (fail)
      refine (get_pa HP2.out).mono ?_
      rintro e w3 ⟨rfl, hP3⟩
      dsimp only at hP3 ⊢
      rw [kn_get] at hP3 ⊢
      have HP3 := Lib.hid hP3
      have HST := Lib.hid (store_obj w3 #[.int .i64 0, .int .i64 0] rfl 3 0)
      have hba : Below w3.heap.size w3 (w3.alloc (.cells #[.int .i64 3, .int .i64 0] 33)) := (Below.refl _ _).alloc (Nat.le_refl _) _
      have HP4 := Lib.hid (hP3.later hba)
      have d0 : (w3.alloc (.cells #[.int .i64 3, .int .i64 0] 33)).cell? ⟨w3.heap.size, 0, none⟩ = some (.int .i64 3) := (obj_row w3 3 0).cell 0 (by decide)
      clear hP3 HP2 hba
      go_wp2_with (first | (refine wpList_store_run rfl TO _ _ rfl _ _ _ rfl rfl HST.out ?_) | fail)
      refine (len_pa HP4.out).mono ?_
      rintro e w5 ⟨rfl, hP5⟩
      have HB := Lib.hid hP5.bel
      clear hP5 HP3 HP4 HST
      go_wp2_with (fail)
      go_ret
      exact ⟨rfl, HB.out⟩
end Go.Proofs.Ytaadjgnfihkaeaa
