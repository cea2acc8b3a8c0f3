/-
  buddy: the greatest block that begins somewhere; New.
-/
import Derived.Test.YtilcdnkjfbkpnaaBuNode
namespace Go.Proofs.Ytilcdnkjfbkpnaa
open Go.RowKit Go

theorem size_of {x : Int} {k p : Nat} (hx : x = k) (hk : k ≤ 10) (hp : 2 ^ k = p) (w : World) : Calls Try.prog 27 #[.int .i64 x] w fun e w' => e = .returned (.int .i64 p) ∧ w = w' := by
  subst hx
  subst hp
  exact size_any k hk w
theorem best_down {a n k : Nat} (h : a % 2 ^ (k + 1) = 0 ∧ a + 2 ^ (k + 1) ≤ n) : a % 2 ^ k = 0 ∧ a + 2 ^ k ≤ n := by
  have := Nat.one_le_two_pow (n := k)
  refine ⟨(half_up h.1).1, ?_⟩
  have := h.2
  rw [Nat.pow_succ] at this
  omega
theorem best_is {a n : Nat} (ha : a < n) {k : Nat} (hk : k ≤ 10) (h : a % 2 ^ k = 0 ∧ a + 2 ^ k ≤ n) (hn : k = 10 ∨ ¬ (a % 2 ^ (k + 1) = 0 ∧ a + 2 ^ (k + 1) ≤ n)) : bestK a n 11 = k := by
  have h1 := best_max h.1 h.2 11 (by omega)
  have h2 := best_lt a n 11 (by decide)
  rcases hn with rfl | hn
  · omega
  · by_cases e : bestK a n 11 = k
    · exact e
    · exfalso
      have key : ∀ d, a % 2 ^ (k + 1 + d) = 0 ∧ a + 2 ^ (k + 1 + d) ≤ n → a % 2 ^ (k + 1) = 0 ∧ a + 2 ^ (k + 1) ≤ n := by
        intro d
        induction d with
        | zero => exact id
        | succ d ih => exact fun hh => ih (best_down hh)
      obtain ⟨d, hd⟩ : ∃ d, bestK a n 11 = k + 1 + d := ⟨bestK a n 11 - (k + 1), by omega⟩
      exact hn (key d (by rw [← hd]; exact ⟨best_al a n 11, best_fits a n ha 11⟩))

set_option maxRecDepth 100000 in
set_option maxHeartbeats 1000000 in
theorem greatest_any {a n : Nat} (ha : a < n) (hn : n ≤ 128) (w : World) : Calls Try.prog 25 #[.int .i64 a, .int .i64 n] w fun e w' => e = .returned (.int .i64 ((bestK a n 11 : Nat) : Int)) ∧ w = w' := by
  go_enter Try.func25, Try.ntmps25
  go_wp2_with (fail)
  go_loop [5] (fun i => ∃ k : Nat, k ≤ 10 ∧ i = .int .i64 k ∧ Hid (a % 2 ^ k = 0 ∧ a + 2 ^ k ≤ n)) (fun i => 10 - (intOf i).toNat)
  case atStart => exact ⟨0, by decide, rfl, Nat.mod_one a, ha⟩
  case round =>
    obtain ⟨k, hk, rfl, HP⟩ := hrel
    by_cases hlt : k < 10
    · obtain ⟨p, hp⟩ : ∃ p, 2 ^ (k + 1) = p := ⟨_, rfl⟩
      have hp2 := two_pow_small (k := k + 1) (by omega)
      rw [hp] at hp2
      obtain ⟨p1, p2⟩ := hp2
      have HQ := Lib.hid hp
      have em : ((a : Int) % (p : Int)) = ((a % p : Nat) : Int) := (Int.natCast_emod a p).symm
      by_cases c1 : a % p = 0
      · have em2 : ((a : Int) % (p : Int) == 0) = true := by rw [em, c1]; rfl
        by_cases c2 : a + p ≤ n
        · have HN := Lib.hid (show a % 2 ^ (k + 1) = 0 ∧ a + 2 ^ (k + 1) ≤ n by rw [hp]; exact ⟨c1, c2⟩)
          clear hp em
          go_wp2_with (fail)
          refine (size_of (k := k + 1) (by omega) (by omega) HQ.out _).mono ?_
          rintro e w' ⟨rfl, rfl⟩
          go_wp2_with (fail)
          refine (size_of (k := k + 1) (by omega) (by omega) HQ.out _).mono ?_
          rintro e w' ⟨rfl, rfl⟩
          go_wp2_with (fail)
          go_round
          case rel => exact ⟨k + 1, by omega, by go_num, HN⟩
          case measure => simp [intOf]; omega
        · have HE := Lib.hid (best_is ha hk HP.out (.inr (by rw [hp]; exact fun h => c2 h.2)))
          have c3 : n < a + p := by omega
          clear hp em c2
          go_wp2_with (fail)
          refine (size_of (k := k + 1) (by omega) (by omega) HQ.out _).mono ?_
          rintro e w' ⟨rfl, rfl⟩
          go_wp2_with (fail)
          refine (size_of (k := k + 1) (by omega) (by omega) HQ.out _).mono ?_
          rintro e w' ⟨rfl, rfl⟩
          go_wp2_with (fail)
          go_ret
          exact ⟨by rw [HE.out]; rfl, rfl⟩
      · have HE := Lib.hid (best_is ha hk HP.out (.inr (by rw [hp]; exact fun h => c1 h.1)))
        have em2 : ((a : Int) % (p : Int) == 0) = false := by
          rw [em]
          simpa using (show ((a % p : Nat) : Int) ≠ 0 by omega)
        clear hp em c1
        go_wp2_with (fail)
        refine (size_of (k := k + 1) (by omega) (by omega) HQ.out _).mono ?_
        rintro e w' ⟨rfl, rfl⟩
        go_wp2_with (fail)
        go_ret
        exact ⟨by rw [HE.out]; rfl, rfl⟩
    · obtain rfl : k = 10 := by omega
      have HE := Lib.hid (best_is ha hk HP.out (.inl rfl))
      go_wp2_with (fail)
      go_ret
      exact ⟨by rw [HE.out]; rfl, rfl⟩

theorem NodeAt.same {w : World} {d n : Nat} {mb : Nat → Nat} {tb : Nat} {L T L' : List (Int × Int)} (N : NodeAt w d n mb tb L T) (h : ∀ p, p ∈ L' ↔ p ∈ L) : NodeAt w d n mb tb L' T := by
  have e : ∀ o, frL L' o = frL L o := fun o => by
    funext x
    unfold frL
    by_cases h1 : (x, (o : Int)) ∈ L
    · rw [if_pos h1, if_pos ((h _).2 h1)]
    · rw [if_neg h1, if_neg (fun h2 => h1 ((h _).1 h2))]
  exact ⟨N.row, fun o ho => by rw [e]; exact N.free o ho, N.tkn, N.inj, N.ntb, fun p hp => N.bnd p ((h p).1 hp), N.tbnd⟩
def New6 (w : World) (n : Nat) (e : Ending) (w' : World) : Prop := ∃ d mb tb, e = .returned (.tuple #[.pointer (some ⟨d, 0, none⟩), .int .i64 0]) ∧ NodeAt w' d n mb tb (newL n) [] ∧ w.heap.size ≤ d ∧ (∀ k, own6 mb tb k → w.heap.size ≤ k) ∧ Below w.heap.size w w'
theorem newW {n : Int} (h : ¬ (1 ≤ n ∧ n ≤ 128)) (w : World) : Calls Try.prog 9 #[.int .i64 n] w fun e w' => e = .returned (.tuple #[.pointer none, .int .i64 2]) ∧ w = w' := by
  by_cases h1 : n < 1
  · go_enter Try.func9, Try.ntmps9
    go_wp2_with (fail)
    go_ret2
    exact ⟨rfl, rfl⟩
  · have h2 : 128 < n := by omega
    go_enter Try.func9, Try.ntmps9
    go_wp2_with (fail)
    go_ret2
    exact ⟨rfl, rfl⟩
/-- The row while its maps are made. -/
def rowN (n tb m : Nat) (k : Nat) (i : Nat) : Value := if i = 0 then .int .i64 n else if i = 12 then .map (some tb) else if i ≤ k then .map (some (m + (i - 1))) else .map none
theorem make_map (t : TypeId) (W : World) : (Instr.makeMap t none).run Try.prog W = .ok (.map (some W.heap.size)) (W.alloc (.map #[] 0)) := rfl
theorem rowN_next {w : World} {d n tb m k : Nat} (R : RowAt w d 13 (rowN n tb m k)) (hk : k < 11) : RowAt (w.setCell ⟨d, 1 + k, none⟩ (.map (some (m + k)))) d 13 (rowN n tb m (k + 1)) :=
  (R.setCell (1 + k) _).ext fun i hi => by
    unfold updV rowN
    by_cases e : i = 1 + k
    · subst e
      rw [if_pos rfl, if_neg (by omega), if_neg (by omega), if_pos (by omega), Nat.add_sub_cancel_left]
    · rw [if_neg e]
      by_cases e0 : i = 0
      · rw [if_pos e0, if_pos e0]
      · rw [if_neg e0, if_neg e0]
        by_cases e2 : i = 12
        · rw [if_pos e2, if_pos e2]
        · rw [if_neg e2, if_neg e2]
          by_cases e3 : i ≤ k
          · rw [if_pos e3, if_pos (by omega)]
          · rw [if_neg e3, if_neg (by omega)]
set_option maxRecDepth 100000 in
set_option maxHeartbeats 1000000 in
theorem new6_any {n : Nat} (h1 : 1 ≤ n) (h2 : n ≤ 128) (w : World) : Calls Try.prog 9 #[.int .i64 n] w (New6 w n) := by
  have g1 : ¬ ((n : Int) < 1) := by omega
  have g2 : ¬ (128 < (n : Int)) := by omega
  have hmk := make_map
  have HT0 := Lib.hid ((fmap_made Try.prog 3 EI w).later ((Below.refl _ _).alloc (Nat.le_refl _) (.cells #[Value.int IntKind.i64 ↑n, Value.map none, Value.map none, Value.map none, Value.map none, Value.map none, Value.map none, Value.map none, Value.map none, Value.map none, Value.map none, Value.map none, Value.map (some w.heap.size)] 49)))
  have HR0 := Lib.hid (RowAt.new (w.alloc (.map #[] 0)) #[Value.int IntKind.i64 ↑n, Value.map none, Value.map none, Value.map none, Value.map none, Value.map none, Value.map none, Value.map none, Value.map none, Value.map none, Value.map none, Value.map none, Value.map (some w.heap.size)] 49 13 (rowN n w.heap.size (w.heap.size + 2) 0) (fun i hi => by
    rcases (show i = 0 ∨ i = 1 ∨ i = 2 ∨ i = 3 ∨ i = 4 ∨ i = 5 ∨ i = 6 ∨ i = 7 ∨ i = 8 ∨ i = 9 ∨ i = 10 ∨ i = 11 ∨ i = 12 by omega) with rfl | rfl | rfl | rfl | rfl | rfl | rfl | rfl | rfl | rfl | rfl | rfl | rfl <;> rfl))
  have HB0 := Lib.hid ((((Below.refl w.heap.size w).alloc (Nat.le_refl _) (.map #[] 0))).alloc (by simp) (.cells #[Value.int IntKind.i64 ↑n, Value.map none, Value.map none, Value.map none, Value.map none, Value.map none, Value.map none, Value.map none, Value.map none, Value.map none, Value.map none, Value.map none, Value.map (some w.heap.size)] 49))
  have HS0 := Lib.hid (show ((w.alloc (.map #[] 0)).alloc (.cells #[Value.int IntKind.i64 ↑n, Value.map none, Value.map none, Value.map none, Value.map none, Value.map none, Value.map none, Value.map none, Value.map none, Value.map none, Value.map none, Value.map none, Value.map (some w.heap.size)] 49)).heap.size = w.heap.size + 2 by simp)
  rw [show (w.alloc (.map #[] 0)).heap.size = w.heap.size + 1 by simp] at HR0
  go_enter Try.func9, Try.ntmps9
  go_wp2_with (fail)
  generalize hBB : w.heap.size = B at *
  generalize (w.alloc (.map #[] 0)).alloc _ = w1 at *
  go_loopw [18] (fun i wr => ∃ k : Nat, k ≤ 11 ∧ i = .int .i64 k ∧ Hid (wr.heap.size = B + 2 + k) ∧ RowAt wr (B + 1) 13 (rowN n B (B + 2) k) ∧ FMap Try.prog 3 EI wr B (fun _ => none) ∧ (∀ o, o < k → FMap Try.prog 3 EU wr (B + 2 + o) (fun _ => none)) ∧ Below B w wr) (fun i _ => 11 - (intOf i).toNat)
  case atStart => exact ⟨0, by decide, rfl, HS0, HR0.out, HT0.out, fun o h => absurd h (Nat.not_lt_zero _), HB0.out⟩
  case round =>
    clear HT0 HR0 HB0 HS0
    obtain ⟨k, hk, rfl, HS, hR, hT, hF, hB⟩ := hrel
    have HR := Lib.hid hR
    have HT := Lib.hid hT
    have HF := Lib.hid hF
    have HB := Lib.hid hB
    clear hR hT hF hB
    by_cases hlt : k < 11
    · have hk2 : (k : Int) < 11 := by omega
      have c1 : (wr.alloc (.map #[] 0)).cell? ⟨B + 1, 1 + k, none⟩ = some (.map none) := by
        have h := (HR.out.alloc (.map #[] 0)).cell (1 + k) (by omega)
        unfold rowN at h
        rw [if_neg (by omega), if_neg (by omega), if_neg (by omega)] at h
        exact h
      have f1 : (wr.alloc (.map #[] 0)).frozen? ⟨B + 1, 1 + k, none⟩ = false := (HR.out.alloc (.map #[] 0)).frozen _
      have HN1 := Lib.hid (show RowAt ((wr.alloc (.map #[] 0)).setCell ⟨B + 1, 1 + k, none⟩ (.map (some wr.heap.size))) (B + 1) 13 (rowN n B (B + 2) (k + 1)) by
        rw [HS.out]; exact rowN_next (HR.out.alloc (.map #[] 0)) hlt)
      have ha : Below wr.heap.size wr (wr.alloc (.map #[] 0)) := (Below.refl _ wr).alloc (Nat.le_refl _) _
      have ho := Only.setCell (S := fun j => j = B + 1) (wr.alloc (.map #[] 0)) ⟨B + 1, 1 + k, none⟩ rfl (.map (some wr.heap.size))
      have HN2 := Lib.hid ((HT.out.later ha).only ho (by omega))
      have HN3 := Lib.hid (show ∀ o, o < k + 1 → FMap Try.prog 3 EU ((wr.alloc (.map #[] 0)).setCell ⟨B + 1, 1 + k, none⟩ (.map (some wr.heap.size))) (B + 2 + o) (fun _ => none) from fun o hlo => by
        by_cases e : o = k
        · subst e
          rw [← HS.out]
          exact (fmap_made Try.prog 3 EU wr).only ho (by have := HS.out; omega)
        · exact ((HF.out o (by omega)).later ha).only ho (by omega))
      have HN4 := Lib.hid (ho.below (HB.out.trans (ha.mono (by have := HB.out.size; omega))) (by have := HB.out.size; have := HS.out; simp; omega) (fun j hj => by omega))
      have HN5 := Lib.hid (show ((wr.alloc (.map #[] 0)).setCell ⟨B + 1, 1 + k, none⟩ (.map (some wr.heap.size))).heap.size = B + 2 + (k + 1) by
        have := HS.out
        simp [World.setCell]; omega)
      clear HR HT HF HB HS ha ho
      go_wp2_with (fail)
      go_roundw
      case rel => exact ⟨k + 1, hlt, by go_num, HN5, HN1.out, HN2.out, HN3.out, HN4.out⟩
      case measure => simp [intOf]; omega
    · obtain rfl : k = 11 := by omega
      rw [show ((11 : Nat) : Int) = 11 from rfl]
      have HN := Lib.hid (show NodeAt wr (B + 1) n (fun o => B + 2 + o) B [] [] from
        ⟨HR.out.ext fun i hi => by
          unfold rowN ndV
          by_cases e0 : i = 0
          · rw [if_pos e0, if_pos e0]
          · rw [if_neg e0, if_neg e0]
            by_cases e2 : i = 12
            · rw [if_pos e2, if_pos e2]
            · rw [if_neg e2, if_neg e2, if_pos (by omega)],
         fun o ho => HF.out o ho, HT.out, fun o p _ _ h => by omega, fun o _ => by omega, fun _ h => absurd h List.not_mem_nil, fun _ h => absurd h List.not_mem_nil⟩)
      clear HR HT HF HS hk hlt
      go_wp2_with (fail)
      generalize hD : B + 1 = d at *
      generalize hM : (fun o => B + 2 + o) = mb at *
      have HM := Lib.hid (show ∀ k, own6 mb B k → B ≤ k from fun k hk => by
        rcases hk with rfl | ⟨o, _, rfl⟩
        · exact Nat.le_refl _
        · subst hM; exact Nat.le_trans (Nat.le_add_right _ _) (Nat.le_add_right _ _))
      clear hM
      generalize wr = w2 at *
      go_loopw [6] (fun i wr => ∃ (a f : Nat) (out : List (Int × Int)), i = .int .i64 a ∧ a ≤ n ∧ n ≤ a + f ∧ out ++ newF n f a = newL n ∧ NodeAt wr d n mb B out [] ∧ Below B w wr) (fun i _ => n - (intOf i).toNat)
      case atStart => exact ⟨0, n, [], rfl, by omega, by omega, rfl, HN.out, HB.out⟩
      case round =>
        clear HN HB
        obtain ⟨a, f, out, rfl, ha, hf, he, hN, hB⟩ := hrel
        have HN := Lib.hid hN
        have HB := Lib.hid hB
        clear hN hB
        by_cases hlt : a < n
        · have hbl := best_lt a n 11 (by decide)
          have hbf := best_fits a n hlt 11
          obtain ⟨p, hp⟩ : ∃ p, 2 ^ bestK a n 11 = p := ⟨_, rfl⟩
          have hp2 := two_pow_small hbl
          rw [hp] at hp2 hbf
          obtain ⟨p1, p2⟩ := hp2
          have HP := Lib.hid hp
          obtain ⟨f', rfl⟩ : ∃ f', f = f' + 1 := ⟨f - 1, by omega⟩
          have HE := Lib.hid (show out ++ [((a : Int), (bestK a n 11 : Int))] ++ newF n f' (a + p) = newL n by
            rw [← he, ← hp, List.append_assoc]
            show _ = out ++ (if a < n then _ else [])
            rw [if_pos hlt]; rfl)
          have HG := Lib.hid (greatest_any hlt h2)
          clear hp he
          generalize bestK a n 11 = q at *
          go_wp2_with (fail)
          refine (HG.out _).mono ?_
          rintro e w' ⟨rfl, rfl⟩
          go_wp2_with (fail)
          refine (put6_any HN.out q (by omega) a (by omega)).mono ?_
          rintro e w3 ⟨rfl, hN3, ho3⟩
          have HN3 := Lib.hid (hN3.same (L' := out ++ [((a : Int), (q : Int))]) (fun p => by rw [mem_putL, List.mem_append, List.mem_singleton]))
          have HB3 := Lib.hid (ho3.below HB.out (by have := HB.out.size; omega) (fun k hk => HM.out k (.inr ⟨q, by omega, hk⟩)))
          clear hN3 ho3 HN HB
          go_wp2_with (fail)
          refine (size_of (k := q) rfl hbl HP.out _).mono ?_
          rintro e w' ⟨rfl, rfl⟩
          go_wp2_with (fail)
          go_roundw
          case rel => exact ⟨a + p, f', out ++ [((a : Int), (q : Int))], by go_num, by omega, by omega, HE.out, HN3.out, HB3.out⟩
          case measure => simp [intOf]; omega
        · have hend : newF n f a = [] := by
            cases f with
            | zero => rfl
            | succ f =>
              show (if a < n then _ else []) = []
              rw [if_neg hlt]
          rw [hend, List.append_nil] at he
          subst he
          have HE := Lib.hid (show New6 w n (.returned (.tuple #[.pointer (some ⟨d, 0, none⟩), .int .i64 0])) wr from
            ⟨d, mb, B, rfl, HN.out, by omega, fun k hk => by have := HM.out k hk; omega, by rw [hBB]; exact HB.out⟩)
          clear HN HB HM
          go_wp2_with (fail)
          go_ret2
          exact HE.out
end Go.Proofs.Ytilcdnkjfbkpnaa
