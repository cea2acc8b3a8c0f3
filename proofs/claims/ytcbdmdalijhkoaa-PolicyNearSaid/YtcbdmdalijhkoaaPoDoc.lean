/-
  policy, the document's: has, Allowed; alike; lists of numbers that lie.
-/
import Derived.Test.YtcbdmdalijhkoaaPoPure
import Derived.Test.YtcbdmdalijhkoaaArr
import Derived.Test.YtcbdmdalijhkoaaRow
namespace Go.Proofs.Ytcbdmdalijhkoaa
open Go.RowKit Go
attribute [local go_sem] Oper.semAt_some

/-- Numbers that lie there. -/
def LstAt (w : World) (v : Value) (L : List Nat) : Prop := ∃ a c, v = .slice a L.length c ∧ ∀ (i x : Nat), L[i]? = some x → ∃ b o, a = some ⟨b, o, none⟩ ∧ w.cell? ⟨b, o + i, none⟩ = some (.int .i64 (x : Int))
theorem LstAt.later {w w' : World} {v : Value} {L : List Nat} (h : LstAt w v L) (hb : Below w.heap.size w w') : LstAt w' v L := by
  obtain ⟨a, c, e, hc⟩ := h
  refine ⟨a, c, e, fun i x hi => ?_⟩
  obtain ⟨b, o, e2, h2⟩ := hc i x hi
  exact ⟨b, o, e2, by rw [hb.cell (World.block_lt_of_cell? _ _ h2)]; exact h2⟩
theorem LstAt.nil (w : World) (a : Option Addr) (c : Nat) : LstAt w (.slice a 0 c) [] := ⟨a, c, rfl, fun i x hi => by simp at hi⟩
/-- A policy. -/
abbrev polV (k m : Nat) : Value := .agg #[.int .u8 (k : Int), .int .u8 (m : Int)]
theorem half_step (m i : Nat) : m / 2 ^ i / 2 = m / 2 ^ (i + 1) := by rw [Nat.div_div_eq_div_mul, Nat.pow_succ]
set_option maxRecDepth 100000 in
set_option maxHeartbeats 2000000 in
theorem rhas_any (m : Nat) (hm : m ≤ 255) (n : Int) (w : World) : Calls Try.prog 18 #[.int .u8 (m : Int), .int .i64 n] w fun e w' => e = .returned (.bool (decide (0 ≤ n) && (decide (n ≤ 7) && hasM m n.toNat))) ∧ w = w' := by
  by_cases h0 : n < 0
  · rw [show decide (0 ≤ n) = false from decide_eq_false (by omega), Bool.false_and]
    go_enter Try.func18, Try.ntmps18
    go_wp2_with (fail)
    go_ret
    exact ⟨rfl, rfl⟩
  · by_cases h7 : 7 < n
    · rw [show decide (n ≤ 7) = false from decide_eq_false (by omega), Bool.false_and, Bool.and_false]
      go_enter Try.func18, Try.ntmps18
      go_wp2_with (fail)
      go_ret
      exact ⟨rfl, rfl⟩
    · obtain ⟨N, rfl⟩ : ∃ N : Nat, n = N := ⟨n.toNat, by omega⟩
      have hN : N ≤ 7 := by omega
      rw [show decide (0 ≤ (N : Int)) = true from decide_eq_true (by omega), show decide ((N : Int) ≤ 7) = true from decide_eq_true (by omega), Bool.true_and, Bool.true_and, Int.toNat_natCast]
      have hmI : (m : Int) ≤ 255 := by omega
      go_enter Try.func18, Try.ntmps18
      go_wp2_with (fail)
      go_loopw [5, 6] (fun v iv wr => ∃ (i q : Nat), iv = .int .i64 i ∧ i ≤ N ∧ v = .int .i64 q ∧ q ≤ 255 ∧ Hid (q = m / 2 ^ i) ∧ wr = w) (fun _ iv _ => N - (intOf iv).toNat)
      case atStart => exact ⟨0, m, rfl, Nat.zero_le _, rfl, hm, Lib.hid (by simp), rfl⟩
      case round =>
        obtain ⟨i, q, rfl, hi, rfl, hq, HQ, hw⟩ := hrel
        have hw := hw.symm
        subst hw
        by_cases hlt : i < N
        · have hltI : (i : Int) < N := by omega
          go_wp2_with (fail)
          go_roundw
          case rel => exact ⟨i + 1, q / 2, by go_num, hlt, by first | rfl | (congr 1; omega), by omega, Lib.hid (by rw [HQ.out]; exact half_step m i), trivial⟩
          case measure => simp [intOf]; omega
        · obtain rfl : i = N := by omega
          have HH := Lib.hid (show hasM m i = decide (q % 2 = 1) from by unfold hasM; rw [HQ.out])
          rcases (show q % 2 = 1 ∨ q % 2 = 0 by omega) with h1 | h1
          · have h2 : (q : Int) % 2 = 1 := by omega
            go_wp2_with (fail)
            go_ret
            refine ⟨?_, rfl⟩
            rw [HH.out, h1]
            rfl
          · have h2 : (q : Int) % 2 = 0 := by omega
            go_wp2_with (fail)
            go_ret
            refine ⟨?_, rfl⟩
            rw [HH.out, h1]
            rfl
set_option maxRecDepth 100000 in
set_option maxHeartbeats 2000000 in
theorem rallow_any (k m : Nat) (hk : k ≤ 255) (hm : m ≤ 255) (n : Int) (w : World) : Calls Try.prog 10 #[polV k m, .int .i64 n] w fun e w' => e = .returned (.bool (allowP k m n)) ∧ Below w.heap.size w w' := by
  have HB := Lib.hid (show Below w.heap.size w (w.alloc (.cells #[.int .u8 (k : Int), .int .u8 (m : Int)] 29)) from (Below.refl _ _).alloc (Nat.le_refl _) _)
  have k0 : (w.alloc (.cells #[.int .u8 (k : Int), .int .u8 (m : Int)] 29)).cell? ⟨w.heap.size, 0, none⟩ = some (.int .u8 (k : Int)) := by simp [go_sem]
  have k1 : (w.alloc (.cells #[.int .u8 (k : Int), .int .u8 (m : Int)] 29)).cell? ⟨w.heap.size, 1, none⟩ = some (.int .u8 (m : Int)) := by simp [go_sem]
  unfold allowP
  by_cases h0 : 0 ≤ n
  · by_cases h7 : n ≤ 7
    · rw [decide_eq_true h0, decide_eq_true h7]
      by_cases hk2 : k = 2
      · subst hk2
        rw [show decide ((2 : Nat) ≠ 2) = false from rfl, Bool.true_and, Bool.true_and, Bool.false_or]
        have HH := Lib.hid (rhas_any m hm n (w.alloc (.cells #[.int .u8 ((2 : Nat) : Int), .int .u8 (m : Int)] 29)))
        rw [decide_eq_true h0, decide_eq_true h7, Bool.true_and, Bool.true_and] at HH
        generalize hasM m n.toNat = hb at *
        go_enter Try.func10, Try.ntmps10
        go_wp2_with (fail)
        refine HH.out.mono ?_
        rintro e w1 ⟨rfl, rfl⟩
        go_wp2_with (fail)
        go_ret
        exact ⟨rfl, HB.out⟩
      · rw [decide_eq_true hk2, Bool.true_and, Bool.true_and, Bool.true_or]
        have hkb : ((k : Int) != 2) = true := by simp; omega
        have hkc : ((k : Int) == 2) = false := by simp; omega
        have hkd : ¬ (k : Int) = 2 := by omega
        go_enter Try.func10, Try.ntmps10
        go_wp2_with (fail)
        go_ret
        exact ⟨rfl, HB.out⟩
    · rw [decide_eq_false h7, Bool.false_and, Bool.and_false]
      go_enter Try.func10, Try.ntmps10
      go_wp2_with (fail)
      go_ret
      exact ⟨rfl, HB.out⟩
  · rw [decide_eq_false h0, Bool.false_and]
    go_enter Try.func10, Try.ntmps10
    go_wp2_with (fail)
    go_ret
    exact ⟨rfl, HB.out⟩
/-- The same numbers? -/
def sameL (L M : List Nat) : Bool := decide (L = M)
set_option maxRecDepth 100000 in
set_option maxHeartbeats 2000000 in
theorem alike_any {w : World} {u v : Value} {L M : List Nat} (hu : LstAt w u L) (hv : LstAt w v M) (hbd : L.length ≤ 1000) : Calls Try.prog 12 #[u, v] w fun e w' => e = .returned (.bool (sameL L M)) ∧ Below w.heap.size w w' := by
  obtain ⟨ua, uc, rfl, hu⟩ := hu
  obtain ⟨va, vc, rfl, hv⟩ := hv
  have HU := Lib.hid hu
  have HV := Lib.hid hv
  clear hu hv
  by_cases hl : L.length = M.length
  · have hlI : (L.length : Int) = M.length := by omega
    have HL := Lib.hid hl
    have hbn : ((L.length : Int) != M.length) = false := by rw [hlI]; simp
    clear hl hlI
    go_enter Try.func12, Try.ntmps12
    go_wp2_with (fail)
    go_loopw [13] (fun iv wr => ∃ i : Nat, iv = .int .i64 i ∧ i ≤ L.length ∧ Hid (∀ j, j < i → L[j]? = M[j]?) ∧ Hid (Below w.heap.size w wr)) (fun iv _ => L.length - (intOf iv).toNat)
    case atStart => exact ⟨0, rfl, Nat.zero_le _, Lib.hid (fun j h => absurd h (Nat.not_lt_zero _)), Lib.hid (Below.refl _ _)⟩
    case round =>
      obtain ⟨i, rfl, hi, HE, HB⟩ := hrel
      by_cases hlt : i < L.length
      · have hltI : (i : Int) < L.length := by omega
        have hltM : (i : Int) < M.length := by have := HL.out; omega
        have hiM : i < M.length := by have := HL.out; omega
        obtain ⟨x, hx⟩ : ∃ x, L[i]? = some x := ⟨_, List.getElem?_eq_getElem hlt⟩
        obtain ⟨y, hy⟩ : ∃ y, M[i]? = some y := ⟨_, List.getElem?_eq_getElem hiM⟩
        obtain ⟨b, o, rfl, c1⟩ := HU.out i x hx
        obtain ⟨b2, o2, rfl, c2⟩ := HV.out i y hy
        have c1 : wr.cell? ⟨b, o + i, none⟩ = some (.int .i64 (x : Int)) := by rw [HB.out.cell (World.block_lt_of_cell? _ _ c1)]; exact c1
        have c2 : wr.cell? ⟨b2, o2 + i, none⟩ = some (.int .i64 (y : Int)) := by rw [HB.out.cell (World.block_lt_of_cell? _ _ c2)]; exact c2
        have HX := Lib.hid hx
        have HY := Lib.hid hy
        clear hx hy
        by_cases hxy : x = y
        · subst hxy
          have HE2 := Lib.hid (show ∀ j, j < i + 1 → L[j]? = M[j]? from fun j hj => by
            by_cases e : j = i
            · rw [e, HX.out, HY.out]
            · exact HE.out j (by omega))
          go_wp2_with (fail)
          go_quiet (fail)
          have HB2 := Lib.hid (below_drewN HB.out nq)
          generalize wr.drewN nq = W2 at *
          clear c1 c2
          go_wp2_with (fail)
          go_roundw
          case rel => exact ⟨i + 1, by go_num, hlt, HE2, HB2⟩
          case measure => simp [intOf]; omega
        · have hne : ((x : Int) != y) = true := by simp; omega
          have hne2 : ((x : Int) == y) = false := by simp; omega
          have hne3 : ¬ (x : Int) = y := by omega
          have HF := Lib.hid (show sameL L M = false from decide_eq_false (fun e => by
            subst e
            have := HX.out.symm.trans HY.out
            cases this
            exact hxy rfl))
          go_wp2_with (fail)
          go_quiet (fail)
          have HB2 := Lib.hid (below_drewN HB.out nq)
          generalize wr.drewN nq = W2 at *
          clear c1 c2
          go_wp2_with (fail)
          go_ret
          rw [HF.out]
          exact ⟨rfl, HB2.out⟩
      · obtain rfl : i = L.length := by omega
        have HT := Lib.hid (show sameL L M = true from decide_eq_true (List.ext_getElem? fun j => by
          by_cases h : j < L.length
          · exact HE.out j h
          · rw [List.getElem?_eq_none (by omega), List.getElem?_eq_none (by have := HL.out; omega)]))
        go_wp2_with (fail)
        go_ret
        rw [HT.out]
        exact ⟨rfl, HB.out⟩
  · have hbn : ((L.length : Int) != M.length) = true := by simp; omega
    have hbm : ((L.length : Int) == M.length) = false := by simp; omega
    have HF := Lib.hid (show sameL L M = false from decide_eq_false (fun e => hl (by rw [e])))
    go_enter Try.func12, Try.ntmps12
    go_wp2_with (fail)
    go_ret
    rw [HF.out]
    exact ⟨rfl, Below.refl _ _⟩
end Go.Proofs.Ytcbdmdalijhkoaa
