/-
  calls, the document's: results.
-/
import Derived.Test.YtkmjkkeldbocdaaDoorCsWord
import Derived.Test.YtkmjkkeldbocdaaDoorStr
namespace Go.Proofs.YtkmjkkeldbocdaaDoor
open Go.RowKit Go
attribute [local go_sem] Oper.semAt_some

/-- A result as it is handed. -/
abbrev rsA (e : Int) (v : Nat) (a : Option Addr) (n c : Nat) : Array Value := #[.int .i64 e, .int .u64 (v : Int), .slice a n c]
abbrev rsV (e : Int) (v : Nat) (a : Option Addr) (n c : Nat) : Value := .agg (rsA e v a n c)
def mayRs (e : Int) (v n : Nat) : Bool := if e < 0 ∨ 999 < e ∨ 8 < n then false else (decide (e = 0) || (decide (v = 0) && decide (n = 0)))
set_option maxRecDepth 100000 in
set_option maxHeartbeats 4000000 in
theorem rmayr_any (e : Int) (v : Nat) (a : Option Addr) (n c : Nat) (hn : n ≤ 100000) (w : World) : Calls Tryd.prog 27 #[rsV e v a n c] w fun r w' => r = .returned (.bool (mayRs e v n)) ∧ Below w.heap.size w w' := by
  have HB := Lib.hid (show Below w.heap.size w (w.alloc (.cells (rsA e v a n c) 41)) from (Below.refl _ _).alloc (Nat.le_refl _) _)
  have k0 : (w.alloc (.cells (rsA e v a n c) 41)).cell? ⟨w.heap.size, 0, none⟩ = some (.int .i64 e) := by simp [go_sem]
  have k1 : (w.alloc (.cells (rsA e v a n c) 41)).cell? ⟨w.heap.size, 1, none⟩ = some (.int .u64 (v : Int)) := by simp [go_sem]
  have k2 : (w.alloc (.cells (rsA e v a n c) 41)).cell? ⟨w.heap.size, 2, none⟩ = some (.slice a n c) := by simp [go_sem]
  have hnI : (n : Int) ≤ 100000 := by omega
  unfold mayRs
  by_cases hbad : e < 0 ∨ 999 < e ∨ 8 < n
  · rw [if_pos hbad]
    rcases (show e < 0 ∨ (¬ e < 0 ∧ 999 < e) ∨ (¬ e < 0 ∧ ¬ 999 < e ∧ 8 < n) by omega) with h1 | ⟨h1, h2⟩ | ⟨h1, h2, h3⟩
    · clear hbad hn
      go_enter Tryd.func27, Tryd.ntmps27
      go_wp2_with (fail)
      go_ret
      exact ⟨rfl, HB.out⟩
    · clear hbad hn
      go_enter Tryd.func27, Tryd.ntmps27
      go_wp2_with (fail)
      go_ret
      exact ⟨rfl, HB.out⟩
    · have h3I : (8 : Int) < n := by omega
      clear hbad hn
      go_enter Tryd.func27, Tryd.ntmps27
      go_wp2_with (fail)
      go_ret
      exact ⟨rfl, HB.out⟩
  · rw [if_neg hbad]
    have h1 : ¬ e < 0 := by omega
    have h2 : ¬ 999 < e := by omega
    have h3 : ¬ (8 : Int) < n := by omega
    by_cases he : e = 0
    · subst he
      clear hbad hn
      go_enter Tryd.func27, Tryd.ntmps27
      go_wp2_with (fail)
      go_ret
      exact ⟨rfl, HB.out⟩
    · have heb : (e == 0) = false := by rw [beq_eq_false_iff_ne]; exact he
      by_cases hv : v = 0
      · subst hv
        by_cases hn0 : n = 0
        · subst hn0
          have HE := Lib.hid (show (decide (e = 0) || (decide ((0 : Nat) = 0) && decide ((0 : Nat) = 0))) = true by simp)
          rw [HE.out]
          clear hbad hn he
          go_enter Tryd.func27, Tryd.ntmps27
          go_wp2_with (fail)
          go_ret
          exact ⟨rfl, HB.out⟩
        · have hnb : ((n : Int) == 0) = false := by rw [beq_eq_false_iff_ne]; omega
          have HE := Lib.hid (show (decide (e = 0) || (decide ((0 : Nat) = 0) && decide (n = 0))) = false by simp [he, hn0])
          rw [HE.out]
          clear hbad hn he
          go_enter Tryd.func27, Tryd.ntmps27
          go_wp2_with (fail)
          go_ret
          exact ⟨rfl, HB.out⟩
      · have hvb : ((v : Int) == 0) = false := by rw [beq_eq_false_iff_ne]; omega
        have HE := Lib.hid (show (decide (e = 0) || (decide (v = 0) && decide (n = 0))) = false by simp [he, hv])
        rw [HE.out]
        clear hbad hn he
        go_enter Tryd.func27, Tryd.ntmps27
        go_wp2_with (fail)
        go_ret
        exact ⟨rfl, HB.out⟩
def sameR (e1 e2 : Int) (v1 v2 : Nat) (s1 s2 : ByteArray) : Bool := decide (e1 = e2) && (decide (v1 = v2) && (s1.toList == s2.toList))
set_option maxRecDepth 100000 in
set_option maxHeartbeats 4000000 in
theorem rsame_any (e1 e2 : Int) (v1 v2 : Nat) (a1 a2 : Option Addr) (n1 n2 c1 c2 : Nat) (x1 x2 : Nat → UInt8) (w : World) (S1 : Src w a1 n1 x1) (S2 : Src w a2 n2 x2) :
    Calls Tryd.prog 22 #[rsV e1 v1 a1 n1 c1, rsV e2 v2 a2 n2 c2] w fun r w' => r = .returned (.bool (sameR e1 e2 v1 v2 (strB n1 x1) (strB n2 x2))) ∧ Below w.heap.size w w' := by
  have hb : Below w.heap.size w ((w.alloc (.cells (rsA e1 v1 a1 n1 c1) 41)).alloc (.cells (rsA e2 v2 a2 n2 c2) 41)) := ((Below.refl _ _).alloc (Nat.le_refl _) _).alloc (by simp) _
  have hs1 := run_string_src (c := c1) (S1.later hb)
  have hs2 := run_string_src (c := c2) (S2.later hb)
  have HB := Lib.hid hb
  clear hb S1 S2
  generalize strB n1 x1 = s1 at *
  generalize strB n2 x2 = s2 at *
  unfold sameR
  by_cases he : e1 = e2
  · subst he
    by_cases hv : v1 = v2
    · subst hv
      rw [decide_eq_true rfl, decide_eq_true rfl, Bool.true_and, Bool.true_and]
      go_enter Tryd.func22, Tryd.ntmps22
      go_wp2_with (fail)
      go_ret
      exact ⟨rfl, HB.out⟩
    · have hvb : ((v1 : Int) == v2) = false := by rw [beq_eq_false_iff_ne]; omega
      rw [decide_eq_true rfl, decide_eq_false hv]
      clear hv
      go_enter Tryd.func22, Tryd.ntmps22
      go_wp2_with (fail)
      go_ret
      exact ⟨rfl, HB.out⟩
  · have heb : (e1 == e2) = false := by rw [beq_eq_false_iff_ne]; exact he
    rw [decide_eq_false he]
    clear he
    go_enter Tryd.func22, Tryd.ntmps22
    go_wp2_with (fail)
    go_ret
    exact ⟨rfl, HB.out⟩
end Go.Proofs.YtkmjkkeldbocdaaDoor
