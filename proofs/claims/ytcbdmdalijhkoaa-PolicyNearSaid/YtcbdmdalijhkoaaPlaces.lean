/-
  before, Total, asked, First, Node.
-/
import Derived.Test.YtcbdmdalijhkoaaMay
namespace Go.Proofs.Ytcbdmdalijhkoaa
open Go.RowKit Go

set_option maxRecDepth 100000 in
/-- A whole config out of its block. -/
theorem wpList_load_cfg {ops : Array Oper} {rest : List Oper} {o : Oper} {a : Act} {w : World} {Q : Exit → Act → World → Prop} {A : Array Value} {g : Nat → Int} (hw : Region.wanted o (yielded ops a.tmps) = true) (x : Operand) (ho : o.op = .load 26 x) (b : Nat) (hx : a.eval x = .pointer (some ⟨b, 0, none⟩))
    (C : CfgAt w b A g) (h : wpList Try.prog ops Q rest (a.put o.dst (.agg A)) w) : wpList Try.prog ops Q (o :: rest) a w :=
  BigFrame.wpList_want hw fun _ hK => wp_load_row 26 x ho b hx 26 A (0, 0) _ C.block Try.underlying26 rfl (by rw [C.cfg.size]; kernel_rfl) (hK _ _ h)

/-- What a config that may be has. -/
structure Good (g : Nat → Int) : Prop where
  n1 : 1 ≤ g 0
  n2 : g 0 ≤ 8
  c1 : 1 ≤ g 1
  c2 : g 1 ≤ 16
  s1 : 0 ≤ g 90
  s2 : g 90 ≤ 1024
  home : ∀ i : Nat, (i : Int) < g 1 → 0 ≤ g (2 + i) ∧ g (2 + i) ≤ g 0 - 1
  frames : ∀ i : Nat, (i : Int) < g 0 → 4 ≤ g (18 + i) ∧ g (18 + i) ≤ 128
  self : ∀ a : Nat, (a : Int) < g 0 → g (26 + a * 8 + a) = 0
  dist : ∀ a b : Nat, (a : Int) < g 0 → b < a → g (26 + a * 8 + b) = g (26 + b * 8 + a) ∧ 1 ≤ g (26 + a * 8 + b) ∧ g (26 + a * 8 + b) ≤ 255
  min0 : 0 ≤ g 91
  low : g 91 ≤ g 92
  high : g 92 ≤ g 93
  least : ∀ i : Nat, (i : Int) < g 0 → g 93 ≤ g (18 + i)
  behind : ∀ i, i < 94 → g i = bareG g i

theorem good_iff (g : Nat → Int) : mayB g = true ↔ Good g := by
  constructor
  · intro h
    simp only [mayB, Bool.and_eq_true] at h
    obtain ⟨h0, h1, h2, h3, h4, h5, h6, h7⟩ := h
    have e0 := of_withinB h0
    have e1 := of_withinB h1
    have e2 := of_withinB h2
    have e3 := of_allR h3
    have e4 := of_allR h4
    have e5 := of_allR h5
    simp only [waterB, Bool.and_eq_true, decide_eq_true_eq] at h6
    obtain ⟨f0, f1, f2, f3⟩ := h6
    have f4 := (le_minR _ _ _).1 f3
    refine ⟨e0.1, e0.2, e1.1, e1.2, e2.1, e2.2, fun i hi => of_withinB (e3 i (by omega)), fun i hi => of_withinB (e4 i (by omega)), fun a ha => ?_, fun a b ha hb => ?_, f0, f1, f2, fun i hi => f4 i (by omega), (cfgEq_iff _ _).1 h7⟩
    · have := e5 a (by omega)
      simp only [rowB, Bool.and_eq_true] at this
      simpa using this.1
    · have := e5 a (by omega)
      simp only [rowB, Bool.and_eq_true] at this
      have := of_allR this.2 b hb
      simp only [pairB, Bool.and_eq_true] at this
      have h8 := of_withinB this.2
      exact ⟨by simpa using this.1, h8.1, h8.2⟩
  · intro G
    have n1 := G.n1
    have n2 := G.n2
    have c1 := G.c1
    simp only [mayB, Bool.and_eq_true]
    refine ⟨decide_eq_true ⟨G.n1, G.n2⟩, decide_eq_true ⟨G.c1, G.c2⟩, decide_eq_true ⟨G.s1, G.s2⟩, allR_true (fun i hi => decide_eq_true (G.home i (by omega))), allR_true (fun i hi => decide_eq_true (G.frames i (by omega))), allR_true (fun a ha => ?_), ?_, (cfgEq_iff _ _).2 G.behind⟩
    · simp only [rowB, Bool.and_eq_true]
      refine ⟨by simpa using G.self a (by omega), allR_true (fun b hb => ?_)⟩
      simp only [pairB, Bool.and_eq_true]
      obtain ⟨d1, d2, d3⟩ := G.dist a b (by omega) hb
      exact ⟨by simpa using d1, decide_eq_true ⟨d2, d3⟩⟩
    · simp only [waterB, Bool.and_eq_true, decide_eq_true_eq]
      exact ⟨G.min0, G.low, G.high, (le_minR _ _ _).2 (fun i hi => G.least i (by omega))⟩

/-- The frames of the first k nodes. -/
def sumF (g : Nat → Int) : Nat → Int
  | 0 => 0
  | k + 1 => sumF g k + g (18 + k)
theorem sumF_bd (g : Nat → Int) : ∀ k, (∀ i, i < k → 0 ≤ g (18 + i) ∧ g (18 + i) ≤ 128) → 0 ≤ sumF g k ∧ sumF g k ≤ 128 * k
  | 0, _ => by simp [sumF]
  | k + 1, h => by
    have h1 := sumF_bd g k (fun i hi => h i (by omega))
    have h2 := h k (by omega)
    unfold sumF
    omega

/-- Total. -/
def totalI (g : Nat → Int) : Int := if mayB g = true then sumF g (g 0).toNat else 0
end Go.Proofs.Ytcbdmdalijhkoaa
