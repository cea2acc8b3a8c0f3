/-
  Two configs compared.
-/
import Derived.Test.YtcbdmdalijhkoaaBare
import Derived.Test.YtcbdmdalijhkoaaKept
import Derived.Test.YtcbdmdalijhkoaaEqArr
import Derived.Laws.StructEq
namespace Go.Proofs.Ytcbdmdalijhkoaa
open Go.RowKit Go

theorem part_agg {P : Program} {w : World} {t : TypeId} {xs : Array Value} {o n : Nat} (ha : ∀ w, (isAgg t).run P w = .ok true w) (hs : ∀ w, (sizeOf t).run P w = .ok n w) : (part t xs o).run P w = .ok (.agg (xs.extract o (o + n))) w := by
  simp [part, Sem.run_bind, ha, hs]

theorem eqFields_step {P : Program} {w : World} {d : Nat} {xs ys : Array Value} {f : Field} {fs : List Field} {u v : Value} {b c : Bool} (hn : f.name ≠ "_") (h1 : (part f.type xs f.offset).run P w = .ok u w) (h2 : (part f.type ys f.offset).run P w = .ok v w)
    (h3 : (Op.equalIn d f.type u v).run P w = .ok b w) (h4 : (Op.eqFields d xs ys fs).run P w = .ok c w) : (Op.eqFields d xs ys (f :: fs)).run P w = .ok (b && c) w := by
  simp only [Op.eqFields, hn, ne_eq, not_false_eq_true, if_true, Sem.run_bind, h1, h2, h3, Result.andThen_ok]
  cases b <;> simp [h4]

/-- Two configs are alike. -/
def cfgEq (g h : Nat → Int) : Bool :=
  (g 0 == h 0) && ((g 1 == h 1) && ((allR 16 fun i => g (2 + i) == h (2 + i)) && ((allR 8 fun i => g (18 + i) == h (18 + i)) && ((allR 8 fun a => allR 8 fun i => g (26 + a * 8 + i) == h (26 + a * 8 + i)) &&
    ((g 90 == h 90) && ((g 91 == h 91) && ((g 92 == h 92) && ((g 93 == h 93) && true))))))))
set_option maxRecDepth 100000 in
theorem agg3 (w : World) : (isAgg 3).run Try.prog w = .ok false w := by kernel_rfl
set_option maxRecDepth 100000 in
theorem agg23 (w : World) : (isAgg 23).run Try.prog w = .ok true w := by kernel_rfl
set_option maxRecDepth 100000 in
theorem agg22 (w : World) : (isAgg 22).run Try.prog w = .ok true w := by kernel_rfl
set_option maxRecDepth 100000 in
theorem agg24 (w : World) : (isAgg 24).run Try.prog w = .ok true w := by kernel_rfl
set_option maxRecDepth 100000 in
theorem size22 (w : World) : (sizeOf 22).run Try.prog w = .ok 16 w := by kernel_rfl
set_option maxRecDepth 100000 in
theorem size24 (w : World) : (sizeOf 24).run Try.prog w = .ok 64 w := by kernel_rfl

theorem Cfg.part {A : Array Value} {g : Nat → Int} (C : Cfg A g) (o n : Nat) (h : o + n ≤ 94) (i : Nat) (hi : i < n) : (A.extract o (o + n))[i]? = some (.int .i64 (g (o + i))) := by
  rw [Array.getElem?_extract, if_pos (by rw [C.size]; omega)]
  exact C.get _ (by omega)

set_option maxRecDepth 100000 in
theorem equal_cfg (w : World) (A B : Array Value) (g h : Nat → Int) (CA : Cfg A g) (CB : Cfg B h) :
    (Op.equalIn 10000 26 (.agg A) (.agg B)).run Try.prog w = .ok (cfgEq g h) w := by
  rw [show (10000 : Nat) = 9999 + 1 from rfl, run_equalIn_struct w 9999 26 A B (by kernel_rfl) (by kernel_rfl)]
  have int1 : ∀ o, o < 94 → (Op.equalIn 9999 3 (.int .i64 (g o)) (.int .i64 (h o))).run Try.prog w = .ok (g o == h o) w := fun o _ => run_equalIn_int w 9998 3 .i64 .i64 _ _ Try.underlying3
  have one : ∀ o, o < 94 → (part 3 A o).run Try.prog w = .ok (.int .i64 (g o)) w ∧ (part 3 B o).run Try.prog w = .ok (.int .i64 (h o)) w := fun o ho => ⟨part_int agg3 (CA.get o ho), part_int agg3 (CB.get o ho)⟩
  unfold cfgEq
  rw [show (Try.prog.fieldsOf 26).toList = [⟨ "Nodes", 3, 0, false, "", "", 0⟩, ⟨ "CPUs", 3, 1, false, "", "", 8⟩, ⟨ "Home", 22, 2, false, "", "", 16⟩, ⟨ "Frames", 23, 18, false, "", "", 144⟩,
    ⟨ "Distance", 24, 26, false, "", "", 208⟩, ⟨ "Slots", 3, 90, false, "", "", 720⟩, ⟨ "Min", 3, 91, false, "", "", 728⟩, ⟨ "Low", 3, 92, false, "", "", 736⟩, ⟨ "High", 3, 93, false, "", "", 744⟩] by kernel_rfl]
  refine eqFields_step (by decide) (one 0 (by decide)).1 (one 0 (by decide)).2 (int1 0 (by decide)) ?_
  refine eqFields_step (by decide) (one 1 (by decide)).1 (one 1 (by decide)).2 (int1 1 (by decide)) ?_
  refine eqFields_step (by decide) (part_agg agg22 size22) (part_agg agg22 size22)
    (equal_ints w _ _ Try.underlying22 Try.underlying3 size3 agg3 (CA.part 2 16 (by decide)) (CB.part 2 16 (by decide))) ?_
  refine eqFields_step (by decide) (part_agg agg23 size23) (part_agg agg23 size23)
    (equal_ints w _ _ Try.underlying23 Try.underlying3 size3 agg3 (CA.part 18 8 (by decide)) (CB.part 18 8 (by decide))) ?_
  refine eqFields_step (by decide) (part_agg agg24 size24) (part_agg agg24 size24) (run_equalIn_array (d := 9998) w _ _ (fun a => allR 8 fun i => g (26 + a * 8 + i) == h (26 + a * 8 + i)) Try.underlying24 size23 (fun a ha =>
    ⟨_, _, part_agg agg23 size23, part_agg agg23 size23,
      equal_ints w (fun i => g (26 + a * 8 + i)) (fun i => h (26 + a * 8 + i)) Try.underlying23 Try.underlying3 size3 agg3
        (fun i hi => by rw [Array.getElem?_extract, if_pos (by simp [CA.size]; omega), CA.part 26 64 (by decide) _ (by omega), Nat.add_assoc])
        (fun i hi => by rw [Array.getElem?_extract, if_pos (by simp [CB.size]; omega), CB.part 26 64 (by decide) _ (by omega), Nat.add_assoc])⟩)) ?_
  refine eqFields_step (by decide) (one 90 (by decide)).1 (one 90 (by decide)).2 (int1 90 (by decide)) ?_
  refine eqFields_step (by decide) (one 91 (by decide)).1 (one 91 (by decide)).2 (int1 91 (by decide)) ?_
  refine eqFields_step (by decide) (one 92 (by decide)).1 (one 92 (by decide)).2 (int1 92 (by decide)) ?_
  refine eqFields_step (by decide) (one 93 (by decide)).1 (one 93 (by decide)).2 (int1 93 (by decide)) ?_
  rfl

theorem cfgEq_iff (g h : Nat → Int) : cfgEq g h = true ↔ ∀ i, i < 94 → g i = h i := by
  constructor
  · intro e i hi
    simp only [cfgEq, Bool.and_eq_true, beq_iff_eq, and_true] at e
    obtain ⟨e0, e1, e2, e3, e4, e5, e6, e7, e8⟩ := e
    have f2 := of_allR e2
    have f3 := of_allR e3
    have f4 := of_allR e4
    by_cases a1 : i < 2
    · rcases (show i = 0 ∨ i = 1 by omega) with rfl | rfl <;> assumption
    · by_cases a2 : i < 18
      · have := f2 (i - 2) (by omega)
        rw [show 2 + (i - 2) = i by omega] at this
        simpa using this
      · by_cases a3 : i < 26
        · have := f3 (i - 18) (by omega)
          rw [show 18 + (i - 18) = i by omega] at this
          simpa using this
        · by_cases a4 : i < 90
          · have := of_allR (f4 ((i - 26) / 8) (by omega)) ((i - 26) % 8) (by omega)
            rw [show 26 + (i - 26) / 8 * 8 + (i - 26) % 8 = i by omega] at this
            simpa using this
          · rcases (show i = 90 ∨ i = 91 ∨ i = 92 ∨ i = 93 by omega) with rfl | rfl | rfl | rfl <;> assumption
  · intro e
    simp only [cfgEq, Bool.and_eq_true, beq_iff_eq, and_true]
    exact ⟨e 0 (by decide), e 1 (by decide), allR_true (fun i hi => by simpa using e _ (by omega)), allR_true (fun i hi => by simpa using e _ (by omega)),
      allR_true (fun a ha => allR_true (fun i hi => by simpa using e _ (by omega))), e 90 (by decide), e 91 (by decide), e 92 (by decide), e 93 (by decide)⟩
end Go.Proofs.Ytcbdmdalijhkoaa
