/-
  Runs as they lie: three cells each. Of no program that has api.Run.
-/
import Derived.Test.YthnkbipdlepbaaaArPure
import Derived.Test.YthnkbipdlepbaaaThg
import Derived.Test.YthnkbipdlepbaaaLexApp
import Derived.Laws.AppendOwn
namespace Go.Proofs.Ythnkbipdlepbaaa
open Go.RowKit Go

abbrev TRun : TypeId := 39
theorem infoRun : (Try.prog.info? 39).map (fun i => (i.zero, i.size, i.bytes)) = some (some (.agg #[.int .i64 0, .int .i64 0, .int .u8 0]), 3, 24) := by kernel_rfl
/-- A run's cells. -/
def encR (x : Nat × Nat × Nat) : List Value := [.int .i64 x.1, .int .i64 x.2.1, .int .u8 x.2.2]
def runV (x : Nat × Nat × Nat) : Value := .agg #[.int .i64 x.1, .int .i64 x.2.1, .int .u8 x.2.2]
theorem encR_len : ∀ p, (encR p).length = 3 := fun _ => rfl
theorem encR_one : ∀ p, ∀ u ∈ encR p, u.oneCell' = true := by
  intro p u h
  simp [encR] at h
  rcases h with rfl | rfl | rfl <;> rfl
theorem run_one (x y z : Int) : ∀ u, u ∈ (#[Value.int .i64 x, .int .i64 y, .int .u8 z] : Array Value).toList → u.oneCell' = true := by
  intro u h
  simp at h
  rcases h with rfl | rfl | rfl <;> rfl
theorem sizeRun : (Try.prog.info? TRun).map (·.size) = some 3 := by kernel_rfl
theorem load_run {W : World} {g o : Nat} {x y z : Int} (h0 : W.cell? ⟨g, o, none⟩ = some (.int .i64 x)) (h1 : W.cell? ⟨g, o + 1, none⟩ = some (.int .i64 y)) (h2 : W.cell? ⟨g, o + 2, none⟩ = some (.int .u8 z)) :
    (loadVar TRun ⟨g, o, none⟩).run Try.prog W = .ok (.agg #[.int .i64 x, .int .i64 y, .int .u8 z]) W :=
  run_loadVar_mid (P := Try.prog) W g o TRun [.int .i64 x, .int .i64 y, .int .u8 z] _ (fun j v hj => by
    match j, hj with
    | 0, hj => simp at hj; subst hj; exact h0
    | 1, hj => simp at hj; subst hj; exact h1
    | 2, hj => simp at hj; subst hj; exact h2) Try.underlying39 rfl sizeRun
/-- A run's cells, by numbers. -/
def rnV (x : Nat × Nat × Nat) (i : Nat) : Value := if i = 0 then .int .i64 x.1 else if i = 1 then .int .i64 x.2.1 else .int .u8 x.2.2
theorem run_row (w : World) (x : Nat × Nat × Nat) : RowAt (w.alloc (.cells #[.int .i64 x.1, .int .i64 x.2.1, .int .u8 x.2.2] TRun)) w.heap.size 3 (rnV x) :=
  RowAt.new w _ _ _ _ fun i hi => by
    rcases (show i = 0 ∨ i = 1 ∨ i = 2 by omega) with rfl | rfl | rfl <;> rfl
theorem store_run (w : World) (x : Nat × Nat × Nat) :
    (storeVar TRun ⟨w.heap.size, 0, none⟩ (runV x)).run Try.prog (w.alloc (.cells #[.int .i64 0, .int .i64 0, .int .u8 0] TRun)) = .ok () (w.alloc (.cells #[.int .i64 x.1, .int .i64 x.2.1, .int .u8 x.2.2] TRun)) :=
  run_storeVar_new (P := Try.prog) w TRun #[.int .i64 0, .int .i64 0, .int .u8 0] _ sizeRun rfl (by simp [Value.oneCell'])
theorem recV_bump (L : Rns) (hL : 0 < L.length) : (recV encR L).set ((L.length - 1) * 3 + 1) (.int .i64 (((L.getD (L.length - 1) (0, 0, 0)).2.1 + 1 : Nat) : Int)) = recV encR (bump L) := by
  rcases List.eq_nil_or_concat L with h | ⟨M, y, h⟩
  · subst h; exact absurd hL (by decide)
  · subst h
    rw [List.concat_eq_append, bump_last, recV_append, recV_append, recV_single, recV_single]
    have h1 : (M ++ [y]).length - 1 = M.length := by simp
    rw [h1]
    have h2 : (M ++ [y]).getD M.length (0, 0, 0) = y := by simp [List.getD]
    rw [h2, List.set_append_right _ _ (by rw [recV_len encR_len]; omega), recV_len encR_len]
    simp [encR]
/-- append(l, run), however long. -/
theorem wpList_append_run (w : World) {ops : Array Oper} {rest : List Oper} {o : Oper} {a : Act} {Q : Exit → Act → World → Prop} (hgd : o.guard = none) (s x : Operand)
    (ho : o.op = .call { callee := .builtin .append, args := #[s, x], argTypes := #[49, 49] })
    (base : Nat) (v : Value) (L : Rns) (y1 y2 y3 : Int) (k1 k2 k3 : Nat) (e1 : y1 = k1) (e2 : y2 = k2) (e3 : y3 = k3) (hown : w.ownsRow base TRun 3 v L.length (recV encR L)) (hbase : base ≤ w.heap.size) (hs : a.eval s = v) (hx : a.eval x = .slice (some ⟨w.heap.size, 0, none⟩) 1 1)
    (hn : L.length ≤ 100000)
    (h : ∀ v' w', w'.ownsRow base TRun 3 v' (L ++ [(k1, k2, k3)]).length (recV encR (L ++ [(k1, k2, k3)])) → Only (fun k => v.ownBlock = some k) w w' → wpList Try.prog ops Q rest (a.put o.dst v') w') :
    wpList Try.prog ops Q (o :: rest) a (w.alloc (.cells #[.int .i64 y1, .int .i64 y2, .int .u8 y3] TRun)) := by
  subst e1; subst e2; subst e3
  obtain ⟨i0, hi, hz0, hz1, hz2⟩ := info_parts infoRun
  refine wpList_append_own _ hgd s x 49 ho base TRun i0 _ 3 24 Try.underlying49 hi hz0 hz1 hz2 rfl (by decide) v L.length (recV encR L) hs (hown.alloc _) ⟨w.heap.size, 0, none⟩ 1 1 (encR (k1, k2, k3)) hx rfl (fun j u hj => ?_) (encR_one _) (by unfold maxLen; omega) (by omega) (by simp; omega) ?_
  · rw [Addr.add_lit, Nat.zero_add, cell_of_row _ _ _ _ _ _ (heap_alloc_new w _)]
    simpa [encR] using hj
  · intro v' w' h2 h3 _
    refine h v' w' ?_ ((Only.alloc _ w _).trans (Only.of_grown h3))
    rw [List.length_append, recV_append, recV_single]
    exact h2
end Go.Proofs.Ythnkbipdlepbaaa
