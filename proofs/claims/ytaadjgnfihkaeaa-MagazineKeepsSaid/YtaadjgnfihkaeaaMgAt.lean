/-
  magazine: a pair as it lies (the program's and the document's lie alike): a number, two lists. What its calls answer, as pure functions.
-/
import Derived.Test.YtaadjgnfihkaeaaOwn
import Derived.Test.YtaadjgnfihkaeaaKept
import Derived.Test.YtaadjgnfihkaeaaRec
import Derived.Test.YtaadjgnfihkaeaaLexApp
import Derived.Test.YtaadjgnfihkaeaaNilZero
import Derived.Test.YtaadjgnfihkaeaaAppAt
import Derived.Laws.AppendOwn
namespace Go.Proofs.Ytaadjgnfihkaeaa
open Go.RowKit Go

theorem infoObj : (Try.prog.info? 33).map (fun i => (i.zero, i.size, i.bytes)) = some (some (.agg #[.int .i64 0, .int .i64 0]), 2, 16) := by kernel_rfl
abbrev Ob := Int × Int
abbrev Obs := List (Int × Int)
/-- An object's cells. -/
def encO (p : Ob) : List Value := [.int .i64 p.1, .int .i64 p.2]
def objV (p : Ob) : Value := .agg #[.int .i64 p.1, .int .i64 p.2]
theorem encO_len : ∀ p, (encO p).length = 2 := fun _ => rfl
theorem encO_one : ∀ p, ∀ u ∈ encO p, u.oneCell' = true := by
  intro p u h
  simp [encO] at h
  rcases h with rfl | rfl <;> rfl
theorem obj_one (x y : Int) : ∀ u, u ∈ (#[Value.int .i64 x, .int .i64 y] : Array Value).toList → u.oneCell' = true := encO_one (x, y)
theorem takeN_next {α : Type} {L : List α} {k : Nat} (h : k < L.length) : L.take (k + 1) = L.take k ++ [L[k]] := by
  rw [List.take_add_one, List.getElem?_eq_getElem h]; rfl
theorem sizeObj : (Try.prog.info? 33).map (·.size) = some 2 := by kernel_rfl
theorem load_obj {W : World} {g o : Nat} {x y : Int} (h0 : W.cell? ⟨g, o, none⟩ = some (.int .i64 x)) (h1 : W.cell? ⟨g, o + 1, none⟩ = some (.int .i64 y)) :
    (loadVar 33 ⟨g, o, none⟩).run Try.prog W = .ok (.agg #[.int .i64 x, .int .i64 y]) W :=
  run_loadVar_mid (P := Try.prog) W g o 33 [.int .i64 x, .int .i64 y] _ (fun j v hj => by
    match j, hj with
    | 0, hj => simp at hj; subst hj; exact h0
    | 1, hj => simp at hj; subst hj; exact h1) Try.underlying33 rfl sizeObj
theorem store_obj (w : World) (Z : Array Value) (hz : Z.size = 2) (x y : Int) :
    (storeVar 33 ⟨w.heap.size, 0, none⟩ (.agg #[.int .i64 x, .int .i64 y])).run Try.prog (w.alloc (.cells Z 33)) = .ok () (w.alloc (.cells #[.int .i64 x, .int .i64 y] 33)) :=
  run_storeVar_new (P := Try.prog) w 33 Z _ sizeObj hz (by simp [Value.oneCell'])
theorem obj_all (x y : Int) : (#[Value.int .i64 x, .int .i64 y] : Array Value).all (·.oneCell') = true := by simp [Value.oneCell']
/-- An object's cells, by numbers. -/
def obV (x y : Int) (i : Nat) : Value := if i = 0 then .int .i64 x else .int .i64 y
theorem obj_row (w : World) (x y : Int) : RowAt (w.alloc (.cells #[.int .i64 x, .int .i64 y] 33)) w.heap.size 2 (obV x y) :=
  RowAt.new w _ _ _ _ fun i hi => by
    rcases (show i = 0 ∨ i = 1 by omega) with rfl | rfl <;> rfl
theorem set_obj {w : World} {B : Nat} {x0 y0 : Int} (R : RowAt w B 2 (obV x0 y0)) (x y : Int) : RowAt ((w.setCell ⟨B, 0, none⟩ (.int .i64 x)).setCell ⟨B, 1, none⟩ (.int .i64 y)) B 2 (obV x y) :=
  ((R.setCell 0 _).setCell 1 _).ext fun i hi => by
    unfold updV obV
    rcases (show i = 0 ∨ i = 1 by omega) with rfl | rfl <;> simp
/-- Two results, the first an object that lies in a cell. -/
theorem ret_obj {fn : Func} {p u : Tmp} (h : fn.results = #[.cell p 33, .tmp u]) {a : Act} {w : World} {Q : Ending → World → Prop} {B : Nat} {x y : Int} {b : Value} (hp : a.tmps.getD p undef = .pointer (some ⟨B, 0, none⟩)) (hu : a.tmps.getD u undef = b) (hd : a.defers = [])
    (R : RowAt w B 2 (obV x y)) (hR : Q (.returned (.tuple #[.agg #[.int .i64 x, .int .i64 y], b])) w) : bodyPost Try.prog fn Q .ret a w := by
  refine bodyPost_ret_by ?_ hd hR
  rw [results_cell_tmp h, hp, hu]
  have hl := load_obj (R.cell 0 (by decide)) (R.cell 1 (by decide))
  simp only [asAddr, Sem.run_pure, Result.andThen_ok, hl]

/-- The two of a pair, behind a change of places by Get. -/
def chG (L O : Obs) : Obs × Obs := if L.length = 0 ∧ 0 < O.length then (O, L) else (L, O)
/-- Get: what is told, and both behind it. -/
def getM (L O : Obs) : Bool × Ob × Obs × Obs :=
  if (chG L O).1.length = 0 then (false, (0, 0), (chG L O).1, (chG L O).2)
  else (true, (chG L O).1.getD ((chG L O).1.length - 1) (0, 0), (chG L O).1.take ((chG L O).1.length - 1), (chG L O).2)
def chP (N : Nat) (L O : Obs) : Obs × Obs := if L.length = N ∧ O.length < N then (O, L) else (L, O)
def putM (N : Nat) (x : Ob) (L O : Obs) : Bool × Obs × Obs :=
  if (chP N L O).1.length = N then (false, (chP N L O).1, (chP N L O).2) else (true, (chP N L O).1 ++ [x], (chP N L O).2)
def loadM (N : Nat) (m L O : Obs) : Int × Obs :=
  if m.length = 0 ∨ N < m.length then (2, L) else if 0 < L.length + O.length then (80, L) else (0, m)
def unlM (N : Nat) (L O : Obs) : Int × Obs × Obs := if L.length + O.length < 2 * N then (80, [], O) else (0, O, [])

/-- A pair's cell and its two lists. -/
structure MP where
  p : Nat
  l : Value
  o : Value
def MP.has (M : MP) (k : Nat) : Prop := k = M.p ∨ M.l.ownBlock = some k ∨ M.o.ownBlock = some k
def mV (N : Nat) (M : MP) (i : Nat) : Value := if i = 0 then .int .i64 N else if i = 1 then M.l else M.o
abbrev TO : TypeId := 33
/-- It lies. -/
structure MAt (w : World) (M : MP) (N : Nat) (L O : Obs) : Prop where
  row : RowAt w M.p 3 (mV N M)
  lo : w.ownsRow 0 TO 2 M.l L.length (recV encO L)
  ot : w.ownsRow 0 TO 2 M.o O.length (recV encO O)
  pl : M.l.ownBlock ≠ some M.p
  po : M.o.ownBlock ≠ some M.p
  ap : ∀ k, M.l.ownBlock = some k → M.o.ownBlock ≠ some k
  n1 : 1 ≤ N
  n2 : N ≤ 32
  hl : L.length ≤ N
  ho : O.length ≤ N
/-- It turned, and nothing else did. -/
structure MTurn (w : World) (M : MP) (w' : World) (M' : MP) : Prop where
  only : Only M.has w w'
  has : ∀ k, M'.has k → M.has k ∨ w.heap.size ≤ k
  pp : M'.p = M.p
section
variable {w w' w1 : World} {M M' M2 : MP} {N : Nat} {L O : Obs}
theorem MAt.lt (h : MAt w M N L O) {k : Nat} (hk : M.has k) : k < w.heap.size := by
  rcases hk with rfl | hk | hk
  · exact h.row.lt
  · exact (h.lo.lt k hk).2
  · exact (h.ot.lt k hk).2
theorem MAt.only {S : Nat → Prop} (h : MAt w M N L O) (ho : Only S w w') (hs : ∀ k, M.has k → ¬ S k) : MAt w' M N L O :=
  ⟨h.row.only ho (hs _ (.inl rfl)), owns_only h.lo ho (fun k hk => hs k (.inr (.inl hk))), owns_only h.ot ho (fun k hk => hs k (.inr (.inr hk))), h.pl, h.po, h.ap, h.n1, h.n2, h.hl, h.ho⟩
theorem MAt.later (h : MAt w M N L O) (hb : Below w.heap.size w w') : MAt w' M N L O :=
  ⟨h.row.later hb, owns_later h.lo hb, owns_later h.ot hb, h.pl, h.po, h.ap, h.n1, h.n2, h.hl, h.ho⟩
theorem MTurn.refl (w : World) (M : MP) : MTurn w M w M := ⟨Only.refl _ _, fun _ h => .inl h, rfl⟩
theorem MTurn.later (h : MTurn w M w1 M') (hb : Below w1.heap.size w1 w') : MTurn w M w' M' := ⟨h.only.trans (Only.of_below hb), h.has, h.pp⟩
theorem MTurn.of_below (hb : Below w.heap.size w w') : MTurn w M w' M := ⟨Only.of_below hb, fun _ h => .inl h, rfl⟩
theorem MTurn.trans (h : MTurn w M w1 M') (h2 : MTurn w1 M' w' M2) : MTurn w M w' M2 := by
  refine ⟨?_, fun k hk => ?_, h2.pp.trans h.pp⟩
  · have h3 : Only (fun k => M.has k ∨ w.heap.size ≤ k) w w' := (h.only.mono (fun k hk => Or.inl hk)).trans (h2.only.mono (fun k hk => h.has k hk))
    exact ⟨h3.os, h3.tape, h3.output, h3.size, fun k hk hs => h3.block k hk (fun e => e.elim hs (fun e => by omega))⟩
  · rcases h2.has k hk with h3 | h3
    · exact h.has k h3
    · exact .inr (Nat.le_trans h.only.size h3)
/-- What lies apart from it stays. -/
theorem MTurn.off (h : MTurn w M w' M') {M3 : MP} (hd : ∀ k, M.has k → ¬ M3.has k) (hlt : ∀ k, M3.has k → k < w.heap.size) : ∀ k, M'.has k → ¬ M3.has k := fun k hk h3 => by
  rcases h.has k hk with h4 | h4
  · exact hd k h4 h3
  · have := hlt k h3
    omega
theorem MAt.c0 (h : MAt w M N L O) : w.cell? ⟨M.p, 0, none⟩ = some (.int .i64 N) := h.row.cell 0 (by decide)
theorem MAt.c1 (h : MAt w M N L O) : w.cell? ⟨M.p, 1, none⟩ = some M.l := h.row.cell 1 (by decide)
theorem MAt.c2 (h : MAt w M N L O) : w.cell? ⟨M.p, 2, none⟩ = some M.o := h.row.cell 2 (by decide)
theorem MAt.fz (h : MAt w M N L O) (i : Nat) : w.frozen? ⟨M.p, i, none⟩ = false := h.row.frozen i
theorem owns_len {base n : Nat} {T : TypeId} {v : Value} {xs : List Value} (h : w.ownsRow base T 2 v n xs) : ∃ a c, v = .slice a n c := by
  obtain ⟨a, c, e, _⟩ := owns_slice h
  exact ⟨a, c, e⟩
theorem MAt.ls (h : MAt w M N L O) : ∃ a c, M.l = .slice a L.length c := owns_len h.lo
theorem MAt.os (h : MAt w M N L O) : ∃ a c, M.o = .slice a O.length c := owns_len h.ot
/-- A row's i-th object. -/
theorem owns_get {base : Nat} {v : Value} (h : w.ownsRow base TO 2 v L.length (recV encO L)) (i : Nat) (hi : i < L.length) : ∃ g c, v = .slice (some ⟨g, 0, none⟩) L.length c ∧ v.ownBlock = some g ∧ base ≤ g ∧ g < w.heap.size ∧ w.cell? ⟨g, i * 2, none⟩ = some (.int .i64 L[i].1) ∧ w.cell? ⟨g, i * 2 + 1, none⟩ = some (.int .i64 L[i].2) := by
  obtain ⟨a, c, e, hr⟩ := RecsAt.of_owns h
  obtain ⟨g, rfl, hg, hlt, hx⟩ := hr.get encO_len i hi
  exact ⟨g, c, e, by rw [e]; rfl, hg, hlt, hx 0 _ rfl, hx 1 _ rfl⟩
/-- A row cut down to its first n. -/
theorem owns_take {base n k c : Nat} {T : TypeId} {a : Option Addr} {xs : List Value} {size : Nat} (h : w.ownsRow base T size (.slice a n c) n xs) (hk : k ≤ n) : w.ownsRow base T size (.slice a k c) k (xs.take (k * size)) := by
  obtain ⟨hl, h⟩ := h
  have hks : k * size ≤ n * size := Nat.mul_le_mul_right _ hk
  rcases h with ⟨e1, hn⟩ | ⟨g, cap, cur, e1, hb, hg, h1, h2, h3, h4⟩
  · injection e1 with e2 e4 e3
    subst e2
    subst e3
    obtain rfl : k = 0 := by omega
    exact ⟨by simp, .inl ⟨rfl, rfl⟩⟩
  · injection e1 with e2 _ e3
    subst e2
    subst e3
    refine ⟨by rw [List.length_take, hl]; omega, .inr ⟨g, c, cur, rfl, hb, hg, by omega, h2, h3, ?_⟩⟩
    rw [← h4, List.take_take, Nat.min_eq_left hks]
theorem owns_takeO {base k c : Nat} {a : Option Addr} (h : w.ownsRow base TO 2 (.slice a L.length c) L.length (recV encO L)) (hk : k ≤ L.length) : w.ownsRow base TO 2 (.slice a k c) (L.take k).length (recV encO (L.take k)) := by
  have h1 := owns_take h hk
  rw [recV_take encO_len] at h1
  rw [show (L.take k).length = k by rw [List.length_take]; omega]
  exact h1
/-- The loaded list is another one. -/
theorem MAt.setL (h : MAt w M N L O) {S : Nat → Prop} (h1 : Only S w w1) (hS : ∀ k, S k → M.l.ownBlock = some k) {v : Value} {L' : Obs} (hv : w1.ownsRow 0 TO 2 v L'.length (recV encO L')) (hn : L'.length ≤ N) (hb : ∀ k, v.ownBlock = some k → M.l.ownBlock = some k ∨ w.heap.size ≤ k) :
    MAt (w1.setCell ⟨M.p, 1, none⟩ v) ⟨M.p, v, M.o⟩ N L' O ∧ MTurn w M (w1.setCell ⟨M.p, 1, none⟩ v) ⟨M.p, v, M.o⟩ := by
  have hp : ¬ S M.p := fun e => h.pl (hS _ e)
  have hvp : v.ownBlock ≠ some M.p := fun e => by
    rcases hb _ e with h2 | h2
    · exact h.pl h2
    · have := h.row.lt; omega
  have hst : Only (Eq M.p) w1 (w1.setCell ⟨M.p, 1, none⟩ v) := Only.setCell (S := Eq M.p) _ ⟨M.p, 1, none⟩ rfl _
  have hvo : ∀ k, v.ownBlock = some k → M.o.ownBlock ≠ some k := fun k e e2 => by
    rcases hb _ e with h2 | h2
    · exact h.ap k h2 e2
    · have := (h.ot.lt k e2).2; omega
  refine ⟨⟨((h.row.only h1 hp).setCell 1 v).ext (fun i hi => ?_), owns_only hv hst (fun k hk e => hvp (by rw [e]; exact hk)), ?_, hvp, h.po, hvo, h.n1, h.n2, hn, h.ho⟩, ?_, ?_, rfl⟩
  · unfold updV mV
    rcases (show i = 0 ∨ i = 1 ∨ i = 2 by omega) with rfl | rfl | rfl <;> simp
  · exact owns_only (owns_only h.ot h1 (fun k hk e => h.ap k (hS k e) hk)) hst (fun k hk e => h.po (by rw [e]; exact hk))
  · exact (h1.mono (fun k hk => .inr (.inl (hS k hk)))).trans (hst.mono (fun k hk => .inl hk.symm))
  · rintro k (e | e | e)
    · exact .inl (.inl e)
    · rcases hb k e with h2 | h2
      · exact .inl (.inr (.inl h2))
      · exact .inr h2
    · exact .inl (.inr (.inr e))
/-- The other list is gone. -/
theorem MAt.nilO (h : MAt w M N L O) : MAt (w.setCell ⟨M.p, 2, none⟩ (.slice none 0 0)) ⟨M.p, M.l, .slice none 0 0⟩ N L [] ∧ MTurn w M (w.setCell ⟨M.p, 2, none⟩ (.slice none 0 0)) ⟨M.p, M.l, .slice none 0 0⟩ ∧
    (w.setCell ⟨M.p, 2, none⟩ (.slice none 0 0)).ownsRow 0 TO 2 M.o O.length (recV encO O) := by
  have hst : Only (Eq M.p) w (w.setCell ⟨M.p, 2, none⟩ (.slice none 0 0)) := Only.setCell (S := Eq M.p) _ ⟨M.p, 2, none⟩ rfl _
  have n0 : ∀ k, (Value.slice none 0 0).ownBlock ≠ some k := fun k e => by cases e
  refine ⟨⟨(h.row.setCell 2 _).ext (fun i hi => ?_), owns_only h.lo hst (fun k hk e => h.pl (by rw [e]; exact hk)), World.ownsRow_nil _ _ _ _, h.pl, n0 _, fun k _ => n0 k, h.n1, h.n2, h.hl, Nat.zero_le _⟩, ⟨hst.mono (fun k hk => .inl hk.symm), ?_, rfl⟩,
    owns_only h.ot hst (fun k hk e => h.po (by rw [e]; exact hk))⟩
  · unfold updV mV
    rcases (show i = 0 ∨ i = 1 ∨ i = 2 by omega) with rfl | rfl | rfl <;> simp
  · rintro k (e | e | e)
    · exact .inl (.inl e)
    · exact .inl (.inr (.inl e))
    · exact absurd e (n0 k)
/-- Both change places. -/
theorem MAt.swap (h : MAt w M N L O) : MAt ((w.setCell ⟨M.p, 1, none⟩ M.o).setCell ⟨M.p, 2, none⟩ M.l) ⟨M.p, M.o, M.l⟩ N O L ∧ MTurn w M ((w.setCell ⟨M.p, 1, none⟩ M.o).setCell ⟨M.p, 2, none⟩ M.l) ⟨M.p, M.o, M.l⟩ := by
  have hst : Only (Eq M.p) w ((w.setCell ⟨M.p, 1, none⟩ M.o).setCell ⟨M.p, 2, none⟩ M.l) := (Only.setCell (S := Eq M.p) w ⟨M.p, 1, none⟩ rfl M.o).trans (Only.setCell (S := Eq M.p) _ ⟨M.p, 2, none⟩ rfl M.l)
  refine ⟨⟨((h.row.setCell 1 M.o).setCell 2 M.l).ext (fun i hi => ?_), owns_only h.ot hst (fun k hk e => h.po (by rw [e]; exact hk)), owns_only h.lo hst (fun k hk e => h.pl (by rw [e]; exact hk)), h.po, h.pl, fun k h1 h2 => h.ap k h2 h1, h.n1, h.n2, h.ho, h.hl⟩, hst.mono (fun k hk => .inl hk.symm), ?_, rfl⟩
  · unfold updV mV
    rcases (show i = 0 ∨ i = 1 ∨ i = 2 by omega) with rfl | rfl | rfl <;> simp
  · rintro k (e | e | e)
    · exact .inl (.inl e)
    · exact .inl (.inr (.inr e))
    · exact .inl (.inr (.inl e))
end
end Go.Proofs.Ytaadjgnfihkaeaa
