/-
  locks' law: the table beside the document's.
-/
import Derived.Test.YtepapbecnadllaaLkRefFree
import Derived.Test.YtepapbecnadllaaLkRise
namespace Go.Proofs.Ytepapbecnadllaa
open Go.RowKit Go

/-- A table at d, the document's at r with its list from block B on. -/
structure PlAt (w : World) (n B r d : Nat) (H : Nat → Int) (M : List (Int × Nat)) (v : Value) (wr : World) : Prop where
  tab : LkAt wr d n H
  ref : RefAt wr B r n M v
  rel : Rel n H M
  bel : Below w.heap.size w wr
  d1 : w.heap.size ≤ d
  r1 : w.heap.size ≤ r
  ne : d ≠ r
  sep : ∀ k, v.ownBlock = some k → k ≠ d
section
variable {w : World} {n B r d : Nat} {H H' : Nat → Int} {M : List (Int × Nat)} {v : Value} {wr w' w1 w2 : World}
theorem PlAt.later (P : PlAt w n B r d H M v wr) (h : Below wr.heap.size wr w') : PlAt w n B r d H M v w' :=
  ⟨P.tab.later h, P.ref.later h, P.rel, P.bel.trans (h.mono P.bel.size), P.d1, P.r1, P.ne, P.sep⟩
/-- Something else turns. -/
theorem PlAt.other {S : Nat → Prop} (P : PlAt w n B r d H M v wr) (h : Only S wr w') (h1 : ¬ S d) (h2 : ¬ S r) (h3 : ∀ k, v.ownBlock = some k → ¬ S k) (h4 : ∀ k, S k → w.heap.size ≤ k) : PlAt w n B r d H M v w' :=
  ⟨P.tab.only h h1, P.ref.only h h2 h3, P.rel, h.below P.bel P.bel.size h4, P.d1, P.r1, P.ne, P.sep⟩
theorem PlAt.refAt (P : PlAt w n B r d H M v wr) (h : Only (Eq d) wr w1) : RefAt w1 B r n M v := P.ref.only h P.ne (fun k hk e => P.sep k hk e.symm)
/-- Both turn. -/
theorem PlAt.turn (P : PlAt w n B r d H M v wr) (T : LkAt w1 d n H') (h1 : Only (Eq d) wr w1) (R : RefTurn w1 B r n M v H' w2) : ∃ M' v', PlAt w n B r d H' M' v' w2 ∧ M'.length ≤ M.length + 1 := by
  obtain ⟨M', v', R', Q, hl, ho, hs⟩ := R
  have T2 : LkAt w2 d n H' := T.only ho (by
    rintro (e | e)
    · exact P.ne e
    · exact P.sep d e rfl)
  have hb1 := h1.below P.bel P.bel.size (fun k hk => by have := P.d1; omega)
  have hb2 := ho.below hb1 hb1.size (fun k hk => by
    rcases hk with rfl | hk
    · exact P.r1
    · have h2 := (P.ref.own.lt k hk).1
      have h3 := P.ref.rB
      have h4 := P.r1
      omega)
  refine ⟨M', v', ⟨T2, R', Q, hb2, P.d1, P.r1, P.ne, fun k hk e => ?_⟩, hl⟩
  subst e
  rcases hs k hk with h | h | ⟨A, t, x, hA, hx⟩
  · exact P.sep k h rfl
  · have := T.lt; omega
  · have hc := T2.c0
    rw [cell_of_row _ _ _ _ _ _ hA, hx] at hc
    cases hc
/-- What is new is none of all this. -/
theorem PlAt.off (P : PlAt w n B r d H M v wr) : ∀ g, wr.heap.size ≤ g → w.heap.size ≤ g ∧ g ≠ d ∧ g ≠ r ∧ ∀ k, v.ownBlock = some k → k ≠ g := fun g hg => by
  have h1 := P.tab.lt
  have h2 := P.ref.row.lt
  have h3 := P.bel.size
  exact ⟨by omega, by omega, by omega, fun k hk => by have := (P.ref.own.lt k hk).2; omega⟩
/-- The copy in the table's place. -/
theorem PlAt.swap {e : Nat} (P : PlAt w n B r d H M v wr) (C : LkAt w' e n H) (R : RefAt w' B r n M v) (hb : Below w.heap.size w w') (he : wr.heap.size ≤ e) : PlAt w n B r e H M v w' := by
  obtain ⟨o1, o2, o3, o4⟩ := P.off e he
  exact ⟨C, R, P.rel, hb, o1, P.r1, o3, o4⟩
end
def opV (o : Op3) (j : Nat) : Value := o.cells.getD j undef
theorem op_three {w : World} {b : Nat} {o : Op3} (R : RowAt w b 3 (opV o)) : w.cell? ⟨b, 0, none⟩ = some (.int .i64 o.kind) ∧ w.cell? ⟨b, 1, none⟩ = some (.int .i64 o.who) ∧ w.cell? ⟨b, 2, none⟩ = some (.int .i64 o.lock) :=
  ⟨R.cell 0 (by decide), R.cell 1 (by decide), R.cell 2 (by decide)⟩
theorem op_row (w : World) (kind who lock : Int) : RowAt (w.alloc (.cells #[.int .i64 kind, .int .i64 who, .int .i64 lock] 33)) w.heap.size 3 (opV ⟨kind, who, lock⟩) :=
  RowAt.new w _ _ _ _ fun i hi => by
    rcases (show i = 0 ∨ i = 1 ∨ i = 2 by omega) with rfl | rfl | rfl <;> rfl
theorem infoOp : (Try.prog.info? 33).map (·.size) = some 3 := by kernel_rfl
theorem store_op (w : World) (Z : Array Value) (hz : Z.size = 3) (kind who lock : Int) :
    (storeVar 33 ⟨w.heap.size, 0, none⟩ (.agg #[.int .i64 kind, .int .i64 who, .int .i64 lock])).run Try.prog (w.alloc (.cells Z 33)) = .ok () (w.alloc (.cells #[.int .i64 kind, .int .i64 who, .int .i64 lock] 33)) :=
  run_storeVar_new (P := Try.prog) w 33 Z _ infoOp hz (by simp [Value.oneCell'])

/-- A copy while the old table is spoilt. -/
structure CpAt (w : World) (n B r d e ob : Nat) (H : Nat → Int) (M : List (Int × Nat)) (v : Value) (o : Op3) (wr : World) : Prop where
  old : ∃ G, LkAt wr d n G
  cop : LkAt wr e n H
  ref : RefAt wr B r n M v
  box : RowAt wr ob 3 (opV o)
  bel : Below w.heap.size w wr
  d1 : w.heap.size ≤ d
  ne : e ≠ d
  nr : d ≠ r
  nb : ob ≠ d
  sep : ∀ k, v.ownBlock = some k → k ≠ d
theorem CpAt.turn {w : World} {n B r d e ob : Nat} {H G : Nat → Int} {M : List (Int × Nat)} {v : Value} {o : Op3} {wr w' : World} (C : CpAt w n B r d e ob H M v o wr) (T : LkAt w' d n G) (h : Only (Eq d) wr w') : CpAt w n B r d e ob H M v o w' :=
  ⟨⟨G, T⟩, C.cop.only h (fun e => C.ne e.symm), C.ref.only h C.nr (fun k hk e => C.sep k hk e.symm), C.box.only h (fun e => C.nb e.symm), h.below C.bel C.bel.size (fun k hk => by have := C.d1; omega), C.d1, C.ne, C.nr, C.nb, C.sep⟩
end Go.Proofs.Ytepapbecnadllaa
