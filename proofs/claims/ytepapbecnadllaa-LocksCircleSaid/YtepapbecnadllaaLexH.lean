/-
  A region that draws its order, walked in one given order: what only reads is taken first, and a call is met where it alone may come up. Of no program.
-/
import Derived.Test.YtepapbecnadllaaKept
import Derived.OrdersHeld
import Derived.Deep.RegionHeld3
namespace Go.Proofs.Ytepapbecnadllaa
open Go.RowKit Go

/-- The walk in a given order: at a number marked 'false' the operation yields its value in every world that meets S; at one marked 'true' it is met as it is. -/
def LexH (P : Program) (ops : Array Oper) (Q : Exit → Act → World → Prop) (S : World → Prop) : List (Nat × Bool) → Act → World → Prop
  | [], a, w => Q .normal a w
  | (i, false) :: r, a, w => ∃ o v, ops[i]? = some o ∧ YieldsIf P ops S o v a ∧ LexH P ops Q S r (a.put o.dst v) w
  | (i, true) :: r, a, w => wpOp P ops Q i (fun a' w' => S w' ∧ LexH P ops Q S r a' w') a w

/-- The order is one that serves. -/
def schedB (md : Region.Mode) (ops : Array Oper) : List (Nat × Bool) → Array Bool → Bool
  | [], listed => (Region.ready md ops listed).isEmpty
  | (i, false) :: r, listed => Region.free md ops listed i && ((Region.ready md ops listed).contains i && schedB md ops r (listed.setIfInBounds i true))
  | (i, true) :: r, listed => (Region.ready md ops listed == [i]) && schedB md ops r (listed.setIfInBounds i true)

theorem wpAnyH_of_lex {P : Program} {ops : Array Oper} {Q : Exit → Act → World → Prop} {S : World → Prop} {md : Region.Mode} (hs : Region.noSelect ops = true)
    (hQ : ∀ c a d v w, Q (.panic c) (Act.put a d v) w → Q (.panic c) a w) :
    ∀ (l : List (Nat × Bool)) (listed : Array Bool) (a : Act) (w : World), schedB md ops l listed = true → S w → LexH P ops Q S l a w → wpAnyH P md ops Q S l.length listed a w
  | [], listed, a, w, hb, _, h => wpAnyH_done (by simpa [schedB] using hb) h 0
  | (i, false) :: r, listed, a, w, hb, hS, ⟨o, v, hi, hy, h⟩ => by
    simp only [schedB, Bool.and_eq_true] at hb
    exact wpAnyH_take hi hs hb.1 hb.2.1 (fun c a w => hQ c a o.dst v w) hy hS (wpAnyH_of_lex hs hQ r _ _ w hb.2.2 hS h)
  | (i, true) :: r, listed, a, w, hb, _, h => by
    simp only [schedB, Bool.and_eq_true, beq_iff_eq] at hb
    refine wpAnyH_all hb.1 (by simp) (fun j hj => ?_)
    obtain rfl : j = i := by simpa using hj
    exact wpOp_mono (fun a' w' hh => ⟨hh.1, wpAnyH_of_lex hs hQ r _ a' w' hb.2 hh.1 hh.2⟩) h

theorem wp_region_lex {P : Program} {id : Nat} {l : List Oper} {Q : Exit → Act → World → Prop} {a : Act} {w : World} (S : World → Prop) (order : List (Nat × Bool)) (hm : P.follows .mixedOrders = true)
    (hs : Region.noSelect l.toArray = true) (hn : order.length = l.toArray.size) (hb : schedB .any l.toArray order (Array.replicate l.toArray.size false) = true)
    (hS : S { w with drawn := w.drawn + 1 }) (h : ∀ W, S W → LexH P l.toArray (NoPanic Q) S order a W) : (Code.region id l.toArray true).wp P Q a w :=
  wp_region_noPanic (wp_region_held hm (hn ▸ wpAnyH_of_lex hs (fun _ _ _ _ _ h => h) order _ a _ hb hS (h _ hS)))

/-- The same, where S says what the reads want alone: the walk begins in the region's own first world. -/
theorem wp_region_lex1 {P : Program} {id : Nat} {l : List Oper} {Q : Exit → Act → World → Prop} {a : Act} {w : World} (S : World → Prop) (order : List (Nat × Bool)) (hm : P.follows .mixedOrders = true)
    (hs : Region.noSelect l.toArray = true) (hn : order.length = l.toArray.size) (hb : schedB .any l.toArray order (Array.replicate l.toArray.size false) = true)
    (hS : S w.drew) (h : ∀ W, W = w.drew → S W → LexH P l.toArray (NoPanic Q) S order a W) : (Code.region id l.toArray true).wp P Q a w :=
  wp_region_noPanic (wp_region_held hm (hn ▸ wpAnyH_of_lex hs (fun _ _ _ _ _ h => h) order _ a _ hb hS (h _ rfl hS)))

section
variable {P : Program} {ops : Array Oper} {Q : Exit → Act → World → Prop} {S : World → Prop} {i : Nat} {r : List (Nat × Bool)} {a : Act} {w : World}
/-- An operation that yields. -/
theorem lexH_yield {o : Oper} {v : Value} (hi : ops[i]? = some o) (hw : Region.wanted o (yielded ops a.tmps) = true) (hv : ∀ W, S W → (execOp a.eval o).run P W = .ok (.value v) W) (h : LexH P ops Q S r (a.put o.dst v) w) : LexH P ops Q S ((i, false) :: r) a w :=
  ⟨o, v, hi, .inl ⟨hw, hv⟩, h⟩
theorem lexH_yieldE {o : Oper} (hi : ops[i]? = some o) (hw : Region.wanted o (yielded ops a.tmps) = true) (h : ∃ v, (∀ W, S W → (execOp a.eval o).run P W = .ok (.value v) W) ∧ LexH P ops Q S r (a.put o.dst v) w) : LexH P ops Q S ((i, false) :: r) a w :=
  let ⟨_, hv, h⟩ := h
  lexH_yield hi hw hv h
/-- A load. -/
theorem lexH_load {o : Oper} {v : Value} (hi : ops[i]? = some o) (hw : Region.wanted o (yielded ops a.tmps) = true) (ty : TypeId) (x : Operand) (ho : o.op = .load ty x) {p : Addr} (hx : a.eval x = .pointer (some p))
    (hv : ∀ W, S W → (loadVar ty p).run P W = .ok v W) (h : LexH P ops Q S r (a.put o.dst v) w) : LexH P ops Q S ((i, false) :: r) a w :=
  lexH_yield hi hw (fun W hW => by unfold execOp; simp only [ho, hx, Instr.loadAt, Instr.sureAddr, Sem.run_bind, Sem.run_pure, Result.andThen_ok, hv W hW]) h
/-- A conversion. -/
theorem lexH_conv {o : Oper} {v : Value} (hi : ops[i]? = some o) (hw : Region.wanted o (yielded ops a.tmps) = true) (src dst : TypeId) (x : Operand) (ho : o.op = .convert src dst x) {u : Value} (hx : a.eval x = u)
    (hv : ∀ W, S W → (convert src dst u).run P W = .ok v W) (h : LexH P ops Q S r (a.put o.dst v) w) : LexH P ops Q S ((i, false) :: r) a w :=
  lexH_yield hi hw (fun W hW => by unfold execOp; simp only [ho, hx, Sem.run_bind, Sem.run_pure, Result.andThen_ok, hv W hW]) h
/-- A step that is met as it is. -/
theorem lexH_eff {o : Oper} (hi : ops[i]? = some o) (hw : Region.wanted o (yielded ops a.tmps) = true)
    (h : o.wp P a w (fun a' w' => S w' ∧ LexH P ops Q S r a' w') Q) : LexH P ops Q S ((i, true) :: r) a w := by
  show wpOp P ops Q i _ a w
  unfold wpOp
  simp only [hi, hw, if_true]
  exact .inl h
/-- A conversion of what lies where it lies now. -/
theorem lexH_convT {o : Oper} {v : Value} (hi : ops[i]? = some o) (hw : Region.wanted o (yielded ops a.tmps) = true) (src dst : TypeId) (x : Operand) (ho : o.op = .convert src dst x) {u : Value} (hx : a.eval x = u)
    (hv : (convert src dst u).run P w = .ok v w) (hS : S w) (h : LexH P ops Q S r (a.put o.dst v) w) : LexH P ops Q S ((i, true) :: r) a w := by
  refine lexH_eff hi hw ?_
  unfold Oper.wp execOp
  simp only [ho, hx, Sem.run_bind, Sem.run_pure, Result.andThen_ok, hv]
  exact ⟨hS, h⟩
/-- One that is passed over. -/
theorem lexH_skip {o : Oper} (hi : ops[i]? = some o) (hw : Region.wanted o (yielded ops a.tmps) = false) (h : LexH P ops Q S r (a.put o.dst undef) w) : LexH P ops Q S ((i, false) :: r) a w :=
  ⟨o, undef, hi, .inr ⟨hw, rfl⟩, h⟩
theorem lexH_pass {o : Oper} (hi : ops[i]? = some o) (hw : Region.wanted o (yielded ops a.tmps) = false) (hS : S w) (h : LexH P ops Q S r (a.put o.dst undef) w) : LexH P ops Q S ((i, true) :: r) a w := by
  show wpOp P ops Q i _ a w
  unfold wpOp
  simp only [hi, hw, Bool.false_eq_true, if_false]
  exact ⟨hS, h⟩
/-- A call. -/
theorem lexH_call (f : FuncId) (args : Array Value) {o : Oper} (hi : ops[i]? = some o) (hw : Region.wanted o (yielded ops a.tmps) = true) (hr : (execOp a.eval o).run P w = .ok (.enter f args) w)
    (h : Calls P f args w fun e w' => ∃ v, e = .returned v ∧ S w' ∧ LexH P ops Q S r (a.put o.dst v) w') : LexH P ops Q S ((i, true) :: r) a w := by
  show wpOp P ops Q i _ a w
  unfold wpOp
  simp only [hi, hw, if_true]
  refine .inl ?_
  unfold Oper.wp
  rw [hr]
  simp only [Oper.upon]
  refine h.mono ?_
  rintro e w' ⟨v, rfl, h1, h2⟩
  exact ⟨h1, h2⟩
theorem lexH_nil {Q : Exit → Act → World → Prop} (h : Q .normal a w) : LexH P ops (NoPanic Q) S [] a w := NoPanic.normal h
end
end Go.Proofs.Ytepapbecnadllaa
