/-
  A region that draws its order, whose operations read and whose calls leave all that lay there as it was: walked once, in the order of the text, in the class of worlds that keep what lies below a mark. Of no program.
-/
import Derived.Test.YtkmjkkeldbocdaaDoorRows
import Derived.WalkKit
import Derived.Deep.QuietTactic
import Derived.BigQuiet
import Derived.Lib.Hide
namespace Go.Proofs.YtkmjkkeldbocdaaDoor
open Go.RowKit Go

/-- Below B all is as it was. -/
def Kept (B : Nat) (w W : World) : Prop := Below B w W
theorem Kept.below {B : Nat} {w W : World} (h : Kept B w W) : Below B w W := h
theorem Kept.call {B : Nat} {w W W' : World} (h : Kept B w W) (hB : B ≤ w.heap.size) (h2 : Below W.heap.size W W') : Kept B w W' := h.below.trans (h2.mono (Nat.le_trans hB h.below.size))
theorem Kept.cell {B : Nat} {w W : World} (h : Kept B w W) {b o : Nat} (hb : b < B) : W.cell? ⟨b, o, none⟩ = w.cell? ⟨b, o, none⟩ := h.below.cell (p := ⟨b, o, none⟩) hb

theorem wp_region_kept {P : Program} {id : Nat} {Q : Exit → Act → World → Prop} {a : Act} {w : World} {l : List Oper} (B : Nat) (hm : P.follows .mixedOrders = true) (hB : Region.lexB .any l.toArray = true)
    (h : wpQuiet P l.toArray (Kept B w) (fun a' => ∀ w', Kept B w w' → Q .normal a' w') l a) : (Code.region id l.toArray true).wp P Q a w :=
  wp_region_quiet (C := Kept B w) hm hB ⟨rfl, rfl, rfl, Nat.le_refl _, fun _ _ => rfl⟩ (by simpa using h)

/-- A load, in every world of the class. -/
theorem quiet_load {P : Program} {C : World → Prop} {o : Oper} {a : Act} {K : Act → Prop} (ty : TypeId) (x : Operand) (ho : o.op = .load ty x) {p : Addr} (hx : a.eval x = .pointer (some p)) {v : Value}
    (hv : ∀ W, C W → (loadVar ty p).run P W = .ok v W) (hk : K (a.put o.dst v)) : o.quiet P a C K :=
  ⟨v, fun W hW => by
    unfold Oper.quietAt execOp
    simp only [ho, hx, Instr.loadAt, Instr.sureAddr, Sem.run_bind, Sem.run_pure, Result.andThen_ok, hv W hW]
    exact ⟨rfl, rfl⟩, hk⟩
theorem run_loadVar_cell {P : Program} {ty : TypeId} {p : Addr} {v : Value} {W : World} (ha : ∀ w, (isAgg ty).run P w = .ok false w) (h : W.cell? p = some v) : (loadVar ty p).run P W = .ok v W := by
  simp [loadVar, Sem.run_bind, ha, go_sem, h]
theorem below_drewN {B : Nat} {a w : World} (h : Below B a w) (m : Nat) : Below B a (w.drewN m) := ⟨h.os, h.tape, h.output, h.size, h.block⟩
end Go.Proofs.YtkmjkkeldbocdaaDoor
