/-
  calls, the document's: whether two calls are alike.
-/
import Derived.Test.YtkmjkkeldbocdaaDoorCsBytes
import Derived.Test.YtkmjkkeldbocdaaDoorLexP
namespace Go.Proofs.YtkmjkkeldbocdaaDoor
open Go.RowKit Go
attribute [local go_sem] Oper.semAt_some

/-- Its fields. -/
def CallM.row (q : CallM) : List Int := [q.kind, q.pid, q.node, q.page, q.count, q.addr, q.size, q.rights, q.pk, q.pm, q.handle]
def sameC (q r : CallM) (s1 s2 : ByteArray) : Bool := (s1.toList == s2.toList) && (q.row == r.row)
theorem same_no {q r : CallM} {s1 s2 : ByteArray} {i : Nat} (h : q.row.getD i 0 ≠ r.row.getD i 0) : sameC q r s1 s2 = false := by
  have h2 : (q.row == r.row) = false := beq_eq_false_iff_ne.2 fun e => h (by rw [e])
  unfold sameC
  rw [h2, Bool.and_false]
theorem same_yes {q r : CallM} {s1 s2 : ByteArray} (hb : (s1.toList == s2.toList) = true) (h : q.row = r.row) : sameC q r s1 s2 = true := by
  unfold sameC
  rw [hb, h, beq_self_eq_true, Bool.and_self]
abbrev CallM.list (q : CallM) (a : Option Addr) (n c : Nat) : List Value := (q.cells a n c).toList
theorem row_list (w : World) (q : CallM) (a : Option Addr) (n c : Nat) (t : TypeId) : RowAt (w.alloc (.cells (q.cells a n c) t)) w.heap.size 12 (cellC (q.list a n c)) := rowC w (q.list a n c) t
/-- A call is laid where zeros were. -/
theorem row_lay {W : World} {b : Nat} {f : Nat → Value} (R : RowAt W b 12 f) (q : CallM) (a : Option Addr) (n c : Nat) : RowAt (W.setCells b 0 (q.list a n c)) b 12 (cellC (q.list a n c)) :=
  (RowAt.setCells (q.list a n c) 0 W f R).ext (fun i hi => by
    match i, hi with
    | 0, _ | 1, _ | 2, _ | 3, _ | 4, _ | 5, _ | 6, _ | 7, _ | 8, _ | 9, _ | 10, _ | 11, _ => rfl)
/-- Both copies lie there. -/
structure TwoC (w : World) (q r : CallM) (a b : Option Addr) (n c m d ab bb : Nat) (W : World) : Prop where
  ra : RowAt W ab 12 (cellC (q.list a n c))
  rb : RowAt W bb 12 (cellC (r.list b m d))
  bel : Below w.heap.size w W
def SameR (w : World) (q r : CallM) (a b : Option Addr) (n c m d : Nat) (a0 : Act) : Exit → Act → World → Prop
  | .normal, x, W => ∃ ab bb, x = ((((a0.put (some 7) (.agg (q.cells a n c))).put (some 8) (.agg (r.cells b m d))).put (some 5) (.pointer (some ⟨ab, 0, none⟩))).put (some 6) (.pointer (some ⟨bb, 0, none⟩))) ∧ TwoC w q r a b n c m d ab bb W
  | _, _, _ => False
theorem wp_monoA {P : Program} {c : Code} {Q : Exit → Act → World → Prop} {a : Act} {w : World} (R : Act → Exit → Act → World → Prop) (h : c.wp P (R a) a w) (hq : ∀ e x w, R a e x w → Q e x w) : c.wp P Q a w := wp_mono h hq
theorem two_new {w W : World} {B : Nat} {q r : CallM} {a b : Option Addr} {n c m d : Nat} (hB : w.heap.size ≤ B) (hb : Below w.heap.size w W) {ab bb : Nat} {f g : Nat → Value} (h1 : RowAt W ab 12 f) (h2 : RowAt W bb 12 g) (hne : ab ≠ bb) (ha : B ≤ ab) (hbb : B ≤ bb) :
    TwoC w q r a b n c m d ab bb ((W.setCells ab 0 (q.list a n c)).setCells bb 0 (r.list b m d)) := by
  have o1 := Only.setCells (S := fun k => k = ab) (b := ab) rfl (q.list a n c) 0 W
  have o2 := Only.setCells (S := fun k => k = bb) (b := bb) rfl (r.list b m d) 0 (W.setCells ab 0 (q.list a n c))
  exact ⟨(row_lay h1 q a n c).only o2 hne, row_lay (h2.only o1 (fun e => hne e.symm)) r b m d, o2.below (o1.below hb hb.size (fun k hk => by omega)) (Nat.le_trans hb.size o1.size) (fun k hk => by omega)⟩
end Go.Proofs.YtkmjkkeldbocdaaDoor
