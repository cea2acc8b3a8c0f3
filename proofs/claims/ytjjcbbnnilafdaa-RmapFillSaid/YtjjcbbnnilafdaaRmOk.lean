/-
  What the laws of stage 15 want of the landed map, whatever way it lies.
-/
import Derived.Test.YtjjcbbnnilafdaaRmPure
import Derived.Test.YtjjcbbnnilafdaaThg
import Derived.Test.YtjjcbbnnilafdaaIter
import Derived.Test.YtjjcbbnnilafdaaLexH
namespace Go.Proofs.Ytjjcbbnnilafdaa
open Go.RowKit Go.Shelf Go

/-- An int that comes in. -/
abbrev InI (p : Int) : Prop := -9223372036854775808 ≤ p ∧ p ≤ 9223372036854775807
abbrev TSeq2 : TypeId := 45
abbrev pfV (x : Nat × Nat) : Array Value := #[.int .i64 x.1, .int .i64 x.2]
/-- Of tells an iterator over the list. -/
def TellR (X : Thg) (L : List (Nat × Nat)) (w : World) (e : Ending) (w' : World) : Prop :=
  ∃ g lb own, e = .returned (.func (.func g) #[] lb) ∧ Below w.heap.size w w' ∧ (∀ args W, (callFunc g args).run Try.prog W = .ok (.enter g args) W) ∧
    (∀ W, (binOp .eql TSeq2 (.func (.func g) #[] lb) .nilFunc).run Try.prog W = .ok (.bool false) W) ∧ (∀ k, own k → (X.has k ∨ w.heap.size ≤ k) ∧ k < w'.heap.size) ∧
    Tells Try.prog g lb pfV L own w'
structure RmOk (IsR : Thg → Nat → Nat → (Nat → Ownr) → Prop) : Prop where
  inv : ∀ {X d N f}, IsR X d N f → RmI f N
  new : ∀ (w : World) (n : Int), InI n → Calls Try.prog 9 #[.int .i64 n] w fun e w' => ∃ d Y, e = .returned (.pointer (some ⟨d, 0, none⟩)) ∧ IsR Y d (capN n) (fun _ => (0, 0)) ∧ TTurn w Thg.no w' Y
  frames : ∀ {X d N f w}, IsR X d N f → X.At w → Calls Try.prog 11 #[.pointer (some ⟨d, 0, none⟩)] w fun e w' => e = .returned (.int .i64 N) ∧ Below w.heap.size w w'
  set : ∀ {X d N f w} (x p q : Int), InI x → InI p → InI q → IsR X d N f → X.At w → Calls Try.prog 12 #[.pointer (some ⟨d, 0, none⟩), .int .i64 x, .int .i64 p, .int .i64 q] w fun e w' =>
    ∃ Y, e = .returned (.int .i64 (rsE f N x p q)) ∧ IsR Y d N (rsF f N x p q) ∧ TTurn w X w' Y
  clear : ∀ {X d N f w} (x : Int), InI x → IsR X d N f → X.At w → Calls Try.prog 14 #[.pointer (some ⟨d, 0, none⟩), .int .i64 x] w fun e w' =>
    ∃ Y, e = .returned (.int .i64 (rcE f N x)) ∧ IsR Y d N (rcF f N x) ∧ TTurn w X w' Y
  get : ∀ {X d N f w} (x : Int), InI x → IsR X d N f → X.At w → Calls Try.prog 17 #[.pointer (some ⟨d, 0, none⟩), .int .i64 x] w fun e w' =>
    e = .returned (.tuple #[.int .i64 (rgO f N x).1, .int .i64 (rgO f N x).2, .bool (decide ((rgO f N x).1 ≠ 0))]) ∧ Below w.heap.size w w'
  copy : ∀ {X d N f w}, IsR X d N f → X.At w → Calls Try.prog 16 #[.pointer (some ⟨d, 0, none⟩)] w fun e w' => ∃ d2 Y, e = .returned (.pointer (some ⟨d2, 0, none⟩)) ∧ IsR Y d2 N f ∧ TTurn w Thg.no w' Y
  of : ∀ {X d N f w} (p : Int), InI p → IsR X d N f → X.At w → Calls Try.prog 19 #[.pointer (some ⟨d, 0, none⟩), .int .i64 p] w (TellR X (ofL f N p 1024) w)
/-- What is asked of maps that are not there, and of zero ones (IsZ X d: a zero one lies at d; zc: its cells). -/
structure RmNone (IsZ : Thg → Option Nat → Prop) (zc : Array Value) : Prop where
  frames : ∀ {X d w}, IsZ X d → X.At w → Calls Try.prog 11 #[.pointer (d.map fun d => ⟨d, 0, none⟩)] w fun e w' => e = .returned (.int .i64 0) ∧ Below w.heap.size w w'
  set : ∀ {X d w} (x p q : Int), InI x → InI p → InI q → IsZ X d → X.At w → Calls Try.prog 12 #[.pointer (d.map fun d => ⟨d, 0, none⟩), .int .i64 x, .int .i64 p, .int .i64 q] w fun e w' => e = .returned (.int .i64 1) ∧ Below w.heap.size w w'
  clear : ∀ {X d w} (x : Int), InI x → IsZ X d → X.At w → Calls Try.prog 14 #[.pointer (d.map fun d => ⟨d, 0, none⟩), .int .i64 x] w fun e w' => e = .returned (.int .i64 1) ∧ Below w.heap.size w w'
  get : ∀ {X d w} (x : Int), InI x → IsZ X d → X.At w → Calls Try.prog 17 #[.pointer (d.map fun d => ⟨d, 0, none⟩), .int .i64 x] w fun e w' => e = .returned (.tuple #[.int .i64 0, .int .i64 0, .bool false]) ∧ Below w.heap.size w w'
  copy : ∀ {X d w}, IsZ X d → X.At w → Calls Try.prog 16 #[.pointer (d.map fun d => ⟨d, 0, none⟩)] w fun e w' => e = .returned (.pointer none) ∧ Below w.heap.size w w'
  of : ∀ {X d w} (p : Int), InI p → IsZ X d → X.At w → Calls Try.prog 19 #[.pointer (d.map fun d => ⟨d, 0, none⟩), .int .i64 p] w (TellR X [] w)
  nil : ∃ X, IsZ X none ∧ ∀ w, X.At w
  val : ∀ W, (zeroValue 53).run Try.prog W = .ok (.agg zc) W
  zero : ∀ (w : World), ∃ X, IsZ X (some w.heap.size) ∧ X.At (w.alloc (.cells zc 53)) ∧ ∀ k, X.has k → k = w.heap.size
end Go.Proofs.Ytjjcbbnnilafdaa
