/-
  What the laws of stage 18 want of the landed policy, however it is written.
-/
import Derived.Test.YtcbdmdalijhkoaaPoDoc
namespace Go.Proofs.Ytcbdmdalijhkoaa
open Go.RowKit Go

/-- An int that comes in. -/
abbrev InZ (p : Int) : Prop := -9223372036854775808 ≤ p ∧ p ≤ 9223372036854775807
structure PoOk : Prop where
  may : ∀ (w : World) (A : Array Value) (g : Nat → Int) (k m : Nat), Cfg A g → k ≤ 255 → m ≤ 255 → Calls Try.prog 6 #[.agg A, polV k m] w fun e w' => e = .returned (.bool (mayP g k m)) ∧ Below w.heap.size w w'
  order : ∀ (w : World) (A : Array Value) (g : Nat → Int) (k m : Nat) (loc page : Int), Cfg A g → k ≤ 255 → m ≤ 255 → InZ loc → InZ page → Calls Try.prog 8 #[.agg A, polV k m, .int .i64 loc, .int .i64 page] w fun e w' =>
    ∃ v, e = .returned (.tuple #[v, .int .i64 (ordE g k m loc page)]) ∧ LstAt w' v (ordQ g k m loc page) ∧ Below w.heap.size w w'
  allowed : ∀ (w : World) (k m : Nat) (n : Int), k ≤ 255 → m ≤ 255 → InZ n → Calls Try.prog 9 #[polV k m, .int .i64 n] w fun e w' => e = .returned (.bool (allowP k m n)) ∧ Below w.heap.size w w'
end Go.Proofs.Ytcbdmdalijhkoaa
