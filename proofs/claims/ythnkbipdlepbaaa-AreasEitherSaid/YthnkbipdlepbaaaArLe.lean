/-
  A page that comes in is a machine's number. Of no program.
-/
import Derived.Test.YthnkbipdlepbaaaRows
namespace Go.Proofs.Ythnkbipdlepbaaa
abbrev LeI (p : Int) : Prop := p ≤ 9223372036854775807
/-- A page and rights that come in. -/
abbrev Okp (p : Int) (r : Nat) : Prop := r < 256 ∧ LeI p
end Go.Proofs.Ythnkbipdlepbaaa
