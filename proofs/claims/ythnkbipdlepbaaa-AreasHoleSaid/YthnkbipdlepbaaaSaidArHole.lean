/-
  PROVED: 'byrelaw13.AreasHole': for every input, of whatever size, the law returns true and leaves its arguments as they were.
  Its conditions: none but those that the row bears.
-/
import Derived.Test.YthnkbipdlepbaaaOfArHole
import Derived.Test.YthnkbipdlepbaaaArIs
namespace Go.Proofs.Ythnkbipdlepbaaa

theorem areasHole_said : Rows.AreasHoleSaid := areasHole_of ar_ok
end Go.Proofs.Ythnkbipdlepbaaa
