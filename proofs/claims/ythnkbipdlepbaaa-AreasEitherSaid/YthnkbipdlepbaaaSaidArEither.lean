/-
  PROVED: 'byrelaw13.AreasEither': for every input, of whatever size, the law returns true and leaves its arguments as they were.
  Its conditions: none but those that the row bears.
-/
import Derived.Test.YthnkbipdlepbaaaOfArEither
import Derived.Test.YthnkbipdlepbaaaArIs
namespace Go.Proofs.Ythnkbipdlepbaaa

theorem areasEither_said : Rows.AreasEitherSaid := areasEither_of ar_ok
end Go.Proofs.Ythnkbipdlepbaaa
