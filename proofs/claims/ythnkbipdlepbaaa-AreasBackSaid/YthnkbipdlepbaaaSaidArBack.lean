/-
  PROVED: 'byrelaw13.AreasBack': for every input, of whatever size, the law returns true and leaves its arguments as they were.
  Its conditions: none but those that the row bears.
-/
import Derived.Test.YthnkbipdlepbaaaOfArBack
import Derived.Test.YthnkbipdlepbaaaArIs
namespace Go.Proofs.Ythnkbipdlepbaaa

theorem areasBack_said : Rows.AreasBackSaid := areasBack_of ar_ok
end Go.Proofs.Ythnkbipdlepbaaa
