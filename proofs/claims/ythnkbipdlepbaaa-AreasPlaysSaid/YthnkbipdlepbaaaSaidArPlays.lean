/-
  PROVED: 'byrelaw13.AreasPlays': for every input, of whatever size, the law returns true and leaves its arguments as they were.
  Its conditions: none but those that the row bears.
-/
import Derived.Test.YthnkbipdlepbaaaOfArPlays
import Derived.Test.YthnkbipdlepbaaaArIs
namespace Go.Proofs.Ythnkbipdlepbaaa

theorem areasPlays_said : Rows.AreasPlaysSaid := areasPlays_of ar_ok
end Go.Proofs.Ythnkbipdlepbaaa
