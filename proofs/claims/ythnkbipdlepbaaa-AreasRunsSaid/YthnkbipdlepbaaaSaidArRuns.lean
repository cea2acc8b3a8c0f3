/-
  PROVED: 'byrelaw13.AreasRuns': for every input, of whatever size, the law returns true and leaves its arguments as they were.
  Its conditions: none but those that the row bears.
-/
import Derived.Test.YthnkbipdlepbaaaOfArRuns
import Derived.Test.YthnkbipdlepbaaaArIs
namespace Go.Proofs.Ythnkbipdlepbaaa

theorem areasRuns_said : Rows.AreasRunsSaid := areasRuns_of ar_ok
end Go.Proofs.Ythnkbipdlepbaaa
