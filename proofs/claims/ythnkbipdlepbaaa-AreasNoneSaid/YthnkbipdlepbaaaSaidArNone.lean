/-
  PROVED: 'byrelaw13.AreasNone': for every input, of whatever size, the law returns true and leaves its arguments as they were.
  Its conditions: none but those that the row bears.
-/
import Derived.Test.YthnkbipdlepbaaaOfArNone
import Derived.Test.YthnkbipdlepbaaaArIs
namespace Go.Proofs.Ythnkbipdlepbaaa

theorem areasNone_said : Rows.AreasNoneSaid := areasNone_of ar_ok ar_no
end Go.Proofs.Ythnkbipdlepbaaa
