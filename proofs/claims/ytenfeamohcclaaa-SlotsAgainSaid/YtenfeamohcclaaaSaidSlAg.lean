/-
  PROVED: 'byrelaw16.SlotsAgain': for every input, of whatever size, the law returns true and leaves its arguments as they were.
  Its conditions: none but those that the row bears.
-/
import Derived.Test.YtenfeamohcclaaaOfSlAg
import Derived.Test.YtenfeamohcclaaaSkIs
namespace Go.Proofs.Ytenfeamohcclaaa

theorem slotsAgain_said : Rows.SlotsAgainSaid := slotsAgain_of sl_ok
end Go.Proofs.Ytenfeamohcclaaa
