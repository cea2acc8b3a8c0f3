/-
  PROVED: 'byrelaw16.SlotsLeast': for every input, of whatever size, the law returns true and leaves its arguments as they were.
  Its conditions: none but those that the row bears.
-/
import Derived.Test.YtenfeamohcclaaaOfSlLeast
import Derived.Test.YtenfeamohcclaaaSkIs
namespace Go.Proofs.Ytenfeamohcclaaa

theorem slotsLeast_said : Rows.SlotsLeastSaid := slotsLeast_of sl_ok
end Go.Proofs.Ytenfeamohcclaaa
