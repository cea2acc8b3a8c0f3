/-
  PROVED: 'byrelaw16.SlotsApart': for every input, of whatever size, the law returns true and leaves its arguments as they were.
  Its conditions: none but those that the row bears.
-/
import Derived.Test.YtenfeamohcclaaaOfSlApart
import Derived.Test.YtenfeamohcclaaaSkIs
namespace Go.Proofs.Ytenfeamohcclaaa

theorem slotsApart_said : Rows.SlotsApartSaid := slotsApart_of sl_ok
end Go.Proofs.Ytenfeamohcclaaa
