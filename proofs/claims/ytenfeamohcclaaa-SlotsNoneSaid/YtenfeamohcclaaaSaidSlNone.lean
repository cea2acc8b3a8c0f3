/-
  PROVED: 'byrelaw16.SlotsNone': for every input, of whatever size, the law returns true and leaves its arguments as they were.
  Its conditions: none but those that the row bears.
-/
import Derived.Test.YtenfeamohcclaaaOfSlNone
import Derived.Test.YtenfeamohcclaaaSkIs
namespace Go.Proofs.Ytenfeamohcclaaa

theorem slotsNone_said : Rows.SlotsNoneSaid := slotsNone_of sl_ok sl_none
end Go.Proofs.Ytenfeamohcclaaa
