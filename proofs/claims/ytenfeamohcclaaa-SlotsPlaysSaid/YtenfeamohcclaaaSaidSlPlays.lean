/-
  PROVED: 'byrelaw16.SlotsPlays': for every input, of whatever size, the law returns true and leaves its arguments as they were.
  Its conditions: none but those that the row bears.
-/
import Derived.Test.YtenfeamohcclaaaOfSlPlays
import Derived.Test.YtenfeamohcclaaaSkIs
namespace Go.Proofs.Ytenfeamohcclaaa

theorem slotsPlays_said : Rows.SlotsPlaysSaid := slotsPlays_of sl_ok
end Go.Proofs.Ytenfeamohcclaaa
