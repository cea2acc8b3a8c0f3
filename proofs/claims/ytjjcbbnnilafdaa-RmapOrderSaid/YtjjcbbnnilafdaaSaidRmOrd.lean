/-
  PROVED: 'byrelaw15.RmapOrder': for every input, of whatever size, the law returns true and leaves its arguments as they were.
  Its conditions: none but those that the row bears.
-/
import Derived.Test.YtjjcbbnnilafdaaOfRmOrd
import Derived.Test.YtjjcbbnnilafdaaRmIs
namespace Go.Proofs.Ytjjcbbnnilafdaa

theorem rmapOrder_said : Rows.RmapOrderSaid := rmapOrder_of rm_ok
end Go.Proofs.Ytjjcbbnnilafdaa
