/-
  PROVED: 'byrelaw15.RmapFill': for every input, of whatever size, the law returns true and leaves its arguments as they were.
  Its conditions: none but those that the row bears.
-/
import Derived.Test.YtjjcbbnnilafdaaOfRmFill
import Derived.Test.YtjjcbbnnilafdaaRmIs
namespace Go.Proofs.Ytjjcbbnnilafdaa

theorem rmapFill_said : Rows.RmapFillSaid := rmapFill_of rm_ok
end Go.Proofs.Ytjjcbbnnilafdaa
