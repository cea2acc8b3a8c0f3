/-
  PROVED: 'byrelaw15.RmapOne': for every input, of whatever size, the law returns true and leaves its arguments as they were.
  Its conditions: none but those that the row bears.
-/
import Derived.Test.YtjjcbbnnilafdaaOfRmOne
import Derived.Test.YtjjcbbnnilafdaaRmIs
namespace Go.Proofs.Ytjjcbbnnilafdaa

theorem rmapOne_said : Rows.RmapOneSaid := rmapOne_of rm_ok
end Go.Proofs.Ytjjcbbnnilafdaa
