/-
  PROVED: 'byrelaw15.RmapPlays': for every input, of whatever size, the law returns true and leaves its arguments as they were.
  Its conditions: none but those that the row bears.
-/
import Derived.Test.YtjjcbbnnilafdaaOfRmPlays
import Derived.Test.YtjjcbbnnilafdaaRmIs
namespace Go.Proofs.Ytjjcbbnnilafdaa

theorem rmapPlays_said : Rows.RmapPlaysSaid := rmapPlays_of rm_ok
end Go.Proofs.Ytjjcbbnnilafdaa
