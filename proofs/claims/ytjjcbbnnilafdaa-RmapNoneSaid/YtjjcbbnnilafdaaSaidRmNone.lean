/-
  PROVED: 'byrelaw15.RmapNone': for every input, of whatever size, the law returns true and leaves its arguments as they were.
  Its conditions: none but those that the row bears.
-/
import Derived.Test.YtjjcbbnnilafdaaOfRmNone
import Derived.Test.YtjjcbbnnilafdaaRmIs
namespace Go.Proofs.Ytjjcbbnnilafdaa

theorem rmapNone_said : Rows.RmapNoneSaid := rmapNone_of rm_ok rm_none
end Go.Proofs.Ytjjcbbnnilafdaa
