/-
  PROVED: 'byrelaw17.ClockTouched': for every input, of whatever size, the law returns true and leaves its arguments as they were.
  Its conditions: none but those that the row bears.
-/
import Derived.Test.YtndddfkebbeemaaOfClTouched
import Derived.Test.YtndddfkebbeemaaCkIs
namespace Go.Proofs.Ytndddfkebbeemaa

theorem clockTouched_said : Rows.ClockTouchedSaid := clockTouched_of ck_ok
end Go.Proofs.Ytndddfkebbeemaa
