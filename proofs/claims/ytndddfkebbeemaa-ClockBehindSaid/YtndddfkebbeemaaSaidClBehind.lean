/-
  PROVED: 'byrelaw17.ClockBehind': for every input, of whatever size, the law returns true and leaves its arguments as they were.
  Its conditions: none but those that the row bears.
-/
import Derived.Test.YtndddfkebbeemaaOfClBehind
import Derived.Test.YtndddfkebbeemaaCkIs
namespace Go.Proofs.Ytndddfkebbeemaa

theorem clockBehind_said : Rows.ClockBehindSaid := clockBehind_of ck_ok
end Go.Proofs.Ytndddfkebbeemaa
