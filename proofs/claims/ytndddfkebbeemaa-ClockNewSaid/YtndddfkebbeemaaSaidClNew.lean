/-
  PROVED: 'byrelaw17.ClockNew': for every input, of whatever size, the law returns true and leaves its arguments as they were.
  Its conditions: none but those that the row bears.
-/
import Derived.Test.YtndddfkebbeemaaOfClNew
import Derived.Test.YtndddfkebbeemaaCkIs
namespace Go.Proofs.Ytndddfkebbeemaa

theorem clockNew_said : Rows.ClockNewSaid := clockNew_of ck_ok
end Go.Proofs.Ytndddfkebbeemaa
