/-
  PROVED: 'byrelaw17.ClockNone': for every input, of whatever size, the law returns true and leaves its arguments as they were.
  Its conditions: none but those that the row bears.
-/
import Derived.Test.YtndddfkebbeemaaOfClNone
import Derived.Test.YtndddfkebbeemaaCkIs
namespace Go.Proofs.Ytndddfkebbeemaa

theorem clockNone_said : Rows.ClockNoneSaid := clockNone_of ck_ok ck_none
end Go.Proofs.Ytndddfkebbeemaa
