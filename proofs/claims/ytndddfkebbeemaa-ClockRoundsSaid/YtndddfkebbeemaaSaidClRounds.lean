/-
  PROVED: 'byrelaw17.ClockRounds': for every input, of whatever size, the law returns true and leaves its arguments as they were.
  Its conditions: none but those that the row bears.
-/
import Derived.Test.YtndddfkebbeemaaOfClRounds
import Derived.Test.YtndddfkebbeemaaCkIs
namespace Go.Proofs.Ytndddfkebbeemaa

theorem clockRounds_said : Rows.ClockRoundsSaid := clockRounds_of ck_ok
end Go.Proofs.Ytndddfkebbeemaa
