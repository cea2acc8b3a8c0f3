/-
  PROVED: 'byrelaw17.ClockPlays': for every input, of whatever size, the law returns true and leaves its arguments as they were.
  Its conditions: none but those that the row bears.
-/
import Derived.Test.YtndddfkebbeemaaOfClPlays
import Derived.Test.YtndddfkebbeemaaCkIs
namespace Go.Proofs.Ytndddfkebbeemaa

theorem clockPlays_said : Rows.ClockPlaysSaid := clockPlays_of ck_ok
end Go.Proofs.Ytndddfkebbeemaa
