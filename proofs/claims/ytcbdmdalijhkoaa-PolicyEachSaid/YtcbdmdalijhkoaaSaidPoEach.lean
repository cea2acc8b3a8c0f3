/-
  PROVED: 'byrelaw18.PolicyEach': for every input, of whatever size, the law returns true and leaves its arguments as they were.
  Its conditions: none but those that the row bears.
-/
import Derived.Test.YtcbdmdalijhkoaaOfPoEach
import Derived.Test.YtcbdmdalijhkoaaPoLand
namespace Go.Proofs.Ytcbdmdalijhkoaa

theorem policyEach_said : Rows.PolicyEachSaid := policyEach_of po_ok
end Go.Proofs.Ytcbdmdalijhkoaa
