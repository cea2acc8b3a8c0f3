/-
  PROVED: 'byrelaw18.PolicyNear': for every input, of whatever size, the law returns true and leaves its arguments as they were.
  Its conditions: none but those that the row bears.
-/
import Derived.Test.YtcbdmdalijhkoaaOfPoNear
import Derived.Test.YtcbdmdalijhkoaaPoLand
namespace Go.Proofs.Ytcbdmdalijhkoaa

theorem policyNear_said : Rows.PolicyNearSaid := policyNear_of po_ok
end Go.Proofs.Ytcbdmdalijhkoaa
