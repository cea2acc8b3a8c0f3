/-
  PROVED: 'byrelaw18.PolicyOrders': for every input, of whatever size, the law returns true and leaves its arguments as they were.
  Its conditions: none but those that the row bears.
-/
import Derived.Test.YtcbdmdalijhkoaaOfPoOrders
import Derived.Test.YtcbdmdalijhkoaaPoLand
namespace Go.Proofs.Ytcbdmdalijhkoaa

theorem policyOrders_said : Rows.PolicyOrdersSaid := policyOrders_of po_ok
end Go.Proofs.Ytcbdmdalijhkoaa
