/-
  PROVED: 'byrelaw14.TableLeaves': for every input, of whatever size, the law returns true and leaves its arguments as they were.
  Its conditions: none but those that the row bears.
-/
import Derived.Test.YtnjdcgjaffageaaOfTbLeaves
import Derived.Test.YtnjdcgjaffageaaTbIs
namespace Go.Proofs.Ytnjdcgjaffageaa

theorem tableLeaves_said : Rows.TableLeavesSaid := tableLeaves_of tb_ok
end Go.Proofs.Ytnjdcgjaffageaa
