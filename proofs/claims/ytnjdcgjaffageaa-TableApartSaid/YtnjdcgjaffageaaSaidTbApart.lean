/-
  PROVED: 'byrelaw14.TableApart': for every input, of whatever size, the law returns true and leaves its arguments as they were.
  Its conditions: none but those that the row bears.
-/
import Derived.Test.YtnjdcgjaffageaaOfTbApart
import Derived.Test.YtnjdcgjaffageaaTbIs
namespace Go.Proofs.Ytnjdcgjaffageaa

theorem tableApart_said : Rows.TableApartSaid := tableApart_of tb_ok
end Go.Proofs.Ytnjdcgjaffageaa
