/-
  PROVED: 'byrelaw14.TableWords': for every input, of whatever size, the law returns true and leaves its arguments as they were.
  Its conditions: none but those that the row bears.
-/
import Derived.Test.YtnjdcgjaffageaaOfTbWords
import Derived.Test.YtnjdcgjaffageaaTbIs
namespace Go.Proofs.Ytnjdcgjaffageaa

theorem tableWords_said : Rows.TableWordsSaid := tableWords_of tb_ok
end Go.Proofs.Ytnjdcgjaffageaa
