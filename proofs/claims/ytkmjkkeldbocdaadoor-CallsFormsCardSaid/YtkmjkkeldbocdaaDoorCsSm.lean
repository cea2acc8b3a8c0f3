/-
  calls, the document's: whether two calls are alike.
-/
import Derived.Test.YtkmjkkeldbocdaaDoorCsSmA
import Derived.Test.YtkmjkkeldbocdaaDoorCsSmB
import Derived.Test.YtkmjkkeldbocdaaDoorCsSmC
import Derived.Test.YtkmjkkeldbocdaaDoorCsSmD
import Derived.Test.YtkmjkkeldbocdaaDoorCsSmE
namespace Go.Proofs.YtkmjkkeldbocdaaDoor
open Go.RowKit Go
attribute [local go_sem] Oper.semAt_some

theorem csame_any (q r : CallM) (a b : Option Addr) (n c m d : Nat) (x1 x2 : Nat → UInt8) (w : World) (S1 : Src w a n x1) (S2 : Src w b m x2) : Calls Tryd.prog 15 #[.agg (q.cells a n c), .agg (r.cells b m d)] w fun e w' => e = .returned (.bool (sameC q r (strB n x1) (strB m x2))) ∧ Below w.heap.size w w' := by
  cases hb : ((strB n x1).toList == (strB m x2).toList) with
  | false => exact csame0 q r a b n c m d x1 x2 w S1 S2 hb
  | true =>
    by_cases h0 : q.kind = r.kind
    rotate_left
    · exact csame1 q r a b n c m d x1 x2 w S1 S2 hb h0
    by_cases h1 : q.pid = r.pid
    rotate_left
    · exact csame2 q r a b n c m d x1 x2 w S1 S2 hb h0 h1
    by_cases h2 : q.node = r.node
    rotate_left
    · exact csame3 q r a b n c m d x1 x2 w S1 S2 hb h0 h1 h2
    by_cases h3 : q.page = r.page
    rotate_left
    · exact csame4 q r a b n c m d x1 x2 w S1 S2 hb h0 h1 h2 h3
    by_cases h4 : q.count = r.count
    rotate_left
    · exact csame5 q r a b n c m d x1 x2 w S1 S2 hb h0 h1 h2 h3 h4
    by_cases h5 : q.addr = r.addr
    rotate_left
    · exact csame6 q r a b n c m d x1 x2 w S1 S2 hb h0 h1 h2 h3 h4 h5
    by_cases h6 : q.size = r.size
    rotate_left
    · exact csame7 q r a b n c m d x1 x2 w S1 S2 hb h0 h1 h2 h3 h4 h5 h6
    by_cases h7 : q.rights = r.rights
    rotate_left
    · exact csame8 q r a b n c m d x1 x2 w S1 S2 hb h0 h1 h2 h3 h4 h5 h6 h7
    by_cases h8 : q.pk = r.pk
    rotate_left
    · exact csame9 q r a b n c m d x1 x2 w S1 S2 hb h0 h1 h2 h3 h4 h5 h6 h7 h8
    by_cases h9 : q.pm = r.pm
    rotate_left
    · exact csame10 q r a b n c m d x1 x2 w S1 S2 hb h0 h1 h2 h3 h4 h5 h6 h7 h8 h9
    by_cases h10 : q.handle = r.handle
    rotate_left
    · exact csame11 q r a b n c m d x1 x2 w S1 S2 hb h0 h1 h2 h3 h4 h5 h6 h7 h8 h9 h10
    exact csame12 q r a b n c m d x1 x2 w S1 S2 hb h0 h1 h2 h3 h4 h5 h6 h7 h8 h9 h10
end Go.Proofs.YtkmjkkeldbocdaaDoor
