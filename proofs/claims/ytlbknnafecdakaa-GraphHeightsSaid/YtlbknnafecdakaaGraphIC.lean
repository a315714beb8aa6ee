/- The walks in the frames' words, three. -/
import Derived.Test.YtlbknnafecdakaaGraphLL
import Derived.Test.YtlbknnafecdakaaGraphHH
namespace Go.Proofs.Ytlbknnafecdakaa.Graph.Law
open Go.ChangeShapes Go.WideShapes Go.RowKit Go.Lib
set_option linter.unusedVariables false
theorem walk_GraphHeights (w : World) (n : Int) (A : Option Addr) (c : Nat) (L : List Pr) (ha : Ars w A L) (hm : L.length ≤ 9223372036854775807) : Calls Try.prog 9 #[.agg #[.int .i64 n, .slice A L.length c]] w fun e w' => e = .returned (.bool true) ∧ Below w.heap.size w w' := Graph.walk_GraphHeights n L A c w ha hm
end Go.Proofs.Ytlbknnafecdakaa.Graph.Law
