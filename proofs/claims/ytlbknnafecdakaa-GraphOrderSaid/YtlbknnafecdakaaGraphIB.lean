/- The walks in the frames' words, two. -/
import Derived.Test.YtlbknnafecdakaaGraphOO
import Derived.Test.YtlbknnafecdakaaGraphHH
namespace Go.Proofs.Ytlbknnafecdakaa.Graph.Law
open Go.ChangeShapes Go.WideShapes Go.RowKit Go.Lib
set_option linter.unusedVariables false
theorem walk_GraphOrder (w : World) (n : Int) (A : Option Addr) (c : Nat) (L : List Pr) (ha : Ars w A L) (hm : L.length ≤ 9223372036854775807) : Calls Try.prog 8 #[.agg #[.int .i64 n, .slice A L.length c]] w fun e w' => e = .returned (.bool true) ∧ Below w.heap.size w w' := Graph.walk_GraphOrder n L A c w ha hm
end Go.Proofs.Ytlbknnafecdakaa.Graph.Law
