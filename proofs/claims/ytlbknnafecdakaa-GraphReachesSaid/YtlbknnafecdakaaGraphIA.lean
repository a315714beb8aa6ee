/- The walks in the frames' words, one. -/
import Derived.Test.YtlbknnafecdakaaGraphGG
import Derived.Test.YtlbknnafecdakaaGraphHH
namespace Go.Proofs.Ytlbknnafecdakaa.Graph.Law
open Go.ChangeShapes Go.WideShapes Go.RowKit Go.Lib
set_option linter.unusedVariables false
theorem walk_GraphChecks (w : World) (n : Int) (A : Option Addr) (c : Nat) (L : List Pr) (ha : Ars w A L) (hm : L.length ≤ 9223372036854775807) : Calls Try.prog 3 #[.agg #[.int .i64 n, .slice A L.length c]] w fun e w' => e = .returned (.bool true) ∧ Below w.heap.size w w' := Graph.walk_GraphChecks n L A c w ha hm
theorem walk_GraphOrders (w : World) (n : Int) (A : Option Addr) (c : Nat) (L : List Pr) (ha : Ars w A L) (hm : L.length ≤ 9223372036854775807) : Calls Try.prog 4 #[.agg #[.int .i64 n, .slice A L.length c]] w fun e w' => e = .returned (.bool true) ∧ Below w.heap.size w w' := Graph.walk_GraphOrders n L A c w ha hm
theorem walk_GraphCycles (w : World) (n : Int) (A : Option Addr) (c : Nat) (L : List Pr) (ha : Ars w A L) (hm : L.length ≤ 9223372036854775807) : Calls Try.prog 5 #[.agg #[.int .i64 n, .slice A L.length c]] w fun e w' => e = .returned (.bool true) ∧ Below w.heap.size w w' := Graph.walk_GraphCycles n L A c w ha hm
theorem walk_GraphLevels (w : World) (n : Int) (A : Option Addr) (c : Nat) (L : List Pr) (ha : Ars w A L) (hm : L.length ≤ 9223372036854775807) : Calls Try.prog 7 #[.agg #[.int .i64 n, .slice A L.length c]] w fun e w' => e = .returned (.bool true) ∧ Below w.heap.size w w' := Graph.walk_GraphLevels n L A c w ha hm
theorem walk_GraphReaches (w : World) (n : Int) (A : Option Addr) (c : Nat) (L : List Pr) (ha : Ars w A L) (hm : L.length ≤ 9223372036854775807) (s : Int) : Calls Try.prog 6 #[.agg #[.int .i64 n, .slice A L.length c], .int .i64 s] w fun e w' => e = .returned (.bool true) ∧ Below w.heap.size w w' := Graph.walk_GraphReaches n L s A c w ha hm
end Go.Proofs.Ytlbknnafecdakaa.Graph.Law
