/- The walks in the frames' words, four. -/
import Derived.Test.YtlbknnafecdakaaGraphKK
import Derived.Test.YtlbknnafecdakaaGraphHH
namespace Go.Proofs.Ytlbknnafecdakaa.Graph.Law
open Go.ChangeShapes Go.WideShapes Go.RowKit Go.Lib
set_option linter.unusedVariables false
theorem walk_GraphReversed (w : World) (n : Int) (A : Option Addr) (c : Nat) (L : List Pr) (ha : Ars w A L) (hm : L.length ≤ 9223372036854775807) (a : Int) (wa : (Lit.int .u8 a).wf = true) (b : Int) (wb : (Lit.int .u8 b).wf = true) : Calls Try.prog 10 #[.agg #[.int .i64 n, .slice A L.length c], .int .u8 a, .int .u8 b] w fun e w' => e = .returned (.bool true) ∧ Below w.heap.size w w' := by
  obtain ⟨a1, a2⟩ := u8_of wa
  obtain ⟨b1, b2⟩ := u8_of wb
  obtain ⟨x, rfl⟩ : ∃ x : Nat, a = (x : Int) := ⟨a.toNat, by omega⟩
  obtain ⟨y, rfl⟩ : ∃ y : Nat, b = (y : Int) := ⟨b.toNat, by omega⟩
  exact Graph.walk_GraphReversed n L A c w ha hm x y (by omega) (by omega)
end Go.Proofs.Ytlbknnafecdakaa.Graph.Law
