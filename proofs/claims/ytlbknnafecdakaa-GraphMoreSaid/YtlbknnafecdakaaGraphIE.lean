/- The walks in the frames' words, five. -/
import Derived.Test.YtlbknnafecdakaaGraphQQ
import Derived.Test.YtlbknnafecdakaaGraphHH
namespace Go.Proofs.Ytlbknnafecdakaa.Graph
open Go.ChangeShapes Go.WideShapes Go.RowKit Go.Lib Go.Joins
set_option linter.unusedVariables false
set_option maxRecDepth 100000
section
variable {H : Type} {enc : TypeId × Value → H} {w : World} {held : Bool}
/-- A graph that came in: its list is nil without room. -/
theorem open_nil {r : Reach} {b0 : Nat} {n : Int} {A : Option Addr} {k c : Nat} {d : DataW H} {p : List MemPlace} (hv : Value.okWide Try.prog w r b0 24 (.agg #[.int .i64 n, .slice A k c])) (h : DataW.Trod enc Try.prog w 0 (fun _ => true) held 24 (.agg #[.int .i64 n, .slice A k c]) d p) : A = none → c = 0 := by
  intro hA
  subst hA
  obtain ⟨v0, v1, y0, y1, n', e, _, _, h0, h1⟩ := open_agg2 Try.underlying24 (by kernel_rfl) (by kernel_rfl) hv h
  have e1 : v1 = .slice none k c := by simp at e; exact e.2.symm
  subst e1
  rcases Deep.open_slice Try.underlying22 h1 with ⟨hcs, _⟩ | ⟨a, len, cap, m, k, D, Pl, hcs, _⟩
  · simp at hcs
    exact hcs.2
  · simp at hcs
end
namespace Law
theorem walk_GraphMore (w : World) (n : Int) (A : Option Addr) (c : Nat) (L : List Pr) (ha : Ars w A L) (hm : L.length ≤ 9223372036854775807) (hnil : A = none → c = 0) (s x y : Int) : Calls Try.prog 11 #[.agg #[.int .i64 n, .slice A L.length c], .int .i64 s, .agg #[.int .i64 x, .int .i64 y]] w fun e w' => e = .returned (.bool true) ∧ Below w.heap.size w w' := Graph.walk_GraphMore n L A c w ha hm hnil s x y
end Law
end Go.Proofs.Ytlbknnafecdakaa.Graph
