/- longer; the walks of ShareSplits and ShareEvens. -/
import Derived.Test.YtagjimdplmimoaaCShareM
import Derived.Test.YtagjimdplmimoaaPk1
namespace Go.Proofs.Ytagjimdplmimoaa.Share
open Go.ChangeShapes Go.WideShapes Go.RowKit Go.Lib Go.Proofs.Ytagjimdplmimoaa.Mem
set_option linter.unusedVariables false
set_option maxRecDepth 100000

theorem in_cl {w : World} {A : Option Addr} {n c : Nat} {zs : List Int} (h : InInts .i64 w A n c zs) : Cl eI w A zs ∧ zs.length = n ∧ n ≤ 9223372036854775807 := by
  obtain ⟨h1, h2, h3, _, h4⟩ := h
  refine ⟨h4, h1.symm, ?_⟩
  unfold maxLen at h3; omega
/-- What longer returns. -/
def lonL (ws : List Int) (m : Int) : List Int := if m < 500 ∨ 520 < m ∨ ws.length = 0 then ws else (List.range m.toNat).map fun i => ws.getD (i % ws.length) 0
def LonR (L : List Int) (w : World) : Ending → World → Prop := fun e w' => ∃ (A : Option Addr) (n c : Nat), e = .returned (.slice A n c) ∧ L.length = n ∧ n ≤ 9223372036854775807 ∧ Cl eI w' A L ∧ Below w.heap.size w w'
theorem lonL_up (ws : List Int) (k : Nat) : ((List.range (k + 1)).map fun i => ws.getD (i % ws.length) 0) = ((List.range k).map fun i => ws.getD (i % ws.length) 0) ++ [ws.getD (k % ws.length) 0] := by
  rw [List.range_succ, List.map_append]; rfl

end Go.Proofs.Ytagjimdplmimoaa.Share
