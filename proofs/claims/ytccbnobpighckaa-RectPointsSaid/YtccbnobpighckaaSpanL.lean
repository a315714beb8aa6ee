/- Contracts of span.Move and of Move of the reference. -/
import Derived.Test.YtccbnobpighckaaSpanK
import Derived.Deep.RegionHeld3
namespace Go.Proofs.Ytccbnobpighckaa.Span
open Go.ChangeShapes Go.WideShapes Go.RowKit Go.Lib Go.Proofs
set_option linter.unusedVariables false
set_option maxRecDepth 100000

theorem mov_take {L : List Sp} {k : Nat} {s : Sp} (n : Int) (h : L[k]? = some s) : mov (L.take (k + 1)) n = mov (L.take k) n ++ [(s.1 + n, s.2 + n)] := by
  rw [take_snoc_of h, mov, List.map_append]; rfl
theorem fits_step {L : List Sp} {k : Nat} {s : Sp} {n : Int} (hs : L[k]? = some s) (h : ∀ (j : Nat) (t : Sp), j < k → L[j]? = some t → ¬ (n < -t.1) ∧ ¬ (17179869184 - t.2 < n)) (h1 : ¬ (n < -s.1) ∧ ¬ (17179869184 - s.2 < n)) :
    ∀ (j : Nat) (t : Sp), j < k + 1 → L[j]? = some t → ¬ (n < -t.1) ∧ ¬ (17179869184 - t.2 < n) := by
  intro j t hj ht
  rcases Nat.lt_or_eq_of_le (Nat.le_of_lt_succ hj) with h2 | rfl
  · exact h j t h2 ht
  · rw [hs] at ht; cases ht; exact h1

end Go.Proofs.Ytccbnobpighckaa.Span
