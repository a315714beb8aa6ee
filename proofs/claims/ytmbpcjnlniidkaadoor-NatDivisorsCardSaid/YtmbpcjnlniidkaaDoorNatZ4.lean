/- What nat.shortened leaves. -/
import Derived.Test.YtmbpcjnlniidkaaDoorNatZ3
namespace Go.Proofs.YtmbpcjnlniidkaaDoor
open Go.ChangeShapes Go.WideShapes Go.RowKit
set_option linter.unusedVariables false

def ShortRes (w : World) (xs ys : List Int) (e : Ending) (w' : World) : Prop :=
  ∃ vx vy xs' ys', e = .returned (.tuple #[vx, vy]) ∧ In w' vx xs' ∧ In w' vy ys' ∧ nrm xs' = true ∧ nrm ys' = true ∧ xs'.length ≤ ys.length ∧ ys'.length ≤ ys.length ∧
    Nat.gcd (nval xs').toNat (nval ys').toNat = Nat.gcd (nval xs).toNat (nval ys).toNat ∧ nval ys' < nval ys ∧ Below w.heap.size w w'
theorem len_le_of {N : Nat} {ys : List Int} (hy : nrm ys = true) (h : N ≤ (nval ys).toNat) : (limbs N).length ≤ ys.length := by
  have hl := nrm_limbs hy
  have : (nval ys).toNat < 1000000000 ^ ys.length := limbs_len_le.mp (by rw [← hl]; exact Nat.le_refl _)
  exact limbs_len_le.mpr (by omega)
theorem gcd_int {x y : Int} (hx : 0 ≤ x) (hy : 0 ≤ y) : Nat.gcd x.toNat y.toNat = Int.gcd x y := by
  have e1 : x.natAbs = x.toNat := by omega
  have e2 : y.natAbs = y.toNat := by omega
  show _ = Nat.gcd x.natAbs y.natAbs
  rw [e1, e2]
theorem short_facts {u0 v0 a b c d u v : Int} {xs ys : List Int} (h : LInv u0 v0 (nval xs) (nval ys) a b c d u v) (hb : b ≠ 0) (hx : nrm xs = true) (hy : nrm ys = true) :
    0 ≤ a * nval xs + b * nval ys ∧ a * nval xs + b * nval ys ≤ nval ys ∧ 0 ≤ c * nval xs + d * nval ys ∧ c * nval xs + d * nval ys < nval ys ∧
    Nat.gcd (a * nval xs + b * nval ys).toNat (c * nval xs + d * nval ys).toNat = Nat.gcd (nval xs).toNat (nval ys).toNat := by
  have x0 := nval_nonneg (nrm_lok hx)
  have y0 := nval_nonneg (nrm_lok hy)
  rcases h.st with ⟨_, h2, _, _⟩ | ⟨_, _, s1, s2, s3⟩
  · exact absurd h2 hb
  · refine ⟨by omega, s3, s1, by omega, ?_⟩
    rw [gcd_int (by omega) s1, h.gc, gcd_int x0 y0]

#print axioms short_facts
end Go.Proofs.YtmbpcjnlniidkaaDoor
