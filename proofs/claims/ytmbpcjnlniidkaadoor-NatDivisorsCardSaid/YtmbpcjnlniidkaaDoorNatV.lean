/- The contract of nat.takeOff. -/
import Derived.Test.YtmbpcjnlniidkaaDoorNatM
namespace Go.Proofs.YtmbpcjnlniidkaaDoor
open Go.ChangeShapes Go.WideShapes Go.RowKit
set_option linter.unusedVariables false

/-- The last two limbs. -/
theorem nval_top {S : List Int} {l : Nat} {a0 a1 : Int} (hl : S.length = l + 2) (h0 : S[l]? = some a0) (h1 : S[l + 1]? = some a1) :
    nval S = nval (S.take l) + 1000000000 ^ l * (a0 + 1000000000 * a1) := by
  have e := nval_append (S.take l) (S.drop l)
  rw [List.take_append_drop, List.length_take, Nat.min_eq_left (by omega)] at e
  rw [e, nval_drop_step h0, nval_drop_step h1, List.drop_eq_nil_of_le (by omega)]
  simp [nval]
theorem nval_top1 {S : List Int} {l : Nat} {a0 : Int} (hl : S.length = l + 1) (h0 : S[l]? = some a0) :
    nval S = nval (S.take l) + 1000000000 ^ l * a0 := by
  have e := nval_append (S.take l) (S.drop l)
  rw [List.take_append_drop, List.length_take, Nat.min_eq_left (by omega)] at e
  rw [e, nval_drop_step h0, List.drop_eq_nil_of_le (by omega)]
  simp [nval]
/-- The guess is not too small. -/
theorem guess_ge {S ys : List Int} {l : Nat} {a0 a1 b1 : Int} (hS : lok S = true) (hy : lok ys = true) (hl : S.length = l + 2) (hly : ys.length = l + 1) (h0 : S[l]? = some a0) (h1 : S[l + 1]? = some a1) (hb : ys[l]? = some b1)
    (hb0 : 0 < b1) (hlt : nval S < 1000000000 * nval ys) :
    nval S / nval ys ≤ min ((a1 * 1000000000 + a0) / b1) 999999999 ∧ 0 ≤ nval S / nval ys ∧ 0 < nval ys := by
  have eS := nval_top hl h0 h1
  have eY := nval_top1 hly hb
  have s0 := nval_nonneg (lok_take hS l)
  have s1 := nval_lt (lok_take hS l)
  have y0 := nval_nonneg (lok_take hy l)
  rw [List.length_take, Nat.min_eq_left (by omega)] at s1
  have p := pow_pos' l
  obtain ⟨P, hP⟩ : ∃ P : Int, P = 1000000000 ^ l := ⟨_, rfl⟩
  rw [← hP] at eS eY s1 p
  have hpb : P * 1 ≤ P * b1 := Int.mul_le_mul_of_nonneg_left (by omega) (Int.le_of_lt p)
  have ypos : 0 < nval ys := by omega
  have snn := nval_nonneg hS
  have q0 : 0 ≤ nval S / nval ys := Int.ediv_nonneg snn (Int.le_of_lt ypos)
  obtain ⟨q, hq⟩ : ∃ q, q = nval S / nval ys := ⟨_, rfl⟩
  have hqS : q * nval ys ≤ nval S := by rw [hq]; exact Int.ediv_mul_le _ (by omega)
  rw [← hq] at q0 ⊢
  refine ⟨?_, q0, ypos⟩
  have h2 : q < 1000000000 := by
    rcases Int.lt_or_le q 1000000000 with h | h
    · exact h
    · have : 1000000000 * nval ys ≤ q * nval ys := Int.mul_le_mul_of_nonneg_right h (Int.le_of_lt ypos)
      omega
  have h3 : q ≤ (a1 * 1000000000 + a0) / b1 := by
    rw [Int.le_ediv_iff_mul_le hb0]
    have m1 : q * (P * b1) ≤ q * nval ys := Int.mul_le_mul_of_nonneg_left (by omega) q0
    have m2 : P * (q * b1) < P * (a1 * 1000000000 + a0 + 1) := by
      have e1 : P * (q * b1) = q * (P * b1) := by rw [Int.mul_left_comm]
      have e2 : P * (a1 * 1000000000 + a0 + 1) = P * (a0 + 1000000000 * a1) + P := by
        have : a1 * 1000000000 + a0 + 1 = (a0 + 1000000000 * a1) + 1 := by omega
        rw [this, Int.mul_add, Int.mul_one]
      omega
    have := Int.lt_of_mul_lt_mul_left m2 (Int.le_of_lt p)
    omega
  omega
/-- The last limb behind a subtraction. -/
theorem last_bd {T : List Int} {l : Nat} {z V : Int} (hd : lok T.dropLast = true) (hl : T.length = l + 1) (hz : T[l]? = some z) (hv : nval T = V) (h1 : -(1000000000 * 1000000000 ^ l) < V) (h2 : V < 1000000000 ^ (l + 1)) :
    -2000000000 < z ∧ z < 2000000000 ∧ (z < 0 ↔ V < 0) := by
  have e := nval_top1 hl hz
  have ht : T.take l = T.dropLast := by rw [List.dropLast_eq_take]; congr 1; omega
  have s0 := nval_nonneg hd
  have s1 := nval_lt hd
  have hdl : T.dropLast.length = l := by rw [List.length_dropLast]; omega
  rw [hdl] at s1
  rw [ht, hv] at e
  have p := pow_pos' l
  rw [Int.pow_succ] at h2
  obtain ⟨P, hP⟩ : ∃ P : Int, P = 1000000000 ^ l := ⟨_, rfl⟩
  rw [← hP] at e s1 p h1 h2
  have a1 : -2000000000 < z := by
    rcases Int.lt_or_le (-2000000000) z with h | h
    · exact h
    · have : P * z ≤ P * (-2000000000) := Int.mul_le_mul_of_nonneg_left h (Int.le_of_lt p)
      omega
  have a2 : z < 2000000000 := by
    rcases Int.lt_or_le z 2000000000 with h | h
    · exact h
    · have : P * 2000000000 ≤ P * z := Int.mul_le_mul_of_nonneg_left h (Int.le_of_lt p)
      omega
  refine ⟨a1, a2, ?_, ?_⟩
  · intro h
    have : P * z ≤ P * (-1) := Int.mul_le_mul_of_nonneg_left (by omega) (Int.le_of_lt p)
    omega
  · intro h
    rcases Int.lt_or_le z 0 with h3 | h3
    · exact h3
    · have := Int.mul_nonneg (Int.le_of_lt p) h3
      omega
theorem quo_of {S Y n : Int} (hy : 0 < Y) (hq : S / Y ≤ n) (hnn : 0 ≤ S - n * Y) : n = S / Y ∧ S - n * Y = S % Y := by
  have h1 : n ≤ S / Y := by rw [Int.le_ediv_iff_mul_le hy]; omega
  have e : n = S / Y := by omega
  refine ⟨e, ?_⟩
  have := Int.emod_add_mul_ediv S Y
  rw [e, Int.mul_comm]; omega
theorem take_state {S ys T : List Int} {l : Nat} {n z : Int} (hS : lok S = true) (hy : lok ys = true) (hl : S.length = l + 2) (hly : ys.length = l + 1) (hlt : nval S < 1000000000 * nval ys) (ypos : 0 < nval ys)
    (hT : T.length = l + 2) (hd : lok T.dropLast = true) (hv : nval T = nval S - n * nval ys) (hz : T[l + 1]? = some z) (n0 : 0 ≤ n) (n1 : n ≤ 999999999) :
    -2000000000 < z ∧ z < 2000000000 ∧ (z < 0 ↔ nval S - n * nval ys < 0) := by
  have y1 := nval_lt hy
  rw [hly] at y1
  have snn := nval_nonneg hS
  have s1 := nval_lt hS
  rw [hl] at s1
  have m : n * nval ys ≤ 999999999 * nval ys := Int.mul_le_mul_of_nonneg_right n1 (Int.le_of_lt ypos)
  have m0 : 0 ≤ n * nval ys := Int.mul_nonneg n0 (Int.le_of_lt ypos)
  have p := pow_pos' (l + 1)
  exact last_bd hd hT hz hv (by omega) (by rw [show l + 1 + 1 = l + 2 from rfl]; omega)
theorem take_last {S ys T : List Int} {l : Nat} (hy : lok ys = true) (hly : ys.length = l + 1) (ypos : 0 < nval ys) (hT : T.length = l + 2) (hd : lok T.dropLast = true) (hv : nval T = nval S % nval ys) : lok T = true := by
  have y1 := nval_lt hy
  rw [hly] at y1
  have h1 := Int.emod_nonneg (nval S) (show nval ys ≠ 0 by omega)
  have h2 := Int.emod_lt_of_pos (nval S) ypos
  refine lok_of_dropLast (by intro h; rw [h] at hT; simp at hT) hd (by omega) ?_
  rw [hT, hv]
  have : (1000000000 : Int) ^ (l + 1) ≤ 1000000000 ^ (l + 2) := pow_le_pow' (by omega)
  omega
#print axioms guess_ge
#print axioms take_state
end Go.Proofs.YtmbpcjnlniidkaaDoor
