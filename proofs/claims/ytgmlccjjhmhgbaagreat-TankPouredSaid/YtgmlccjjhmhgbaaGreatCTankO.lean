/- What a draw keeps, for the stage's theorems (pure). -/
import Derived.Test.YtgmlccjjhmhgbaaGreatPk23
namespace Go.Proofs.YtgmlccjjhmhgbaaGreat.Tank
set_option linter.unusedVariables false

theorem dr_level {cap : Int} {L : List Trip} {mass : Int} (h : drE cap L mass = 0) (hm : ¬ mass = 0) : sumV L ≠ 0 := fun e => by
  have hd := drE_of h
  have h1 := hd.mass_le
  rw [e, qI_val] at h1
  have h2 : (mass : Rat) ≤ ((0 : Int) : Rat) := h1
  have h3 := Rat.intCast_le_intCast.mp h2
  have := hd.m0
  omega
theorem qI_zero0 : qI 0 = 0 := mkV_zero
/-- What is left and what was taken of a part. -/
theorem dr_part {cap : Int} {L : List Trip} {mass : Int} (h : drE cap L mass = 0) {k : Nat} {p : Rat} (hp : (qs L)[k]? = some p) : ∃ x y, (drX L mass)[k]? = some x ∧ (drY L mass)[k]? = some y ∧ y + x = p ∧ x * sumV L = p * qI mass := by
  unfold drX drY
  rw [List.getElem?_map, List.getElem?_map, hp]
  refine ⟨(if mass = 0 then 0 else tkX p (qI mass) (sumV L)), (if mass = 0 then p else tkY p (qI mass) (sumV L)), rfl, rfl, ?_, ?_⟩
  · by_cases hm : mass = 0
    · rw [if_pos hm, if_pos hm, Rat.add_zero]
    · rw [if_neg hm, if_neg hm]; exact tk_sum _ _ _
  · by_cases hm : mass = 0
    · rw [if_pos hm, hm, qI_zero0, Rat.zero_mul, Rat.mul_zero]
    · rw [if_neg hm]; exact tk_prop (dr_level h hm)
theorem sumR_zero : ∀ l : List Rat, sumR (l.map fun _ => (0 : Rat)) = 0
  | [] => rfl
  | a :: l => by rw [List.map_cons, sumR, sumR_zero l, Rat.zero_add]
/-- What was taken adds up to the mass; what is left to the rest. -/
theorem dr_total {cap : Int} {L : List Trip} {mass : Int} (h : drE cap L mass = 0) : sumR (drX L mass) = qI mass := by
  have hd := drE_of h
  unfold drX
  by_cases hm : mass = 0
  · simp only [if_pos hm]
    rw [hm, qI_zero0]; exact sumR_zero _
  · simp only [if_neg hm]
    exact sumR_X_all (sumV_val hd.t.sum).symm (dr_level h hm)
theorem dr_rest {cap : Int} {L : List Trip} {mass : Int} (h : drE cap L mass = 0) : sumR (drY L mass) = sumV L + -qI mass := by
  have hd := drE_of h
  unfold drY
  by_cases hm : mass = 0
  · simp only [if_pos hm]
    rw [hm, qI_zero0, List.map_id', sumV_val hd.t.sum]
    have : -(0 : Rat) = 0 := by decide +kernel
    rw [this, Rat.add_zero]
  · simp only [if_neg hm]
    exact sumR_Y_all (sumV_val hd.t.sum).symm (dr_level h hm)
/-- The error of a sum of few valid numbers. -/
theorem sumE_few {Q : List Rat} (hl : Q.length ≤ 4096) (h : ∀ q ∈ Q, fitR q = true) : sumE (ts Q) = 0 ∨ sumE (ts Q) = 2 := by
  unfold sumE
  rw [if_neg (by rw [ts_len]; omega), if_pos (List.all_eq_true.mpr fun t ht => by
    obtain ⟨q, hq, rfl⟩ := List.mem_map.mp ht
    exact vT_tri (h q hq))]
  split
  · exact Or.inl rfl
  · exact Or.inr rfl
theorem sumV_ts {Q : List Rat} (hf : ∀ q ∈ Q, fitR q = true) (h : sumE (ts Q) = 0) : sumV (ts Q) = sumR Q := by rw [sumV_val h, qs_ts hf]
#print axioms dr_part
#print axioms dr_total
#print axioms dr_rest
end Go.Proofs.YtgmlccjjhmhgbaaGreat.Tank
