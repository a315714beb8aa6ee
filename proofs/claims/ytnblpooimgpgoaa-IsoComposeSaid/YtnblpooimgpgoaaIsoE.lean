/- Piecewise isometries: the steps by which a run is added to a normal form, one at a time. Pure. -/
import Derived.Test.YtnblpooimgpgoaaIsoD
namespace Go.Proofs.Ytnblpooimgpgoaa.Iso
set_option linter.unusedVariables false

section
variable {m p : List Rn} {c r : Rn} {x n : Int}
/-- Whether the last run can take an image, by the step from its last image. -/
theorem can_step (hc : 1 ≤ c.2.1) (x : Int) : can c x = !((!decide (x - las c = 1) && !decide (x - las c = -1)) || (decide (1 < c.2.1) && (c.2.2 != decide (x - las c = -1)))) := by
  rw [Bool.eq_iff_iff, can_iff]
  by_cases h1 : x = las c + 1
  · have e1 : decide (x - las c = 1) = true := decide_eq_true (by omega)
    have e2 : decide (x - las c = -1) = false := decide_eq_false (by omega)
    rw [e1, e2]
    by_cases h2 : 1 < c.2.1
    · rw [decide_eq_true h2]
      cases hb : c.2.2 <;> simp <;> omega
    · rw [decide_eq_false h2]
      simp; omega
  · by_cases h3 : x = las c - 1
    · have e1 : decide (x - las c = 1) = false := decide_eq_false (by omega)
      have e2 : decide (x - las c = -1) = true := decide_eq_true (by omega)
      rw [e1, e2]
      by_cases h2 : 1 < c.2.1
      · rw [decide_eq_true h2]
        cases hb : c.2.2 <;> simp <;> omega
      · rw [decide_eq_false h2]
        simp; omega
    · have e1 : decide (x - las c = 1) = false := decide_eq_false (by omega)
      have e2 : decide (x - las c = -1) = false := decide_eq_false (by omega)
      rw [e1, e2]
      simp; omega
/-- A run behind all others. -/
theorem more_first (hr : 1 ≤ r.2.1) : NF [nrmR r] ∧ ex [nrmR r] = exR r :=
  ⟨NF.nil.snoc (p := []) (nrmR_ok hr) fun i d hi hd => by simp at hd, by rw [ex_one, nrmR_ex]⟩
theorem more_end (h : NF (p ++ [c])) (hr : 1 ≤ r.2.1) (hn : can c r.1 = false) : NF (p ++ [c, nrmR r]) ∧ ex (p ++ [c, nrmR r]) = ex (p ++ [c]) ++ exR r := by
  refine ⟨h.snoc2 (nrmR_ok hr) hn, ?_⟩
  rw [show p ++ [c, nrmR r] = (p ++ [c]) ++ [nrmR r] by simp, ex_append, ex_one, nrmR_ex]
/-- The last run takes n integers of a run. -/
theorem more_take (h : NF (p ++ [c])) (hcan : can c r.1 = true) (h1 : 1 ≤ n) (h2 : n ≤ r.2.1) (hd : n = 1 ∨ r.2.2 = decide (r.1 = las c - 1)) :
    NF (p ++ [(c.1, c.2.1 + n, decide (r.1 = las c - 1))]) ∧ ex (p ++ [(c.1, c.2.1 + n, decide (r.1 = las c - 1))]) = ex (p ++ [c]) ++ (exR r).take n.toNat := by
  have hc := h.last.1
  have hj := ex_join (c := c) (n := n) (s := (r.1, n, r.2.2)) hc h1 rfl hcan hd
  refine ⟨h.swap ⟨by show 1 ≤ c.2.1 + n; omega, fun e => by simp at e; omega⟩ rfl, ?_⟩
  rw [ex_append, ex_append, ex_one, ex_one, ← exR_take (r := r) (by omega) h2]
  rw [show exR (c.1, c.2.1 + n, decide (r.1 = las c - 1)) = exR c ++ exR (r.1, n, r.2.2) from hj, List.append_assoc]
theorem more_rest (h1 : 0 ≤ n) (h2 : n ≤ r.2.1) : (exR r).take n.toNat ++ exR (cutR r n.toNat (r.2.1 - n)) = exR r := by
  rw [← exR_take h1 h2, ← exR_split h1 h2]
/-- A run's last image, as a field says it. -/
theorem las_is (h : 1 ≤ r.2.1) : las r = if r.2.2 then r.1 - (r.2.1 - 1) else r.1 + (r.2.1 - 1) := by
  unfold las im
  split <;> omega
theorem im_is {k : Int} (h : 0 ≤ k) : im r k.toNat = if r.2.2 then r.1 - k else r.1 + k := by
  unfold im
  split <;> omega
/-- A valid run's pieces are valid. -/
theorem gd_cut {k : Nat} (h : gd r = true) (h1 : 1 ≤ n) (h2 : (k : Int) + n ≤ r.2.1) : gd (cutR r k n) = true := by
  obtain ⟨g1, g2, g3, g4, g5, g6⟩ := gd_iff.mp h
  rw [gd_iff]
  unfold cutR im
  simp only
  cases hb : r.2.2 with
  | true => have := g5 hb; simp; omega
  | false => have := g6 hb; simp; omega
theorem gd_rev (h : gd r = true) : gd (revR r) = true := by
  obtain ⟨g1, g2, g3, g4, g5, g6⟩ := gd_iff.mp h
  rw [gd_iff]
  unfold revR
  simp only
  rw [las_is g1]
  cases hb : r.2.2 with
  | true => have := g5 hb; simp; omega
  | false => have := g6 hb; simp; omega
theorem gd_nrm (h : gd r = true) : gd (nrmR r) = true := by
  obtain ⟨g1, g2, g3, g4, g5, g6⟩ := gd_iff.mp h
  rw [gd_iff]
  unfold nrmR
  simp only
  cases hb : r.2.2 with
  | true =>
    have := g5 hb
    rcases Int.lt_or_le 1 r.2.1 with h1 | h1
    · rw [decide_eq_true h1]; simp; omega
    · rw [decide_eq_false (by omega)]; simp; omega
  | false => have := g6 hb; simp; omega
end
#print axioms can_step
#print axioms more_take
#print axioms gd_nrm
end Go.Proofs.Ytnblpooimgpgoaa.Iso
