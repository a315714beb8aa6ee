/- Long division: the arithmetic. No walk. -/
import Derived.Test.YtmbpcjnlniidkaaDoorNatV3
namespace Go.Proofs.YtmbpcjnlniidkaaDoor
open Go.ChangeShapes Go.WideShapes Go.RowKit
set_option linter.unusedVariables false

theorem fac_bd {b : Int} (h0 : 0 < b) (h1 : b < 1000000000) : 1 ≤ 1000000000 / (b + 1) ∧ 1000000000 / (b + 1) < 1000000000 ∧ 1000000000 / (b + 1) * (b + 1) ≤ 1000000000 := by
  refine ⟨?_, ?_, Int.ediv_mul_le _ (by omega)⟩
  · rw [Int.le_ediv_iff_mul_le (by omega)]; omega
  · rw [Int.ediv_lt_iff_lt_mul (by omega)]; omega
theorem top_ge {ys : List Int} {l : Nat} {b : Int} (hy : lok ys = true) (hl : ys.length = l + 1) (hb : ys[l]? = some b) (h0 : 0 < b) : 1000000000 ^ l ≤ nval ys ∧ nval ys < (b + 1) * 1000000000 ^ l := by
  have e := nval_top1 hl hb
  have s0 := nval_nonneg (lok_take hy l)
  have s1 := nval_lt (lok_take hy l)
  rw [List.length_take, Nat.min_eq_left (by omega)] at s1
  have p := pow_pos' l
  obtain ⟨P, hP⟩ : ∃ P : Int, P = 1000000000 ^ l := ⟨_, rfl⟩
  rw [← hP] at e s1 p ⊢
  have m : P * 1 ≤ P * b := Int.mul_le_mul_of_nonneg_left (by omega) (Int.le_of_lt p)
  have m2 : (b + 1) * P = P * b + P := by rw [Int.add_mul, Int.one_mul, Int.mul_comm]
  omega
/-- The dividend, times the factor. -/
theorem rest_ok {xs : List Int} {f : Int} (hx : lok xs = true) (f0 : 0 ≤ f) (f1 : f < 1000000000) :
    lok (addT (List.replicate (xs.length + 1) 0) xs f 0) = true ∧ nval (addT (List.replicate (xs.length + 1) 0) xs f 0) = f * nval xs := by
  have hv : nval (addT (List.replicate (xs.length + 1) 0) xs f 0) = f * nval xs := by rw [addT_val _ _ _ _ (by simp), nval_zeros]; omega
  have x0 := nval_nonneg hx
  have x1 := nval_lt hx
  refine ⟨lok_of_dropLast ?_ (addT_lok _ _ _ _) (by rw [hv]; exact Int.mul_nonneg f0 x0) ?_, hv⟩
  · intro h; have := addT_length (List.replicate (xs.length + 1) 0) xs f 0; rw [h] at this; simp at this
  · rw [hv, addT_length, List.length_replicate, Int.pow_succ]
    have : f * nval xs ≤ 999999999 * nval xs := Int.mul_le_mul_of_nonneg_right (by omega) x0
    omega
/-- The divisor, times the factor, has no limb more. -/
theorem divisor_ok {ys D0 : List Int} {l : Nat} {b f : Int} (hy : lok ys = true) (hl : ys.length = l + 1) (hb : ys[l]? = some b) (h0 : 0 < b) (f0 : 1 ≤ f) (hf : f * (b + 1) ≤ 1000000000)
    (hk : lok D0 = true) (hv : nval D0 = f * nval ys) (hD : D0.length = l + 2) :
    (D0.take (l + 1)).length = l + 1 ∧ lok (D0.take (l + 1)) = true ∧ nval (D0.take (l + 1)) = f * nval ys ∧ ∃ d, (D0.take (l + 1))[l]? = some d ∧ 0 < d := by
  have t := top_ge hy hl hb h0
  have hlen : (D0.take (l + 1)).length = l + 1 := by rw [List.length_take]; omega
  have hok := lok_take hk (l + 1)
  have e := nval_append (D0.take (l + 1)) (D0.drop (l + 1))
  rw [List.take_append_drop, hlen, hv] at e
  have s0 := nval_nonneg hok
  have u0 := nval_nonneg (lok_drop hk (l + 1))
  have p := pow_pos' (l + 1)
  have p' := pow_pos' l
  have hlt : f * nval ys < 1000000000 ^ (l + 1) := by
    have m1 : f * nval ys < f * ((b + 1) * 1000000000 ^ l) := Int.mul_lt_mul_of_pos_left t.2 (by omega)
    have m2 : f * (b + 1) * 1000000000 ^ l ≤ 1000000000 * 1000000000 ^ l := Int.mul_le_mul_of_nonneg_right hf (Int.le_of_lt p')
    rw [Int.mul_assoc] at m2
    rw [Int.pow_succ]; omega
  have hz : nval (D0.drop (l + 1)) = 0 := by
    rcases Int.lt_or_eq_of_le u0 with h | h
    · have : (1000000000 : Int) ^ (l + 1) * 1 ≤ 1000000000 ^ (l + 1) * nval (D0.drop (l + 1)) := Int.mul_le_mul_of_nonneg_left (by omega) (Int.le_of_lt p)
      omega
    · exact h.symm
  rw [hz, Int.mul_zero, Int.add_zero] at e
  refine ⟨hlen, hok, e.symm, ?_⟩
  obtain ⟨d, hd⟩ : ∃ d, (D0.take (l + 1))[l]? = some d := ⟨_, List.getElem?_eq_getElem (by omega)⟩
  refine ⟨d, hd, ?_⟩
  have d0 := (lok_at hok hd).1
  rcases Int.lt_or_eq_of_le d0 with h | h
  · exact h
  · exfalso
    have e2 := nval_top1 hlen hd
    have s1 := nval_lt (lok_take hok l)
    rw [List.length_take, Nat.min_eq_left (by omega)] at s1
    rw [← h, Int.mul_zero, Int.add_zero] at e2
    have m : 1 * nval ys ≤ f * nval ys := Int.mul_le_mul_of_nonneg_right f0 (by omega)
    omega

/-- The state of the division with t limbs of the quotient to come. -/
structure DInv (X Dv : Int) (la nq : Nat) (R Q : List Int) (t : Nat) : Prop where
  rl : R.length = la + 1
  rk : lok R = true
  ql : Q.length = nq
  qk : lok Q = true
  val : nval (Q.drop t) * Dv * 1000000000 ^ t + nval R = X
  lt : nval (R.drop t) < Dv
theorem dinv_start {xs ys R0 : List Int} {l nq : Nat} {b f : Int} (hx : lok xs = true) (hy : lok ys = true) (hl : ys.length = l + 1) (hb : ys[l]? = some b) (h0 : 0 < b) (f0 : 1 ≤ f)
    (hR : R0.length = xs.length + 1) (hRk : lok R0 = true) (hRv : nval R0 = f * nval xs) (hn : nq + l = xs.length) : DInv (f * nval xs) (f * nval ys) xs.length nq R0 (List.replicate nq 0) nq := by
  refine ⟨hR, hRk, by simp, lok_zeros _, ?_, ?_⟩
  · rw [List.drop_replicate, nval_zeros, hRv]; simp
  · have e := nval_append (R0.take nq) (R0.drop nq)
    rw [List.take_append_drop, List.length_take, Nat.min_eq_left (by omega), hRv] at e
    have s0 := nval_nonneg (lok_take hRk nq)
    have x1 := nval_lt hx
    have t := top_ge hy hl hb h0
    have p := pow_pos' nq
    have e2 : (1000000000 : Int) ^ xs.length = 1000000000 ^ nq * 1000000000 ^ l := by rw [← hn, Int.pow_add]
    have m1 : f * nval xs < f * (1000000000 ^ nq * 1000000000 ^ l) := by rw [← e2]; exact Int.mul_lt_mul_of_pos_left x1 (by omega)
    have m2 : f * 1000000000 ^ l ≤ f * nval ys := Int.mul_le_mul_of_nonneg_left t.1 (by omega)
    have m3 : (1000000000 : Int) ^ nq * nval (R0.drop nq) < 1000000000 ^ nq * (f * 1000000000 ^ l) := by
      have : f * ((1000000000 : Int) ^ nq * 1000000000 ^ l) = 1000000000 ^ nq * (f * 1000000000 ^ l) := by rw [Int.mul_left_comm]
      omega
    have := Int.lt_of_mul_lt_mul_left m3 (Int.le_of_lt p)
    omega
theorem laid_drop {Z D : List Int} {off : Nat} (h : off ≤ Z.length) : (laid Z off D).drop off = D ++ Z.drop (off + D.length) := by
  unfold laid; rw [List.drop_left' (by rw [List.length_take]; omega)]
theorem dinv_win {X Dv : Int} {la nq l a : Nat} {R Q D : List Int} (h : DInv X Dv la nq R Q (a + 1)) (ha : a + (l + 2) ≤ la + 1) (hD : lok D = true) (hDl : D.length = l + 1) (hDv : nval D = Dv) :
    nval (win R a (l + 2)) < 1000000000 * Dv ∧ nval (R.drop (a + (l + 2))) = 0 := by
  have e1 := nval_drop_getD R a
  have e2 : R.drop a = win R a (l + 2) ++ R.drop (a + (l + 2)) := by unfold win; rw [← List.drop_drop, List.take_append_drop]
  have hw : (win R a (l + 2)).length = l + 2 := win_length (by rw [h.rl]; exact ha)
  have e3 := congrArg nval e2
  rw [nval_append, hw] at e3
  have r0 := lok_getD h.rk a
  have w0 := nval_nonneg (lok_take (lok_drop h.rk a) (l + 2))
  have u0 := nval_nonneg (lok_drop h.rk (a + (l + 2)))
  have hlt := h.lt
  have d1 := nval_lt hD
  rw [hDl, hDv] at d1
  have p := pow_pos' (l + 2)
  have hlt2 : nval (R.drop a) < 1000000000 * Dv := by omega
  have hp := Int.mul_nonneg (Int.le_of_lt p) u0
  refine ⟨by change 0 ≤ nval (win R a (l + 2)) at w0; omega, ?_⟩
  rcases Int.lt_or_eq_of_le u0 with h2 | h2
  · exfalso
    have : (1000000000 : Int) ^ (l + 2) * 1 ≤ 1000000000 ^ (l + 2) * nval (R.drop (a + (l + 2))) := Int.mul_le_mul_of_nonneg_left (by omega) (Int.le_of_lt p)
    have e4 : (1000000000 : Int) ^ (l + 2) = 1000000000 * 1000000000 ^ (l + 1) := by rw [Int.pow_succ, Int.mul_comm]
    change 0 ≤ nval (win R a (l + 2)) at w0
    omega
  · exact h2.symm
theorem dinv_step {X Dv q : Int} {la nq l a : Nat} {R Q T D : List Int} (h : DInv X Dv la nq R Q (a + 1)) (ha : a + (l + 2) ≤ la + 1) (haq : a < nq) (hD : lok D = true) (hDl : D.length = l + 1) (hDv : nval D = Dv) (dpos : 0 < Dv)
    (hq : q = nval (win R a (l + 2)) / Dv) (hT : T.length = l + 2) (hTk : lok T = true) (hTv : nval T = nval (win R a (l + 2)) % Dv) :
    DInv X Dv la nq (laid R a T) (Q.set a q) a ∧ 0 ≤ q ∧ q < 1000000000 := by
  obtain ⟨hw, hz⟩ := dinv_win h ha hD hDl hDv
  have w0 := nval_nonneg (lok_take (lok_drop h.rk a) (l + 2))
  change 0 ≤ nval (win R a (l + 2)) at w0
  have q0 : 0 ≤ q := by rw [hq]; exact Int.ediv_nonneg w0 (Int.le_of_lt dpos)
  have q1 : q < 1000000000 := by rw [hq, Int.ediv_lt_iff_lt_mul dpos]; exact hw
  have hal : a + (l + 2) ≤ R.length := by rw [h.rl]; exact ha
  have eR := win_split hal
  have eR' := laid_split hal hT
  rw [hz, Int.mul_zero, Int.add_zero] at eR eR'
  have eQ : nval ((Q.set a q).drop a) = q + 1000000000 * nval (Q.drop (a + 1)) := by
    rw [nval_drop_step (List.getElem?_set_self (by rw [h.ql]; exact haq)), drop_set_above (by omega)]
  have hem := Int.emod_add_mul_ediv (nval (win R a (l + 2))) Dv
  rw [← hq, ← hTv] at hem
  refine ⟨⟨by rw [laid_length (by rw [hT]; exact hal)]; exact h.rl, laid_lok h.rk hTk, by rw [List.length_set]; exact h.ql, lok_set h.qk _ q0 q1, ?_, ?_⟩, q0, q1⟩
  · have hv := h.val
    rw [eR, ← hem, Int.pow_succ] at hv
    rw [eR', eQ, ← hv]
    obtain ⟨P, hP⟩ : ∃ P : Int, P = 1000000000 ^ a := ⟨_, rfl⟩
    rw [← hP]
    grind
  · rw [laid_drop (by omega), hT, nval_append, hT, hz, Int.mul_zero, Int.add_zero, hTv]
    exact Int.emod_lt_of_pos _ dpos
theorem dinv_end {x y f : Int} {la nq : Nat} {R Q : List Int} (h : DInv (f * x) (f * y) la nq R Q 0) (f0 : 0 < f) : nval Q = x / y ∧ nval R / f = x % y := by
  have hv := h.val
  have hlt := h.lt
  rw [List.drop_zero] at hv hlt
  have r0 := nval_nonneg h.rk
  obtain ⟨q, hq⟩ : ∃ q, q = nval Q := ⟨_, rfl⟩
  obtain ⟨r, hr⟩ : ∃ r, r = nval R := ⟨_, rfl⟩
  rw [← hq, ← hr] at hv ⊢
  rw [← hr] at r0 hlt
  have e : r = f * (x - q * y) := by
    have : q * (f * y) * 1000000000 ^ 0 + r = f * x := hv
    rw [Int.pow_zero, Int.mul_one] at this
    grind
  rw [e] at r0 hlt ⊢
  have a0 : 0 ≤ x - q * y := by
    rcases Int.lt_or_le (x - q * y) 0 with h | h
    · have : f * (x - q * y) ≤ f * (-1) := Int.mul_le_mul_of_nonneg_left (by omega) (Int.le_of_lt f0)
      omega
    · exact h
  have a1 : x - q * y < y := Int.lt_of_mul_lt_mul_left hlt (Int.le_of_lt f0)
  rw [Int.mul_ediv_cancel_left _ (by omega)]
  have hx : x = (x - q * y) + q * y := by omega
  constructor
  · rw [hx, Int.add_mul_ediv_right _ _ (by omega), Int.ediv_eq_zero_of_lt a0 a1]
    have : x - q * y + q * y - q * y = x - q * y := by omega
    omega
  · have h2 : x % y = ((x - q * y) + q * y) % y := by rw [← hx]
    rw [h2, Int.add_mul_emod_self_right, Int.emod_eq_of_lt a0 a1]
#print axioms dinv_step
#print axioms dinv_end
end Go.Proofs.YtmbpcjnlniidkaaDoor
