/- Several texts in one: NatV2, NatV3, NatV4, NatV5, NatW5, NatX, NatX2, NatX3, NatZ1, NatZ2, NatZ3, NatZ4, NatZ6, NatZ7, NatY, NatY2, NatY3. -/
import Derived.Test.YtihklpkpcnahkaaPk13
/- The contract of nat.takeOff: the walk. -/
namespace Go.Proofs.Ytihklpkpcnahkaa
open Go.ChangeShapes Go.WideShapes Go.RowKit
set_option linter.unusedVariables false
set_option maxRecDepth 100000

theorem Only.drewN {g : Nat} {a w : World} (h : Only g a w) (n : Nat) : Only g a (w.drewN n) := h.trans ⟨rfl, rfl, rfl, rfl, fun _ _ => rfl⟩

theorem laid_laid {Z D E : List Int} {off : Nat} (h : off + D.length ≤ Z.length) (he : E.length = D.length) : laid (laid Z off D) off E = laid Z off E := by
  have h1 : (laid Z off D).take off = Z.take off := by
    unfold laid; rw [List.take_left' (by rw [List.length_take]; omega)]
  have h2 : (laid Z off D).drop (off + D.length) = Z.drop (off + D.length) := by
    unfold laid
    rw [← List.append_assoc, List.drop_left' (by rw [List.length_append, List.length_take]; omega)]
  unfold laid at h1 h2 ⊢
  rw [he, h1, h2]
end Go.Proofs.Ytihklpkpcnahkaa
/- The contract of nat.divided. -/
namespace Go.Proofs.Ytihklpkpcnahkaa
open Go.ChangeShapes Go.WideShapes Go.RowKit
set_option linter.unusedVariables false
set_option maxRecDepth 100000

theorem divd_step {Q zs : List Int} {j : Nat} {z r n : Int} (hj : j < Q.length) (hz : zs[j]? = some z) (hn : 0 < n) (hv : nval (Q.drop (j + 1)) * n + r = nval (zs.drop (j + 1))) :
    nval ((Q.set j ((r * 1000000000 + z) / n)).drop j) * n + (r * 1000000000 + z) % n = nval (zs.drop j) := by
  have e1 : (Q.set j ((r * 1000000000 + z) / n))[j]? = some ((r * 1000000000 + z) / n) := List.getElem?_set_self hj
  rw [nval_drop_step e1, nval_drop_step hz, drop_set_above (by omega), ← hv, Int.add_mul, Int.mul_assoc]
  have e := Int.emod_add_mul_ediv (r * 1000000000 + z) n
  rw [Int.mul_comm ((r * 1000000000 + z) / n) n]
  omega
theorem divd_bd {z r n : Int} (hn : 0 < n) (h0 : 0 ≤ r) (h1 : r < n) (z0 : 0 ≤ z) (z1 : z < 1000000000) : 0 ≤ (r * 1000000000 + z) / n ∧ (r * 1000000000 + z) / n < 1000000000 ∧ 0 ≤ (r * 1000000000 + z) % n ∧ (r * 1000000000 + z) % n < n := by
  refine ⟨Int.ediv_nonneg (by omega) (by omega), ?_, Int.emod_nonneg _ (by omega), Int.emod_lt_of_pos _ hn⟩
  rw [Int.ediv_lt_iff_lt_mul hn]
  have : 1000000000 * (r + 1) ≤ 1000000000 * n := Int.mul_le_mul_of_nonneg_left (by omega) (by omega)
  omega
theorem divd_end {V W r n : Int} (hn : 0 < n) (h0 : 0 ≤ r) (h1 : r < n) (h : W * n + r = V) : W = V / n := by
  rw [← h, Int.add_comm, Int.add_mul_ediv_right _ _ (by omega), Int.ediv_eq_zero_of_lt h0 h1, Int.zero_add]

end Go.Proofs.Ytihklpkpcnahkaa
/- Long division: the arithmetic. No walk. -/
namespace Go.Proofs.Ytihklpkpcnahkaa
open Go.ChangeShapes Go.WideShapes Go.RowKit
set_option linter.unusedVariables false
set_option maxRecDepth 100000

theorem fac_bd {b : Int} (h0 : 0 < b) (h1 : b < 1000000000) : 1 ≤ 1000000000 / (b + 1) ∧ 1000000000 / (b + 1) < 1000000000 ∧ 1000000000 / (b + 1) * (b + 1) ≤ 1000000000 := by
  refine ⟨?_, ?_, Int.ediv_mul_le _ (by omega)⟩
  · rw [Int.le_ediv_iff_mul_le (by omega)]; omega
  · rw [Int.ediv_lt_iff_lt_mul (by omega)]; omega
theorem top_ge {ys : List Int} {l : Nat} {b : Int} (hy : lok ys = true) (hl : ys.length = l + 1) (hb : ys[l]? = some b) (h0 : 0 < b) : 1000000000 ^ l ≤ nval ys ∧ nval ys < (b + 1) * 1000000000 ^ l := by
  have e := nval_top1 hl hb
  have s0 := nval_nonneg (lok_take hy l)
  have s1 := nval_lt (lok_take hy l)
  rw [List.length_take, Nat.min_eq_left (by omega)] at s1
  have p := pow_pos' l
  obtain ⟨P, hP⟩ : ∃ P : Int, P = 1000000000 ^ l := ⟨_, rfl⟩
  rw [← hP] at e s1 p ⊢
  have m : P * 1 ≤ P * b := Int.mul_le_mul_of_nonneg_left (by omega) (Int.le_of_lt p)
  have m2 : (b + 1) * P = P * b + P := by rw [Int.add_mul, Int.one_mul, Int.mul_comm]
  omega
/-- The dividend, times the factor. -/
theorem rest_ok {xs : List Int} {f : Int} (hx : lok xs = true) (f0 : 0 ≤ f) (f1 : f < 1000000000) :
    lok (addT (List.replicate (xs.length + 1) 0) xs f 0) = true ∧ nval (addT (List.replicate (xs.length + 1) 0) xs f 0) = f * nval xs := by
  have hv : nval (addT (List.replicate (xs.length + 1) 0) xs f 0) = f * nval xs := by rw [addT_val _ _ _ _ (by simp), nval_zeros]; omega
  have x0 := nval_nonneg hx
  have x1 := nval_lt hx
  refine ⟨lok_of_dropLast ?_ (addT_lok _ _ _ _) (by rw [hv]; exact Int.mul_nonneg f0 x0) ?_, hv⟩
  · intro h; have := addT_length (List.replicate (xs.length + 1) 0) xs f 0; rw [h] at this; simp at this
  · rw [hv, addT_length, List.length_replicate, Int.pow_succ]
    have : f * nval xs ≤ 999999999 * nval xs := Int.mul_le_mul_of_nonneg_right (by omega) x0
    omega
/-- The divisor, times the factor, has no limb more. -/
theorem divisor_ok {ys D0 : List Int} {l : Nat} {b f : Int} (hy : lok ys = true) (hl : ys.length = l + 1) (hb : ys[l]? = some b) (h0 : 0 < b) (f0 : 1 ≤ f) (hf : f * (b + 1) ≤ 1000000000)
    (hk : lok D0 = true) (hv : nval D0 = f * nval ys) (hD : D0.length = l + 2) :
    (D0.take (l + 1)).length = l + 1 ∧ lok (D0.take (l + 1)) = true ∧ nval (D0.take (l + 1)) = f * nval ys ∧ ∃ d, (D0.take (l + 1))[l]? = some d ∧ 0 < d := by
  have t := top_ge hy hl hb h0
  have hlen : (D0.take (l + 1)).length = l + 1 := by rw [List.length_take]; omega
  have hok := lok_take hk (l + 1)
  have e := nval_append (D0.take (l + 1)) (D0.drop (l + 1))
  rw [List.take_append_drop, hlen, hv] at e
  have s0 := nval_nonneg hok
  have u0 := nval_nonneg (lok_drop hk (l + 1))
  have p := pow_pos' (l + 1)
  have p' := pow_pos' l
  have hlt : f * nval ys < 1000000000 ^ (l + 1) := by
    have m1 : f * nval ys < f * ((b + 1) * 1000000000 ^ l) := Int.mul_lt_mul_of_pos_left t.2 (by omega)
    have m2 : f * (b + 1) * 1000000000 ^ l ≤ 1000000000 * 1000000000 ^ l := Int.mul_le_mul_of_nonneg_right hf (Int.le_of_lt p')
    rw [Int.mul_assoc] at m2
    rw [Int.pow_succ]; omega
  have hz : nval (D0.drop (l + 1)) = 0 := by
    rcases Int.lt_or_eq_of_le u0 with h | h
    · have : (1000000000 : Int) ^ (l + 1) * 1 ≤ 1000000000 ^ (l + 1) * nval (D0.drop (l + 1)) := Int.mul_le_mul_of_nonneg_left (by omega) (Int.le_of_lt p)
      omega
    · exact h.symm
  rw [hz, Int.mul_zero, Int.add_zero] at e
  refine ⟨hlen, hok, e.symm, ?_⟩
  obtain ⟨d, hd⟩ : ∃ d, (D0.take (l + 1))[l]? = some d := ⟨_, List.getElem?_eq_getElem (by omega)⟩
  refine ⟨d, hd, ?_⟩
  have d0 := (lok_at hok hd).1
  rcases Int.lt_or_eq_of_le d0 with h | h
  · exact h
  · exfalso
    have e2 := nval_top1 hlen hd
    have s1 := nval_lt (lok_take hok l)
    rw [List.length_take, Nat.min_eq_left (by omega)] at s1
    rw [← h, Int.mul_zero, Int.add_zero] at e2
    have m : 1 * nval ys ≤ f * nval ys := Int.mul_le_mul_of_nonneg_right f0 (by omega)
    omega

/-- The state of the division with t limbs of the quotient to come. -/
structure DInv (X Dv : Int) (la nq : Nat) (R Q : List Int) (t : Nat) : Prop where
  rl : R.length = la + 1
  rk : lok R = true
  ql : Q.length = nq
  qk : lok Q = true
  val : nval (Q.drop t) * Dv * 1000000000 ^ t + nval R = X
  lt : nval (R.drop t) < Dv
theorem dinv_start {xs ys R0 : List Int} {l nq : Nat} {b f : Int} (hx : lok xs = true) (hy : lok ys = true) (hl : ys.length = l + 1) (hb : ys[l]? = some b) (h0 : 0 < b) (f0 : 1 ≤ f)
    (hR : R0.length = xs.length + 1) (hRk : lok R0 = true) (hRv : nval R0 = f * nval xs) (hn : nq + l = xs.length) : DInv (f * nval xs) (f * nval ys) xs.length nq R0 (List.replicate nq 0) nq := by
  refine ⟨hR, hRk, by simp, lok_zeros _, ?_, ?_⟩
  · rw [List.drop_replicate, nval_zeros, hRv]; simp
  · have e := nval_append (R0.take nq) (R0.drop nq)
    rw [List.take_append_drop, List.length_take, Nat.min_eq_left (by omega), hRv] at e
    have s0 := nval_nonneg (lok_take hRk nq)
    have x1 := nval_lt hx
    have t := top_ge hy hl hb h0
    have p := pow_pos' nq
    have e2 : (1000000000 : Int) ^ xs.length = 1000000000 ^ nq * 1000000000 ^ l := by rw [← hn, Int.pow_add]
    have m1 : f * nval xs < f * (1000000000 ^ nq * 1000000000 ^ l) := by rw [← e2]; exact Int.mul_lt_mul_of_pos_left x1 (by omega)
    have m2 : f * 1000000000 ^ l ≤ f * nval ys := Int.mul_le_mul_of_nonneg_left t.1 (by omega)
    have m3 : (1000000000 : Int) ^ nq * nval (R0.drop nq) < 1000000000 ^ nq * (f * 1000000000 ^ l) := by
      have : f * ((1000000000 : Int) ^ nq * 1000000000 ^ l) = 1000000000 ^ nq * (f * 1000000000 ^ l) := by rw [Int.mul_left_comm]
      omega
    have := Int.lt_of_mul_lt_mul_left m3 (Int.le_of_lt p)
    omega
theorem laid_drop {Z D : List Int} {off : Nat} (h : off ≤ Z.length) : (laid Z off D).drop off = D ++ Z.drop (off + D.length) := by
  unfold laid; rw [List.drop_left' (by rw [List.length_take]; omega)]
theorem dinv_win {X Dv : Int} {la nq l a : Nat} {R Q D : List Int} (h : DInv X Dv la nq R Q (a + 1)) (ha : a + (l + 2) ≤ la + 1) (hD : lok D = true) (hDl : D.length = l + 1) (hDv : nval D = Dv) :
    nval (win R a (l + 2)) < 1000000000 * Dv ∧ nval (R.drop (a + (l + 2))) = 0 := by
  have e1 := nval_drop_getD R a
  have e2 : R.drop a = win R a (l + 2) ++ R.drop (a + (l + 2)) := by unfold win; rw [← List.drop_drop, List.take_append_drop]
  have hw : (win R a (l + 2)).length = l + 2 := win_length (by rw [h.rl]; exact ha)
  have e3 := congrArg nval e2
  rw [nval_append, hw] at e3
  have r0 := lok_getD h.rk a
  have w0 := nval_nonneg (lok_take (lok_drop h.rk a) (l + 2))
  have u0 := nval_nonneg (lok_drop h.rk (a + (l + 2)))
  have hlt := h.lt
  have d1 := nval_lt hD
  rw [hDl, hDv] at d1
  have p := pow_pos' (l + 2)
  have hlt2 : nval (R.drop a) < 1000000000 * Dv := by omega
  have hp := Int.mul_nonneg (Int.le_of_lt p) u0
  refine ⟨by change 0 ≤ nval (win R a (l + 2)) at w0; omega, ?_⟩
  rcases Int.lt_or_eq_of_le u0 with h2 | h2
  · exfalso
    have : (1000000000 : Int) ^ (l + 2) * 1 ≤ 1000000000 ^ (l + 2) * nval (R.drop (a + (l + 2))) := Int.mul_le_mul_of_nonneg_left (by omega) (Int.le_of_lt p)
    have e4 : (1000000000 : Int) ^ (l + 2) = 1000000000 * 1000000000 ^ (l + 1) := by rw [Int.pow_succ, Int.mul_comm]
    change 0 ≤ nval (win R a (l + 2)) at w0
    omega
  · exact h2.symm
theorem dinv_step {X Dv q : Int} {la nq l a : Nat} {R Q T D : List Int} (h : DInv X Dv la nq R Q (a + 1)) (ha : a + (l + 2) ≤ la + 1) (haq : a < nq) (hD : lok D = true) (hDl : D.length = l + 1) (hDv : nval D = Dv) (dpos : 0 < Dv)
    (hq : q = nval (win R a (l + 2)) / Dv) (hT : T.length = l + 2) (hTk : lok T = true) (hTv : nval T = nval (win R a (l + 2)) % Dv) :
    DInv X Dv la nq (laid R a T) (Q.set a q) a ∧ 0 ≤ q ∧ q < 1000000000 := by
  obtain ⟨hw, hz⟩ := dinv_win h ha hD hDl hDv
  have w0 := nval_nonneg (lok_take (lok_drop h.rk a) (l + 2))
  change 0 ≤ nval (win R a (l + 2)) at w0
  have q0 : 0 ≤ q := by rw [hq]; exact Int.ediv_nonneg w0 (Int.le_of_lt dpos)
  have q1 : q < 1000000000 := by rw [hq, Int.ediv_lt_iff_lt_mul dpos]; exact hw
  have hal : a + (l + 2) ≤ R.length := by rw [h.rl]; exact ha
  have eR := win_split hal
  have eR' := laid_split hal hT
  rw [hz, Int.mul_zero, Int.add_zero] at eR eR'
  have eQ : nval ((Q.set a q).drop a) = q + 1000000000 * nval (Q.drop (a + 1)) := by
    rw [nval_drop_step (List.getElem?_set_self (by rw [h.ql]; exact haq)), drop_set_above (by omega)]
  have hem := Int.emod_add_mul_ediv (nval (win R a (l + 2))) Dv
  rw [← hq, ← hTv] at hem
  refine ⟨⟨by rw [laid_length (by rw [hT]; exact hal)]; exact h.rl, laid_lok h.rk hTk, by rw [List.length_set]; exact h.ql, lok_set h.qk _ q0 q1, ?_, ?_⟩, q0, q1⟩
  · have hv := h.val
    rw [eR, ← hem, Int.pow_succ] at hv
    rw [eR', eQ, ← hv]
    obtain ⟨P, hP⟩ : ∃ P : Int, P = 1000000000 ^ a := ⟨_, rfl⟩
    rw [← hP]
    grind
  · rw [laid_drop (by omega), hT, nval_append, hT, hz, Int.mul_zero, Int.add_zero, hTv]
    exact Int.emod_lt_of_pos _ dpos
theorem dinv_end {x y f : Int} {la nq : Nat} {R Q : List Int} (h : DInv (f * x) (f * y) la nq R Q 0) (f0 : 0 < f) : nval Q = x / y ∧ nval R / f = x % y := by
  have hv := h.val
  have hlt := h.lt
  rw [List.drop_zero] at hv hlt
  have r0 := nval_nonneg h.rk
  obtain ⟨q, hq⟩ : ∃ q, q = nval Q := ⟨_, rfl⟩
  obtain ⟨r, hr⟩ : ∃ r, r = nval R := ⟨_, rfl⟩
  rw [← hq, ← hr] at hv ⊢
  rw [← hr] at r0 hlt
  have e : r = f * (x - q * y) := by
    have : q * (f * y) * 1000000000 ^ 0 + r = f * x := hv
    rw [Int.pow_zero, Int.mul_one] at this
    grind
  rw [e] at r0 hlt ⊢
  have a0 : 0 ≤ x - q * y := by
    rcases Int.lt_or_le (x - q * y) 0 with h | h
    · have : f * (x - q * y) ≤ f * (-1) := Int.mul_le_mul_of_nonneg_left (by omega) (Int.le_of_lt f0)
      omega
    · exact h
  have a1 : x - q * y < y := Int.lt_of_mul_lt_mul_left hlt (Int.le_of_lt f0)
  rw [Int.mul_ediv_cancel_left _ (by omega)]
  have hx : x = (x - q * y) + q * y := by omega
  constructor
  · rw [hx, Int.add_mul_ediv_right _ _ (by omega), Int.ediv_eq_zero_of_lt a0 a1]
    have : x - q * y + q * y - q * y = x - q * y := by omega
    omega
  · have h2 : x % y = ((x - q * y) + q * y) % y := by rw [← hx]
    rw [h2, Int.add_mul_emod_self_right, Int.emod_eq_of_lt a0 a1]
end Go.Proofs.Ytihklpkpcnahkaa
/- The contract of nat.divide of long numbers. -/
namespace Go.Proofs.Ytihklpkpcnahkaa
open Go.ChangeShapes Go.WideShapes Go.RowKit
set_option linter.unusedVariables false
set_option maxRecDepth 100000

theorem bjoin {w0 w1 w2 : World} (h : Below w0.heap.size w0 w1) (k : Below w1.heap.size w1 w2) : Below w0.heap.size w0 w2 := h.trans (k.mono h.size)

end Go.Proofs.Ytihklpkpcnahkaa
/- The contract of nat.DivMod; the walk of NatDivides. -/
namespace Go.Proofs.Ytihklpkpcnahkaa
open Go.ChangeShapes Go.WideShapes Go.RowKit
set_option linter.unusedVariables false
set_option maxRecDepth 100000

theorem top_pos {ys : List Int} {l : Nat} {b : Int} (hy : nrm ys = true) (hl : ys.length = l + 1) (hb : ys[l]? = some b) : 0 < b := by
  have h := nrm_lok hy
  have b0 := lok_at h hb
  rcases Int.lt_or_eq_of_le b0.1 with h1 | h1
  · exact h1
  · exfalso
    subst h1
    have : ys.getLast? = some 0 := by rw [List.getLast?_eq_getElem?, hl]; exact hb
    simp [nrm, this] at hy
theorem valid_lt {xs : List Int} (h : validB xs = true) : (nval xs).toNat < 1000000000 ^ 48 := limbs_len_le.mp (by rw [← nrm_limbs (valid_nrm h)]; exact valid_len h)
theorem valid_limbs {n : Nat} (h : n < 1000000000 ^ 48) : validB (limbs n) = true := validB_iff.mpr ⟨limbs_len_le.mpr h, nrm_of_limbs _⟩
theorem fit_ok {n : Nat} (h : n < 1000000000 ^ 48) : fitN n = n ∧ fitE n = 0 := ⟨if_pos h, if_pos h⟩

/-- What the law's calls return, of valid numbers, the second not zero. -/
theorem dvd_facts {xs ys : List Int} (hx : validB xs = true) (hy : validB ys = true) (hp : 0 < ys.length) :
    divE xs ys = 0 ∧ mulV (limbs (quoN xs ys)) ys = quoN xs ys * (nval ys).toNat ∧ mulE (limbs (quoN xs ys)) ys = 0 ∧ mulV ys (limbs (quoN xs ys)) = quoN xs ys * (nval ys).toNat ∧ mulE ys (limbs (quoN xs ys)) = 0 ∧
    limbs (addV (limbs (quoN xs ys * (nval ys).toNat)) (limbs (remN xs ys))) = xs ∧ addE (limbs (quoN xs ys * (nval ys).toNat)) (limbs (remN xs ys)) = 0 ∧
    cmpV (limbs (remN xs ys)) ys = -1 ∧ formE (limbs (remN xs ys)) ys = 0 := by
  have he : ys.isEmpty = false := by cases ys with
    | nil => simp at hp
    | cons a l => rfl
  have hb : both xs ys = true := by rw [both, hx, hy]; rfl
  have hok : divOk xs ys = true := by rw [divOk, hb, he]; rfl
  have eq : quoN xs ys = (nval xs).toNat / (nval ys).toNat := by rw [quoN, hok, if_pos rfl]
  have er : remN xs ys = (nval xs).toNat % (nval ys).toNat := by rw [remN, hok, if_pos rfl]
  have yp := nval_pos (valid_nrm hy) hp
  have x0 := nval_nonneg (valid_lok hx)
  have hxl := valid_lt hx
  have hyl := valid_lt hy
  have M0 : 0 < (nval ys).toNat := by omega
  have hq1 : quoN xs ys ≤ (nval xs).toNat := by rw [eq]; exact Nat.div_le_self _ _
  have hqm : quoN xs ys * (nval ys).toNat ≤ (nval xs).toNat := by rw [eq]; exact Nat.div_mul_le_self _ _
  have hr1 : remN xs ys < (nval ys).toNat := by rw [er]; exact Nat.mod_lt _ M0
  have hsum : quoN xs ys * (nval ys).toNat + remN xs ys = (nval xs).toNat := by rw [eq, er, Nat.mul_comm]; exact Nat.div_add_mod _ _
  have vq : validB (limbs (quoN xs ys)) = true := valid_limbs (Nat.lt_of_le_of_lt hq1 hxl)
  have vr : validB (limbs (remN xs ys)) = true := valid_limbs (Nat.lt_trans hr1 hyl)
  have vp : validB (limbs (quoN xs ys * (nval ys).toNat)) = true := valid_limbs (Nat.lt_of_le_of_lt hqm hxl)
  have fp := fit_ok (Nat.lt_of_le_of_lt hqm hxl)
  have ey : nval ys = ((nval ys).toNat : Int) := by omega
  have p1 : (nval (limbs (quoN xs ys)) * nval ys).toNat = quoN xs ys * (nval ys).toNat := by rw [nval_limbs]; conv => lhs; rw [ey, ← Int.natCast_mul, Int.toNat_natCast]
  have p2 : (nval ys * nval (limbs (quoN xs ys))).toNat = quoN xs ys * (nval ys).toNat := by rw [Int.mul_comm]; exact p1
  have p3 : (nval (limbs (quoN xs ys * (nval ys).toNat)) + nval (limbs (remN xs ys))).toNat = (nval xs).toNat := by rw [nval_limbs, nval_limbs]; omega
  have fx := fit_ok hxl
  refine ⟨by rw [divE, hb, he]; rfl, ?_, ?_, ?_, ?_, ?_, ?_, ?_, ?_⟩
  · rw [mulV, both, vq, hy, p1]; exact fp.1
  · rw [mulE, both, vq, hy, p1]; exact fp.2
  · rw [mulV, both, vq, hy, p2]; exact fp.1
  · rw [mulE, both, vq, hy, p2]; exact fp.2
  · rw [addV, both, vp, vr, p3]
    show limbs (fitN (nval xs).toNat) = xs
    rw [fx.1]; exact (nrm_limbs (valid_nrm hx)).symm
  · rw [addE, both, vp, vr, p3]; exact fx.2
  · rw [cmpV, both, vr, hy]
    show cmpI (nval (limbs (remN xs ys))) (nval ys) = -1
    rw [nval_limbs]; exact cmpI_lt (by omega)
  · rw [formE, both, vr, hy]; rfl
/-- Sub undoes Add. -/
theorem undo_facts {xs ys : List Int} (hx : validB xs = true) (hy : validB ys = true) :
    addE xs ys = 2 ∨ (addE xs ys = 0 ∧ subE (limbs (addV xs ys)) ys = 0 ∧ limbs (subV (limbs (addV xs ys)) ys) = xs) := by
  have hb : both xs ys = true := by rw [both, hx, hy]; rfl
  have x0 := nval_nonneg (valid_lok hx)
  have y0 := nval_nonneg (valid_lok hy)
  by_cases h : (nval xs + nval ys).toNat < 1000000000 ^ 48
  · right
    have f := fit_ok h
    have ea : addV xs ys = (nval xs + nval ys).toNat := by rw [addV, hb, if_pos rfl]; exact f.1
    have vt : validB (limbs (addV xs ys)) = true := by rw [ea]; exact valid_limbs h
    have hv : nval (limbs (addV xs ys)) = nval xs + nval ys := by rw [nval_limbs, ea]; omega
    have e1 : (nval xs + nval ys - nval ys).toNat = (nval xs).toNat := by omega
    have fx := fit_ok (valid_lt hx)
    refine ⟨by rw [addE, hb, if_pos rfl]; exact f.2, ?_, ?_⟩
    · rw [subE, both, vt, hy, hv]
      show (if nval xs + nval ys < nval ys then (1 : Int) else fitE (nval xs + nval ys - nval ys).toNat) = 0
      rw [if_neg (by omega), e1]; exact fx.2
    · rw [subV, both, vt, hy, hv]
      show limbs (if nval xs + nval ys < nval ys then 0 else fitN (nval xs + nval ys - nval ys).toNat) = xs
      rw [if_neg (by omega), e1, fx.1]; exact (nrm_limbs (valid_nrm hx)).symm
  · left; rw [addE, hb, if_pos rfl]; exact if_neg h

end Go.Proofs.Ytihklpkpcnahkaa
/- Contracts of digit and DivMod of the reference. -/
namespace Go.Proofs.Ytihklpkpcnahkaa
open Go.ChangeShapes Go.WideShapes Go.RowKit
set_option linter.unusedVariables false
set_option maxRecDepth 100000

theorem cmp_le {x y : Int} (h : x ≤ y) : cmpI x y ≤ 0 := by
  rcases Int.lt_or_eq_of_le h with h | h
  · rw [cmpI_lt h]; decide
  · rw [h, cmpI_eq]; decide
theorem prod_len {ys : List Int} {m : Int} (hy : lok ys = true) (hl : ys.length ≤ 100) (m0 : 0 ≤ m) (m1 : m < 1000000000) : (limbs (nval ys * m).toNat).length ≤ 200 := by
  refine limbs_len_le.mpr ?_
  have a := nval_lt hy
  have a0 := nval_nonneg hy
  have h1 : nval ys * m ≤ nval ys * 1000000000 := Int.mul_le_mul_of_nonneg_left (by omega) a0
  have h2 : (1000000000 : Int) ^ (ys.length + 1) ≤ 1000000000 ^ 200 := pow_le_pow' (by omega)
  rw [Int.pow_succ] at h2
  have h3 : nval ys * m < ((1000000000 ^ 200 : Nat) : Int) := by
    rw [Int.natCast_pow]
    have : ((1000000000 : Nat) : Int) = 1000000000 := rfl
    rw [this]
    refine Int.lt_of_le_of_lt h1 (Int.lt_of_lt_of_le ?_ h2)
    exact Int.mul_lt_mul_of_pos_right a (by decide)
  exact (Int.toNat_lt (Int.mul_nonneg a0 m0)).mpr h3

theorem own_lit (w : World) (z : Int) : (w.alloc (.cells #[.int .i64 z] 3)).ownsRow w.heap.size 3 1 (.slice (some ⟨w.heap.size, 0, none⟩) 1 1) ([z] : List Int).length (([z] : List Int).map (Value.int .i64)) :=
  World.ownsRow_lit (base := w.heap.size) (e := 3) (size := 1) w #[.int .i64 z] 1 (Nat.le_refl _) (by unfold maxLen; omega) rfl
/-- The state of the reference's division, t limbs to come. -/
structure RInv (X Y : Int) (Q : List Int) (n : Nat) (xs : List Int) (t : Nat) (r : Nat) : Prop where
  ql : Q.length = n
  qk : lok Q = true
  quo : nval (Q.drop t) = nval (xs.drop t) / Y
  rem : (r : Int) = nval (xs.drop t) % Y
theorem rinv_step {X Y q : Int} {Q xs : List Int} {n a r : Nat} {z : Int} (h : RInv X Y Q n xs (a + 1) r) (hz : xs[a]? = some z) (z0 : 0 ≤ z) (z1 : z < 1000000000) (hk : lok xs = true) (ha : a < n) (yp : 0 < Y)
    (hq : q = (z + 1000000000 * r) / Y) : RInv X Y (Q.set a q) n xs a ((z + 1000000000 * r) % Y).toNat ∧ 0 ≤ q ∧ q < 1000000000 := by
  have r0 : (r : Int) < Y := by rw [h.rem]; exact Int.emod_lt_of_pos _ yp
  have hnn : 0 ≤ z + 1000000000 * (r : Int) := by omega
  have q0 : 0 ≤ q := by rw [hq]; exact Int.ediv_nonneg hnn (Int.le_of_lt yp)
  have q1 : q < 1000000000 := by
    rw [hq, Int.ediv_lt_iff_lt_mul yp]
    have : 1000000000 * ((r : Int) + 1) ≤ 1000000000 * Y := Int.mul_le_mul_of_nonneg_left (by omega) (by omega)
    omega
  have eV : nval (xs.drop a) = (z + 1000000000 * r) + (1000000000 * nval (Q.drop (a + 1))) * Y := by
    rw [nval_drop_step hz]
    have e := Int.emod_add_mul_ediv (nval (xs.drop (a + 1))) Y
    rw [← h.rem, ← h.quo] at e
    rw [← e]
    grind
  have m0 : 0 ≤ (z + 1000000000 * (r : Int)) % Y := Int.emod_nonneg _ (by omega)
  refine ⟨⟨by rw [List.length_set]; exact h.ql, lok_set h.qk _ q0 q1, ?_, ?_⟩, q0, q1⟩
  · rw [nval_drop_step (List.getElem?_set_self (by rw [h.ql]; exact ha)), drop_set_above (by omega), eV, Int.add_mul_ediv_right _ _ (by omega), hq]
  · rw [eV, Int.add_mul_emod_self_right]; omega

/-- The new remainder's list: one limb more, or none. -/
theorem limbs_cons {z : Int} {r : Nat} (z0 : 0 ≤ z) (z1 : z < 1000000000) (h : ¬ (z = 0 ∧ r = 0)) : limbs (z + 1000000000 * r).toNat = z :: limbs r := by
  have e : (z + 1000000000 * (r : Int)).toNat = z.toNat + 1000000000 * r := by omega
  rw [e, limbs_step z0 z1 (by omega)]
theorem last_ne {z : Int} {r : Nat} (z0 : 0 ≤ z) (z1 : z < 1000000000) (h : ¬ (z = 0 ∧ r = 0)) : ∃ y, (z :: limbs r)[(limbs r).length]? = some y ∧ y ≠ 0 := by
  have hn := nrm_of_limbs (z + 1000000000 * r).toNat
  rw [limbs_cons z0 z1 h] at hn
  obtain ⟨y, hy⟩ : ∃ y, (z :: limbs r)[(limbs r).length]? = some y := ⟨_, List.getElem?_eq_getElem (by simp)⟩
  refine ⟨y, hy, ?_⟩
  rintro rfl
  have : (z :: limbs r).getLast? = some 0 := by rw [List.getLast?_eq_getElem?]; simpa using hy
  simp [nrm, this] at hn
end Go.Proofs.Ytihklpkpcnahkaa
/- The contract of DivMod of the reference. -/
namespace Go.Proofs.Ytihklpkpcnahkaa
open Go.ChangeShapes Go.WideShapes Go.RowKit
set_option linter.unusedVariables false
set_option maxRecDepth 100000

def DmIn (w : World) (xs ys : List Int) (e : Ending) (w' : World) : Prop :=
  ∃ vq vr, e = .returned (.tuple #[vq, vr, .int .i64 (divE xs ys)]) ∧ In w' vq (limbs (quoN xs ys)) ∧ In w' vr (limbs (remN xs ys)) ∧ Below w.heap.size w w'
theorem DmIn.none {w w' : World} {xs ys : List Int} {k : Int} {e : Ending} (hq : divOk xs ys = false) (hk : divE xs ys = k) (h : e = .returned (.tuple #[.slice none 0 0, .slice none 0 0, .int .i64 k])) (hb : Below w.heap.size w w') : DmIn w xs ys e w' := by
  subst hk h
  refine ⟨_, _, rfl, ?_, ?_, hb⟩
  · rw [quoN, hq]; exact (by show In _ _ (limbs 0); rw [limbs_zero]; exact In.nil _)
  · rw [remN, hq]; exact (by show In _ _ (limbs 0); rw [limbs_zero]; exact In.nil _)
theorem append_prep {wr w5 : World} {z : Int} {L : List Int} {v' : Value} (hown : w5.ownsRow wr.heap.size 3 1 v' ([z] ++ L).length (([z] ++ L).map (Value.int .i64))) (hgrow : (wr.alloc (.cells #[.int .i64 z] 3)).grownBy w5 (some wr.heap.size)) :
    ∃ g cap, v' = .slice (some ⟨g, 0, none⟩) (L.length + 1) cap ∧ wr.heap.size ≤ g ∧ Row w5 g (z :: L) ∧ In w5 v' (z :: L) ∧ Below wr.heap.size wr w5 := by
  have hin := (sl_of_owns hown).toIn
  rcases row_of_owns hown with ⟨_, h⟩ | ⟨g, cap, h1, h2, h3, h4, h5⟩
  · simp at h
  · refine ⟨g, cap, ?_, h2, h5, hin, (below_alloc _ _).grown hgrow (by simp) (fun k hk => by simp at hk; omega)⟩
    rw [h1]; simp

theorem In.setCell {w : World} {g off n c : Nat} {zs : List Int} (h : In w (.slice (some ⟨g, off, none⟩) n c) zs) {p : Addr} (hp : p.block ≠ g) (u : Value) : In (w.setCell p u) (.slice (some ⟨g, off, none⟩) n c) zs := by
  obtain ⟨A, c', e, h1, h2, h3⟩ := h
  cases e
  refine ⟨_, _, rfl, h1, h2, fun k z hz => ?_⟩
  obtain ⟨b, off', hA, hlo, hhi, hc⟩ := h3 k z hz
  cases hA
  exact ⟨g, off, rfl, ⟨Nat.zero_le _, Or.inl rfl⟩, by simpa [World.setCell] using hhi, (World.cell?_of_block (w := w) (a := ⟨g, off + k, none⟩) (Below.heap_setCell w p u g (fun e => hp e.symm))).trans hc⟩
end Go.Proofs.Ytihklpkpcnahkaa
/- The contract of DivMod of the reference, for every input; the walk of NatQuotients. -/
namespace Go.Proofs.Ytihklpkpcnahkaa
open Go.ChangeShapes Go.WideShapes Go.RowKit
set_option linter.unusedVariables false
set_option maxRecDepth 100000

end Go.Proofs.Ytihklpkpcnahkaa
/- Lehmer's steps: the arithmetic. No walk. -/
namespace Go.Proofs.Ytihklpkpcnahkaa
open Go.ChangeShapes Go.WideShapes Go.RowKit
set_option linter.unusedVariables false
set_option maxRecDepth 100000

/-- The steps of Euclid's algorithm that two leading limbs foresee: (a, b; c, d) from (X, Y); u, v: what the leading limbs have become. -/
structure LInv (u0 v0 X Y : Int) (a b c d u v : Int) : Prop where
  eu : u = a * u0 + b * v0
  ev : v = c * u0 + d * v0
  sg : (a * d - b * c = 1 ∧ 0 ≤ a ∧ b ≤ 0 ∧ c ≤ 0 ∧ 0 ≤ d) ∨ (a * d - b * c = -1 ∧ a ≤ 0 ∧ 0 ≤ b ∧ 0 ≤ c ∧ d ≤ 0)
  bd : -1000000000 < a ∧ a < 1000000000 ∧ -1000000000 < b ∧ b < 1000000000 ∧ -1000000000 < c ∧ c < 1000000000 ∧ -1000000000 < d ∧ d < 1000000000
  nn : 0 ≤ u ∧ 0 ≤ v
  gc : Int.gcd (a * X + b * Y) (c * X + d * Y) = Int.gcd X Y
  st : (a = 1 ∧ b = 0 ∧ c = 0 ∧ d = 1) ∨ (1000000000 ≤ u ∧ v < u ∧ 0 ≤ c * X + d * Y ∧ c * X + d * Y < a * X + b * Y ∧ a * X + b * Y ≤ Y)
theorem linv_start {u0 v0 X Y : Int} (hu : 0 ≤ u0) (hv : 0 ≤ v0) : LInv u0 v0 X Y 1 0 0 1 u0 v0 :=
  ⟨by omega, by omega, Or.inl ⟨by omega, by omega, by omega, by omega, by omega⟩, by omega, ⟨hu, hv⟩, by simp, Or.inl ⟨rfl, rfl, rfl, rfl⟩⟩
theorem quo_le {x y m m' : Int} (hx : 0 ≤ x) (hxy : x ≤ y) (hm : 0 < m') (hmm : m' ≤ m) : x / m ≤ y / m' := by
  rw [Int.le_ediv_iff_mul_le hm]
  have h1 : x / m * m ≤ x := Int.ediv_mul_le _ (by omega)
  have h0 : 0 ≤ x / m := Int.ediv_nonneg hx (by omega)
  have h2 : x / m * m' ≤ x / m * m := Int.mul_le_mul_of_nonneg_left hmm h0
  omega
/-- The test: then it is the quotient of u and v. -/
theorem linv_quo {u0 v0 X Y a b c d u v q : Int} (h : LInv u0 v0 X Y a b c d u v) (hv : 1000000000 ≤ v) (h1 : q = (u + a) / (v + c)) (h2 : q = (u + b) / (v + d)) : q = u / v ∧ 0 ≤ q := by
  have bd := h.bd
  have nn := h.nn
  have hub : 0 ≤ u + b ∧ 0 ≤ u + a := by
    rcases h.st with ⟨rfl, rfl, rfl, rfl⟩ | st
    · omega
    · omega
  rcases h.sg with sg | sg
  · have e1 : (u + b) / (v + d) ≤ u / v := quo_le hub.1 (by omega) (by omega) (by omega)
    have e2 : u / v ≤ (u + a) / (v + c) := quo_le nn.1 (by omega) (by omega) (by omega)
    have e3 : 0 ≤ u / v := Int.ediv_nonneg nn.1 nn.2
    omega
  · have e1 : (u + a) / (v + c) ≤ u / v := quo_le hub.2 (by omega) (by omega) (by omega)
    have e2 : u / v ≤ (u + b) / (v + d) := quo_le nn.1 (by omega) (by omega) (by omega)
    have e3 : 0 ≤ u / v := Int.ediv_nonneg nn.1 nn.2
    omega
theorem le_mul {a x K : Int} (ha : 0 ≤ a) (hx : x ≤ K) : a * x ≤ a * K := Int.mul_le_mul_of_nonneg_left hx ha
theorem le_mul_neg {a x K : Int} (ha : a ≤ 0) (hx : x ≤ K) : a * K ≤ a * x := by
  have := Int.mul_le_mul_of_nonneg_left hx (show 0 ≤ -a by omega)
  rw [Int.neg_mul, Int.neg_mul] at this; omega
theorem nn_mul_neg {a x : Int} (ha : a ≤ 0) (hx : 0 ≤ x) : a * x ≤ 0 := by
  have := Int.mul_nonneg (show 0 ≤ -a by omega) hx
  rw [Int.neg_mul] at this; omega
/-- What q * Y' <= X' < (q + 1) * Y' is shown from. -/
theorem true_quo {K L1 M1 L2 M2 Xc Yc q : Int} (hK : 0 < K) (q0 : 0 ≤ q) (hX1 : K * L1 ≤ Xc) (hX2 : Xc ≤ K * M1) (hY1 : K * L2 ≤ Yc) (hY2 : Yc ≤ K * M2) (hq1 : q * M2 ≤ L1) (hq2 : M1 < (q + 1) * L2) :
    0 ≤ Xc - q * Yc ∧ Xc - q * Yc < Yc := by
  have a1 : q * Yc ≤ q * (K * M2) := Int.mul_le_mul_of_nonneg_left hY2 q0
  have a2 : K * (q * M2) ≤ K * L1 := Int.mul_le_mul_of_nonneg_left hq1 (Int.le_of_lt hK)
  have e1 : q * (K * M2) = K * (q * M2) := by rw [Int.mul_left_comm]
  have b1 : (q + 1) * (K * L2) ≤ (q + 1) * Yc := Int.mul_le_mul_of_nonneg_left hY1 (by omega)
  have b2 : K * M1 < K * ((q + 1) * L2) := Int.mul_lt_mul_of_pos_left hq2 hK
  have e2 : (q + 1) * (K * L2) = K * ((q + 1) * L2) := by rw [Int.mul_left_comm]
  have e3 : (q + 1) * Yc = q * Yc + Yc := by rw [Int.add_mul, Int.one_mul]
  omega
theorem lt_succ_mul {x m q : Int} (hm : 0 < m) (h : q = x / m) : x < (q + 1) * m := by
  have h1 := Int.emod_add_mul_ediv x m
  have h2 := Int.emod_lt_of_pos x hm
  rw [← h] at h1
  rw [Int.add_mul, Int.one_mul, Int.mul_comm q m]; omega
theorem mul_le_of_quo {x m q : Int} (hm : 0 < m) (h : q = x / m) : q * m ≤ x := by rw [h]; exact Int.ediv_mul_le _ (by omega)
theorem linv_step {u0 v0 X Y x0 y0 K a b c d u v q : Int} (h : LInv u0 v0 X Y a b c d u v) (hv : 1000000000 ≤ v) (h1 : q = (u + a) / (v + c)) (h2 : q = (u + b) / (v + d))
    (hX : X = K * u0 + x0) (hY : Y = K * v0 + y0) (hK : 0 < K) (x00 : 0 ≤ x0) (x01 : x0 ≤ K) (y00 : 0 ≤ y0) (y01 : y0 ≤ K) (hu0 : u0 < 1000000000000000000) (hv0 : v0 < 1000000000000000000) :
    LInv u0 v0 X Y c d (a - q * c) (b - q * d) v (u - q * v) := by
  obtain ⟨hq, q0⟩ := linv_quo h hv h1 h2
  have bd := h.bd
  have nn := h.nn
  have vp : 0 < v := by omega
  have hlo := mul_le_of_quo vp hq
  have hhi := lt_succ_mul vp hq
  rw [Int.add_mul, Int.one_mul] at hhi
  have eXc : a * X + b * Y = K * u + (a * x0 + b * y0) := by rw [hX, hY, h.eu]; grind
  have eYc : c * X + d * Y = K * v + (c * x0 + d * y0) := by rw [hX, hY, h.ev]; grind
  have eN : (a - q * c) * X + (b - q * d) * Y = (a * X + b * Y) - q * (c * X + d * Y) := by grind
  have htrue : 0 ≤ (a * X + b * Y) - q * (c * X + d * Y) ∧ (a * X + b * Y) - q * (c * X + d * Y) < c * X + d * Y := by
    rcases h.sg with ⟨_, s1, s2, s3, s4⟩ | ⟨_, s1, s2, s3, s4⟩
    · refine true_quo (K := K) (L1 := u + b) (M1 := u + a) (L2 := v + c) (M2 := v + d) hK q0 ?_ ?_ ?_ ?_ (mul_le_of_quo (by omega) h2) (lt_succ_mul (by omega) h1)
      · rw [eXc, Int.mul_add, Int.mul_comm K b]
        have := Int.mul_nonneg s1 x00
        have := le_mul_neg s2 y01
        omega
      · rw [eXc, Int.mul_add, Int.mul_comm K a]
        have := le_mul s1 x01
        have := nn_mul_neg s2 y00
        omega
      · rw [eYc, Int.mul_add, Int.mul_comm K c]
        have := le_mul_neg s3 x01
        have := Int.mul_nonneg s4 y00
        omega
      · rw [eYc, Int.mul_add, Int.mul_comm K d]
        have := nn_mul_neg s3 x00
        have := le_mul s4 y01
        omega
    · refine true_quo (K := K) (L1 := u + a) (M1 := u + b) (L2 := v + d) (M2 := v + c) hK q0 ?_ ?_ ?_ ?_ (mul_le_of_quo (by omega) h1) (lt_succ_mul (by omega) h2)
      · rw [eXc, Int.mul_add, Int.mul_comm K a]
        have := le_mul_neg s1 x01
        have := Int.mul_nonneg s2 y00
        omega
      · rw [eXc, Int.mul_add, Int.mul_comm K b]
        have := nn_mul_neg s1 x00
        have := le_mul s2 y01
        omega
      · rw [eYc, Int.mul_add, Int.mul_comm K d]
        have := Int.mul_nonneg s3 x00
        have := le_mul_neg s4 y01
        omega
      · rw [eYc, Int.mul_add, Int.mul_comm K c]
        have := le_mul s3 x01
        have := nn_mul_neg s4 y00
        omega
  have hYle : c * X + d * Y ≤ Y := by
    rcases h.st with ⟨rfl, rfl, rfl, rfl⟩ | st
    · omega
    · omega
  have eu' : v = c * u0 + d * v0 := h.ev
  have ev' : u - q * v = (a - q * c) * u0 + (b - q * d) * v0 := by
    have := h.eu
    rw [this, eu']; grind
  -- the new factors are less than Limb
  have e3 : (b - q * d) * v - d * (u - q * v) = b * v - d * u := by grind
  have e4 : c * (u - q * v) - (a - q * c) * v = c * u - a * v := by grind
  have f1 : d * u - b * v = (a * d - b * c) * u0 := by rw [h.eu, h.ev]; grind
  have f2 : a * v - c * u = (a * d - b * c) * v0 := by rw [h.eu, h.ev]; grind
  have w0 : 0 ≤ u - q * v := by omega
  have w1 : u - q * v < v := by omega
  obtain ⟨C, hC⟩ : ∃ C, C = a - q * c := ⟨_, rfl⟩
  obtain ⟨D, hD⟩ : ∃ D, D = b - q * d := ⟨_, rfl⟩
  obtain ⟨V, hV⟩ : ∃ V, V = u - q * v := ⟨_, rfl⟩
  rw [← hC] at e4 eN ev'
  rw [← hD] at e3 eN ev'
  rw [← hV] at e3 e4 ev' w0 w1
  rw [← hC, ← hD, ← hV]
  have sgn : (c * D - d * C = 1 ∧ 0 ≤ c ∧ d ≤ 0 ∧ C ≤ 0 ∧ 0 ≤ D) ∨ (c * D - d * C = -1 ∧ c ≤ 0 ∧ 0 ≤ d ∧ 0 ≤ C ∧ D ≤ 0) := by
    have ed : c * D - d * C = -(a * d - b * c) := by rw [hC, hD]; grind
    rcases h.sg with ⟨s0, s1, s2, s3, s4⟩ | ⟨s0, s1, s2, s3, s4⟩
    · right
      have m1 := nn_mul_neg s3 q0
      have m2 := Int.mul_nonneg s4 q0
      refine ⟨by rw [ed, s0], s3, s4, ?_, ?_⟩
      · rw [hC, Int.mul_comm q c]; omega
      · rw [hD, Int.mul_comm q d]; omega
    · left
      have m1 := Int.mul_nonneg s3 q0
      have m2 := nn_mul_neg s4 q0
      refine ⟨by rw [ed, s0]; rfl, s3, s4, ?_, ?_⟩
      · rw [hC, Int.mul_comm q c]; omega
      · rw [hD, Int.mul_comm q d]; omega
  have bdn : -1000000000 < C ∧ C < 1000000000 ∧ -1000000000 < D ∧ D < 1000000000 := by
    have big : ∀ t : Int, 1000000000 ≤ t → 1000000000 * v ≤ t * v := fun t ht => Int.mul_le_mul_of_nonneg_right ht (by omega)
    rcases sgn with ⟨s0, s1, s2, s3, s4⟩ | ⟨s0, s1, s2, s3, s4⟩
    · -- pattern 1: D * v - d * V = u0, c * V - C * v = v0
      have k0 : a * d - b * c = -1 := by
        have : c * D - d * C = -(a * d - b * c) := by rw [hC, hD]; grind
        omega
      rw [k0] at f1 f2
      have m1 := nn_mul_neg s2 w0
      have m2 := Int.mul_nonneg s1 w0
      have hD2 : D < 1000000000 := by
        rcases Int.lt_or_le D 1000000000 with h | h
        · exact h
        · have := big D h; omega
      have hC2 : -1000000000 < C := by
        rcases Int.lt_or_le (-1000000000) C with h | h
        · exact h
        · have := big (-C) (by omega); rw [Int.neg_mul] at this; omega
      omega
    · have k0 : a * d - b * c = 1 := by
        have : c * D - d * C = -(a * d - b * c) := by rw [hC, hD]; grind
        omega
      rw [k0] at f1 f2
      have m1 := Int.mul_nonneg s2 w0
      have m2 := nn_mul_neg s1 w0
      have hC2 : C < 1000000000 := by
        rcases Int.lt_or_le C 1000000000 with h | h
        · exact h
        · have := big C h; omega
      have hD2 : -1000000000 < D := by
        rcases Int.lt_or_le (-1000000000) D with h | h
        · exact h
        · have := big (-D) (by omega); rw [Int.neg_mul] at this; omega
      omega
  refine ⟨eu', ev', sgn, by omega, ⟨by omega, w0⟩, ?_, Or.inr ⟨hv, w1, by rw [eN]; exact htrue.1, by rw [eN]; exact htrue.2, hYle⟩⟩
  rw [eN, Int.gcd_sub_mul_right_right, Int.gcd_comm]; exact h.gc
end Go.Proofs.Ytihklpkpcnahkaa
/- The contract of nat.foreseen. -/
namespace Go.Proofs.Ytihklpkpcnahkaa
open Go.ChangeShapes Go.WideShapes Go.RowKit
set_option linter.unusedVariables false
set_option maxRecDepth 100000

/-- A block of four integers. -/
def Four (w : World) (g : Nat) (a b c d : Int) : Prop := ∃ t, w.heap[g]? = some (.cells #[.int .i64 a, .int .i64 b, .int .i64 c, .int .i64 d] t (0, 0))
theorem Four.row {w : World} {g : Nat} {a b c d : Int} (h : Four w g a b c d) : Row w g [a, b, c, d] := by
  obtain ⟨t, h⟩ := h; exact row_of_heap (zs := [a, b, c, d]) h
theorem Four.lt {w : World} {g : Nat} {a b c d : Int} (h : Four w g a b c d) : g < w.heap.size := h.row.lt
theorem Four.new (w : World) (t : TypeId) (a b c d : Int) : Four (w.alloc (.cells #[.int .i64 a, .int .i64 b, .int .i64 c, .int .i64 d] t)) w.heap.size a b c d := ⟨t, heap_alloc_new w _⟩
theorem Four.keep {w w' : World} {g : Nat} {a b c d : Int} (h : Four w g a b c d) (hk : w'.heap[g]? = w.heap[g]?) : Four w' g a b c d := by
  obtain ⟨t, h⟩ := h; exact ⟨t, hk.trans h⟩
theorem Four.store {w : World} {g : Nat} {a b c d : Int} (h : Four w g a b c d) (a' b' c' d' : Int) :
    Four ((((w.setCell ⟨g, 0, none⟩ (.int .i64 a')).setCell ⟨g, 1, none⟩ (.int .i64 b')).setCell ⟨g, 2, none⟩ (.int .i64 c')).setCell ⟨g, 3, none⟩ (.int .i64 d')) g a' b' c' d' := by
  obtain ⟨t, h⟩ := h
  exact ⟨t, by simp [World.setCell, Array.getElem?_modify, h]⟩

/-- What is foreseen. -/
def SeenRes (w : World) (xs ys : List Int) (e : Ending) (w' : World) : Prop :=
  ∃ a b c d u v u0 v0, e = .returned (.agg #[.int .i64 a, .int .i64 b, .int .i64 c, .int .i64 d]) ∧ LInv u0 v0 (nval xs) (nval ys) a b c d u v ∧ (b ≠ 0 → xs.length = ys.length) ∧ Below w.heap.size w w'

theorem top_split {xs : List Int} {n : Nat} (hx : lok xs = true) (hn : xs.length = n) (h2 : 2 ≤ n) :
    nval xs = 1000000000 ^ (n - 2) * nval (xs.drop (n - 2)) + nval (xs.take (n - 2)) ∧ 0 ≤ nval (xs.take (n - 2)) ∧ nval (xs.take (n - 2)) ≤ 1000000000 ^ (n - 2) ∧ 0 ≤ nval (xs.drop (n - 2)) ∧ nval (xs.drop (n - 2)) < 1000000000000000000 := by
  have e := nval_append (xs.take (n - 2)) (xs.drop (n - 2))
  rw [List.take_append_drop, List.length_take, Nat.min_eq_left (by omega)] at e
  have a := nval_lt (lok_take hx (n - 2))
  rw [List.length_take, Nat.min_eq_left (by omega)] at a
  have b := nval_small (lok_drop hx (n - 2)) (by rw [List.length_drop]; omega)
  exact ⟨by omega, nval_nonneg (lok_take hx _), by omega, b.1, b.2⟩

end Go.Proofs.Ytihklpkpcnahkaa
/- The contracts of nat.combined and nat.shortened. -/
namespace Go.Proofs.Ytihklpkpcnahkaa
open Go.ChangeShapes Go.WideShapes Go.RowKit
set_option linter.unusedVariables false
set_option maxRecDepth 100000

theorem comb_val {xs ys : List Int} {m n : Int} (hl : xs.length = ys.length) : nval (addT (addT (List.replicate (xs.length + 1) 0) xs m 0) ys n 0) = m * nval xs + n * nval ys := by
  rw [addT_val _ _ _ _ (by rw [addT_length]; simp; omega), addT_val _ _ _ _ (by simp), nval_zeros]; omega
theorem comb_bd {X m P : Int} (x0 : 0 ≤ X) (x1 : X < P) (m0 : -1000000000 < m) (m1 : m < 1000000000) : -(1000000000 * P) < m * X ∧ m * X < 1000000000 * P := by
  have a1 : m * X ≤ 999999999 * X := Int.mul_le_mul_of_nonneg_right (by omega) x0
  have a2 : -999999999 * X ≤ m * X := Int.mul_le_mul_of_nonneg_right (by omega) x0
  omega

end Go.Proofs.Ytihklpkpcnahkaa
/- What nat.shortened leaves. -/
namespace Go.Proofs.Ytihklpkpcnahkaa
open Go.ChangeShapes Go.WideShapes Go.RowKit
set_option linter.unusedVariables false
set_option maxRecDepth 100000

def ShortRes (w : World) (xs ys : List Int) (e : Ending) (w' : World) : Prop :=
  ∃ vx vy xs' ys', e = .returned (.tuple #[vx, vy]) ∧ In w' vx xs' ∧ In w' vy ys' ∧ nrm xs' = true ∧ nrm ys' = true ∧ xs'.length ≤ ys.length ∧ ys'.length ≤ ys.length ∧
    Nat.gcd (nval xs').toNat (nval ys').toNat = Nat.gcd (nval xs).toNat (nval ys).toNat ∧ nval ys' < nval ys ∧ Below w.heap.size w w'
theorem len_le_of {N : Nat} {ys : List Int} (hy : nrm ys = true) (h : N ≤ (nval ys).toNat) : (limbs N).length ≤ ys.length := by
  have hl := nrm_limbs hy
  have : (nval ys).toNat < 1000000000 ^ ys.length := limbs_len_le.mp (by rw [← hl]; exact Nat.le_refl _)
  exact limbs_len_le.mpr (by omega)
theorem gcd_int {x y : Int} (hx : 0 ≤ x) (hy : 0 ≤ y) : Nat.gcd x.toNat y.toNat = Int.gcd x y := by
  have e1 : x.natAbs = x.toNat := by omega
  have e2 : y.natAbs = y.toNat := by omega
  show _ = Nat.gcd x.natAbs y.natAbs
  rw [e1, e2]
theorem short_facts {u0 v0 a b c d u v : Int} {xs ys : List Int} (h : LInv u0 v0 (nval xs) (nval ys) a b c d u v) (hb : b ≠ 0) (hx : nrm xs = true) (hy : nrm ys = true) :
    0 ≤ a * nval xs + b * nval ys ∧ a * nval xs + b * nval ys ≤ nval ys ∧ 0 ≤ c * nval xs + d * nval ys ∧ c * nval xs + d * nval ys < nval ys ∧
    Nat.gcd (a * nval xs + b * nval ys).toNat (c * nval xs + d * nval ys).toNat = Nat.gcd (nval xs).toNat (nval ys).toNat := by
  have x0 := nval_nonneg (nrm_lok hx)
  have y0 := nval_nonneg (nrm_lok hy)
  rcases h.st with ⟨_, h2, _, _⟩ | ⟨_, _, s1, s2, s3⟩
  · exact absurd h2 hb
  · refine ⟨by omega, s3, s1, by omega, ?_⟩
    rw [gcd_int (by omega) s1, h.gc, gcd_int x0 y0]

end Go.Proofs.Ytihklpkpcnahkaa
/- The contract of nat.gcd, out of that of shortened. -/
namespace Go.Proofs.Ytihklpkpcnahkaa
open Go.ChangeShapes Go.WideShapes Go.RowKit
set_option linter.unusedVariables false
set_option maxRecDepth 100000

/-- The integers that a slice holds, read off the world: for a loop's measure. -/
def readL (w : World) : Value → List Int
  | .slice (some a) n _ => (List.range n).map fun i => ((w.cell? ⟨a.block, a.off + i, none⟩).map intOf).getD 0
  | _ => []
theorem readL_in {w : World} {v : Value} {zs : List Int} (h : In w v zs) : readL w v = zs := by
  obtain ⟨A, c, rfl, _, _, hS⟩ := h
  cases A with
  | none =>
    cases zs with
    | nil => rfl
    | cons z zs => obtain ⟨b, off, hA, _⟩ := hS 0 z rfl; cases hA
  | some a =>
    apply List.ext_getElem?
    intro i
    show ((List.range zs.length).map fun i => ((w.cell? ⟨a.block, a.off + i, none⟩).map intOf).getD 0)[i]? = zs[i]?
    rw [List.getElem?_map]
    rcases Nat.lt_or_ge i zs.length with h | h
    · have hz : zs[i]? = some zs[i] := List.getElem?_eq_getElem h
      obtain ⟨b, off, hA, _, _, hc⟩ := hS i zs[i] hz
      cases hA
      rw [List.getElem?_range h, hz]
      simp [hc, intOf]
    · rw [List.getElem?_eq_none h, List.getElem?_eq_none (by simpa using h)]; rfl

end Go.Proofs.Ytihklpkpcnahkaa
/- The contract of Gcd of the reference; the walk of NatDivisors, out of the contract of shortened. -/
namespace Go.Proofs.Ytihklpkpcnahkaa
open Go.ChangeShapes Go.WideShapes Go.RowKit
set_option linter.unusedVariables false
set_option maxRecDepth 100000

def ResIn (w : World) (N : Nat) (err : Int) (e : Ending) (w' : World) : Prop :=
  ∃ v, e = .returned (.tuple #[v, .int .i64 err]) ∧ In w' v (limbs N) ∧ Below w.heap.size w w'
theorem ResIn.none {w w' : World} {N : Nat} {err err' : Int} {e : Ending} (hN : N = 0) (he : err = err') (h : e = .returned (.tuple #[.slice none 0 0, .int .i64 err'])) (hb : Below w.heap.size w w') : ResIn w N err e w' := by
  subst hN he h
  exact ⟨_, rfl, by rw [limbs_zero]; exact In.nil _, hb⟩
theorem valid_back {xs : List Int} (h : validB xs = true) : limbs (nval xs).toNat = xs := (nrm_limbs (valid_nrm h)).symm

end Go.Proofs.Ytihklpkpcnahkaa
/- Contracts of Of, Int, limb of the reference. -/
namespace Go.Proofs.Ytihklpkpcnahkaa
open Go.ChangeShapes Go.WideShapes Go.RowKit
set_option linter.unusedVariables false
set_option maxRecDepth 100000

theorem int_split {xs : List Int} {k : Nat} (hk : k ≤ xs.length) (hx : lok xs = true) : nval (xs.drop (xs.length - k)) * 1000000000 ^ (xs.length - k) ≤ nval xs := by
  have e := nval_append (xs.take (xs.length - k)) (xs.drop (xs.length - k))
  rw [List.take_append_drop, List.length_take, Nat.min_eq_left (by omega)] at e
  have h := nval_nonneg (lok_take hx (xs.length - k))
  rw [Int.mul_comm]; omega

end Go.Proofs.Ytihklpkpcnahkaa
/- Contracts of limb and Text of the reference. -/
namespace Go.Proofs.Ytihklpkpcnahkaa
open Go.ChangeShapes Go.WideShapes Go.RowKit
set_option linter.unusedVariables false
set_option maxRecDepth 100000

theorem padD_cons (k : Nat) : ∀ n : Nat, padD (k + 1) n = UInt8.ofNat (48 + n / 10 ^ k % 10) :: padD k n := by
  induction k with
  | zero => intro n; simp [padD]
  | succ k ih =>
    intro n
    rw [padD, ih (n / 10), padD, List.cons_append, Nat.div_div_eq_div_mul, Nat.pow_succ, Nat.mul_comm 10]
theorem padD_mod (k : Nat) : ∀ n : Nat, padD k n = padD k (n % 10 ^ k) := by
  induction k with
  | zero => intro n; rfl
  | succ k ih =>
    intro n
    have p : 0 < 10 ^ k := Nat.pow_pos (by decide)
    have e1 : n % 10 ^ (k + 1) / 10 = n / 10 % 10 ^ k := by rw [Nat.pow_succ, Nat.mul_comm, Nat.mod_mul_right_div_self]
    have e2 : n % 10 ^ (k + 1) % 10 = n % 10 := by rw [Nat.pow_succ, Nat.mul_comm, Nat.mod_mul_right_mod]
    rw [padD, padD, e1, e2, ih (n / 10)]
theorem dec_split (k n : Nat) (h : 0 < n / 10 ^ k) : Lib.decDigits n = Lib.decDigits (n / 10 ^ k) ++ padD k n := by
  have p : 0 < 10 ^ k := Nat.pow_pos (by decide)
  have e := dec_pad k (n / 10 ^ k) (n % 10 ^ k) h (Nat.mod_lt _ p)
  rw [Nat.mul_comm, Nat.div_add_mod, ← padD_mod] at e
  exact e
theorem dec_done (k n : Nat) (h0 : 0 < n / 10 ^ k) (h1 : n / 10 ^ (k + 1) = 0) : Lib.decDigits n = padD (k + 1) n := by
  have hd : n / 10 ^ k < 10 := by
    rw [Nat.pow_succ, ← Nat.div_div_eq_div_mul] at h1
    omega
  rw [dec_split k n h0, Lib.decDigits_one hd, padD_cons, Nat.mod_eq_of_lt hd]; rfl
/-- The digits of a limb: nine of them, if full. -/
def limbL (n : Nat) (full : Bool) : List UInt8 := if full then padD 9 n else Lib.decDigits n
theorem digit_str {d : Nat} (h : d < 10) : (ByteArray.extract ⟨#[48, 49, 50, 51, 52, 53, 54, 55, 56, 57]⟩ d (d + 1)) = ⟨#[UInt8.ofNat (48 + d)]⟩ := by
  have : ∀ d : Nat, d < 10 → (ByteArray.extract ⟨#[48, 49, 50, 51, 52, 53, 54, 55, 56, 57]⟩ d (d + 1)).data.toList = [UInt8.ofNat (48 + d)] := by decide +kernel
  exact bytes_inj (this d h)

theorem padD_add (j : Nat) (k : Nat) : ∀ q r : Nat, r < 10 ^ k → padD (j + k) (q * 10 ^ k + r) = padD j q ++ padD k r := by
  induction k with
  | zero => intro q r h; obtain rfl : r = 0 := by simpa using h
            simp [padD]
  | succ k ih =>
    intro q r hr
    have p : 0 < 10 ^ k := Nat.pow_pos (by decide)
    rw [Nat.pow_succ] at hr ⊢
    have e1 : (q * (10 ^ k * 10) + r) / 10 = q * 10 ^ k + r / 10 := by
      rw [← Nat.mul_assoc, Nat.mul_comm (q * 10 ^ k) 10, Nat.mul_add_div (by decide)]
    have e2 : (q * (10 ^ k * 10) + r) % 10 = r % 10 := by
      rw [← Nat.mul_assoc, Nat.mul_comm (q * 10 ^ k) 10, Nat.mul_add_mod]
    rw [← Nat.add_assoc, padD, e1, e2, ih q (r / 10) (by omega), padD, List.append_assoc]
theorem nval_nat_lt {l : List Int} (h : lok l = true) : (nval l).toNat < 10 ^ (9 * l.length) := by
  rw [← pow9]
  have a := nval_lt h
  have b := nval_nonneg h
  have : ((1000000000 ^ l.length : Nat) : Int) = (1000000000 : Int) ^ l.length := by rw [Int.natCast_pow]; rfl
  omega
theorem nval_nat_snoc {l : List Int} {k : Nat} {x : Int} (hx : l[k]? = some x) (hl : lok l = true) : (nval (l.take (k + 1))).toNat = x.toNat * 10 ^ (9 * k) + (nval (l.take k)).toNat := by
  have xb := lok_at hl hx
  have hk : k < l.length := by
    rcases Nat.lt_or_ge k l.length with h1 | h1
    · exact h1
    · rw [List.getElem?_eq_none h1] at hx; cases hx
  rw [trim_step hx, nval_snoc, List.length_take, Nat.min_eq_left (by omega), ← pow9]
  have b := nval_nonneg (lok_take hl k)
  have e : ((1000000000 ^ k : Nat) : Int) = (1000000000 : Int) ^ k := by rw [Int.natCast_pow]; rfl
  have ex : x = (x.toNat : Int) := by omega
  have e2 : (1000000000 : Int) ^ k * x = ((x.toNat * 1000000000 ^ k : Nat) : Int) := by rw [Int.natCast_mul, e, ← ex, Int.mul_comm]
  rw [e2]; omega
theorem take_nat_lt {l : List Int} {k : Nat} (hl : lok l = true) (hk : k ≤ l.length) : (nval (l.take k)).toNat < 10 ^ (9 * k) := by
  have := nval_nat_lt (lok_take hl k)
  rwa [List.length_take, Nat.min_eq_left hk] at this
end Go.Proofs.Ytihklpkpcnahkaa
/- The contract of Text of the reference. -/
namespace Go.Proofs.Ytihklpkpcnahkaa
open Go.ChangeShapes Go.WideShapes Go.RowKit
set_option linter.unusedVariables false
set_option maxRecDepth 100000

theorem top_pos_last {ys : List Int} {b : Int} (hy : nrm ys = true) (hp : 0 < ys.length) (hb : ys[ys.length - 1]? = some b) : 0 < b := by
  have h := nrm_lok hy
  have b0 := lok_at h hb
  rcases Int.lt_or_eq_of_le b0.1 with h1 | h1
  · exact h1
  · exfalso
    subst h1
    have : ys.getLast? = some 0 := by rw [List.getLast?_eq_getElem?]; exact hb
    simp [nrm, this] at hy
theorem rtext_step {xs : List Int} {k : Nat} {x : Int} {S T : ByteArray} (hl : lok xs = true) (hx : xs[k]? = some x) (hk : k < xs.length) (hT : T.data.toList = limbL x.toNat true) (hS : S.data.toList = padD (9 * k) (nval (xs.take k)).toNat) :
    (T ++ S).data.toList = padD (9 * (k + 1)) (nval (xs.take (k + 1))).toNat := by
  rw [ByteArray.data_append, Array.toList_append, hT, hS, nval_nat_snoc hx hl, show 9 * (k + 1) = 9 + 9 * k by omega, padD_add _ _ _ _ (take_nat_lt hl (by omega))]
  rfl
theorem rtext_last {xs : List Int} {x : Int} {S T : ByteArray} (hv : validB xs = true) (hp : 0 < xs.length) (hx : xs[xs.length - 1]? = some x) (hT : T.data.toList = limbL x.toNat false) (hS : S.data.toList = padD (9 * (xs.length - 1)) (nval (xs.take (xs.length - 1))).toNat) :
    T ++ S = textV xs ∧ 0 < x.toNat := by
  have hl := valid_lok hv
  have xp : 0 < x := by
    have := top_pos_last (valid_nrm hv) hp hx
    exact this
  have h := nval_nat_snoc hx hl
  rw [show xs.length - 1 + 1 = xs.length by omega, List.take_length] at h
  refine ⟨bytes_inj ?_, by omega⟩
  rw [ByteArray.data_append, Array.toList_append, hT, hS, textV, hv]
  show limbL x.toNat false ++ _ = Lib.decDigits (nval xs).toNat
  rw [h, dec_pad _ _ _ (by omega) (take_nat_lt hl (by omega))]
  rfl

theorem fin_text {xs : List Int} {s : ByteArray} {n : Int} {w w' : World} (h1 : s = textV xs) (h2 : n = oneE xs) (h3 : w = w') : Ending.returned (.tuple #[.string s, .int .i64 n]) = Ending.returned (.tuple #[.string (textV xs), .int .i64 (oneE xs)]) ∧ w = w' := by
  subst h1 h2; exact ⟨rfl, h3⟩

end Go.Proofs.Ytihklpkpcnahkaa
