/- What the laws of layer 3 lean on: order, field, texts. No walk. -/
import Derived.Test.YthkhaipbdphpeaaDoorPk9
import Derived.Test.YthkhaipbdphpeaaDoorPk8
import Derived.Test.YthkhaipbdphpeaaDoorPk7
namespace Go.Proofs.YthkhaipbdphpeaaDoor
open Go.ChangeShapes Go.WideShapes Go.RowKit
set_option linter.unusedVariables false
set_option maxRecDepth 100000

/-- Order. -/
theorem crossOk_swap (r s : Rat) : crossOk s r = crossOk r s := by unfold crossOk; rw [Bool.and_comm]
theorem cmpI_neg (x y : Int) : cmpI (-x) (-y) = -cmpI x y := by
  rcases Int.lt_trichotomy x y with h | h | h
  · rw [cmpI_lt h, cmpI_gt (by omega)]; rfl
  · subst h; rw [cmpI_eq, cmpI_eq]; rfl
  · rw [cmpI_gt h, cmpI_lt (by omega)]
theorem num_of (r : Rat) : r.num = sgI (negR r) r.num.natAbs := sgI_neg.symm
theorem neg_abs_pos {r : Rat} (h : negR r = true) : 0 < r.num.natAbs := by
  unfold negR at h; have := of_decide_eq_true h; omega
theorem den_pos (r : Rat) : 0 < r.den := Nat.pos_of_ne_zero r.den_nz
theorem cmpQ_val (r s : Rat) : cmpQ r s = cmpI (r.num * s.den) (s.num * r.den) := by
  have e1 : r.num * s.den = sgI (negR r) (r.num.natAbs * s.den) := by rw [sgI_mulN, sgI_neg]
  have e2 : s.num * r.den = sgI (negR s) (s.num.natAbs * r.den) := by rw [sgI_mulN, sgI_neg]
  rw [e1, e2]
  unfold cmpQ
  rcases bcase (negR r) with h1 | h1 <;> rcases bcase (negR s) with h2 | h2
  · rw [h1, h2, if_pos rfl, if_pos rfl]; simp only [sgI, if_true]; rw [cmpI_neg]
  · have := Nat.mul_pos (neg_abs_pos h1) (den_pos s)
    rw [h1, h2, if_pos rfl, if_neg (by decide)]
    simp only [sgI, if_true, Bool.false_eq_true, if_false]
    rw [cmpI_lt (by omega)]
  · have := Nat.mul_pos (neg_abs_pos h2) (den_pos r)
    rw [h1, h2, if_neg (by decide), if_pos rfl]
    simp only [sgI, if_true, Bool.false_eq_true, if_false]
    rw [cmpI_gt (by omega)]
  · rw [h1, h2, if_neg (by decide), if_neg (by decide)]
    simp only [sgI, Bool.false_eq_true, if_false]
theorem cmpG_swap (r s : Rat) : cmpG s r = -cmpG r s := by
  unfold cmpG
  rw [crossOk_swap, cmpQ_val, cmpQ_val, cmpI_swap]
  split <;> simp
theorem cmpG_bd (r s : Rat) : -1 ≤ cmpG r s ∧ cmpG r s ≤ 1 := by
  unfold cmpG
  split
  · rw [cmpQ_val]
    rcases Int.lt_trichotomy (r.num * s.den) (s.num * r.den) with h | h | h
    · rw [cmpI_lt h]; decide
    · rw [h, cmpI_eq]; decide
    · rw [cmpI_gt h]; decide
  · decide
/-- The sign of a number. -/
def sgnR (r : Rat) : Int := if topL r = [] then 0 else if negR r then -1 else 1
theorem top_nil {r : Rat} : topL r = [] ↔ r.num = 0 := by
  unfold topL
  constructor
  · intro h; rw [← limbs_zero] at h; have := limbs_inj h; omega
  · intro h; rw [h]; exact limbs_zero
theorem sgnR_val (r : Rat) : sgnR r = cmpI r.num 0 := by
  unfold sgnR
  rcases Int.lt_trichotomy r.num 0 with h | h | h
  · rw [if_neg (fun e => by have := top_nil.mp e; omega), if_pos (by unfold negR; exact decide_eq_true h), cmpI_lt h]
  · rw [if_pos (top_nil.mpr h), h, cmpI_eq]
  · rw [if_neg (fun e => by have := top_nil.mp e; omega), if_neg (by unfold negR; rw [decide_eq_false (by omega)]; decide), cmpI_gt h]
theorem mk_sign {n : Int} {d : Nat} (hd : d ≠ 0) : cmpI (mkRat n d).num 0 = cmpI n 0 := by
  have h : (mkRat n d).num * d = n * (mkRat n d).den := by
    have := Rat.mkRat_self (mkRat n d)
    exact (Rat.mkRat_eq_iff (mkRat n d).den_nz hd).mp this
  have p1 : (0 : Int) < d := by omega
  have p2 : (0 : Int) < (mkRat n d).den := by have := (mkRat n d).den_nz; omega
  rcases Int.lt_trichotomy n 0 with hn | hn | hn
  · have : n * ((mkRat n d).den : Int) < 0 := Int.mul_neg_of_neg_of_pos hn p2
    rw [cmpI_lt hn, cmpI_lt]
    rcases Int.lt_or_le (mkRat n d).num 0 with h1 | h1
    · exact h1
    · have := Int.mul_nonneg h1 (Int.le_of_lt p1); omega
  · subst hn
    rw [cmpI_eq]
    have : (mkRat 0 d).num = 0 := by
      rcases Int.lt_trichotomy (mkRat 0 d).num 0 with h1 | h1 | h1
      · have := Int.mul_neg_of_neg_of_pos h1 p1; omega
      · exact h1
      · have := Int.mul_pos h1 p1; omega
    rw [this, cmpI_eq]
  · have : 0 < n * ((mkRat n d).den : Int) := Int.mul_pos hn p2
    rw [cmpI_gt hn, cmpI_gt]
    rcases Int.lt_or_le 0 (mkRat n d).num with h1 | h1
    · exact h1
    · have := Int.mul_nonpos_of_nonpos_of_nonneg h1 (Int.le_of_lt p1); omega
theorem sub_form (r s : Rat) : r + -s = mkRat (r.num * s.den - s.num * r.den) (r.den * s.den) := by
  conv => lhs; rw [← Rat.mkRat_self r, ← Rat.mkRat_self s, Rat.neg_mkRat, Rat.mkRat_add_mkRat _ _ r.den_nz s.den_nz, Int.neg_mul, ← Int.sub_eq_add_neg]
theorem cmp_sub (r s : Rat) (h : crossOk r s = true) : cmpG r s = sgnR (r + -s) := by
  unfold cmpG
  rw [h, if_pos rfl, cmpQ_val, sgnR_val, sub_form, mk_sign (Nat.mul_ne_zero r.den_nz s.den_nz)]
  rcases Int.lt_trichotomy (r.num * s.den) (s.num * r.den) with h | h | h
  · rw [cmpI_lt h, cmpI_lt (by omega)]
  · rw [h, Int.sub_self, cmpI_eq, cmpI_eq]
  · rw [cmpI_gt h, cmpI_gt (by omega)]

/-- Integers. -/
theorem mkV_one (n : Int) : (mkV n 1).num = n ∧ (mkV n 1).den = 1 := by
  unfold mkV
  have e : sgI (mkNeg n 1) n.natAbs = n := by
    unfold sgI mkNeg
    rcases Int.lt_or_le n 0 with h | h
    · rw [decide_eq_true h]; simp; omega
    · rw [decide_eq_false (by omega)]; simp; omega
  rw [e]
  show (mkRat n 1).num = n ∧ (mkRat n 1).den = 1
  rw [Rat.num_mkRat, Rat.den_mkRat]
  simp
theorem rnd_zero {r : Rat} {away : Bool} (h : rndE r away = 0) : rmag r away ≤ 1125899906842624 ∧ rndV r away = sgI (negR r) (rmag r away) := by
  unfold rndE rndV at *
  split at h
  · rename_i hh; exact ⟨hh, if_pos hh⟩
  · cases h
theorem abs_div (r : Rat) : r.num.natAbs = rQ r * r.den + rM r ∧ rM r < r.den := by
  unfold rQ rM
  exact ⟨by rw [Nat.mul_comm]; exact (Nat.div_add_mod _ _).symm, Nat.mod_lt _ (den_pos r)⟩
/-- An integer has no remainder, and no other number. -/
theorem rM_zero (r : Rat) : rM r = 0 ↔ r.den = 1 := by
  constructor
  · intro h
    have hd : r.den ∣ r.num.natAbs := Nat.dvd_of_mod_eq_zero h
    have hc : Nat.gcd r.num.natAbs r.den = 1 := r.reduced
    have := Nat.dvd_gcd hd (Nat.dvd_refl r.den)
    rw [hc] at this
    exact Nat.dvd_one.mp this
  · intro h; unfold rM; rw [h]; exact Nat.mod_one _
theorem floor_ceil {r : Rat} (h1 : rndE r (negR r) = 0) (h2 : rndE r (!negR r) = 0) :
    rndV r (negR r) * r.den ≤ r.num ∧ r.num ≤ rndV r (!negR r) * r.den ∧ (r.den = 1 → rndV r (negR r) = rndV r (!negR r)) ∧ (r.den ≠ 1 → rndV r (!negR r) - rndV r (negR r) = 1) := by
  obtain ⟨_, e1⟩ := rnd_zero h1
  obtain ⟨_, e2⟩ := rnd_zero h2
  obtain ⟨a1, a2⟩ := abs_div r
  have hn := num_of r
  rw [e1, e2]
  have ea : r.num.natAbs = rQ r * r.den + rM r := a1
  obtain ⟨D, hD⟩ : ∃ D : Nat, D = rQ r * r.den := ⟨_, rfl⟩
  have k1 : ∀ q : Nat, (q : Int) * (r.den : Int) = ((q * r.den : Nat) : Int) := fun q => by rw [Int.natCast_mul]
  have k2 : ((rQ r + 1 : Nat) : Int) * (r.den : Int) = (D : Int) + r.den := by rw [k1, Nat.add_mul, ← hD]; simp
  have k3 : (rQ r : Int) * (r.den : Int) = (D : Int) := by rw [k1, ← hD]
  rw [← hD] at ea
  rcases bcase (negR r) with hs | hs
  · rw [hs] at hn ⊢
    simp only [sgI, if_true] at hn ⊢
    by_cases hm : rM r = 0
    · have hd1 := (rM_zero r).mp hm
      rw [rmag_exact hm, Bool.not_true, rmag_exact hm]
      refine ⟨by rw [Int.neg_mul, k3]; omega, by rw [Int.neg_mul, k3]; omega, fun _ => rfl, fun h => absurd hd1 h⟩
    · have hd1 : r.den ≠ 1 := fun h => hm ((rM_zero r).mpr h)
      rw [rmag_away (Nat.pos_of_ne_zero hm), Bool.not_true, rmag_down]
      refine ⟨by rw [Int.neg_mul, k2]; omega, by rw [Int.neg_mul, k3]; omega, fun h => absurd h hd1, fun _ => by omega⟩
  · rw [hs] at hn ⊢
    simp only [sgI, Bool.false_eq_true, if_false] at hn ⊢
    by_cases hm : rM r = 0
    · have hd1 := (rM_zero r).mp hm
      rw [rmag_exact hm, Bool.not_false, rmag_exact hm]
      refine ⟨by rw [k3]; omega, by rw [k3]; omega, fun _ => rfl, fun h => absurd hd1 h⟩
    · have hd1 : r.den ≠ 1 := fun h => hm ((rM_zero r).mpr h)
      rw [rmag_down, Bool.not_false, rmag_away (Nat.pos_of_ne_zero hm)]
      refine ⟨by rw [k3]; omega, by rw [k2]; omega, fun h => absurd h hd1, fun _ => by omega⟩
theorem cmp_low {r : Rat} {n : Int} (h : n * r.den ≤ r.num) : cmpG (mkV n 1) r ≤ 0 := by
  unfold cmpG
  split
  · rw [cmpQ_val, (mkV_one n).1, (mkV_one n).2]
    rcases Int.lt_or_eq_of_le h with h1 | h1
    · rw [cmpI_lt (by omega)]; decide
    · rw [h1]; simp [cmpI_eq]
  · decide
theorem cmp_high {r : Rat} {n : Int} (h : r.num ≤ n * r.den) : 0 ≤ cmpG (mkV n 1) r := by
  unfold cmpG
  split
  · rw [cmpQ_val, (mkV_one n).1, (mkV_one n).2]
    rcases Int.lt_or_eq_of_le h with h1 | h1
    · rw [cmpI_gt (by omega)]; decide
    · rw [← h1]; simp [cmpI_eq]
  · decide

/-- Field. -/
theorem sumOk_swap (r s : Rat) : sumOk s r = sumOk r s := by
  unfold sumOk
  have e1 : (negR s != negR r) = (negR r != negR s) := by cases negR r <;> cases negR s <;> rfl
  rw [e1, Nat.mul_comm s.den r.den, Nat.add_comm (s.num.natAbs * r.den)]
  cases decide (r.num.natAbs * s.den < big48) <;> cases decide (s.num.natAbs * r.den < big48) <;> rfl
theorem mulOk_swap (r s : Rat) : mulOk s r = mulOk r s := by unfold mulOk; rw [Nat.mul_comm s.num.natAbs, Nat.mul_comm s.den]
theorem two_swap (b : Bool) (xs ys : List Int) (c : Bool) (zs ts : List Int) : two c zs ts b xs ys = two b xs ys c zs ts := by unfold two; rw [Bool.and_comm]
theorem addE_swap (b : Bool) (xs ys : List Int) (c : Bool) (zs ts : List Int) : opE sumOk c zs ts b xs ys = opE sumOk b xs ys c zs ts ∧ opV addOp c zs ts b xs ys = opV addOp b xs ys c zs ts := by
  unfold opE opV addOp; rw [two_swap, sumOk_swap, Rat.add_comm]; exact ⟨rfl, rfl⟩
theorem mulE_swap (b : Bool) (xs ys : List Int) (c : Bool) (zs ts : List Int) : opE mulOk c zs ts b xs ys = opE mulOk b xs ys c zs ts ∧ opV mulOp c zs ts b xs ys = opV mulOp b xs ys c zs ts := by
  unfold opE opV mulOp; rw [two_swap, mulOk_swap, Rat.mul_comm]; exact ⟨rfl, rfl⟩
theorem fit_mul {r s : Rat} (hr : fitR r = true) (hs : fitR s = true) (h : mulOk r s = true) : fitR (r * s) = true := by
  rw [mulOk_eq] at h
  rw [← mul_form]
  exact mk_fit (prOk_parts h).1 (prOk_parts h).2 (Nat.mul_ne_zero r.den_nz s.den_nz)
theorem num_zero {r : Rat} : r.num = 0 ↔ r = 0 := Rat.num_eq_zero
theorem add_back (r s : Rat) : r + s + -s = r := by rw [Rat.add_assoc, Rat.add_neg_cancel, Rat.add_zero]
theorem mul_back (r s : Rat) (h : s.num ≠ 0) : r * s * s⁻¹ = r := by
  have h0 : s ≠ 0 := fun e => h (num_zero.mpr e)
  rw [Rat.mul_assoc, Rat.mul_inv_cancel s h0, Rat.mul_one]
theorem zero_form : negR 0 = false ∧ topL 0 = [] ∧ botL 0 = [1] := ⟨by decide, by show limbs 0 = []; exact limbs_zero, by show limbs 1 = [1]; exact limbs_one⟩
#print axioms floor_ceil
end Go.Proofs.YthkhaipbdphpeaaDoor
