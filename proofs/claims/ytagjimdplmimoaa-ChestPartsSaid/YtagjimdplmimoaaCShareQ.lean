/- Exact shares as rational numbers; exact of the laws. -/
import Derived.Test.YtagjimdplmimoaaCShareO
import Derived.Test.YtagjimdplmimoaaPk15
import Derived.Test.YtagjimdplmimoaaPk16
namespace Go.Proofs.Ytagjimdplmimoaa.Share
open Go.ChangeShapes Go.WideShapes Go.RowKit Go.Lib
set_option linter.unusedVariables false
set_option maxRecDepth 100000

/-! ### Pure -/
theorem mk_parts (n d : Nat) (hd : 0 < d) : ∃ g, 0 < g ∧ n = (mkRat (n : Int) d).num.natAbs * g ∧ d = (mkRat (n : Int) d).den * g ∧ 0 ≤ (mkRat (n : Int) d).num := by
  obtain ⟨r, hr⟩ : ∃ r, r = mkRat (n : Int) d := ⟨_, rfl⟩
  obtain ⟨m, hm, h1, h2⟩ := Rat.mkRat_num_den (d := d) (n := (n : Int)) (n' := r.num) (d' := r.den) (z' := r.den_nz) (c := r.reduced) (by omega) (by rw [hr])
  rw [← hr]
  have h0 : 0 ≤ r.num := by
    rcases Int.lt_or_le r.num 0 with h | h
    · have : r.num * (m : Int) < 0 := Int.mul_neg_of_neg_of_pos h (by omega)
      omega
    · exact h
  refine ⟨m, by omega, ?_, h2, h0⟩
  obtain ⟨k, hk⟩ := Int.eq_ofNat_of_zero_le h0
  rw [hk] at h1 ⊢
  have : (n : Int) = ((k * m : Nat) : Int) := by rw [h1]; simp
  simp only [Int.natAbs_natCast]
  omega
theorem big_100 {a b : Nat} (ha : a ≤ 1125899906842624) (hb : b ≤ 1125899906842624) : a * b < big48 := by
  have h1 : a * b ≤ 1125899906842624 * 1125899906842624 := Nat.mul_le_mul ha hb
  have h2 : 1000000000 ^ 4 ≤ big48 := Nat.pow_le_pow_right (by decide) (by decide)
  have h3 : (1000000000 : Nat) ^ 4 = 1000000000000000000000000000000000000 := by decide
  omega
/-- The exact share. -/
def exR (T x W : Nat) : Rat := mkRat ((T * x : Nat) : Int) W
section
variable {T x W : Nat}
theorem mkV_nat (n d : Nat) : mkV (n : Int) (d : Int) = mkRat (n : Int) d := by
  unfold mkV mkNeg sgI
  rw [decide_eq_false (by omega), decide_eq_false (by omega)]
  simp
theorem exR_is : mkV (T : Int) 1 * mkV (x : Int) (W : Int) = exR T x W := by
  have h1 : mkV (T : Int) 1 = mkRat (T : Int) 1 := mkV_nat T 1
  rw [h1, mkV_nat, Rat.mkRat_mul_mkRat]
  unfold exR
  simp
theorem fit_small {n d : Nat} (hd : 0 < d) (hn : n ≤ 1125899906842624) (hd2 : d ≤ 1125899906842624) : (mkRat (n : Int) d).num.natAbs ≤ 1125899906842624 ∧ (mkRat (n : Int) d).den ≤ 1125899906842624 := by
  obtain ⟨g, hg, h1, h2, _⟩ := mk_parts n d hd
  have e1 : (mkRat (n : Int) d).num.natAbs ≤ (mkRat (n : Int) d).num.natAbs * g := Nat.le_mul_of_pos_right _ hg
  have e2 : (mkRat (n : Int) d).den ≤ (mkRat (n : Int) d).den * g := Nat.le_mul_of_pos_right _ hg
  omega
theorem exR_mulOk (hW : 0 < W) (hT : T ≤ 1125899906842624) (hx : x ≤ W) (hW2 : W ≤ 1125899906842624) : mulOk (mkV (T : Int) 1) (mkV (x : Int) (W : Int)) = true ∧ fitR (mkV (T : Int) 1) = true ∧ fitR (mkV (x : Int) (W : Int)) = true := by
  have a := fit_small (n := T) (d := 1) (by omega) hT (by omega)
  have b := fit_small (n := x) (d := W) hW (by omega) hW2
  have h1 : mkV (T : Int) 1 = mkRat (T : Int) 1 := mkV_nat T 1
  rw [h1, mkV_nat]
  refine ⟨?_, ?_, ?_⟩
  · unfold mulOk
    rw [decide_eq_true (big_100 a.1 b.1), decide_eq_true (big_100 a.2 b.2)]; rfl
  · rw [fitR_iff]; exact ⟨small48 a.1, small48 a.2⟩
  · rw [fitR_iff]; exact ⟨small48 b.1, small48 b.2⟩
theorem exR_round (hW : 0 < W) (hT : T ≤ 1125899906842624) (hx : x ≤ W) (hW2 : W ≤ 1125899906842624) : fitR (exR T x W) = true ∧ rndV (exR T x W) (negR (exR T x W)) = ((T * x / W : Nat) : Int) ∧ rndE (exR T x W) (negR (exR T x W)) = 0 ∧
    rndV (exR T x W) (!negR (exR T x W)) = ((T * x / W + (if T * x % W = 0 then 0 else 1) : Nat) : Int) ∧ rndE (exR T x W) (!negR (exR T x W)) = 0 := by
  obtain ⟨g, hg, h1, h2, h0⟩ := mk_parts (T * x) W hW
  obtain ⟨r, hr⟩ : ∃ r, r = exR T x W := ⟨_, rfl⟩
  have hr' : mkRat ((T * x : Nat) : Int) W = r := hr.symm
  rw [hr'] at h1 h2 h0
  rw [← hr]
  have hn : negR r = false := by unfold negR; exact decide_eq_false (by omega)
  have hq : rQ r = T * x / W := by
    unfold rQ
    rw [h1]
    conv => rhs; rw [h2]
    rw [Nat.mul_div_mul_right _ _ hg]
  have hm : T * x % W = rM r * g := by
    unfold rM
    rw [h1]
    conv => lhs; rw [h2]
    rw [Nat.mul_mod_mul_right]
  have hqT : T * x / W ≤ T := Nat.div_le_of_le_mul (by rw [Nat.mul_comm W T]; exact Nat.mul_le_mul_left _ hx)
  have e1 : r.num.natAbs ≤ r.num.natAbs * g := Nat.le_mul_of_pos_right _ hg
  have e2 : r.den ≤ r.den * g := Nat.le_mul_of_pos_right _ hg
  have hfit : fitR r = true := by
    rw [fitR_iff]
    refine ⟨Nat.lt_of_le_of_lt e1 ?_, Nat.lt_of_le_of_lt e2 ?_⟩
    · rw [← h1]; exact big_100 hT (by omega)
    · rw [← h2]; exact small48 hW2
  have hfl := rnd_ok (r := r) (away := negR r) (n := T * x / W) (by rw [hn, rmag_down, hq]) (by omega)
  have hce := rnd_ok (r := r) (away := !negR r) (n := T * x / W + (if T * x % W = 0 then 0 else 1)) (by
    rw [hn]
    by_cases hz : T * x % W = 0
    · rw [if_pos hz]
      have : rM r = 0 := by
        rcases Nat.eq_zero_or_pos (rM r) with h | h
        · exact h
        · have := Nat.mul_pos h hg; omega
      rw [rmag_exact this, hq]; rfl
    · rw [if_neg hz]
      have : 0 < rM r := by
        rcases Nat.eq_zero_or_pos (rM r) with h | h
        · rw [h, Nat.zero_mul] at hm; exact absurd hm hz
        · exact h
      show rmag r true = _
      rw [rmag_away this, hq]) (by
    by_cases hz : T * x % W = 0
    · rw [if_pos hz]; omega
    · rw [if_neg hz]
      have : T * x / W < T := by
        have hxW : x < W := by
          rcases Nat.lt_or_ge x W with h | h
          · exact h
          · obtain rfl : x = W := by omega
            rw [Nat.mul_mod_left] at hz; exact absurd rfl hz
        have hT0 : 0 < T := by
          rcases Nat.eq_zero_or_pos T with h | h
          · rw [h, Nat.zero_mul, Nat.zero_mod] at hz; exact absurd rfl hz
          · exact h
        rw [Nat.div_lt_iff_lt_mul hW]
        exact Nat.mul_lt_mul_of_pos_left hxW hT0
      omega)
  have hsg : ∀ n : Nat, sgI (negR r) n = (n : Int) := fun n => by rw [hn]; rfl
  exact ⟨hfit, hfl.1.trans (hsg _), hfl.2, hce.1.trans (hsg _), hce.2⟩
end

/-! ### The calls -/
theorem OutR.is {w : World} {v : Value} {r : Rat} (ho : OutR w v 0 r) : IsR w v r := by unfold OutR at ho; rw [if_pos rfl] at ho; exact ho
theorem of_run {T : Nat} (hT : T ≤ 1125899906842624) (w : World) : Calls Try.prog 27 #[.int .i64 (T : Int)] w (RRes w 0 (mkV (T : Int) 1)) := by
  have k := rat_Of (T : Int) w (by omega) (by omega)
  rw [mkE_4 (inRB_iff.mpr (by omega)) (by decide) (by decide)] at k; exact k
theorem make_run {x W : Nat} (hW : 0 < W) (hx : x ≤ W) (hW2 : W ≤ 1125899906842624) (w : World) : Calls Try.prog 26 #[.int .i64 (x : Int), .int .i64 (W : Int)] w (RRes w 0 (mkV (x : Int) (W : Int))) := by
  have k := rat_Make (x : Int) (W : Int) w (by omega) (by omega) (by omega) (by omega)
  rw [mkE_4 (inRB_iff.mpr (by omega)) (inRB_iff.mpr (by omega)) (by omega)] at k; exact k
theorem mul_run {T x W : Nat} (hW : 0 < W) (hT : T ≤ 1125899906842624) (hx : x ≤ W) (hW2 : W ≤ 1125899906842624) (v u : Value) (w : World) (hv : IsR w v (mkV (T : Int) 1)) (hu : IsR w u (mkV (x : Int) (W : Int))) :
    Calls Try.prog 28 #[v, u] w (RRes w 0 (exR T x W)) := by
  have h := rat_Mul _ _ _ _ _ _ v u w hv hu
  obtain ⟨h1, h2, h3⟩ := exR_mulOk (T := T) hW hT hx hW2
  rw [(op_form (ok := mulOk) (f := mulOp) h2 h3).1, (op_form (ok := mulOk) (f := mulOp) h2 h3).2, h1, show mulOp (mkV (T : Int) 1) (mkV (x : Int) (W : Int)) = exR T x W from exR_is] at h
  exact h
theorem floor_run {T x W : Nat} (hW : 0 < W) (hT : T ≤ 1125899906842624) (hx : x ≤ W) (hW2 : W ≤ 1125899906842624) (v : Value) (w : World) (hv : IsR w v (exR T x W)) :
    Calls Try.prog 29 #[v] w fun e w' => e = .returned (.tuple #[.int .i64 ((T * x / W : Nat) : Int), .int .i64 0]) ∧ Below w.heap.size w w' := by
  obtain ⟨h1, h2, h3, _⟩ := exR_round (T := T) hW hT hx hW2
  have h := rat_Floor _ _ _ v w hv
  rw [floorV, floorE, rW_form h1, rE_form h1, h2, h3] at h
  exact h
theorem ceil_run {T x W : Nat} (hW : 0 < W) (hT : T ≤ 1125899906842624) (hx : x ≤ W) (hW2 : W ≤ 1125899906842624) (v : Value) (w : World) (hv : IsR w v (exR T x W)) :
    Calls Try.prog 30 #[v] w fun e w' => e = .returned (.tuple #[.int .i64 ((T * x / W + (if T * x % W = 0 then 0 else 1) : Nat) : Int), .int .i64 0]) ∧ Below w.heap.size w w' := by
  obtain ⟨h1, _, _, h2, h3⟩ := exR_round (T := T) hW hT hx hW2
  have h := rat_Ceil _ _ _ v w hv
  rw [ceilV, ceilE, rW_form h1, rE_form h1, h2, h3] at h
  exact h
#print axioms exR_round
#print axioms mul_run
end Go.Proofs.Ytagjimdplmimoaa.Share
