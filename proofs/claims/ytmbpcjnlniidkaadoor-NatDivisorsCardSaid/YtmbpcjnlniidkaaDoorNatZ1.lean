/- Lehmer's steps: the arithmetic. No walk. -/
import Derived.Test.YtmbpcjnlniidkaaDoorNatX3
namespace Go.Proofs.YtmbpcjnlniidkaaDoor
open Go.ChangeShapes Go.WideShapes Go.RowKit
set_option linter.unusedVariables false

/-- The steps of Euclid's algorithm that two leading limbs foresee: (a, b; c, d) from (X, Y); u, v: what the leading limbs have become. -/
structure LInv (u0 v0 X Y : Int) (a b c d u v : Int) : Prop where
  eu : u = a * u0 + b * v0
  ev : v = c * u0 + d * v0
  sg : (a * d - b * c = 1 ∧ 0 ≤ a ∧ b ≤ 0 ∧ c ≤ 0 ∧ 0 ≤ d) ∨ (a * d - b * c = -1 ∧ a ≤ 0 ∧ 0 ≤ b ∧ 0 ≤ c ∧ d ≤ 0)
  bd : -1000000000 < a ∧ a < 1000000000 ∧ -1000000000 < b ∧ b < 1000000000 ∧ -1000000000 < c ∧ c < 1000000000 ∧ -1000000000 < d ∧ d < 1000000000
  nn : 0 ≤ u ∧ 0 ≤ v
  gc : Int.gcd (a * X + b * Y) (c * X + d * Y) = Int.gcd X Y
  st : (a = 1 ∧ b = 0 ∧ c = 0 ∧ d = 1) ∨ (1000000000 ≤ u ∧ v < u ∧ 0 ≤ c * X + d * Y ∧ c * X + d * Y < a * X + b * Y ∧ a * X + b * Y ≤ Y)
theorem linv_start {u0 v0 X Y : Int} (hu : 0 ≤ u0) (hv : 0 ≤ v0) : LInv u0 v0 X Y 1 0 0 1 u0 v0 :=
  ⟨by omega, by omega, Or.inl ⟨by omega, by omega, by omega, by omega, by omega⟩, by omega, ⟨hu, hv⟩, by simp, Or.inl ⟨rfl, rfl, rfl, rfl⟩⟩
theorem quo_le {x y m m' : Int} (hx : 0 ≤ x) (hxy : x ≤ y) (hm : 0 < m') (hmm : m' ≤ m) : x / m ≤ y / m' := by
  rw [Int.le_ediv_iff_mul_le hm]
  have h1 : x / m * m ≤ x := Int.ediv_mul_le _ (by omega)
  have h0 : 0 ≤ x / m := Int.ediv_nonneg hx (by omega)
  have h2 : x / m * m' ≤ x / m * m := Int.mul_le_mul_of_nonneg_left hmm h0
  omega
/-- The test: then it is the quotient of u and v. -/
theorem linv_quo {u0 v0 X Y a b c d u v q : Int} (h : LInv u0 v0 X Y a b c d u v) (hv : 1000000000 ≤ v) (h1 : q = (u + a) / (v + c)) (h2 : q = (u + b) / (v + d)) : q = u / v ∧ 0 ≤ q := by
  have bd := h.bd
  have nn := h.nn
  have hub : 0 ≤ u + b ∧ 0 ≤ u + a := by
    rcases h.st with ⟨rfl, rfl, rfl, rfl⟩ | st
    · omega
    · omega
  rcases h.sg with sg | sg
  · have e1 : (u + b) / (v + d) ≤ u / v := quo_le hub.1 (by omega) (by omega) (by omega)
    have e2 : u / v ≤ (u + a) / (v + c) := quo_le nn.1 (by omega) (by omega) (by omega)
    have e3 : 0 ≤ u / v := Int.ediv_nonneg nn.1 nn.2
    omega
  · have e1 : (u + a) / (v + c) ≤ u / v := quo_le hub.2 (by omega) (by omega) (by omega)
    have e2 : u / v ≤ (u + b) / (v + d) := quo_le nn.1 (by omega) (by omega) (by omega)
    have e3 : 0 ≤ u / v := Int.ediv_nonneg nn.1 nn.2
    omega
theorem le_mul {a x K : Int} (ha : 0 ≤ a) (hx : x ≤ K) : a * x ≤ a * K := Int.mul_le_mul_of_nonneg_left hx ha
theorem le_mul_neg {a x K : Int} (ha : a ≤ 0) (hx : x ≤ K) : a * K ≤ a * x := by
  have := Int.mul_le_mul_of_nonneg_left hx (show 0 ≤ -a by omega)
  rw [Int.neg_mul, Int.neg_mul] at this; omega
theorem nn_mul_neg {a x : Int} (ha : a ≤ 0) (hx : 0 ≤ x) : a * x ≤ 0 := by
  have := Int.mul_nonneg (show 0 ≤ -a by omega) hx
  rw [Int.neg_mul] at this; omega
/-- What q * Y' <= X' < (q + 1) * Y' is shown from. -/
theorem true_quo {K L1 M1 L2 M2 Xc Yc q : Int} (hK : 0 < K) (q0 : 0 ≤ q) (hX1 : K * L1 ≤ Xc) (hX2 : Xc ≤ K * M1) (hY1 : K * L2 ≤ Yc) (hY2 : Yc ≤ K * M2) (hq1 : q * M2 ≤ L1) (hq2 : M1 < (q + 1) * L2) :
    0 ≤ Xc - q * Yc ∧ Xc - q * Yc < Yc := by
  have a1 : q * Yc ≤ q * (K * M2) := Int.mul_le_mul_of_nonneg_left hY2 q0
  have a2 : K * (q * M2) ≤ K * L1 := Int.mul_le_mul_of_nonneg_left hq1 (Int.le_of_lt hK)
  have e1 : q * (K * M2) = K * (q * M2) := by rw [Int.mul_left_comm]
  have b1 : (q + 1) * (K * L2) ≤ (q + 1) * Yc := Int.mul_le_mul_of_nonneg_left hY1 (by omega)
  have b2 : K * M1 < K * ((q + 1) * L2) := Int.mul_lt_mul_of_pos_left hq2 hK
  have e2 : (q + 1) * (K * L2) = K * ((q + 1) * L2) := by rw [Int.mul_left_comm]
  have e3 : (q + 1) * Yc = q * Yc + Yc := by rw [Int.add_mul, Int.one_mul]
  omega
theorem lt_succ_mul {x m q : Int} (hm : 0 < m) (h : q = x / m) : x < (q + 1) * m := by
  have h1 := Int.emod_add_mul_ediv x m
  have h2 := Int.emod_lt_of_pos x hm
  rw [← h] at h1
  rw [Int.add_mul, Int.one_mul, Int.mul_comm q m]; omega
theorem mul_le_of_quo {x m q : Int} (hm : 0 < m) (h : q = x / m) : q * m ≤ x := by rw [h]; exact Int.ediv_mul_le _ (by omega)
theorem linv_step {u0 v0 X Y x0 y0 K a b c d u v q : Int} (h : LInv u0 v0 X Y a b c d u v) (hv : 1000000000 ≤ v) (h1 : q = (u + a) / (v + c)) (h2 : q = (u + b) / (v + d))
    (hX : X = K * u0 + x0) (hY : Y = K * v0 + y0) (hK : 0 < K) (x00 : 0 ≤ x0) (x01 : x0 ≤ K) (y00 : 0 ≤ y0) (y01 : y0 ≤ K) (hu0 : u0 < 1000000000000000000) (hv0 : v0 < 1000000000000000000) :
    LInv u0 v0 X Y c d (a - q * c) (b - q * d) v (u - q * v) := by
  obtain ⟨hq, q0⟩ := linv_quo h hv h1 h2
  have bd := h.bd
  have nn := h.nn
  have vp : 0 < v := by omega
  have hlo := mul_le_of_quo vp hq
  have hhi := lt_succ_mul vp hq
  rw [Int.add_mul, Int.one_mul] at hhi
  have eXc : a * X + b * Y = K * u + (a * x0 + b * y0) := by rw [hX, hY, h.eu]; grind
  have eYc : c * X + d * Y = K * v + (c * x0 + d * y0) := by rw [hX, hY, h.ev]; grind
  have eN : (a - q * c) * X + (b - q * d) * Y = (a * X + b * Y) - q * (c * X + d * Y) := by grind
  have htrue : 0 ≤ (a * X + b * Y) - q * (c * X + d * Y) ∧ (a * X + b * Y) - q * (c * X + d * Y) < c * X + d * Y := by
    rcases h.sg with ⟨_, s1, s2, s3, s4⟩ | ⟨_, s1, s2, s3, s4⟩
    · refine true_quo (K := K) (L1 := u + b) (M1 := u + a) (L2 := v + c) (M2 := v + d) hK q0 ?_ ?_ ?_ ?_ (mul_le_of_quo (by omega) h2) (lt_succ_mul (by omega) h1)
      · rw [eXc, Int.mul_add, Int.mul_comm K b]
        have := Int.mul_nonneg s1 x00
        have := le_mul_neg s2 y01
        omega
      · rw [eXc, Int.mul_add, Int.mul_comm K a]
        have := le_mul s1 x01
        have := nn_mul_neg s2 y00
        omega
      · rw [eYc, Int.mul_add, Int.mul_comm K c]
        have := le_mul_neg s3 x01
        have := Int.mul_nonneg s4 y00
        omega
      · rw [eYc, Int.mul_add, Int.mul_comm K d]
        have := nn_mul_neg s3 x00
        have := le_mul s4 y01
        omega
    · refine true_quo (K := K) (L1 := u + a) (M1 := u + b) (L2 := v + d) (M2 := v + c) hK q0 ?_ ?_ ?_ ?_ (mul_le_of_quo (by omega) h1) (lt_succ_mul (by omega) h2)
      · rw [eXc, Int.mul_add, Int.mul_comm K a]
        have := le_mul_neg s1 x01
        have := Int.mul_nonneg s2 y00
        omega
      · rw [eXc, Int.mul_add, Int.mul_comm K b]
        have := nn_mul_neg s1 x00
        have := le_mul s2 y01
        omega
      · rw [eYc, Int.mul_add, Int.mul_comm K d]
        have := Int.mul_nonneg s3 x00
        have := le_mul_neg s4 y01
        omega
      · rw [eYc, Int.mul_add, Int.mul_comm K c]
        have := le_mul s3 x01
        have := nn_mul_neg s4 y00
        omega
  have hYle : c * X + d * Y ≤ Y := by
    rcases h.st with ⟨rfl, rfl, rfl, rfl⟩ | st
    · omega
    · omega
  have eu' : v = c * u0 + d * v0 := h.ev
  have ev' : u - q * v = (a - q * c) * u0 + (b - q * d) * v0 := by
    have := h.eu
    rw [this, eu']; grind
  -- the new factors are less than Limb
  have e3 : (b - q * d) * v - d * (u - q * v) = b * v - d * u := by grind
  have e4 : c * (u - q * v) - (a - q * c) * v = c * u - a * v := by grind
  have f1 : d * u - b * v = (a * d - b * c) * u0 := by rw [h.eu, h.ev]; grind
  have f2 : a * v - c * u = (a * d - b * c) * v0 := by rw [h.eu, h.ev]; grind
  have w0 : 0 ≤ u - q * v := by omega
  have w1 : u - q * v < v := by omega
  obtain ⟨C, hC⟩ : ∃ C, C = a - q * c := ⟨_, rfl⟩
  obtain ⟨D, hD⟩ : ∃ D, D = b - q * d := ⟨_, rfl⟩
  obtain ⟨V, hV⟩ : ∃ V, V = u - q * v := ⟨_, rfl⟩
  rw [← hC] at e4 eN ev'
  rw [← hD] at e3 eN ev'
  rw [← hV] at e3 e4 ev' w0 w1
  rw [← hC, ← hD, ← hV]
  have sgn : (c * D - d * C = 1 ∧ 0 ≤ c ∧ d ≤ 0 ∧ C ≤ 0 ∧ 0 ≤ D) ∨ (c * D - d * C = -1 ∧ c ≤ 0 ∧ 0 ≤ d ∧ 0 ≤ C ∧ D ≤ 0) := by
    have ed : c * D - d * C = -(a * d - b * c) := by rw [hC, hD]; grind
    rcases h.sg with ⟨s0, s1, s2, s3, s4⟩ | ⟨s0, s1, s2, s3, s4⟩
    · right
      have m1 := nn_mul_neg s3 q0
      have m2 := Int.mul_nonneg s4 q0
      refine ⟨by rw [ed, s0], s3, s4, ?_, ?_⟩
      · rw [hC, Int.mul_comm q c]; omega
      · rw [hD, Int.mul_comm q d]; omega
    · left
      have m1 := Int.mul_nonneg s3 q0
      have m2 := nn_mul_neg s4 q0
      refine ⟨by rw [ed, s0]; rfl, s3, s4, ?_, ?_⟩
      · rw [hC, Int.mul_comm q c]; omega
      · rw [hD, Int.mul_comm q d]; omega
  have bdn : -1000000000 < C ∧ C < 1000000000 ∧ -1000000000 < D ∧ D < 1000000000 := by
    have big : ∀ t : Int, 1000000000 ≤ t → 1000000000 * v ≤ t * v := fun t ht => Int.mul_le_mul_of_nonneg_right ht (by omega)
    rcases sgn with ⟨s0, s1, s2, s3, s4⟩ | ⟨s0, s1, s2, s3, s4⟩
    · -- pattern 1: D * v - d * V = u0, c * V - C * v = v0
      have k0 : a * d - b * c = -1 := by
        have : c * D - d * C = -(a * d - b * c) := by rw [hC, hD]; grind
        omega
      rw [k0] at f1 f2
      have m1 := nn_mul_neg s2 w0
      have m2 := Int.mul_nonneg s1 w0
      have hD2 : D < 1000000000 := by
        rcases Int.lt_or_le D 1000000000 with h | h
        · exact h
        · have := big D h; omega
      have hC2 : -1000000000 < C := by
        rcases Int.lt_or_le (-1000000000) C with h | h
        · exact h
        · have := big (-C) (by omega); rw [Int.neg_mul] at this; omega
      omega
    · have k0 : a * d - b * c = 1 := by
        have : c * D - d * C = -(a * d - b * c) := by rw [hC, hD]; grind
        omega
      rw [k0] at f1 f2
      have m1 := Int.mul_nonneg s2 w0
      have m2 := nn_mul_neg s1 w0
      have hC2 : C < 1000000000 := by
        rcases Int.lt_or_le C 1000000000 with h | h
        · exact h
        · have := big C h; omega
      have hD2 : -1000000000 < D := by
        rcases Int.lt_or_le (-1000000000) D with h | h
        · exact h
        · have := big (-D) (by omega); rw [Int.neg_mul] at this; omega
      omega
  refine ⟨eu', ev', sgn, by omega, ⟨by omega, w0⟩, ?_, Or.inr ⟨hv, w1, by rw [eN]; exact htrue.1, by rw [eN]; exact htrue.2, hYle⟩⟩
  rw [eN, Int.gcd_sub_mul_right_right, Int.gcd_comm]; exact h.gc
#print axioms linv_step
end Go.Proofs.YtmbpcjnlniidkaaDoor
