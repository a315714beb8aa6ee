/- The law NumExact: the walk. -/
import Derived.Test.YtekjmkihmegnnaaLawKit
import Derived.Test.YtekjmkihmegnnaaNumS
namespace Go.Proofs.Ytekjmkihmegnnaa
open Go Go.ChangeShapes Go.WideShapes Go.RowKit
set_option linter.unusedVariables false

theorem tmod_bd (a n : Int) (hn : 0 < n) : -n < a.tmod n ∧ a.tmod n < n := by
  have h1 := Int.tmod_lt_of_pos a hn
  refine ⟨?_, h1⟩
  rcases Int.lt_or_le a 0 with h | h
  · have e : a = -(-a) := by omega
    rw [e, Int.neg_tmod]
    have := Int.tmod_lt_of_pos (-a) hn
    omega
  · have := Int.tmod_nonneg n h
    omega

/-- The three quotients of p = x * y by z, and what is left of p behind the lower one, turned so that the divisor is positive. -/
structure Three (p z lo hi near T : Int) : Prop where
  lo1 : -1125899906842624 ≤ lo
  lo2 : lo ≤ 1125899906842624
  T0 : 0 ≤ T
  low : lo * z = if z < 0 then p + T else p - T
  ways : (T = 0 ∧ hi = lo ∧ near = lo) ∨ (0 < T ∧ T < (z.natAbs : Int) ∧ hi = lo + 1 ∧ ((2 * T < z.natAbs ∧ near = lo) ∨ (2 * T = z.natAbs ∧ near % 2 = 0 ∧ (near = lo ∨ near = lo + 1)) ∨ ((z.natAbs : Int) < 2 * T ∧ near = lo + 1)))

theorem away_zero' (q d : Nat) (m : Int) (neg : Bool) : awayB q 0 d m neg = false := if_pos rfl
theorem away_m0' {q r d : Nat} {neg : Bool} (hr : r ≠ 0) : awayB q r d 0 neg = neg := by unfold awayB; rw [if_neg hr, if_pos rfl]
theorem away_m1' {q r d : Nat} {neg : Bool} (hr : r ≠ 0) : awayB q r d 1 neg = !neg := by unfold awayB; rw [if_neg hr, if_neg (by omega), if_pos rfl]
theorem away_m2' {q r d : Nat} {neg : Bool} (hr : r ≠ 0) : awayB q r d 2 neg = decide (d < 2 * r ∨ (2 * r = d ∧ q % 2 = 1)) := by unfold awayB; rw [if_neg hr, if_neg (by omega), if_neg (by omega)]

theorem three_of {x y z : Int} (hx : -33554432 < x ∧ x < 33554432) (hy : -33554432 < y ∧ y < 33554432) (hz : InR z) (h0 : z ≠ 0) :
    ∃ lo hi near T, Three (x * y) z lo hi near T ∧ mdV x y z 0 = lo ∧ mdV x y z 1 = hi ∧ mdV x y z 2 = near ∧ mdE x y z 0 = 0 ∧ mdE x y z 1 = 0 ∧ mdE x y z 2 = 0 := by
  have hd : 1 ≤ z.natAbs := by omega
  have hxy : x.natAbs * y.natAbs ≤ 33554431 * 33554431 := Nat.mul_le_mul (by omega) (by omega)
  obtain ⟨Q, hQ⟩ : ∃ Q, Q = x.natAbs * y.natAbs / z.natAbs := ⟨_, rfl⟩
  obtain ⟨R, hR⟩ : ∃ R, R = x.natAbs * y.natAbs % z.natAbs := ⟨_, rfl⟩
  obtain ⟨M, hM⟩ : ∃ M, M = x.natAbs * y.natAbs := ⟨_, rfl⟩
  have hQR : Q * z.natAbs + R = M := by rw [hQ, hR, hM]; exact Nat.div_add_mod' _ _
  have hRlt : R < z.natAbs := by rw [hR]; exact Nat.mod_lt _ hd
  have hQM : Q ≤ M := by rw [hQ, hM]; exact Nat.div_le_self _ _
  rw [← hM] at hxy
  have hP : (x * y).natAbs = M := by rw [Int.natAbs_mul, hM]
  have hin : InR x ∧ InR y ∧ InR z := ⟨⟨by omega, by omega⟩, ⟨by omega, by omega⟩, hz⟩
  obtain ⟨neg, hneg⟩ : ∃ neg, negB x y z = neg := ⟨_, rfl⟩
  -- the product has the sign of neg, if the divisor is made positive
  have hs : (z < 0 → -(x * y) = sg neg M) ∧ (0 ≤ z → x * y = sg neg M) := by
    have g1 := fun h => prod_pos (a := x) (b := y) h
    have g2 := fun h => prod_neg (a := x) (b := y) h
    rw [← hneg]
    unfold sg negB
    rcases neg_cases x with ⟨h1, e1⟩ | ⟨h1, e1⟩ <;> rcases neg_cases y with ⟨h2, e2⟩ | ⟨h2, e2⟩ <;> rcases neg_cases z with ⟨h3, e3⟩ | ⟨h3, e3⟩ <;> rw [e1, e2, e3] <;> simp
    all_goals first
      | (have := g1 (by omega); omega)
      | (have := g2 (by omega); omega)
  have hz2 : (z < 0 ∧ (z.natAbs : Int) = -z) ∨ (0 ≤ z ∧ (z.natAbs : Int) = z) := by omega
  have hQz : (Q : Int) * z.natAbs + R = M := by rw [← hQR, Int.natCast_add, Int.natCast_mul]
  have val : ∀ m, ¬ (m < 0 ∨ 2 < m) → mdV x y z m = sg neg (Q + if awayB Q R z.natAbs m neg then 1 else 0) ∧ mdE x y z m = 0 := by
    intro m hm
    have e : mdR x y z m = sg neg (Q + if awayB Q R z.natAbs m neg then 1 else 0) := by
      unfold mdR mdM; rw [hneg, ← hQ, ← hR]
    have b : -1125899906842624 ≤ mdR x y z m ∧ mdR x y z m ≤ 1125899906842624 := by
      rw [e]
      have : (if awayB Q R z.natAbs m neg then 1 else 0) ≤ 1 := by split <;> omega
      unfold sg; split <;> omega
    rw [mdV_in hin h0 hm, mdE_in hin h0 hm, okV_yes b.1 b.2, okE_yes b.1 b.2]
    exact ⟨e, rfl⟩
  obtain ⟨v0, e0⟩ := val 0 (by omega)
  obtain ⟨v1, e1⟩ := val 1 (by omega)
  obtain ⟨v2, e2⟩ := val 2 (by omega)
  obtain ⟨K, hK⟩ : ∃ K, K = (Q : Int) * z.natAbs := ⟨_, rfl⟩
  rw [← hK] at hQz
  have m1 : (Q : Int) * z = if z < 0 then -K else K := by
    rcases hz2 with ⟨h, e⟩ | ⟨h, e⟩
    · rw [if_pos h, hK, e, Int.mul_neg, Int.neg_neg]
    · rw [if_neg (by omega), hK, e]
  have m2 : (-(Q : Int)) * z = -((Q : Int) * z) := Int.neg_mul _ _
  have m3 : (-((Q : Int) + 1)) * z = -((Q : Int) * z) - z := by rw [Int.neg_mul, Int.add_mul, Int.one_mul]; omega
  have hQ50 : (Q : Int) ≤ 1125899839733761 := by omega
  by_cases hr : R = 0
  · rw [hr, away_zero', if_neg (by decide)] at v0 v1 v2
    refine ⟨_, _, _, 0, ⟨?_, ?_, by omega, ?_, Or.inl ⟨rfl, rfl, rfl⟩⟩, v0, v1, v2, e0, e1, e2⟩
    · unfold sg; split <;> omega
    · unfold sg; split <;> omega
    · rw [Nat.add_zero]
      cases neg
      · simp only [sg, Bool.false_eq_true, if_false] at hs ⊢
        rw [m1]
        split <;> omega
      · simp only [sg, if_true] at hs ⊢
        rw [m2, m1]
        split <;> omega
  · cases neg
    · rw [away_m0' hr, if_neg (by decide)] at v0
      rw [away_m1' hr, if_pos (by decide)] at v1
      rw [away_m2' hr] at v2
      simp only [sg, Bool.false_eq_true, if_false] at hs v0 v1 v2
      refine ⟨_, _, _, R, ⟨?_, ?_, by omega, ?_, Or.inr ⟨by omega, by omega, ?_, ?_⟩⟩, v0, v1, v2, e0, e1, e2⟩
      · omega
      · omega
      · rw [Nat.add_zero, m1]
        split <;> omega
      · omega
      · split <;> rename_i h <;> simp only [decide_eq_true_eq] at h <;> omega
    · rw [away_m0' hr, if_pos rfl] at v0
      rw [away_m1' hr, if_neg (by decide)] at v1
      rw [away_m2' hr] at v2
      simp only [sg, if_true] at hs v0 v1 v2
      refine ⟨_, _, _, (z.natAbs : Int) - R, ⟨?_, ?_, by omega, ?_, Or.inr ⟨by omega, by omega, ?_, ?_⟩⟩, v0, v1, v2, e0, e1, e2⟩
      · omega
      · omega
      · rw [Int.natCast_add, Int.natCast_one, m3, m1]
        split <;> omega
      · omega
      · split <;> rename_i h <;> simp only [decide_eq_true_eq] at h <;> omega

/-- What the calls of the law return. -/
structure ExactCalls (X Y Z P lo hi near ez : Int) : Prop where
  cm : ∀ W, Calls Try.prog 16 #[.int .i64 X, .int .i64 Y] W fun e w' => e = .returned (.tuple #[.int .i64 P, .int .i64 0]) ∧ Below W.heap.size W w'
  ca : ∀ W, Calls Try.prog 12 #[.int .i64 X, .int .i64 Y] W fun e w' => e = .returned (.tuple #[.int .i64 (X + Y), .int .i64 0]) ∧ W = w'
  cs : ∀ W, Calls Try.prog 14 #[.int .i64 (X + Y), .int .i64 Y] W fun e w' => e = .returned (.tuple #[.int .i64 X, .int .i64 0]) ∧ W = w'
  c0 : ∀ W, Calls Try.prog 21 #[.int .i64 X, .int .i64 Y, .int .i64 Z, .int .i64 0] W fun e w' => e = .returned (.tuple #[.int .i64 lo, .int .i64 ez]) ∧ Below W.heap.size W w'
  c1 : ∀ W, Calls Try.prog 21 #[.int .i64 X, .int .i64 Y, .int .i64 Z, .int .i64 1] W fun e w' => e = .returned (.tuple #[.int .i64 hi, .int .i64 ez]) ∧ Below W.heap.size W w'
  c2 : ∀ W, Calls Try.prog 21 #[.int .i64 X, .int .i64 Y, .int .i64 Z, .int .i64 2] W fun e w' => e = .returned (.tuple #[.int .i64 near, .int .i64 ez]) ∧ Below W.heap.size W w'

theorem exact_calls {X Y Z P lo hi near ez : Int} (hX : -33554432 < X ∧ X < 33554432) (hY : -33554432 < Y ∧ Y < 33554432) (hP : X * Y = P) (p1 : -1125899906842624 ≤ P) (p2 : P ≤ 1125899906842624)
    (v0 : mdV X Y Z 0 = lo) (v1 : mdV X Y Z 1 = hi) (v2 : mdV X Y Z 2 = near) (e0 : mdE X Y Z 0 = ez) (e1 : mdE X Y Z 1 = ez) (e2 : mdE X Y Z 2 = ez) : ExactCalls X Y Z P lo hi near ez where
  cm := fun W => by
    have h := num_mul X Y W
    rw [rngV_yes _ (by omega) (by omega) (by omega) (by omega), rngE_yes _ (by omega) (by omega) (by omega) (by omega), hP, okV_yes p1 p2, okE_yes p1 p2] at h; exact h
  ca := fun W => by
    have h := num_add X Y W
    rw [rngV_yes _ (by omega) (by omega) (by omega) (by omega), rngE_yes _ (by omega) (by omega) (by omega) (by omega), okV_yes (by omega) (by omega), okE_yes (by omega) (by omega)] at h; exact h
  cs := fun W => by
    have h := num_sub (X + Y) Y W
    rw [Int.add_sub_cancel, rngV_yes _ (by omega) (by omega) (by omega) (by omega), rngE_yes _ (by omega) (by omega) (by omega) (by omega), okV_yes (by omega) (by omega), okE_yes (by omega) (by omega)] at h; exact h
  c0 := fun W => by have h := num_muldiv X Y Z 0 W; rw [v0, e0] at h; exact h
  c1 := fun W => by have h := num_muldiv X Y Z 1 W; rw [v1, e1] at h; exact h
  c2 := fun W => by have h := num_muldiv X Y Z 2 W; rw [v2, e2] at h; exact h

end Go.Proofs.Ytekjmkihmegnnaa
