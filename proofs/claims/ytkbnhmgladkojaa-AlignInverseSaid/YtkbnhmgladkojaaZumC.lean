/- Contracts of num.product, num.Mul, and of Mul of the reference. -/
import Derived.Test.YtkbnhmgladkojaaZumB
import Derived.Test.YtkbnhmgladkojaaShelf
namespace Go.Proofs.Ytkbnhmgladkojaa.Num
open Go.ChangeShapes Go.WideShapes Go.RowKit
set_option linter.unusedVariables false

/-- The two words of the product of the magnitudes. -/
def mulHi (a b : Int) : Nat := a.natAbs * b.natAbs / 18446744073709551616
def mulLo (a b : Int) : Nat := a.natAbs * b.natAbs % 18446744073709551616
theorem mulLo_lt (a b : Int) : mulLo a b < 18446744073709551616 := Nat.mod_lt _ (by omega)
theorem mulLo_of {a b : Int} (h : mulHi a b = 0) : mulLo a b = (a * b).natAbs := by
  unfold mulHi at h; unfold mulLo; rw [Int.natAbs_mul]; omega
theorem mulHi_big {a b : Int} (h : mulHi a b ≠ 0) : 18446744073709551616 ≤ (a * b).natAbs := by
  unfold mulHi at h; rw [Int.natAbs_mul]; omega
theorem prod_pos {a b : Int} (h : (a < 0 ∧ b < 0) ∨ (0 ≤ a ∧ 0 ≤ b)) : 0 ≤ a * b := by
  rcases h with ⟨h1, h2⟩ | ⟨h1, h2⟩
  · exact Int.mul_nonneg_of_nonpos_of_nonpos (by omega) (by omega)
  · exact Int.mul_nonneg h1 h2
theorem prod_neg {a b : Int} (h : (a < 0 ∧ 0 ≤ b) ∨ (0 ≤ a ∧ b < 0)) : a * b ≤ 0 := by
  rcases h with ⟨h1, h2⟩ | ⟨h1, h2⟩
  · exact Int.mul_nonpos_of_nonpos_of_nonneg (by omega) h2
  · exact Int.mul_nonpos_of_nonneg_of_nonpos h1 (by omega)
theorem mul_same {a b : Int} (h : mulHi a b = 0) (hs : (a < 0 ∧ b < 0) ∨ (0 ≤ a ∧ 0 ≤ b)) : (mulLo a b : Int) = a * b := by
  have := prod_pos hs; rw [mulLo_of h]; omega
theorem mul_diff {a b : Int} (h : mulHi a b = 0) (hs : (a < 0 ∧ 0 ≤ b) ∨ (0 ≤ a ∧ b < 0)) : -(mulLo a b : Int) = a * b := by
  have := prod_neg hs; rw [mulLo_of h]; omega

theorem neg_cases (a : Int) : (a < 0 ∧ decide (a < 0) = true) ∨ (0 ≤ a ∧ decide (a < 0) = false) := by
  by_cases h : a < 0
  · exact Or.inl ⟨h, decide_eq_true h⟩
  · exact Or.inr ⟨by omega, decide_eq_false h⟩

theorem num_product (a b : Int) (w : World) (a1 : -1125899906842624 ≤ a) (a2 : a ≤ 1125899906842624) (b1 : -1125899906842624 ≤ b) (b2 : b ≤ 1125899906842624) :
    Calls Try.prog 40 #[.int .i64 a, .int .i64 b] w fun e w' => e = .returned (.agg #[.int .u64 (mulHi a b : Int), .int .u64 (mulLo a b : Int)]) ∧ Below w.heap.size w w' := by
  go_enter Try.func40, Try.ntmps40
  go_wp2_with fail
  refine (num_magnitude a _ a1 a2).mono ?_
  rintro e w' ⟨rfl, rfl⟩
  go_wp2_with fail
  refine (num_magnitude b _ b1 b2).mono ?_
  rintro e w' ⟨rfl, rfl⟩
  go_wp2_with fail
  refine (Try.bits_Mul64 _ _ (by omega) (by omega) _).mono ?_
  rintro e w' ⟨rfl, rfl⟩
  rw [← mulHi, ← mulLo]
  go_wp2_with fail
  exact bodyPost_ret (v := .agg #[.int .u64 (mulHi a b : Int), .int .u64 (mulLo a b : Int)]) (by simp [results, Try.results40, go_sem]) rfl ⟨rfl, ((Below.refl _ _).alloc (Nat.le_refl _) _).alloc (by simp) _⟩

/-- The reference's test: |b| > most / |a| says that the product is out of range. -/
theorem ref_mul_big {a b : Int} (ha : a ≠ 0) (h : 1125899906842624 / (a.natAbs : Int) < b.natAbs) : 1125899906842624 < (a * b).natAbs := by
  have h' : 1125899906842624 / a.natAbs < b.natAbs := Int.ofNat_lt.1 (by rw [Int.natCast_ediv]; exact h)
  rw [Int.natAbs_mul, Nat.mul_comm]
  exact (Nat.div_lt_iff_lt_mul (by omega)).1 h'
theorem ref_mul_small {a b : Int} (ha : a ≠ 0) (h : (b.natAbs : Int) ≤ 1125899906842624 / (a.natAbs : Int)) : (a * b).natAbs ≤ 1125899906842624 := by
  have h' : b.natAbs ≤ 1125899906842624 / a.natAbs := Int.ofNat_le.1 (by rw [Int.natCast_ediv]; exact h)
  rw [Int.natAbs_mul, Nat.mul_comm]
  exact (Nat.le_div_iff_mul_le (by omega)).1 h'

end Go.Proofs.Ytkbnhmgladkojaa.Num
