/- Division of two words by one, digit by digit: the arithmetic of math/bits.Div64. No walk. -/
import Derived.Test.YtkbnhmgladkojaaZumB
import Derived.Lib.ItoaNum
import Derived.Laws.Bits64b
namespace Go.Proofs.Ytkbnhmgladkojaa.Num
open Go.ChangeShapes Go.WideShapes Go.RowKit
set_option linter.unusedVariables false

/-- A guess q of the digit Q, with its rest r. -/
structure KAt (u v1 Q q r : Nat) : Prop where
  sum : q * v1 + r = u
  small : r < 4294967296
  high : Q ≤ q

section
variable {u v v1 v0 d Q q r : Nat}
theorem k_lt (hu : u < v) (hd : d < 4294967296) (hQ : Q = (u * 4294967296 + d) / v) : Q < 4294967296 := by
  subst hQ
  rw [Nat.div_lt_iff_lt_mul (by omega)]
  omega
theorem k_start (hv : v = v1 * 4294967296 + v0) (h1 : 1 ≤ v1) (h2 : v1 < 4294967296) (hd : d < 4294967296) (hQ : Q = (u * 4294967296 + d) / v) : KAt u v1 Q (u / v1) (u % v1) := by
  refine ⟨Nat.div_add_mod' u v1, ?_, ?_⟩
  · have := Nat.mod_lt u (show v1 > 0 by omega); omega
  · rw [Nat.le_div_iff_mul_le (by omega)]
    have h3 : Q * v ≤ u * 4294967296 + d := by subst hQ; exact Nat.div_mul_le_self _ _
    rw [hv, Nat.mul_add, ← Nat.mul_assoc] at h3
    omega
theorem k_body (h : KAt u v1 Q q r) (hv : v = v1 * 4294967296 + v0) (h1 : 1 ≤ v1) (hu : u < v) (hd : d < 4294967296) (hQ : Q = (u * 4294967296 + d) / v) (ht : 4294967296 ≤ q ∨ 4294967296 * r + d < q * v0) : Q + 1 ≤ q := by
  rcases ht with ht | ht
  · have := k_lt hu hd hQ; omega
  · have hs := h.sum
    have e : q * v = q * v1 * 4294967296 + q * v0 := by rw [hv, Nat.mul_add, ← Nat.mul_assoc]
    have : Q < q := by
      subst hQ
      rw [Nat.div_lt_iff_lt_mul (by omega), e]
      omega
    omega
theorem k_exit (h : KAt u v1 Q q r) (hv : v = v1 * 4294967296 + v0) (h1 : 1 ≤ v1) (hQ : Q = (u * 4294967296 + d) / v) (ht : q * v0 ≤ 4294967296 * r + d) : q = Q := by
  have hs := h.sum
  have hh := h.high
  have e : q * v = q * v1 * 4294967296 + q * v0 := by rw [hv, Nat.mul_add, ← Nat.mul_assoc]
  have : q ≤ Q := by
    subst hQ
    rw [Nat.le_div_iff_mul_le (by omega), e]
    omega
  omega
theorem k_break (h : KAt u v1 Q (q + 1) r) (hv : v = v1 * 4294967296 + v0) (h1 : 1 ≤ v1) (h0 : v0 < 4294967296) (hu : u < v) (hQ : Q = (u * 4294967296 + d) / v) (hq : Q ≤ q) (ht : 4294967296 ≤ r + v1) : q = Q := by
  have hs := h.sum
  rw [Nat.add_mul, Nat.one_mul] at hs
  have hlt : q < 4294967296 := by
    have : q * v1 < 4294967296 * v1 := by omega
    exact Nat.lt_of_mul_lt_mul_right this
  have hp : q * v0 ≤ 4294967296 * 4294967296 := Nat.mul_le_mul (by omega) (by omega)
  have e : q * v = q * v1 * 4294967296 + q * v0 := by rw [hv, Nat.mul_add, ← Nat.mul_assoc]
  have : q ≤ Q := by
    subst hQ
    rw [Nat.le_div_iff_mul_le (by omega), e]
    omega
  omega
theorem k_next (h : KAt u v1 Q (q + 1) r) (hq : Q ≤ q) (ht : r + v1 < 4294967296) : KAt u v1 Q q (r + v1) := by
  have hs := h.sum
  rw [Nat.add_mul, Nat.one_mul] at hs
  exact ⟨by omega, ht, hq⟩
end

/-- The count of leading zeros makes the divisor fill its word. -/
theorem norm_of {y : Nat} (h1 : 1 ≤ y) (h2 : y < 18446744073709551616) : ∃ s : Nat, s ≤ 63 ∧ (64 - (Lib.bitLen y : Int)) = s ∧ 9223372036854775808 ≤ y * 2 ^ s ∧ y * 2 ^ s < 18446744073709551616 := by
  obtain ⟨b1, b2, b3⟩ := Lib.bitLenAux_bounds 64 y h2 (by omega)
  have b4 : Lib.bitLen y ≤ 64 := Lib.bitLen_le y 64 (by omega) h2
  have e : Lib.bitLen y = Lib.bitLenAux 64 y := rfl
  rw [← e] at b1 b2 b3
  refine ⟨64 - Lib.bitLen y, by omega, by omega, ?_, ?_⟩
  · have : 2 ^ (Lib.bitLen y - 1) * 2 ^ (64 - Lib.bitLen y) = 2 ^ 63 := by rw [← Nat.pow_add]; congr 1; omega
    have h3 : 2 ^ (Lib.bitLen y - 1) * 2 ^ (64 - Lib.bitLen y) ≤ y * 2 ^ (64 - Lib.bitLen y) := Nat.mul_le_mul_right _ b2
    omega
  · have : 2 ^ (Lib.bitLen y) * 2 ^ (64 - Lib.bitLen y) = 2 ^ 64 := by rw [← Nat.pow_add]; congr 1; omega
    have h3 : y * 2 ^ (64 - Lib.bitLen y) < 2 ^ (Lib.bitLen y) * 2 ^ (64 - Lib.bitLen y) := Nat.mul_lt_mul_of_pos_right b3 (Nat.two_pow_pos _)
    omega

/-- The numbers of one division. -/
structure Div2 (hi lo y s Y v1 v0 u l d1 d0 Q1 R Q0 R0 : Nat) : Prop where
  hY : Y = y * 2 ^ s
  Ylo : 9223372036854775808 ≤ Y
  Yhi : Y < 18446744073709551616
  hv : Y = v1 * 4294967296 + v0
  v0lt : v0 < 4294967296
  v1lo : 2147483648 ≤ v1
  v1hi : v1 < 4294967296
  hu : u = hi * 2 ^ s + lo / 2 ^ (64 - s)
  ult : u < Y
  hl : l = lo * 2 ^ s % 18446744073709551616
  hd : l = d1 * 4294967296 + d0
  d1lt : d1 < 4294967296
  d0lt : d0 < 4294967296
  hQ1 : Q1 = (u * 4294967296 + d1) / Y
  hR : R = (u * 4294967296 + d1) % Y
  Rlt : R < Y
  hQ0 : Q0 = (R * 4294967296 + d0) / Y
  hR0 : R0 = (R * 4294967296 + d0) % Y
  quo : Q1 * 4294967296 + Q0 = (hi * 18446744073709551616 + lo) / y
  rem : R0 / 2 ^ s = (hi * 18446744073709551616 + lo) % y

theorem div2_of {hi lo y s : Nat} (hh : hi < y) (hl : lo < 18446744073709551616) (hs : s ≤ 63) (h1 : 9223372036854775808 ≤ y * 2 ^ s) (h2 : y * 2 ^ s < 18446744073709551616) :
    ∃ Y v1 v0 u l d1 d0 Q1 R Q0 R0, Div2 hi lo y s Y v1 v0 u l d1 d0 Q1 R Q0 R0 := by
  have hp := Nat.two_pow_pos s
  have hsplit : 2 ^ (64 - s) * 2 ^ s = 18446744073709551616 := by
    rw [← Nat.pow_add]; have : 64 - s + s = 64 := by omega
    rw [this]
  have hlo : lo / 2 ^ (64 - s) < 2 ^ s := by
    rw [Nat.div_lt_iff_lt_mul (Nat.two_pow_pos _), Nat.mul_comm, hsplit]; exact hl
  have hult : hi * 2 ^ s + lo / 2 ^ (64 - s) < y * 2 ^ s := by
    have : (hi + 1) * 2 ^ s ≤ y * 2 ^ s := Nat.mul_le_mul_right _ hh
    rw [Nat.add_mul, Nat.one_mul] at this; omega
  have hN : (hi * 18446744073709551616 + lo) * 2 ^ s = (hi * 2 ^ s + lo / 2 ^ (64 - s)) * 18446744073709551616 + lo * 2 ^ s % 18446744073709551616 := by
    have e1 : lo * 2 ^ s / 18446744073709551616 = lo / 2 ^ (64 - s) := by
      rw [← hsplit, Nat.mul_comm lo, Nat.mul_comm (2 ^ (64 - s)), Nat.mul_div_mul_left _ _ hp]
    have e2 := Nat.div_add_mod (lo * 2 ^ s) 18446744073709551616
    rw [e1] at e2
    have e3 : hi * 18446744073709551616 * 2 ^ s = hi * 2 ^ s * 18446744073709551616 := by rw [Nat.mul_right_comm]
    rw [Nat.add_mul, e3, Nat.add_mul]
    omega
  obtain ⟨Y, hY⟩ : ∃ Y, Y = y * 2 ^ s := ⟨_, rfl⟩
  obtain ⟨u, hu⟩ : ∃ u, u = hi * 2 ^ s + lo / 2 ^ (64 - s) := ⟨_, rfl⟩
  obtain ⟨l, hl'⟩ : ∃ l, l = lo * 2 ^ s % 18446744073709551616 := ⟨_, rfl⟩
  rw [← hu, ← hl'] at hN
  rw [← hY] at h1 h2 hult
  rw [← hu] at hult
  obtain ⟨Q1, hQ1⟩ : ∃ Q1, Q1 = (u * 4294967296 + l / 4294967296) / Y := ⟨_, rfl⟩
  obtain ⟨R, hR⟩ : ∃ R, R = (u * 4294967296 + l / 4294967296) % Y := ⟨_, rfl⟩
  obtain ⟨Q0, hQ0⟩ : ∃ Q0, Q0 = (R * 4294967296 + l % 4294967296) / Y := ⟨_, rfl⟩
  obtain ⟨R0, hR0⟩ : ∃ R0, R0 = (R * 4294967296 + l % 4294967296) % Y := ⟨_, rfl⟩
  have f1 : Q1 * Y + R = u * 4294967296 + l / 4294967296 := by rw [hQ1, hR]; exact Nat.div_add_mod' _ _
  have f2 : Q0 * Y + R0 = R * 4294967296 + l % 4294967296 := by rw [hQ0, hR0]; exact Nat.div_add_mod' _ _
  have hRlt : R < Y := by rw [hR]; exact Nat.mod_lt _ (by omega)
  have hR0lt : R0 < Y := by rw [hR0]; exact Nat.mod_lt _ (by omega)
  have f3 : (hi * 18446744073709551616 + lo) * 2 ^ s = (Q1 * 4294967296 + Q0) * Y + R0 := by
    have e : Q1 * 4294967296 * Y = Q1 * Y * 4294967296 := Nat.mul_right_comm _ _ _
    rw [hN, Nat.add_mul, e]; omega
  have q1 : (hi * 18446744073709551616 + lo) * 2 ^ s / Y = Q1 * 4294967296 + Q0 := by
    rw [f3, Nat.mul_comm _ Y, Nat.mul_add_div (by omega), Nat.div_eq_of_lt hR0lt]; omega
  have q2 : (hi * 18446744073709551616 + lo) * 2 ^ s % Y = R0 := by
    rw [f3, Nat.mul_comm _ Y, Nat.mul_add_mod, Nat.mod_eq_of_lt hR0lt]
  refine ⟨Y, Y / 4294967296, Y % 4294967296, u, l, l / 4294967296, l % 4294967296, Q1, R, Q0, R0, hY, h1, h2, by omega, by omega, by omega, by omega, hu, hult, hl', by omega, by omega, by omega, hQ1, hR, hRlt, hQ0, hR0, ?_, ?_⟩
  · rw [← q1, hY, Nat.mul_div_mul_right _ _ hp]
  · rw [← q2, hY, Nat.mul_mod_mul_right, Nat.mul_div_cancel _ hp]
end Go.Proofs.Ytkbnhmgladkojaa.Num
