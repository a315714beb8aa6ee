/- Contracts of divide and MulDiv of the reference. -/
import Derived.Test.YtekjmkihmegnnaaNumL
import Derived.Lib.RabinKarpLaws
namespace Go.Proofs.Ytekjmkihmegnnaa
open Go.ChangeShapes Go.WideShapes Go.RowKit
set_option linter.unusedVariables false
set_option linter.unusedSimpArgs false

/-- The quotient, cut off at 2^52. -/
def capQ (n c : Nat) : Nat := min (n / c) 4503599627370496
theorem cap_step {A b c bit : Nat} (hc : 1 ≤ c) : capQ ((2 * A + bit) * b) c = min (2 * capQ (A * b) c + (2 * (A * b % c) + bit * b) / c) 4503599627370496 := by
  have e : (2 * A + bit) * b = c * (2 * (A * b / c)) + (2 * (A * b % c) + bit * b) := by
    have h := Nat.div_add_mod (A * b) c
    have e1 : c * (2 * (A * b / c)) = 2 * (c * (A * b / c)) := Nat.mul_left_comm _ _ _
    rw [Nat.add_mul, Nat.mul_assoc, e1]; omega
  unfold capQ
  rw [e, Nat.mul_add_div (by omega)]
  generalize (2 * (A * b % c) + bit * b) / c = t
  generalize A * b / c = n
  omega
theorem rest_step {A b c bit : Nat} : (2 * A + bit) * b % c = (2 * (A * b % c) + bit * b) % c := by
  have h := Nat.div_add_mod (A * b) c
  have e : (2 * A + bit) * b = (2 * (A * b % c) + bit * b) + c * (2 * (A * b / c)) := by
    have e1 : c * (2 * (A * b / c)) = 2 * (c * (A * b / c)) := Nat.mul_left_comm _ _ _
    rw [Nat.add_mul, Nat.mul_assoc, e1]; omega
  rw [e, Nat.add_mul_mod_self_left]
theorem bit_step (a i : Nat) : a / 2 ^ i = 2 * (a / 2 ^ (i + 1)) + a / 2 ^ i % 2 := by
  have : a / 2 ^ (i + 1) = a / 2 ^ i / 2 := by rw [Nat.pow_succ, Nat.div_div_eq_div_mul]
  rw [this]; omega

theorem and_bit {a i v : Nat} (ha : a < 9223372036854775808) (h : a / 2 ^ i % 2 = v) : bits .and .i64 ((a : Int) / 2 ^ i) 1 = v := by
  have e : (a : Int) / 2 ^ i = ((a / 2 ^ i : Nat) : Int) := by rw [Int.natCast_ediv, Int.natCast_pow]; rfl
  rw [e, Go.Proofs.and_one _ (by have := Nat.div_le_self a (2 ^ i); omega), h]

set_option maxHeartbeats 400000 in
theorem ref_divide (a b c : Nat) (w : World) (ha : a ≤ 1125899906842624) (hb : b ≤ 1125899906842624) (hc1 : 1 ≤ c) (hc2 : c ≤ 1125899906842624) :
    Calls Try.prog 39 #[.int .i64 (a : Int), .int .i64 (b : Int), .int .i64 (c : Int)] w fun e w' => e = .returned (.tuple #[.int .i64 (capQ (a * b) c : Int), .int .i64 ((a * b % c : Nat) : Int)]) ∧ Below w.heap.size w w' := by
  have ha' : (a : Int) ≤ 1125899906842624 := by omega
  have hb' : (b : Int) ≤ 1125899906842624 := by omega
  have hc1' : 1 ≤ (c : Int) := by omega
  have hc2' : (c : Int) ≤ 1125899906842624 := by omega
  go_enter Try.func39, Try.ntmps39
  go_wp2_with fail
  go_loop [8, 9, 10] (fun x y z => ∃ j q r : Nat, j ≤ 51 ∧ x = .int .i64 q ∧ y = .int .i64 r ∧ z = .int .i64 ((j : Int) - 1) ∧ q = capQ (a / 2 ^ j * b) c ∧ r = a / 2 ^ j * b % c) (fun _ _ z => (intOf z + 1).toNat)
  case atStart =>
    have h0 : a / 2 ^ 51 = 0 := Nat.div_eq_of_lt (by omega)
    exact ⟨51, 0, 0, by omega, rfl, rfl, by go_num, by rw [h0]; simp [capQ], by rw [h0]; simp⟩
  case round =>
    obtain ⟨j, q, r, hj, rfl, rfl, rfl, hq, hr⟩ := hrel
    have hq1 : (q : Int) ≤ 4503599627370496 := by unfold capQ at hq; omega
    have hr1 : (r : Int) < c := by have := Nat.mod_lt (a / 2 ^ j * b) hc1; omega
    have HQ := Lib.hid hq
    have HR := Lib.hid hr
    clear hq hr
    cases j with
    | zero =>
      rw [show ((0 : Nat) : Int) - 1 = -1 from rfl]
      go_wp2
      go_ret2
      have e1 := HQ.out
      have e2 := HR.out
      rw [Nat.pow_zero, Nat.div_one] at e1 e2
      exact ⟨ret_two (by rw [e1]) (by rw [e2, Int.natCast_emod, Int.natCast_mul]), Below.refl _ _⟩
    | succ i =>
      have hi : ((i + 1 : Nat) : Int) - 1 = i := by omega
      rw [hi]; clear hi
      have hdb : a / 2 ^ i = 2 * (a / 2 ^ (i + 1)) + a / 2 ^ i % 2 := bit_step a i
      have hc0 : 0 ≤ (c : Int) := by omega
      rcases Nat.mod_two_eq_zero_or_one (a / 2 ^ i) with hbit | hbit
      · have hband := and_bit (a := a) (i := i) (by omega) hbit
        have e1 := cap_step (A := a / 2 ^ (i + 1)) (b := b) (bit := 0) hc1
        have e2 := rest_step (A := a / 2 ^ (i + 1)) (b := b) (c := c) (bit := 0)
        rw [hbit] at hdb
        rw [← hdb, ← HQ.out, ← HR.out] at e1
        rw [← hdb, ← HR.out] at e2
        obtain ⟨t, ht⟩ : ∃ t : Nat, 2 * (r : Int) / c = t := ⟨2 * r / c, by rw [Int.natCast_ediv, Int.natCast_mul]; rfl⟩
        obtain ⟨v, hv⟩ : ∃ v : Nat, 2 * (r : Int) % c = v := ⟨2 * r % c, by rw [Int.natCast_emod, Int.natCast_mul]; rfl⟩
        have et : t = 2 * r / c := by have : ((2 * r / c : Nat) : Int) = 2 * (r : Int) / c := by rw [Int.natCast_ediv, Int.natCast_mul]; rfl
                                      omega
        have ev : v = 2 * r % c := by have : ((2 * r % c : Nat) : Int) = 2 * (r : Int) % c := by rw [Int.natCast_emod, Int.natCast_mul]; rfl
                                      omega
        have et1 : (t : Int) ≤ 4503599627370496 := by have := Nat.div_le_self (2 * r) c; omega
        rw [Nat.zero_mul, Nat.add_zero] at e1 e2
        rw [← et] at e1
        rw [← ev] at e2
        have E1 := Lib.hid e1
        have E2 := Lib.hid e2
        clear e1 e2 et ev hdb hbit
        go_wp2_with fail
        go_round
        case rel => exact ⟨i, min (2 * q + t) 4503599627370496, v, by omega, congrArg _ (by omega), congrArg _ hv, rfl, E1.out.symm, E2.out.symm⟩
        case measure => simp [intOf]
      · have hband := and_bit (a := a) (i := i) (by omega) hbit
        have e1 := cap_step (A := a / 2 ^ (i + 1)) (b := b) (bit := 1) hc1
        have e2 := rest_step (A := a / 2 ^ (i + 1)) (b := b) (c := c) (bit := 1)
        rw [hbit] at hdb
        rw [← hdb, ← HQ.out, ← HR.out] at e1
        rw [← hdb, ← HR.out] at e2
        obtain ⟨t, ht⟩ : ∃ t : Nat, (2 * (r : Int) + b) / c = t := ⟨(2 * r + b) / c, by rw [Int.natCast_ediv, Int.natCast_add, Int.natCast_mul]; rfl⟩
        obtain ⟨v, hv⟩ : ∃ v : Nat, (2 * (r : Int) + b) % c = v := ⟨(2 * r + b) % c, by rw [Int.natCast_emod, Int.natCast_add, Int.natCast_mul]; rfl⟩
        have et : t = (2 * r + b) / c := by have : (((2 * r + b) / c : Nat) : Int) = (2 * (r : Int) + b) / c := by rw [Int.natCast_ediv, Int.natCast_add, Int.natCast_mul]; rfl
                                            omega
        have ev : v = (2 * r + b) % c := by have : (((2 * r + b) % c : Nat) : Int) = (2 * (r : Int) + b) % c := by rw [Int.natCast_emod, Int.natCast_add, Int.natCast_mul]; rfl
                                            omega
        have et1 : (t : Int) ≤ 4503599627370496 := by have := Nat.div_le_self (2 * r + b) c; omega
        rw [Nat.one_mul] at e1 e2
        rw [← et] at e1
        rw [← ev] at e2
        have E1 := Lib.hid e1
        have E2 := Lib.hid e2
        clear e1 e2 et ev hdb hbit
        go_wp2_with fail
        go_round
        case rel => exact ⟨i, min (2 * q + t) 4503599627370496, v, by omega, congrArg _ (by omega), congrArg _ hv, rfl, E1.out.symm, E2.out.symm⟩
        case measure => simp [intOf]
#print axioms ref_divide
end Go.Proofs.Ytekjmkihmegnnaa
