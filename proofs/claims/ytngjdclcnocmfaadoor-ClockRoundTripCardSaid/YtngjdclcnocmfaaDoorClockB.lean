/- Contracts of isMoment, number, Shift, isTime, multiplesBelow, Steps, Next of the program, and of Moment, Shift, Within, up, Steps, Next of the reference. -/
import Derived.Test.YtngjdclcnocmfaaDoorClockA
import Derived.OwnWalk
namespace Go.Proofs.YtngjdclcnocmfaaDoor.Clock
open Go.ChangeShapes Go.WideShapes Go.RowKit
set_option linter.unusedVariables false
set_option maxRecDepth 100000

theorem ret_bool {a b : Bool} (h : a = b) : Ending.returned (.bool a) = .returned (.bool b) := by rw [h]
theorem ret_int {k : IntKind} {a b : Int} (h : a = b) : Ending.returned (.int k a) = .returned (.int k b) := by rw [h]
theorem ret_two {a b c d : Int} (h : a = c) (k : b = d) : Ending.returned (.tuple #[.int .i64 a, .int .i64 b]) = .returned (.tuple #[.int .i64 c, .int .i64 d]) := by rw [h, k]
theorem ret_three {a b c a' b' c' : Int} (h : a = a') (k : b = b') (l : c = c') : Ending.returned (.tuple #[.int .i64 a, .int .i64 b, .int .i64 c]) = .returned (.tuple #[.int .i64 a', .int .i64 b', .int .i64 c']) := by rw [h, k, l]
theorem tdiv_nat (n m : Nat) : ((n : Int)).tdiv (m : Int) = ((n / m : Nat) : Int) := by rw [Int.tdiv_eq_ediv_of_nonneg (by omega)]; rfl
theorem tmod_nat (n m : Nat) : ((n : Int)).tmod (m : Int) = ((n % m : Nat) : Int) := by rw [Int.tmod_eq_emod_of_nonneg (by omega)]; rfl
theorem wrap_id {x : Int} (h1 : -9223372036854775808 ≤ x) (h2 : x ≤ 9223372036854775807) : IntKind.i64.wrap x = x := by rw [IntKind.wrap_i64]; omega

theorem is_moment (t : Int) (w : World) : Calls Tryd.prog 27 #[.int .i64 t] w fun e w' => e = .returned (.bool (mom t)) ∧ w = w' := by
  cases h : mom t with
  | true =>
    obtain ⟨h1, h2⟩ := mom_iff.mp h
    clear h
    go_enter Tryd.func27, Tryd.ntmps27
    go_wp2
    go_ret
    exact ⟨rfl, rfl⟩
  | false =>
    rcases mom_no h with h1 | ⟨h1, h2⟩
    · clear h
      go_enter Tryd.func27, Tryd.ntmps27
      go_wp2
      go_ret
      exact ⟨rfl, rfl⟩
    · have d : decide (t ≤ 2147483647) = false := decide_eq_false (by omega)
      clear h h2
      go_enter Tryd.func27, Tryd.ntmps27
      go_wp2
      go_ret
      exact ⟨rfl, rfl⟩
theorem ref_moment (t : Int) (w : World) : Calls Tryd.prog 29 #[.int .i64 t] w fun e w' => e = .returned (.bool (mom t)) ∧ w = w' := by
  cases h : mom t with
  | true =>
    obtain ⟨h1, h2⟩ := mom_iff.mp h
    clear h
    go_enter Tryd.func29, Tryd.ntmps29
    go_wp2
    go_ret
    exact ⟨rfl, rfl⟩
  | false =>
    rcases mom_no h with h1 | ⟨h1, h2⟩
    · clear h
      go_enter Tryd.func29, Tryd.ntmps29
      go_wp2
      go_ret
      exact ⟨rfl, rfl⟩
    · have d : decide (t ≤ 2147483647) = false := decide_eq_false (by omega)
      clear h h2
      go_enter Tryd.func29, Tryd.ntmps29
      go_wp2
      go_ret
      exact ⟨rfl, rfl⟩

/-- A moment's day and shift. -/
def shD (t : Int) : Int := if mom t = true then t / 86400 else 0
def shK (t : Int) : Int := if mom t = true then t % 86400 / 28800 else 0
theorem shD_yes {t : Int} (h : mom t = true) : shD t = t / 86400 := if_pos h
theorem shK_yes {t : Int} (h : mom t = true) : shK t = t % 86400 / 28800 := if_pos h
theorem shD_no {t : Int} (h : mom t = false) : shD t = 0 := if_neg (by rw [h]; decide)
theorem shK_no {t : Int} (h : mom t = false) : shK t = 0 := if_neg (by rw [h]; decide)

theorem clock_number (n : Nat) (hn : n ≤ 4294967296) (w : World) : Calls Tryd.prog 28 #[.int .i64 (n : Int)] w fun e w' => e = .returned (.int .i64 ((n / 28800 : Nat) : Int)) ∧ w = w' := by
  go_enter Tryd.func28, Tryd.ntmps28
  go_wp2
  go_ret
  exact ⟨ret_int (by omega), rfl⟩

theorem clock_Shift (t : Int) (w : World) : Calls Tryd.prog 11 #[.int .i64 t] w fun e w' => e = .returned (.tuple #[.int .i64 (shD t), .int .i64 (shK t), .int .i64 (rngE t)]) ∧ w = w' := by
  cases h : mom t with
  | true =>
    have H := Lib.hid h
    obtain ⟨n, rfl, hn⟩ := mom_nat h
    clear h
    go_enter Tryd.func11, Tryd.ntmps11
    go_wp2_with fail
    refine (is_moment _ w).mono ?_
    rintro e w' ⟨rfl, rfl⟩
    rw [H.out]
    go_wp2_with fail
    refine (clock_number n (by omega) w).mono ?_
    rintro e w' ⟨rfl, rfl⟩
    go_wp2_with fail
    go_ret3
    exact ⟨ret_three (by rw [shD_yes H.out]; omega) (by rw [shK_yes H.out]; omega) (rngE_yes H.out).symm, rfl⟩
  | false =>
    have H := Lib.hid h
    clear h
    go_enter Tryd.func11, Tryd.ntmps11
    go_wp2_with fail
    refine (is_moment _ w).mono ?_
    rintro e w' ⟨rfl, rfl⟩
    rw [H.out]
    go_wp2_with fail
    go_ret3
    exact ⟨ret_three (shD_no H.out).symm (shK_no H.out).symm (rngE_no H.out).symm, rfl⟩

theorem ref_Shift (t : Int) (w : World) : Calls Tryd.prog 12 #[.int .i64 t] w fun e w' => e = .returned (.tuple #[.int .i64 (shD t), .int .i64 (shK t), .int .i64 (rngE t)]) ∧ w = w' := by
  cases h : mom t with
  | true =>
    have H := Lib.hid h
    obtain ⟨n, rfl, hn⟩ := mom_nat h
    have e2 : ((n : Int)).tmod 86400 = ((n % 86400 : Nat) : Int) := tmod_nat n 86400
    clear h
    go_enter Tryd.func12, Tryd.ntmps12
    go_wp2_with fail
    refine (ref_moment _ w).mono ?_
    rintro e w' ⟨rfl, rfl⟩
    rw [H.out]
    go_wp2_with fail
    go_ret3
    exact ⟨ret_three (by rw [shD_yes H.out]) (by rw [shK_yes H.out]) (rngE_yes H.out).symm, rfl⟩
  | false =>
    have H := Lib.hid h
    clear h
    go_enter Tryd.func12, Tryd.ntmps12
    go_wp2_with fail
    refine (ref_moment _ w).mono ?_
    rintro e w' ⟨rfl, rfl⟩
    rw [H.out]
    go_wp2_with fail
    go_ret3
    exact ⟨ret_three (shD_no H.out).symm (shK_no H.out).symm (rngE_no H.out).symm, rfl⟩
#print axioms clock_Shift
#print axioms ref_Shift
end Go.Proofs.YtngjdclcnocmfaaDoor.Clock
