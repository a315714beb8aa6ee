/- Contracts of Next of the program and of the reference. -/
import Derived.Test.YtngjdclcnocmfaaDoorClockD
namespace Go.Proofs.YtngjdclcnocmfaaDoor.Clock
open Go.ChangeShapes Go.WideShapes Go.RowKit
set_option linter.unusedVariables false
set_option maxRecDepth 100000

theorem clock_Next (t k : Int) (w : World) : Calls Tryd.prog 22 #[.int .i64 t, .int .i64 k] w fun e w' => e = .returned (.tuple #[.int .i64 (nxtV t k), .int .i64 (nxtE t k)]) ∧ w = w' := by
  rcases nxt_cases t k with ⟨hm, hv, he⟩ | ⟨hm, h1, hv, he⟩ | ⟨hm, h1, h2, hv, he⟩ | ⟨hm, h1, h2, q, d, q0, q1, d0, d1, rfl, eq, ed, hway⟩
  · have HM := Lib.hid hm
    have HV := Lib.hid hv
    have HE := Lib.hid he
    clear hm hv he
    go_enter Tryd.func22, Tryd.ntmps22
    go_wp2_with fail
    refine (is_moment _ w).mono ?_
    rintro e w' ⟨rfl, rfl⟩
    rw [HM.out]
    go_wp2_with fail
    go_ret2
    exact ⟨ret_two HV.out.symm HE.out.symm, rfl⟩
  · have HM := Lib.hid hm
    have HV := Lib.hid hv
    have HE := Lib.hid he
    clear hm hv he
    go_enter Tryd.func22, Tryd.ntmps22
    go_wp2_with fail
    refine (is_moment _ w).mono ?_
    rintro e w' ⟨rfl, rfl⟩
    rw [HM.out]
    go_wp2_with fail
    go_ret2
    exact ⟨ret_two HV.out.symm HE.out.symm, rfl⟩
  · have HM := Lib.hid hm
    have HV := Lib.hid hv
    have HE := Lib.hid he
    clear hm hv he
    go_enter Tryd.func22, Tryd.ntmps22
    go_wp2_with fail
    refine (is_moment _ w).mono ?_
    rintro e w' ⟨rfl, rfl⟩
    rw [HM.out]
    go_wp2_with fail
    go_ret2
    exact ⟨ret_two HV.out.symm HE.out.symm, rfl⟩
  · have HM := Lib.hid hm
    clear hm
    have t0 : 0 ≤ q * 86400 + d := by omega
    rcases hway with ⟨h3, h4, hv, he⟩ | ⟨h3, h4, hv, he⟩ | ⟨h3, h4, hv, he⟩ | ⟨h3, h4, hv, he⟩
    · have HV := Lib.hid hv
      have HE := Lib.hid he
      clear hv he
      have c1 : decide (q * 86400 + d - d + k * 28800 < q * 86400 + d) = true := decide_eq_true (by omega)
      have c2 : decide (2147483647 < q * 86400 + d - d + k * 28800 + 86400) = true := decide_eq_true (by omega)
      go_enter Tryd.func22, Tryd.ntmps22
      go_wp2_with fail
      refine (is_moment _ w).mono ?_
      rintro e w' ⟨rfl, rfl⟩
      rw [HM.out]
      go_wp2_with fail
      go_ret2
      exact ⟨ret_two (by rw [HV.out]) HE.out.symm, rfl⟩
    · have HV := Lib.hid hv
      have HE := Lib.hid he
      clear hv he
      have c1 : decide (q * 86400 + d - d + k * 28800 < q * 86400 + d) = true := decide_eq_true (by omega)
      have c2 : decide (2147483647 < q * 86400 + d - d + k * 28800 + 86400) = false := decide_eq_false (by omega)
      go_enter Tryd.func22, Tryd.ntmps22
      go_wp2_with fail
      refine (is_moment _ w).mono ?_
      rintro e w' ⟨rfl, rfl⟩
      rw [HM.out]
      go_wp2_with fail
      go_ret2
      exact ⟨ret_two (by rw [HV.out]) HE.out.symm, rfl⟩
    · have HV := Lib.hid hv
      have HE := Lib.hid he
      clear hv he
      have c1 : decide (q * 86400 + d - d + k * 28800 < q * 86400 + d) = false := decide_eq_false (by omega)
      have c2 : decide (2147483647 < q * 86400 + d - d + k * 28800) = true := decide_eq_true (by omega)
      go_enter Tryd.func22, Tryd.ntmps22
      go_wp2_with fail
      refine (is_moment _ w).mono ?_
      rintro e w' ⟨rfl, rfl⟩
      rw [HM.out]
      go_wp2_with fail
      go_ret2
      exact ⟨ret_two (by rw [HV.out]) HE.out.symm, rfl⟩
    · have HV := Lib.hid hv
      have HE := Lib.hid he
      clear hv he
      have c1 : decide (q * 86400 + d - d + k * 28800 < q * 86400 + d) = false := decide_eq_false (by omega)
      have c2 : decide (2147483647 < q * 86400 + d - d + k * 28800) = false := decide_eq_false (by omega)
      go_enter Tryd.func22, Tryd.ntmps22
      go_wp2_with fail
      refine (is_moment _ w).mono ?_
      rintro e w' ⟨rfl, rfl⟩
      rw [HM.out]
      go_wp2_with fail
      go_ret2
      exact ⟨ret_two (by rw [HV.out]) HE.out.symm, rfl⟩
theorem ref_Next (t k : Int) (w : World) : Calls Tryd.prog 23 #[.int .i64 t, .int .i64 k] w fun e w' => e = .returned (.tuple #[.int .i64 (nxtV t k), .int .i64 (nxtE t k)]) ∧ w = w' := by
  rcases nxt_cases t k with ⟨hm, hv, he⟩ | ⟨hm, h1, hv, he⟩ | ⟨hm, h1, h2, hv, he⟩ | ⟨hm, h1, h2, q, d, q0, q1, d0, d1, rfl, eq, ed, hway⟩
  · have HM := Lib.hid hm
    have HV := Lib.hid hv
    have HE := Lib.hid he
    clear hm hv he
    go_enter Tryd.func23, Tryd.ntmps23
    go_wp2_with fail
    refine (ref_moment _ w).mono ?_
    rintro e w' ⟨rfl, rfl⟩
    rw [HM.out]
    go_wp2_with fail
    go_ret2
    exact ⟨ret_two HV.out.symm HE.out.symm, rfl⟩
  · have HM := Lib.hid hm
    have HV := Lib.hid hv
    have HE := Lib.hid he
    clear hm hv he
    go_enter Tryd.func23, Tryd.ntmps23
    go_wp2_with fail
    refine (ref_moment _ w).mono ?_
    rintro e w' ⟨rfl, rfl⟩
    rw [HM.out]
    go_wp2_with fail
    go_ret2
    exact ⟨ret_two HV.out.symm HE.out.symm, rfl⟩
  · have HM := Lib.hid hm
    have HV := Lib.hid hv
    have HE := Lib.hid he
    clear hm hv he
    go_enter Tryd.func23, Tryd.ntmps23
    go_wp2_with fail
    refine (ref_moment _ w).mono ?_
    rintro e w' ⟨rfl, rfl⟩
    rw [HM.out]
    go_wp2_with fail
    go_ret2
    exact ⟨ret_two HV.out.symm HE.out.symm, rfl⟩
  · have HM := Lib.hid hm
    clear hm
    have t0 : 0 ≤ q * 86400 + d := by omega
    rcases hway with ⟨h3, h4, hv, he⟩ | ⟨h3, h4, hv, he⟩ | ⟨h3, h4, hv, he⟩ | ⟨h3, h4, hv, he⟩
    · have HV := Lib.hid hv
      have HE := Lib.hid he
      clear hv he
      have c1 : decide (q * 86400 + k * 28800 < q * 86400 + d) = true := decide_eq_true (by omega)
      have c2 : decide (2147483647 < q * 86400 + k * 28800 + 86400) = true := decide_eq_true (by omega)
      go_enter Tryd.func23, Tryd.ntmps23
      go_wp2_with fail
      refine (ref_moment _ w).mono ?_
      rintro e w' ⟨rfl, rfl⟩
      rw [HM.out]
      go_wp2_with fail
      go_ret2
      exact ⟨ret_two (by rw [HV.out]) HE.out.symm, rfl⟩
    · have HV := Lib.hid hv
      have HE := Lib.hid he
      clear hv he
      have c1 : decide (q * 86400 + k * 28800 < q * 86400 + d) = true := decide_eq_true (by omega)
      have c2 : decide (2147483647 < q * 86400 + k * 28800 + 86400) = false := decide_eq_false (by omega)
      go_enter Tryd.func23, Tryd.ntmps23
      go_wp2_with fail
      refine (ref_moment _ w).mono ?_
      rintro e w' ⟨rfl, rfl⟩
      rw [HM.out]
      go_wp2_with fail
      go_ret2
      exact ⟨ret_two (by rw [HV.out]) HE.out.symm, rfl⟩
    · have HV := Lib.hid hv
      have HE := Lib.hid he
      clear hv he
      have c1 : decide (q * 86400 + k * 28800 < q * 86400 + d) = false := decide_eq_false (by omega)
      have c2 : decide (2147483647 < q * 86400 + k * 28800) = true := decide_eq_true (by omega)
      go_enter Tryd.func23, Tryd.ntmps23
      go_wp2_with fail
      refine (ref_moment _ w).mono ?_
      rintro e w' ⟨rfl, rfl⟩
      rw [HM.out]
      go_wp2_with fail
      go_ret2
      exact ⟨ret_two (by rw [HV.out]) HE.out.symm, rfl⟩
    · have HV := Lib.hid hv
      have HE := Lib.hid he
      clear hv he
      have c1 : decide (q * 86400 + k * 28800 < q * 86400 + d) = false := decide_eq_false (by omega)
      have c2 : decide (2147483647 < q * 86400 + k * 28800) = false := decide_eq_false (by omega)
      go_enter Tryd.func23, Tryd.ntmps23
      go_wp2_with fail
      refine (ref_moment _ w).mono ?_
      rintro e w' ⟨rfl, rfl⟩
      rw [HM.out]
      go_wp2_with fail
      go_ret2
      exact ⟨ret_two (by rw [HV.out]) HE.out.symm, rfl⟩
#print axioms clock_Next
#print axioms ref_Next
end Go.Proofs.YtngjdclcnocmfaaDoor.Clock
