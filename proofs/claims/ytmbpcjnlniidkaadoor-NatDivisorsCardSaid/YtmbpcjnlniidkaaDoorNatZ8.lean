/- The walk of NatDivisors, out of the contract of shortened. -/
import Derived.Test.YtmbpcjnlniidkaaDoorNatZ7
namespace Go.Proofs.YtmbpcjnlniidkaaDoor
open Go.ChangeShapes Go.WideShapes Go.RowKit
set_option linter.unusedVariables false

set_option maxHeartbeats 1600000 in
theorem divisors_of (HSH : ∀ (xs ys : List Int) (va vb : Value) (W : World), In W va xs → In W vb ys → nrm xs = true → nrm ys = true → 2 < ys.length → xs.length ≤ 1000 → ys.length ≤ 1000 → Calls Tryd.prog 63 #[va, vb] W (ShortRes W xs ys))
    (w : World) (A : Option Addr) (n c : Nat) (xs : List Int) (ha : In w (.slice A n c) xs) (B : Option Addr) (m d : Nat) (ys : List Int) (hb : In w (.slice B m d) ys) (ht : Tab w) :
    Calls Tryd.prog 8 #[.slice A n c, .slice B m d] w fun e w' => e = .returned (.bool true) ∧ Below w.heap.size w w' := by
  have hnl : n ≤ 9223372036854775807 ∧ m ≤ 9223372036854775807 := by
    obtain ⟨A', c', e, h1, h2, _⟩ := ha
    cases e
    obtain ⟨B', d', e, h3, h4, _⟩ := hb
    cases e
    exact ⟨Nat.le_trans h1 h2, Nat.le_trans h3 h4⟩
  have hgc : ∀ W, Below w.heap.size w W → Calls Tryd.prog 35 #[.slice A n c, .slice B m d] W (Res W (gcdN xs ys) (formE xs ys)) :=
    fun W hW => Gcd_of xs ys _ _ W (ha.on hW) (hb.on hW) fun h1 h2 => gcd_of_short HSH xs ys _ _ W (ha.on hW) (hb.on hW) (valid_nrm h1) (valid_nrm h2) (by have := valid_len h1; omega) (by have := valid_len h2; omega)
  have HGC := Lib.hid hgc
  have HA := Lib.hid ha
  have HB := Lib.hid hb
  have HT := Lib.hid ht
  clear ha hb ht hgc HSH
  by_cases h1 : 12 < n
  · have h1' : (12 : Int) < (n : Int) := by omega
    go_enter Tryd.func8, Tryd.ntmps8
    go_wp2_with fail
    refine (awake_true w (HT.out)).mono ?_
    rintro e wz ⟨rfl, hbz⟩
    have HBZ := Lib.hid (hbz)
    clear hbz
    go_wp2_with fail
    go_ret
    exact ⟨rfl, HBZ.out⟩
  · have h1' : decide ((12 : Int) < (n : Int)) = false := decide_eq_false (by omega)
    by_cases h2 : 12 < m
    · have h2' : (12 : Int) < (m : Int) := by omega
      go_enter Tryd.func8, Tryd.ntmps8
      go_wp2_with fail
      refine (awake_true w (HT.out)).mono ?_
      rintro e wz ⟨rfl, hbz⟩
      have HBZ := Lib.hid (hbz)
      clear hbz
      go_wp2_with fail
      go_ret
      exact ⟨rfl, HBZ.out⟩
    · have h2' : decide ((12 : Int) < (m : Int)) = false := decide_eq_false (by omega)
      clear h1 h2
      go_enter Tryd.func8, Tryd.ntmps8
      go_wp2_with fail
      refine (HGC.out w (Below.refl _ _)).mono ?_
      rintro e w1 hr
      obtain ⟨v1, rfl, hi1, hb1⟩ := res_open hr
      have H1 := Lib.hid hi1
      have HB1 := Lib.hid hb1
      clear hr hi1 hb1
      go_wp2_with fail
      refine (ref_Gcd xs ys _ _ w1 (HA.out.on HB1.out) (HB.out.on HB1.out)).mono ?_
      rintro e w2 ⟨v2, rfl, hi2, hb2⟩
      have H1 := Lib.hid (H1.out.on hb2)
      have H2 := Lib.hid hi2
      have HB2 := Lib.hid (bstep HB1.out hb2)
      clear hi2 hb2
      go_wp2_with fail
      refine (same_self H1.out H2.out).mono ?_
      rintro e w3 ⟨rfl, hb3⟩
      have HB3 := Lib.hid (bstep HB2.out hb3)
      clear hb3
      go_wp2_with fail
      refine (awake_true w3 (HT.out.on HB3.out)).mono ?_
      rintro e wz ⟨rfl, hbz⟩
      have HBZ := Lib.hid (bstep HB3.out hbz)
      clear hbz
      go_wp2_with fail
      go_ret
      exact ⟨rfl, HBZ.out⟩
#print axioms divisors_of
end Go.Proofs.YtmbpcjnlniidkaaDoor
