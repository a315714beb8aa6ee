/- The walk of NatForms. -/
import Derived.Test.YtmbpcjnlniidkaaDoorNatY4
namespace Go.Proofs.YtmbpcjnlniidkaaDoor
open Go.ChangeShapes Go.WideShapes Go.RowKit
set_option linter.unusedVariables false

theorem refvalid_in (xs : List Int) (va : Value) (w : World) (ha : In w va xs) : Calls Tryd.prog 23 #[va] w fun e w' => e = .returned (.bool (validB xs)) ∧ w = w' := by
  obtain ⟨A, c, rfl, hc, hm, hA⟩ := ha
  exact ref_Valid xs A c _ _ w hA (Nat.le_trans hc hm)

set_option maxRecDepth 100000 in
set_option maxHeartbeats 6400000 in
theorem walk_NatForms (w : World) (A : Option Addr) (nn c : Nat) (xs : List Int) (ha : In w (.slice A nn c) xs) (n : Int) (wn : (Lit.int .i64 n).wf = true) (s : ByteArray) (hs : s.size ≤ 9223372036854775807) (ht : Tab w) :
    Calls Tryd.prog 3 #[.slice A nn c, .int .i64 n, .string s] w fun e w' => e = .returned (.bool true) ∧ Below w.heap.size w w' := by
  have hn : -9223372036854775808 ≤ n ∧ n ≤ 9223372036854775807 := by
    have h : IntKind.i64.min ≤ n ∧ n ≤ 9223372036854775807 := by simpa [Lit.wf] using wn
    have e : IntKind.i64.min = -9223372036854775808 := by decide
    rw [e] at h; exact h
  have hn1 : -9223372036854775808 ≤ n := hn.1
  have hn2 : n ≤ 9223372036854775807 := hn.2
  have HA := Lib.hid ha
  have HT := Lib.hid ht
  clear ha ht hn wn
  cases hf : (decide (nn ≤ 100) && decide (0 ≤ 100)) with
  | false =>
    go_enter Tryd.func3, Tryd.ntmps3
    go_wp2_with fail
    refine (few_c A none nn c 0 0 w).mono ?_
    rintro e w' ⟨rfl, rfl⟩
    rw [hf]
    go_wp2_with fail
    refine (awake_true w (HT.out)).mono ?_
    rintro e wz ⟨rfl, hbz⟩
    have HBZ := Lib.hid (hbz)
    clear hbz
    go_wp2_with fail
    go_ret
    exact ⟨rfl, HBZ.out⟩
  | true =>
    by_cases hbig : 600 < s.size
    · have hb' : (600 : Int) < (s.size : Int) := by omega
      go_enter Tryd.func3, Tryd.ntmps3
      go_wp2_with fail
      refine (few_c A none nn c 0 0 w).mono ?_
      rintro e w' ⟨rfl, rfl⟩
      rw [hf]
      go_wp2_with fail
      refine (awake_true w (HT.out)).mono ?_
      rintro e wz ⟨rfl, hbz⟩
      have HBZ := Lib.hid (hbz)
      clear hbz
      go_wp2_with fail
      go_ret
      exact ⟨rfl, HBZ.out⟩
    · have hb' : decide ((600 : Int) < (s.size : Int)) = false := decide_eq_false (by omega)
      have hs6 : s.size ≤ 600 := by omega
      clear hbig
      go_enter Tryd.func3, Tryd.ntmps3
      go_wp2_with fail
      refine (few_c A none nn c 0 0 w).mono ?_
      rintro e w' ⟨rfl, rfl⟩
      rw [hf]
      go_wp2_with fail
      refine (nat_Of n w hn1 hn2).mono ?_
      rintro e w1 ⟨vb, rfl, hb, hb1⟩
      have H1 := Lib.hid hb.toIn
      have HB1 := Lib.hid hb1
      clear hb hb1
      go_wp2_with fail
      refine (ref_Of n w1 hn1 hn2).mono ?_
      rintro e w2 hr
      obtain ⟨vc, rfl, hc2, hb2⟩ := res_open hr
      have H1 := Lib.hid (H1.out.on hb2)
      have H2 := Lib.hid hc2
      have HB2 := Lib.hid (bstep HB1.out hb2)
      clear hr hc2 hb2
      go_wp2_with fail
      refine (nat_Int xs _ w2 (HA.out.on HB2.out)).mono ?_
      rintro e w3 ⟨rfl, rfl⟩
      go_wp2_with fail
      refine (ref_Int xs _ w2 (HA.out.on HB2.out)).mono ?_
      rintro e w3 ⟨rfl, rfl⟩
      go_wp2_with fail
      refine (nat_Text xs _ w2 (HA.out.on HB2.out) (HT.out.on HB2.out)).mono ?_
      rintro e w3 ⟨rfl, hb3⟩
      have H1 := Lib.hid (H1.out.on hb3)
      have H2 := Lib.hid (H2.out.on hb3)
      have HB3 := Lib.hid (bstep HB2.out hb3)
      clear hb3
      go_wp2_with fail
      refine (ref_Text xs _ w3 (HA.out.on HB3.out)).mono ?_
      rintro e w4 ⟨rfl, rfl⟩
      go_wp2_with fail
      refine (nat_Parse s w3 (by omega)).mono ?_
      rintro e w4 hr
      obtain ⟨vp, rfl, hp4, hb4⟩ := res_open hr
      have H1 := Lib.hid (H1.out.on hb4)
      have H2 := Lib.hid (H2.out.on hb4)
      have H3 := Lib.hid hp4
      have HB4 := Lib.hid (bstep HB3.out hb4)
      clear hr hp4 hb4
      go_wp2_with fail
      refine (ref_Parse s w4 (by omega)).mono ?_
      rintro e w5 hr
      obtain ⟨vq, rfl, hq5, hb5⟩ := res_open hr
      have H1 := Lib.hid (H1.out.on hb5)
      have H2 := Lib.hid (H2.out.on hb5)
      have H3 := Lib.hid (H3.out.on hb5)
      have H4 := Lib.hid hq5
      have HB5 := Lib.hid (bstep HB4.out hb5)
      clear hr hq5 hb5
      go_wp2_with fail
      refine (valid_in xs _ w5 (HA.out.on HB5.out)).mono ?_
      rintro e w6 ⟨rfl, rfl⟩
      go_wp2_with fail
      refine (refvalid_in xs _ w5 (HA.out.on HB5.out)).mono ?_
      rintro e w6 ⟨rfl, rfl⟩
      go_wp2_with fail
      refine (same_self H1.out H2.out).mono ?_
      rintro e w6 ⟨rfl, hb6⟩
      have H3 := Lib.hid (H3.out.on hb6)
      have H4 := Lib.hid (H4.out.on hb6)
      have HB6 := Lib.hid (bstep HB5.out hb6)
      clear hb6
      go_wp2_with fail
      refine (same_self H3.out H4.out).mono ?_
      rintro e w7 ⟨rfl, hb7⟩
      have HB7 := Lib.hid (bstep HB6.out hb7)
      clear hb7
      go_wp2_with fail
      refine (awake_true w7 (HT.out.on HB7.out)).mono ?_
      rintro e wz ⟨rfl, hbz⟩
      have HBZ := Lib.hid (bstep HB7.out hbz)
      clear hbz
      go_wp2_with fail
      go_ret
      exact ⟨rfl, HBZ.out⟩
#print axioms walk_NatForms
end Go.Proofs.YtmbpcjnlniidkaaDoor
