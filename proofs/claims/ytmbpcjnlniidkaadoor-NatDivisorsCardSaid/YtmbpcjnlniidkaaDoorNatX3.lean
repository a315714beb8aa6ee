/- The contract of DivMod of the reference, for every input; the walk of NatQuotients. -/
import Derived.Test.YtmbpcjnlniidkaaDoorNatX2
namespace Go.Proofs.YtmbpcjnlniidkaaDoor
open Go.ChangeShapes Go.WideShapes Go.RowKit
set_option linter.unusedVariables false

set_option maxHeartbeats 1600000 in
theorem ref_DivMod (xs ys : List Int) (va vb : Value) (w : World) (ha : In w va xs) (hb : In w vb ys) :
    Calls Tryd.prog 34 #[va, vb] w (DmIn w xs ys) := by
  obtain ⟨A, c, rfl, hc, hm, hA⟩ := ha
  obtain ⟨B, d, rfl, hd, hn, hB⟩ := hb
  have HIA := Lib.hid (show In w (.slice A xs.length c) xs from ⟨A, c, rfl, hc, hm, hA⟩)
  have HIB := Lib.hid (show In w (.slice B ys.length d) ys from ⟨B, d, rfl, hd, hn, hB⟩)
  have HA := Lib.hid hA
  have HB := Lib.hid hB
  have hm1 : xs.length ≤ 9223372036854775807 := Nat.le_trans hc hm
  have hm2 : ys.length ≤ 9223372036854775807 := Nat.le_trans hd hn
  clear hA hB hm hn
  rcases both_cases xs ys with ⟨hx, hbo⟩ | ⟨hx, hy, hbo⟩ | ⟨hx, hy, hbo⟩
  · have HBO := Lib.hid hbo
    clear hbo
    go_enter Tryd.func34, Tryd.ntmps34
    go_wp2_with fail
    refine (ref_Valid xs A c _ _ w HA.out hm1).mono ?_
    rintro e w' ⟨rfl, rfl⟩
    go_wp2_with fail
    go_ret3
    exact DmIn.none (by rw [divOk, HBO.out]; rfl) (by rw [divE, HBO.out]; rfl) rfl (Below.refl _ _)
  · have HBO := Lib.hid hbo
    clear hbo
    go_enter Tryd.func34, Tryd.ntmps34
    go_wp2_with fail
    refine (ref_Valid xs A c _ _ w HA.out hm1).mono ?_
    rintro e w' ⟨rfl, rfl⟩
    go_wp2_with fail
    refine (ref_Valid ys B d _ _ _ HB.out hm2).mono ?_
    rintro e w' ⟨rfl, rfl⟩
    go_wp2_with fail
    go_ret3
    exact DmIn.none (by rw [divOk, HBO.out]; rfl) (by rw [divE, HBO.out]; rfl) rfl (Below.refl _ _)
  · rcases Nat.eq_zero_or_pos ys.length with h0 | hp
    · have HBO := Lib.hid hbo
      have hn : ys = [] := List.eq_nil_of_length_eq_zero h0
      subst hn
      clear hbo
      go_enter Tryd.func34, Tryd.ntmps34
      go_wp2_with fail
      refine (ref_Valid xs A c _ _ w HA.out hm1).mono ?_
      rintro e w' ⟨rfl, rfl⟩
      go_wp2_with fail
      refine (ref_Valid [] B d _ _ _ HB.out hm2).mono ?_
      rintro e w' ⟨rfl, rfl⟩
      go_wp2_with fail
      go_ret3
      exact DmIn.none (by rw [divOk, HBO.out]; rfl) (by rw [divE, HBO.out]; rfl) rfl (Below.refl _ _)
    · exact refdm_main xs ys A B c d w HIA.out HIB.out hx hy hp

set_option maxHeartbeats 1600000 in
theorem walk_NatQuotients (w : World) (A : Option Addr) (n c : Nat) (xs : List Int) (ha : In w (.slice A n c) xs) (B : Option Addr) (m d : Nat) (ys : List Int) (hb : In w (.slice B m d) ys) (ht : Tab w) :
    Calls Tryd.prog 7 #[.slice A n c, .slice B m d] w fun e w' => e = .returned (.bool true) ∧ Below w.heap.size w w' := by
  have HA := Lib.hid ha
  have HB := Lib.hid hb
  have HT := Lib.hid ht
  clear ha hb ht
  cases hf : (decide (n ≤ 100) && decide (m ≤ 100)) with
  | false =>
    go_enter Tryd.func7, Tryd.ntmps7
    go_wp2_with fail
    refine (few_c A B n c m d w).mono ?_
    rintro e w' ⟨rfl, rfl⟩
    rw [hf]
    go_wp2_with fail
    refine (awake_true w HT.out).mono ?_
    rintro e w' ⟨rfl, hb⟩
    have HBL := Lib.hid hb
    clear hb
    go_wp2_with fail
    go_ret
    exact ⟨rfl, HBL.out⟩
  | true =>
    go_enter Tryd.func7, Tryd.ntmps7
    go_wp2_with fail
    refine (few_c A B n c m d w).mono ?_
    rintro e w' ⟨rfl, rfl⟩
    rw [hf]
    clear hf
    go_wp2_with fail
    refine (nat_DivMod xs ys _ _ w HA.out HB.out).mono ?_
    rintro e w1 ⟨v1, v2, rfl, h1, h2, hb1⟩
    have H1 := Lib.hid h1.toIn
    have H2 := Lib.hid h2.toIn
    have HB1 := Lib.hid hb1
    clear h1 h2 hb1
    go_wp2_with fail
    refine (ref_DivMod xs ys _ _ w1 (HA.out.on HB1.out) (HB.out.on HB1.out)).mono ?_
    rintro e w2 ⟨v3, v4, rfl, h3, h4, hb2⟩
    have H1 := Lib.hid (H1.out.on hb2)
    have H2 := Lib.hid (H2.out.on hb2)
    have H3 := Lib.hid h3
    have H4 := Lib.hid h4
    have HB2 := Lib.hid (bstep HB1.out hb2)
    clear h3 h4 hb2
    go_wp2_with fail
    refine (same_self H1.out H3.out).mono ?_
    rintro e w5 ⟨rfl, hb5⟩
    have H2 := Lib.hid (H2.out.on hb5)
    have H4 := Lib.hid (H4.out.on hb5)
    have HB5 := Lib.hid (bstep HB2.out hb5)
    clear hb5
    go_wp2_with fail
    refine (same_self H2.out H4.out).mono ?_
    rintro e w6 ⟨rfl, hb6⟩
    have HB6 := Lib.hid (bstep HB5.out hb6)
    clear hb6
    go_wp2_with fail
    refine (awake_true w6 (HT.out.on HB6.out)).mono ?_
    rintro e w7 ⟨rfl, hb7⟩
    have HB7 := Lib.hid (bstep HB6.out hb7)
    clear hb7
    go_wp2_with fail
    go_ret
    exact ⟨rfl, HB7.out⟩
#print axioms walk_NatQuotients
end Go.Proofs.YtmbpcjnlniidkaaDoor
