/- Contracts of both, Norm, Union, Common, Minus, Total, Move of the reference. -/
import Derived.Test.YtccbnobpighckaaSpanQ0
import Derived.Test.YtccbnobpighckaaSpanQ1
import Derived.Test.YtccbnobpighckaaSpanQ2
namespace Go.Proofs.Ytccbnobpighckaa.Span
open Go.ChangeShapes Go.WideShapes Go.RowKit Go.Lib Go.Proofs
set_option linter.unusedVariables false
set_option maxRecDepth 100000

set_option maxHeartbeats 1600000 in
theorem ref_both (comb : Bool → Bool → Bool) (way : Int)
    (hcm : ∀ (a b : List Sp) (A B : Option Addr) (c d : Nat) (W : World), Sps W A a → Sps W B b → a.length ≤ 256 → b.length ≤ 256 → Calls Try.prog 72 #[.slice A a.length c, .slice B b.length d, .int .i64 way] W (CmbRes (setF comb a b) W))
    (a b : List Sp) (A B : Option Addr) (c d : Nat) (w : World) (ha : Sps w A a) (hb : Sps w B b) (hma : a.length ≤ 9223372036854775807) (hmb : b.length ≤ 9223372036854775807) :
    Calls Try.prog 62 #[.slice A a.length c, .slice B b.length d, .int .i64 way] w (SetRes (setF comb a b) a b w) := by
  have HA := Lib.hid ha
  have HB := Lib.hid hb
  have HCM := Lib.hid hcm
  have HCA := Lib.hid (ref_Check a A c w ha hma)
  have HCB := Lib.hid (fun W h => ref_Check b B d W h hmb)
  clear ha hb hcm
  by_cases hza : chkE a = 0
  · have HZA := Lib.hid hza
    rw [hza] at HCA
    clear hza
    by_cases hzb : chkE b = 0
    · have HZB := Lib.hid hzb
      rw [hzb] at HCB
      clear hzb
      go_enter Try.func62, Try.ntmps62
      go_wp2_with fail
      refine HCA.out.mono ?_
      rintro e w1 ⟨rfl, hb1⟩
      have HW1 := Lib.hid hb1
      clear hb1
      go_wp2_with fail
      refine (HCB.out w1 (HB.out.on HW1.out)).mono ?_
      rintro e w2 ⟨rfl, hb2⟩
      have HW2 := Lib.hid (bstep HW1.out hb2)
      clear hb2
      go_wp2_with fail
      refine (HCM.out a b A B c d w2 (HA.out.on HW2.out) (HB.out.on HW2.out) (chk_len HZA.out) (chk_len HZB.out)).mono ?_
      rintro e w3 ⟨N, v, rfl, hin, hnf, hlen, hb3⟩
      have HW3 := Lib.hid (bstep HW2.out hb3)
      have HN := Lib.hid hnf
      obtain ⟨V, cap, rfl, hml, -, hin'⟩ := hin.open_
      have HIN := Lib.hid hin'
      clear hb3 hnf hin hin'
      by_cases hf : 256 < N.length
      · have hf' : (256 : Int) < (N.length : Int) := by omega
        have HF := Lib.hid hf
        clear hf
        go_wp2_with fail
        go_ret2
        exact SetRes.err (N := N) (by rw [cmbE_ok HZA.out HZB.out, nfE_full HF.out]) (by decide) (fun _ _ => HN.out) HW3.out
      · have hf' : decide ((256 : Int) < (N.length : Int)) = false := decide_eq_false (by omega)
        have HF := Lib.hid (show cmbE a b N = 0 by rw [cmbE_ok HZA.out HZB.out, nfE_ok hf])
        clear hf
        go_wp2_with fail
        go_ret2
        exact ⟨N, .slice V N.length cap, by rw [HF.out]; rfl, by rw [cmbL_ok HF.out]; exact HIN.out, fun _ _ => HN.out, HW3.out⟩
    · have hz1 : (chkE b == 0) = false := beq_false_of_ne hzb
      have hz2 : (chkE b != 0) = true := by rw [bne, hz1]; rfl
      have HZB := Lib.hid hzb
      clear hzb
      go_enter Try.func62, Try.ntmps62
      go_wp2_with fail
      refine HCA.out.mono ?_
      rintro e w1 ⟨rfl, hb1⟩
      have HW1 := Lib.hid hb1
      clear hb1
      go_wp2_with fail
      refine (HCB.out w1 (HB.out.on HW1.out)).mono ?_
      rintro e w2 ⟨rfl, hb2⟩
      have HW2 := Lib.hid (bstep HW1.out hb2)
      clear hb2
      go_wp2_with fail
      go_ret2
      exact SetRes.err (N := []) (cmbE_b HZA.out HZB.out) HZB.out (fun _ h => absurd h HZB.out) HW2.out
  · have hz1 : (chkE a == 0) = false := beq_false_of_ne hza
    have hz2 : (chkE a != 0) = true := by rw [bne, hz1]; rfl
    have HZA := Lib.hid hza
    clear hza
    go_enter Try.func62, Try.ntmps62
    go_wp2_with fail
    refine HCA.out.mono ?_
    rintro e w1 ⟨rfl, hb1⟩
    have HW1 := Lib.hid hb1
    clear hb1
    go_wp2_with fail
    go_ret2
    exact SetRes.err (N := []) (cmbE_a HZA.out) HZA.out (fun h => absurd h HZA.out) HW1.out
section
variable (a b : List Sp) (A B : Option Addr) (c d : Nat) (w : World)
theorem ref_Norm (ha : Sps w A a) (hma : a.length ≤ 9223372036854775807) :
    Calls Try.prog 48 #[.slice A a.length c] w (SetRes (orF a []) a [] w) := by
  have H := Lib.hid (ref_both _ 0 (fun a b A B c d W => ref_combine0 a b A B c d W) a [] A none c 0 w ha (Sps.nil _ _) hma (by simp))
  clear ha
  go_enter Try.func48, Try.ntmps48
  go_wp2_with fail
  refine H.out.mono ?_
  intro e w1 h
  obtain ⟨N, V, cap, rfl, hm, hin, hnf, hb1⟩ := h.open_
  have HIN := Lib.hid hin
  have HN := Lib.hid hnf
  have HB := Lib.hid hb1
  clear h hin hnf hb1
  go_wp2_with fail
  go_ret2
  exact ⟨N, _, rfl, HIN.out, HN.out, HB.out⟩
end
theorem tot_take2 {M : List Sp} {k : Nat} {s : Sp} (h : M[k]? = some s) : tot (M.take (k + 1)) = tot (M.take k) + s.2 - s.1 := by rw [tot_take h]; omega
#print axioms ref_Norm
end Go.Proofs.Ytccbnobpighckaa.Span
