/- Contracts of both, Norm, Union, Common, Minus, Total, Move of the reference. -/
import Derived.Test.YtnblpooimgpgoaaSpanQ0
import Derived.Test.YtnblpooimgpgoaaSpanQ1
import Derived.Test.YtnblpooimgpgoaaSpanQ2
namespace Go.Proofs.Ytnblpooimgpgoaa.Span
open Go.ChangeShapes Go.WideShapes Go.RowKit Go.Lib Go.Proofs
set_option linter.unusedVariables false
set_option maxRecDepth 100000

set_option maxHeartbeats 1600000 in
theorem ref_both (comb : Bool → Bool → Bool) (way : Int)
    (hcm : ∀ (a b : List Sp) (A B : Option Addr) (c d : Nat) (W : World), Sps W A a → Sps W B b → a.length ≤ 256 → b.length ≤ 256 → Calls Try.prog 79 #[.slice A a.length c, .slice B b.length d, .int .i64 way] W (CmbRes (setF comb a b) W))
    (a b : List Sp) (A B : Option Addr) (c d : Nat) (w : World) (ha : Sps w A a) (hb : Sps w B b) (hma : a.length ≤ 9223372036854775807) (hmb : b.length ≤ 9223372036854775807) :
    Calls Try.prog 71 #[.slice A a.length c, .slice B b.length d, .int .i64 way] w (SetRes (setF comb a b) a b w) := by
  have HA := Lib.hid ha
  have HB := Lib.hid hb
  have HCM := Lib.hid hcm
  have HCA := Lib.hid (ref_Check a A c w ha hma)
  have HCB := Lib.hid (fun W h => ref_Check b B d W h hmb)
  clear ha hb hcm
  by_cases hza : chkE a = 0
  · have HZA := Lib.hid hza
    rw [hza] at HCA
    clear hza
    by_cases hzb : chkE b = 0
    · have HZB := Lib.hid hzb
      rw [hzb] at HCB
      clear hzb
      go_enter Try.func71, Try.ntmps71
      go_wp2_with fail
      refine HCA.out.mono ?_
      rintro e w1 ⟨rfl, hb1⟩
      have HW1 := Lib.hid hb1
      clear hb1
      go_wp2_with fail
      refine (HCB.out w1 (HB.out.on HW1.out)).mono ?_
      rintro e w2 ⟨rfl, hb2⟩
      have HW2 := Lib.hid (bstep HW1.out hb2)
      clear hb2
      go_wp2_with fail
      refine (HCM.out a b A B c d w2 (HA.out.on HW2.out) (HB.out.on HW2.out) (chk_len HZA.out) (chk_len HZB.out)).mono ?_
      rintro e w3 ⟨N, v, rfl, hin, hnf, hlen, hb3⟩
      have HW3 := Lib.hid (bstep HW2.out hb3)
      have HN := Lib.hid hnf
      obtain ⟨V, cap, rfl, hml, -, hin'⟩ := hin.open_
      have HIN := Lib.hid hin'
      clear hb3 hnf hin hin'
      by_cases hf : 256 < N.length
      · have hf' : (256 : Int) < (N.length : Int) := by omega
        have HF := Lib.hid hf
        clear hf
        go_wp2_with fail
        go_ret2
        exact SetRes.err (N := N) (by rw [cmbE_ok HZA.out HZB.out, nfE_full HF.out]) (by decide) (fun _ _ => HN.out) HW3.out
      · have hf' : decide ((256 : Int) < (N.length : Int)) = false := decide_eq_false (by omega)
        have HF := Lib.hid (show cmbE a b N = 0 by rw [cmbE_ok HZA.out HZB.out, nfE_ok hf])
        clear hf
        go_wp2_with fail
        go_ret2
        exact ⟨N, .slice V N.length cap, by rw [HF.out]; rfl, by rw [cmbL_ok HF.out]; exact HIN.out, fun _ _ => HN.out, HW3.out⟩
    · have hz1 : (chkE b == 0) = false := beq_false_of_ne hzb
      have hz2 : (chkE b != 0) = true := by rw [bne, hz1]; rfl
      have HZB := Lib.hid hzb
      clear hzb
      go_enter Try.func71, Try.ntmps71
      go_wp2_with fail
      refine HCA.out.mono ?_
      rintro e w1 ⟨rfl, hb1⟩
      have HW1 := Lib.hid hb1
      clear hb1
      go_wp2_with fail
      refine (HCB.out w1 (HB.out.on HW1.out)).mono ?_
      rintro e w2 ⟨rfl, hb2⟩
      have HW2 := Lib.hid (bstep HW1.out hb2)
      clear hb2
      go_wp2_with fail
      go_ret2
      exact SetRes.err (N := []) (cmbE_b HZA.out HZB.out) HZB.out (fun _ h => absurd h HZB.out) HW2.out
  · have hz1 : (chkE a == 0) = false := beq_false_of_ne hza
    have hz2 : (chkE a != 0) = true := by rw [bne, hz1]; rfl
    have HZA := Lib.hid hza
    clear hza
    go_enter Try.func71, Try.ntmps71
    go_wp2_with fail
    refine HCA.out.mono ?_
    rintro e w1 ⟨rfl, hb1⟩
    have HW1 := Lib.hid hb1
    clear hb1
    go_wp2_with fail
    go_ret2
    exact SetRes.err (N := []) (cmbE_a HZA.out) HZA.out (fun h => absurd h HZA.out) HW1.out
section
variable (a b : List Sp) (A B : Option Addr) (c d : Nat) (w : World)
theorem ref_Norm (ha : Sps w A a) (hma : a.length ≤ 9223372036854775807) :
    Calls Try.prog 54 #[.slice A a.length c] w (SetRes (orF a []) a [] w) := by
  have H := Lib.hid (ref_both _ 0 (fun a b A B c d W => ref_combine0 a b A B c d W) a [] A none c 0 w ha (Sps.nil _ _) hma (by simp))
  clear ha
  go_enter Try.func54, Try.ntmps54
  go_wp2_with fail
  refine H.out.mono ?_
  intro e w1 h
  obtain ⟨N, V, cap, rfl, hm, hin, hnf, hb1⟩ := h.open_
  have HIN := Lib.hid hin
  have HN := Lib.hid hnf
  have HB := Lib.hid hb1
  clear h hin hnf hb1
  go_wp2_with fail
  go_ret2
  exact ⟨N, _, rfl, HIN.out, HN.out, HB.out⟩
end
theorem tot_take2 {M : List Sp} {k : Nat} {s : Sp} (h : M[k]? = some s) : tot (M.take (k + 1)) = tot (M.take k) + s.2 - s.1 := by rw [tot_take h]; omega
set_option maxHeartbeats 800000 in
theorem ref_Total (a : List Sp) (A : Option Addr) (c : Nat) (w : World) (ha : Sps w A a) (hma : a.length ≤ 9223372036854775807) :
    Calls Try.prog 46 #[.slice A a.length c] w (TotRes a w) := by
  have H := Lib.hid (ref_Norm a A c w ha hma)
  clear ha
  go_enter Try.func46, Try.ntmps46
  go_wp2_with fail
  refine H.out.mono ?_
  intro e w1 h
  obtain ⟨N, V, cap, rfl, hm, hin, hnf, hb1⟩ := h.open_
  obtain ⟨hl, hr⟩ := cmbL_range (f := orF a []) hnf fun h _ => orF_range h
  have HN := Lib.hid hnf
  have HB := Lib.hid hb1
  have HR := Lib.hid hr
  obtain ⟨M, hM⟩ : ∃ M, M = cmbL a [] N := ⟨_, rfl⟩
  obtain ⟨E, hE⟩ : ∃ E, E = cmbE a [] N := ⟨_, rfl⟩
  rw [← hM] at HR hl hin hm ⊢
  rw [← hE]
  have HIN := Lib.hid hin
  have EM := Lib.hid hM
  have EE := Lib.hid hE
  clear h hin hnf hb1 hr hM hE
  go_wp2_with fail
  go_loopw [6, 7] (fun t i wr => ∃ k : Nat, k ≤ M.length ∧ i = .int .i64 k ∧ t = .int .i64 (tot (M.take k)) ∧ Below w1.heap.size w1 wr) (fun _ i _ => M.length - (intOf i).toNat)
  case atStart => exact ⟨0, Nat.zero_le _, rfl, rfl, Below.refl _ _⟩
  case round =>
    obtain ⟨k, hk, rfl, rfl, hbel⟩ := hrel
    have HW := Lib.hid hbel
    clear hbel
    have hbd := tot_bound (N := M.take k) fun s hs => HR.out s (List.mem_of_mem_take hs)
    have hll : (M.take k).length ≤ k := List.length_take_le _ _
    have b1 : 0 ≤ tot (M.take k) := by omega
    have b2 : tot (M.take k) ≤ 17179869184 * 256 := by omega
    clear hbd hll
    rcases Nat.lt_or_ge k M.length with hlt | hge
    · obtain ⟨s, hs⟩ := get_lt hlt
      obtain ⟨V', cap', e1, -, -, hsp⟩ := HIN.out.on HW.out
      cases e1
      obtain ⟨b, off, rfl, hb, h0, h1⟩ := hsp k s hs
      obtain ⟨r1, r2, r3⟩ := HR.out s (List.mem_of_getElem? hs)
      have HT := Lib.hid (tot_take2 hs)
      have i1 : (k : Int) < (M.length : Int) := by omega
      have i2 : (0 : Int) ≤ (k : Int) := by omega
      have w1' : IntKind.i64.wrap (tot (M.take k) + s.2) = tot (M.take k) + s.2 := wrap_id (by omega) (by omega)
      have w2' : IntKind.i64.wrap (tot (M.take k) + s.2 - s.1) = tot (M.take k) + s.2 - s.1 := wrap_id (by omega) (by omega)
      clear hs hsp
      go_wp2_with fail
      go_quiet (fail)
      clear w1' w2'
      go_wp2_with fail
      go_roundw
      case rel => exact ⟨k + 1, by omega, by go_num, by rw [HT.out], below_drewN HW.out _⟩
      case measure => simp [intOf]; omega
    · obtain rfl : k = M.length := by omega
      have HT := Lib.hid (show tot (M.take M.length) = tot M by rw [List.take_length])
      go_wp2_with fail
      go_ret2
      refine ⟨N, ?_, fun h => HN.out h chk_nil, bstep HB.out HW.out⟩
      rw [← EM.out, ← EE.out, ← HT.out]; rfl
#print axioms ref_Norm
#print axioms ref_Total
end Go.Proofs.Ytnblpooimgpgoaa.Span
