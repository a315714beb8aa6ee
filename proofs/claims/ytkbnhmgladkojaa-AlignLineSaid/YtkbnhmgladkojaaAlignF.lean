/- Check of the reference; few. -/
import Derived.Test.YtkbnhmgladkojaaAlignE
namespace Go.Proofs.Ytkbnhmgladkojaa.Align
open Go.ChangeShapes Go.WideShapes Go.RowKit Go.Lib Go.Proofs.Ytkbnhmgladkojaa.Rw
set_option linter.unusedVariables false
set_option maxRecDepth 100000

theorem inM_a {m : Mk} (h : m.1 < 0) : inM m = false := by rw [inM_rB]; unfold rB; rw [decide_eq_false (show ¬ 0 ≤ m.1 by omega)]; rfl
theorem inM_b {m : Mk} (h : 17179869184 < m.1) : inM m = false := by rw [inM_rB]; unfold rB; rw [decide_eq_false (show ¬ m.1 ≤ 17179869184 by omega), Bool.and_false]; rfl
theorem inM_c {m : Mk} (h : m.2 < 0) : inM m = false := by rw [inM_rB]; unfold rB; rw [decide_eq_false (show ¬ 0 ≤ m.2 by omega), Bool.false_and, Bool.and_false]
theorem inM_d {m : Mk} (h : 17179869184 < m.2) : inM m = false := by rw [inM_rB]; unfold rB; rw [decide_eq_false (show ¬ m.2 ≤ 17179869184 by omega), Bool.and_false, Bool.and_false]
set_option maxHeartbeats 3200000 in
theorem ref_Check (L : List Mk) (A : Option Addr) (c : Nat) (w : World) (ha : Mks w A L) (hm : L.length ≤ 9223372036854775807) :
    Calls Try.prog 14 #[.slice A L.length c] w fun e w' => e = .returned (.int .i64 (chkA L)) ∧ Below w.heap.size w w' := by
  have HA := Lib.hid ha
  clear ha
  by_cases hf : 64 < L.length
  · have hf' : (64 : Int) < (L.length : Int) := by omega
    have HF := Lib.hid (chk_full hf)
    clear hf
    go_enter Try.func14, Try.ntmps14
    go_wp2_with fail
    go_ret
    exact ⟨ret_int HF.out.symm, Below.refl _ _⟩
  have hf' : decide ((64 : Int) < (L.length : Int)) = false := decide_eq_false (by omega)
  by_cases h2 : L.length < 2
  · have h2' : (L.length : Int) < 2 := by omega
    have HF := Lib.hid (chk_few h2)
    clear hf h2
    go_enter Try.func14, Try.ntmps14
    go_wp2_with fail
    go_ret
    exact ⟨ret_int HF.out.symm, Below.refl _ _⟩
  have h2' : decide ((L.length : Int) < 2) = false := decide_eq_false (by omega)
  have HF := Lib.hid hf
  have H2 := Lib.hid h2
  clear hf h2
  go_enter Try.func14, Try.ntmps14
  go_wp2_with fail
  go_loopw [3] (fun i wr => ∃ k : Nat, k ≤ L.length ∧ i = .int .i64 k ∧ (∀ (j : Nat) (s : Mk), j < k → L[j]? = some s → inM s = true) ∧ Below w.heap.size w wr) (fun i _ => L.length - (intOf i).toNat)
  case atStart => exact ⟨0, Nat.zero_le _, rfl, fun j t h => absurd h (by omega), Below.refl _ _⟩
  case round =>
    obtain ⟨k, hk, rfl, hv, hbel⟩ := hrel
    have HV := Lib.hid hv
    have HB := Lib.hid hbel
    clear hv hbel
    rcases Nat.lt_or_ge k L.length with hlt | hge
    · obtain ⟨s, hs⟩ := get_lt hlt
      obtain ⟨b, off, rfl, hb, h0, h1⟩ := rd_at (HA.out.on HB.out) hs
      have HS := Lib.hid hs
      have i1 : (k : Int) < (L.length : Int) := by omega
      have i2 : (0 : Int) ≤ (k : Int) := by omega
      clear hs
      have HE : inM s = false → Hid (chkA L = 1) := fun h => chk_range HF.out H2.out HS.out h
      rcases Int.lt_or_le s.1 0 with g1 | g1
      · have d1 : decide (s.1 < 0) = true := decide_eq_true (by omega)
        have HE := HE (inM_a g1)
        clear g1
        go_wp2_with fail
        go_ret
        exact ⟨ret_int HE.out.symm, HB.out⟩
      have d1 : decide (s.1 < 0) = false := decide_eq_false (by omega)
      rcases Int.lt_or_le 17179869184 s.1 with g2 | g2
      · have d2 : decide (17179869184 < s.1) = true := decide_eq_true (by omega)
        have HE := HE (inM_b g2)
        clear g1 g2
        go_wp2_with fail
        go_ret
        exact ⟨ret_int HE.out.symm, HB.out⟩
      have d2 : decide (17179869184 < s.1) = false := decide_eq_false (by omega)
      rcases Int.lt_or_le s.2 0 with g3 | g3
      · have d3 : decide (s.2 < 0) = true := decide_eq_true (by omega)
        have HE := HE (inM_c g3)
        clear g1 g2 g3
        go_wp2_with fail
        go_ret
        exact ⟨ret_int HE.out.symm, HB.out⟩
      have d3 : decide (s.2 < 0) = false := decide_eq_false (by omega)
      rcases Int.lt_or_le 17179869184 s.2 with g4 | g4
      · have d4 : decide (17179869184 < s.2) = true := decide_eq_true (by omega)
        have HE := HE (inM_d g4)
        clear g1 g2 g3 g4
        go_wp2_with fail
        go_ret
        exact ⟨ret_int HE.out.symm, HB.out⟩
      have d4 : decide (17179869184 < s.2) = false := decide_eq_false (by omega)
      have HG := Lib.hid (inM_iff.mpr ⟨g1, g2, g3, g4⟩)
      clear g1 g2 g3 g4 HE
      go_wp2_with fail
      go_roundw
      case rel =>
        refine ⟨k + 1, by omega, by go_num, ?_, HB.out⟩
        intro j u hj hu
        rcases Nat.lt_or_eq_of_le (Nat.le_of_lt_succ hj) with h | h
        · exact HV.out j u h hu
        · subst h
          have e := HS.out
          rw [hu] at e; cases e; exact HG.out
      case measure => simp [intOf]; omega
    · obtain rfl : k = L.length := by omega
      have HG := Lib.hid (all_in HV.out)
      obtain ⟨b, off, rfl, hb⟩ := rd_ne (HA.out.on HB.out) (show 0 < L.length by have := H2.out; omega)
      go_wp2_with fail
      obtain ⟨wq, rfl⟩ : ∃ W, W = wr := ⟨wr, rfl⟩
      go_loopw [4] (fun i wr' => ∃ k : Nat, k + 1 ≤ L.length ∧ i = .int .i64 ((k : Int) + 1) ∧ (∀ (j : Nat) (p n : Mk), j < k → L[j]? = some p → L[j + 1]? = some n → Aft p n) ∧ Below w.heap.size w wr') (fun i _ => L.length - (intOf i).toNat)
      case atStart => exact ⟨0, by have := H2.out; omega, rfl, fun j p n h => absurd h (by omega), HB.out⟩
      case round =>
        obtain ⟨k, hk2, rfl, hv2, hbel2⟩ := hrel
        have HV2 := Lib.hid hv2
        have HB2 := Lib.hid hbel2
        clear hv2 hbel2
        rcases Nat.lt_or_ge (k + 1) L.length with hlt | hge
        · obtain ⟨p, hp⟩ := get_lt (show k < L.length by omega)
          obtain ⟨n, hn⟩ := get_lt hlt
          obtain ⟨c0, c1⟩ := at_k (HA.out.on HB2.out) hp
          obtain ⟨c2, c3⟩ := at_k (HA.out.on HB2.out) hn
          have hbb := rd_lt (HA.out.on HB2.out) hp
          have HP := Lib.hid hp
          have HQ := Lib.hid hn
          have i1 : (k : Int) + 1 < (L.length : Int) := by omega
          have i2 : k < L.length := by omega
          have i3 : (0 : Int) ≤ (k : Int) + 1 := by omega
          have i4 : (k : Int) < (L.length : Int) := by omega
          have w1 : IntKind.i64.wrap ((k : Int) + 1 - 1) = (k : Int) := by rw [Int.add_sub_cancel]; exact wrap_id (by omega)
          have w2 : IntKind.i64.wrap (k : Int) = (k : Int) := wrap_id (by omega)
          clear hp hn
          rcases Int.lt_or_le p.1 n.1 with ho | ho
          · have d1 : decide (n.1 ≤ p.1) = false := decide_eq_false (by omega)
            rcases Int.lt_or_le p.2 n.2 with ho2 | ho2
            · have d2 : decide (n.2 ≤ p.2) = false := decide_eq_false (by omega)
              have HG2 : Hid (Aft p n) := ⟨ho, ho2⟩
              clear ho ho2
              go_wp2_with fail
              go_quiet (fail)
              go_wp2_with fail
              go_roundw
              case rel =>
                refine ⟨k + 1, by omega, by go_num, ?_, below_drewN HB2.out _⟩
                intro j x y hj hx hy
                rcases Nat.lt_or_eq_of_le (Nat.le_of_lt_succ hj) with h | h
                · exact HV2.out j x y h hx hy
                · subst h
                  have e1 := HP.out
                  have e2 := HQ.out
                  rw [hx] at e1; rw [hy] at e2; cases e1; cases e2; exact HG2.out
              case measure => simp [intOf]; omega
            · have d2 : decide (n.2 ≤ p.2) = true := decide_eq_true (by omega)
              have HE := Lib.hid (chk_order HF.out H2.out HG.out HP.out HQ.out (fun h => by have := h.2; omega))
              clear ho ho2
              go_wp2_with fail
              go_quiet (fail)
              go_wp2_with fail
              go_ret
              exact ⟨ret_int HE.out.symm, below_drewN HB2.out _⟩
          · have d1 : decide (n.1 ≤ p.1) = true := decide_eq_true (by omega)
            have HE := Lib.hid (chk_order HF.out H2.out HG.out HP.out HQ.out (fun h => by have := h.1; omega))
            clear ho
            go_wp2_with fail
            go_quiet (fail)
            go_wp2_with fail
            go_ret
            exact ⟨ret_int HE.out.symm, below_drewN HB2.out _⟩
        · have HE := Lib.hid (chk_ok HF.out H2.out HG.out fun j p n hj hp hn => HV2.out j p n (by omega) hp hn)
          have i1 : decide ((k : Int) + 1 < (L.length : Int)) = false := decide_eq_false (by omega)
          go_wp2_with fail
          go_ret
          exact ⟨ret_int HE.out.symm, HB2.out⟩
theorem law_few (L : List Mk) (A : Option Addr) (c : Nat) (w : World) {r : Bool} (hr : decide (L.length ≤ 100) = r) :
    Calls Try.prog 11 #[.slice A L.length c] w fun e w' => e = .returned (.bool r) ∧ w = w' := by
  have hr' : decide ((L.length : Int) ≤ 100) = r := by
    rw [← hr, Bool.eq_iff_iff]; simp; omega
  clear hr
  go_enter Try.func11, Try.ntmps11
  go_wp2_with fail
  go_ret
  exact ⟨rfl, rfl⟩
#print axioms ref_Check
#print axioms law_few
end Go.Proofs.Ytkbnhmgladkojaa.Align
