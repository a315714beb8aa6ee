/- The walks of SpanShifts, SpanNormal. -/
import Derived.Test.YtidgcgnedeekhaaSpanX
namespace Go.Proofs.Ytidgcgnedeekhaa.Span
open Go.ChangeShapes Go.WideShapes Go.RowKit Go.Lib Go.Proofs
set_option linter.unusedVariables false
set_option maxRecDepth 100000

theorem move_ok (L : List Sp) (n : Int) (A : Option Addr) (c : Nat) (w : World) (ha : Sps w A L) (hm : L.length ≤ 9223372036854775807) (he : movE L n = 0) :
    Calls Try.prog 29 #[.slice A L.length c, .int .i64 n] w fun e w' => ∃ V cap, e = .returned (.tuple #[.slice V (mov L n).length cap, .int .i64 0]) ∧ InL w' (.slice V (mov L n).length cap) (mov L n) ∧ Below w.heap.size w w' := by
  refine (span_Move L n A c w ha hm).mono ?_
  intro e w' h
  obtain ⟨V, cap, rfl, -, hin, hb⟩ := h.open_
  rw [movL_ok he] at hin
  exact ⟨V, cap, by rw [movL_ok he, he], hin, hb⟩
theorem move_no (L : List Sp) (n : Int) (A : Option Addr) (c : Nat) (w : World) (ha : Sps w A L) (hm : L.length ≤ 9223372036854775807) (he : ¬ movE L n = 0) :
    Calls Try.prog 29 #[.slice A L.length c, .int .i64 n] w fun e w' => ∃ V cap, e = .returned (.tuple #[.slice V 0 cap, .int .i64 (movE L n)]) ∧ Below w.heap.size w w' := by
  refine (span_Move L n A c w ha hm).mono ?_
  intro e w' h
  obtain ⟨V, cap, rfl, -, hin, hb⟩ := h.open_
  exact ⟨V, cap, by rw [movL_no he]; rfl, hb⟩

set_option maxHeartbeats 6400000 in
theorem walk_SpanShifts (w : World) (a0 : Value) (L : List Sp) (h0 : InL w a0 L) (n : Int) (x : Int) :
    Calls Try.prog 10 #[a0, .int .i64 n, .int .i64 x] w fun e w' => e = .returned (.bool true) ∧ Below w.heap.size w w' := by
  obtain ⟨A, c, rfl, hmL, -, hin⟩ := h0.open_
  have HL := Lib.hid hin
  clear h0 hin
  cases hgL : decide (300 < L.length) with
  | true =>
    have B0 := Lib.hid (Below.refl w.heap.size w)
    go_enter Try.func10, Try.ntmps10
    go_wp2_with fail
    refine (is_great L A c _ hmL hgL).mono ?_
    rintro e w' ⟨rfl, rfl⟩
    go_wp2_with fail
    refine (awake _).mono ?_
    rintro e wa0 ⟨rfl, hb⟩
    have C1 := Lib.hid hb
    have B1 := Lib.hid (bstep B0.out C1.out)
    replace HL := Lib.hid (HL.out.on C1.out)
    clear hb
    go_wp2_with fail
    go_ret
    exact ⟨rfl, B1.out⟩
  | false =>
    have HG := Lib.hid hgL
    clear hgL
    by_cases k1 : x < 0
    · skip
      have B0 := Lib.hid (Below.refl w.heap.size w)
      go_enter Try.func10, Try.ntmps10
      go_wp2_with fail
      refine (is_great L A c _ hmL HG.out).mono ?_
      rintro e w' ⟨rfl, rfl⟩
      go_wp2_with fail
      refine (awake _).mono ?_
      rintro e wa0 ⟨rfl, hb⟩
      have C1 := Lib.hid hb
      have B1 := Lib.hid (bstep B0.out C1.out)
      replace HL := Lib.hid (HL.out.on C1.out)
      clear hb
      go_wp2_with fail
      go_ret
      exact ⟨rfl, B1.out⟩
    · have dk1 : decide (x < 0) = false := decide_eq_false k1
      by_cases k2 : 17179869184 < x
      · skip
        have B0 := Lib.hid (Below.refl w.heap.size w)
        go_enter Try.func10, Try.ntmps10
        go_wp2_with fail
        refine (is_great L A c _ hmL HG.out).mono ?_
        rintro e w' ⟨rfl, rfl⟩
        go_wp2_with fail
        refine (awake _).mono ?_
        rintro e wa0 ⟨rfl, hb⟩
        have C1 := Lib.hid hb
        have B1 := Lib.hid (bstep B0.out C1.out)
        replace HL := Lib.hid (HL.out.on C1.out)
        clear hb
        go_wp2_with fail
        go_ret
        exact ⟨rfl, B1.out⟩
      · have dk2 : decide (17179869184 < x) = false := decide_eq_false k2
        by_cases k3 : n < -17179869184
        · skip
          have B0 := Lib.hid (Below.refl w.heap.size w)
          go_enter Try.func10, Try.ntmps10
          go_wp2_with fail
          refine (is_great L A c _ hmL HG.out).mono ?_
          rintro e w' ⟨rfl, rfl⟩
          go_wp2_with fail
          refine (awake _).mono ?_
          rintro e wa0 ⟨rfl, hb⟩
          have C1 := Lib.hid hb
          have B1 := Lib.hid (bstep B0.out C1.out)
          replace HL := Lib.hid (HL.out.on C1.out)
          clear hb
          go_wp2_with fail
          go_ret
          exact ⟨rfl, B1.out⟩
        · have dk3 : decide (n < -17179869184) = false := decide_eq_false k3
          by_cases k4 : 17179869184 < n
          · skip
            have B0 := Lib.hid (Below.refl w.heap.size w)
            go_enter Try.func10, Try.ntmps10
            go_wp2_with fail
            refine (is_great L A c _ hmL HG.out).mono ?_
            rintro e w' ⟨rfl, rfl⟩
            go_wp2_with fail
            refine (awake _).mono ?_
            rintro e wa0 ⟨rfl, hb⟩
            have C1 := Lib.hid hb
            have B1 := Lib.hid (bstep B0.out C1.out)
            replace HL := Lib.hid (HL.out.on C1.out)
            clear hb
            go_wp2_with fail
            go_ret
            exact ⟨rfl, B1.out⟩
          · have dk4 : decide (17179869184 < n) = false := decide_eq_false k4
            have x1 : 0 ≤ x := by omega
            have x2 : x ≤ 17179869184 := by omega
            have n1 : -17179869184 ≤ n := by omega
            have n2 : n ≤ 17179869184 := by omega
            clear k1 k2 k3 k4
            by_cases he : movE L n = 0
            · have HZ := Lib.hid (movE_zero he).1
              have HZM := Lib.hid (mov_chk he)
              have HE := Lib.hid he
              have hml : (((mov L n).length : Int) == (L.length : Int)) = true := by simp [mov_length]
              have hmm : (mov L n).length ≤ 9223372036854775807 := by rw [mov_length]; exact hmL
              obtain ⟨r, hr⟩ : ∃ r, hasB L (x - n) = r := ⟨_, rfl⟩
              have HR := Lib.hid hr
              have HRM := Lib.hid ((hasB_mov L n x).trans hr)
              clear he hr
              have B0 := Lib.hid (Below.refl w.heap.size w)
              go_enter Try.func10, Try.ntmps10
              go_wp2_with fail
              refine (is_great L A c _ hmL HG.out).mono ?_
              rintro e w' ⟨rfl, rfl⟩
              go_wp2_with fail
              refine (move_ok L n A c _ HL.out.sps hmL HE.out).mono ?_
              rintro e w1 ⟨V, cv, rfl, hin, hb⟩
              have HM := Lib.hid hin
              clear hin
              have C1 := Lib.hid hb
              have B1 := Lib.hid (bstep B0.out C1.out)
              replace HL := Lib.hid (HL.out.on C1.out)
              clear hb
              go_wp2_with fail
              refine (total_nf L A c _ HL.out.sps hmL HZ.out).mono ?_
              rintro e w2 ⟨N, rfl, hN, hb⟩
              have HN := Lib.hid hN
              clear hN
              have C2 := Lib.hid hb
              have B2 := Lib.hid (bstep B1.out C2.out)
              replace HL := Lib.hid (HL.out.on C2.out)
              replace HM := Lib.hid (HM.out.on C2.out)
              clear hb
              go_wp2_with fail
              refine (total_nf (mov L n) V cv _ HM.out.sps hmm HZM.out).mono ?_
              rintro e w3 ⟨N2, he, hN2, hb⟩
              rw [mov_total HN.out hN2] at he
              subst he
              clear hN2
              have C3 := Lib.hid hb
              have B3 := Lib.hid (bstep B2.out C3.out)
              replace HL := Lib.hid (HL.out.on C3.out)
              replace HM := Lib.hid (HM.out.on C3.out)
              clear hb
              go_wp2_with fail
              refine (has_is (mov L n) x V cv _ HM.out.sps hmm HRM.out).mono ?_
              rintro e w4 ⟨rfl, hb⟩
              have C4 := Lib.hid hb
              have B4 := Lib.hid (bstep B3.out C4.out)
              replace HL := Lib.hid (HL.out.on C4.out)
              replace HM := Lib.hid (HM.out.on C4.out)
              clear hb
              go_wp2_with fail
              refine (has_is L (x - n) A c _ HL.out.sps hmL HR.out).mono ?_
              rintro e w5 ⟨rfl, hb⟩
              have C5 := Lib.hid hb
              have B5 := Lib.hid (bstep B4.out C5.out)
              replace HL := Lib.hid (HL.out.on C5.out)
              replace HM := Lib.hid (HM.out.on C5.out)
              clear hb
              go_wp2_with fail
              refine (awake _).mono ?_
              rintro e wa5 ⟨rfl, hb⟩
              have C6 := Lib.hid hb
              have B6 := Lib.hid (bstep B5.out C6.out)
              replace HL := Lib.hid (HL.out.on C6.out)
              replace HM := Lib.hid (HM.out.on C6.out)
              clear hb
              go_wp2_with fail
              go_ret
              exact ⟨rfl, B6.out⟩
            · obtain ⟨z1, z2⟩ := ne_facts he
              have HE := Lib.hid he
              clear he
              have B0 := Lib.hid (Below.refl w.heap.size w)
              go_enter Try.func10, Try.ntmps10
              go_wp2_with fail
              refine (is_great L A c _ hmL HG.out).mono ?_
              rintro e w' ⟨rfl, rfl⟩
              go_wp2_with fail
              refine (move_no L n A c _ HL.out.sps hmL HE.out).mono ?_
              rintro e w1 ⟨V, cv, rfl, hb⟩
              have C1 := Lib.hid hb
              have B1 := Lib.hid (bstep B0.out C1.out)
              replace HL := Lib.hid (HL.out.on C1.out)
              clear hb
              go_wp2_with fail
              refine (awake _).mono ?_
              rintro e wa1 ⟨rfl, hb⟩
              have C2 := Lib.hid hb
              have B2 := Lib.hid (bstep B1.out C2.out)
              replace HL := Lib.hid (HL.out.on C2.out)
              clear hb
              go_wp2_with fail
              go_ret
              exact ⟨rfl, B2.out⟩

set_option maxHeartbeats 6400000 in
theorem walk_SpanNormal (w : World) (a0 : Value) (L : List Sp) (h0 : InL w a0 L) (x : Int) :
    Calls Try.prog 8 #[a0, .int .i64 x] w fun e w' => e = .returned (.bool true) ∧ Below w.heap.size w w' := by
  obtain ⟨A, c, rfl, hmL, -, hin⟩ := h0.open_
  have HL := Lib.hid hin
  clear h0 hin
  cases hgL : decide (300 < L.length) with
  | true =>
    have B0 := Lib.hid (Below.refl w.heap.size w)
    go_enter Try.func8, Try.ntmps8
    go_wp2_with fail
    refine (is_great L A c _ hmL hgL).mono ?_
    rintro e w' ⟨rfl, rfl⟩
    go_wp2_with fail
    refine (awake _).mono ?_
    rintro e wa0 ⟨rfl, hb⟩
    have C1 := Lib.hid hb
    have B1 := Lib.hid (bstep B0.out C1.out)
    replace HL := Lib.hid (HL.out.on C1.out)
    clear hb
    go_wp2_with fail
    go_ret
    exact ⟨rfl, B1.out⟩
  | false =>
    have B0 := Lib.hid (Below.refl w.heap.size w)
    go_enter Try.func8, Try.ntmps8
    go_wp2_with fail
    refine (is_great L A c _ hmL hgL).mono ?_
    rintro e w' ⟨rfl, rfl⟩
    go_wp2_with fail
    refine (span_Norm L A c _ HL.out.sps hmL).mono ?_
    intro e w1 h
    obtain ⟨M, E, V, cv, rfl, hmM, hin, ho, hb⟩ := h.outs
    have O := Lib.hid ho
    have HM := Lib.hid hin
    clear h hin ho
    have C1 := Lib.hid hb
    have B1 := Lib.hid (bstep B0.out C1.out)
    replace HL := Lib.hid (HL.out.on C1.out)
    clear hb
    by_cases he : E = 0
    · subst he
      obtain ⟨zL, -, lM, hnf⟩ := O.out.ok rfl
      have HNF := Lib.hid hnf
      have HZM := Lib.hid (hnf.chk (fun x hx => orF_range zL x hx) lM)
      have hlen : M.length ≤ L.length := (orF_self hnf).length
      have hlen1 : (M.length : Int) ≤ (L.length : Int) := by omega
      have HLEN := Lib.hid hlen
      obtain ⟨r, hr⟩ : ∃ r, hasB L x = r := ⟨_, rfl⟩
      have HR := Lib.hid hr
      have HRM := Lib.hid (((hnf.2 x).trans (orF_nil L x)).trans hr)
      clear hnf zL hlen hr hlen1
      go_wp2_with fail
      go_loopw [7] (fun i wr => ∃ k : Nat, k ≤ M.length ∧ i = .int .i64 k ∧ Below w1.heap.size w1 wr) (fun i _ => M.length - (intOf i).toNat)
      case atStart => exact ⟨0, Nat.zero_le _, rfl, Below.refl _ _⟩
      case round =>
        obtain ⟨k, hk, rfl, hbel⟩ := hrel
        have HW := Lib.hid hbel
        clear hbel
        rcases Nat.lt_or_ge k M.length with hlt | hge
        · obtain ⟨s, hs⟩ := get_lt hlt
          obtain ⟨b, off, rfl, hb, h0, h1⟩ := (HM.out.on HW.out).sps k s hs
          have i1 : (k : Int) < (M.length : Int) := by omega
          have i2 : (0 : Int) ≤ (k : Int) := by omega
          have d1 : decide (s.2 ≤ s.1) = false := decide_eq_false (by have := nrm_at HNF.out.1 hs; omega)
          rcases Nat.eq_zero_or_pos k with hz | hz
          · subst hz
            simp only [Nat.zero_mul, Nat.add_zero] at h0 h1
            have i3 : (0 : Int) < (M.length : Int) := by omega
            have i4 : 0 < M.length := hlt
            clear hs
            go_wp2_with fail
            go_quiet (fail)
            go_wp2_with fail
            go_roundw
            case rel => exact ⟨1, by omega, by go_num, below_drewN HW.out _⟩
            case measure => simp [intOf]; omega
          · obtain ⟨j, hj⟩ : ∃ j, k = j + 1 := ⟨k - 1, by omega⟩
            obtain ⟨t, ht⟩ := get_lt (L := M) (k := j) (by omega)
            obtain ⟨b', off', e', hb', h2, h3⟩ := (HM.out.on HW.out).sps j t ht
            cases e'
            have d2 : decide (s.1 ≤ t.2) = false := decide_eq_false (by have := nrm_next HNF.out.1 (by omega) ht hs; omega)
            have d3 : (0 : Int) < (k : Int) := by omega
            have j1 : (j : Int) < (M.length : Int) := by omega
            have j2 : (0 : Int) ≤ (j : Int) := by omega
            have hw : IntKind.i64.wrap ((k : Int) - 1) = (j : Int) := by rw [wrap_id (by omega) (by omega)]; omega
            have HJ := Lib.hid hj
            clear hs ht hj
            go_wp2_with fail
            go_quiet (fail)
            clear hw
            go_wp2_with fail
            go_roundw
            case rel => exact ⟨k + 1, by omega, by go_num, below_drewN HW.out _⟩
            case measure => simp [intOf]; omega
        · obtain rfl : k = M.length := by omega
          have hlen1 : (M.length : Int) ≤ (L.length : Int) := by have := HLEN.out; omega
          have hlen2 : M.length ≤ L.length := HLEN.out
          have hbr := HW.out
          have C2 := Lib.hid hbr
          have B2 := Lib.hid (bstep B1.out C2.out)
          replace HL := Lib.hid (HL.out.on C2.out)
          replace HM := Lib.hid (HM.out.on C2.out)
          clear hbr
          go_wp2_with fail
          refine (span_Norm M V cv _ HM.out.sps hmM).mono ?_
          intro e w2 h
          obtain ⟨M2, E2, V2, cv2, rfl, hmM2, hin, ho, hb⟩ := h.outs
          have O2 := Lib.hid ho
          have HM2 := Lib.hid hin
          clear h hin ho
          have C3 := Lib.hid hb
          have B3 := Lib.hid (bstep B2.out C3.out)
          replace HL := Lib.hid (HL.out.on C3.out)
          replace HM := Lib.hid (HM.out.on C3.out)
          clear hb
          obtain ⟨rfl, rfl⟩ := O2.out.fits HZM.out chk_nil (nrm_self HNF.out.1) (by have := HZM.out; exact chk_len this)
          go_wp2_with fail
          refine (has_is _ x V cv _ HM.out.sps hmM HRM.out).mono ?_
          rintro e w3 ⟨rfl, hb⟩
          have C4 := Lib.hid hb
          have B4 := Lib.hid (bstep B3.out C4.out)
          replace HL := Lib.hid (HL.out.on C4.out)
          replace HM := Lib.hid (HM.out.on C4.out)
          replace HM2 := Lib.hid (HM2.out.on C4.out)
          clear hb
          go_wp2_with fail
          refine (has_is L x A c _ HL.out.sps hmL HR.out).mono ?_
          rintro e w4 ⟨rfl, hb⟩
          have C5 := Lib.hid hb
          have B5 := Lib.hid (bstep B4.out C5.out)
          replace HL := Lib.hid (HL.out.on C5.out)
          replace HM := Lib.hid (HM.out.on C5.out)
          replace HM2 := Lib.hid (HM2.out.on C5.out)
          clear hb
          go_wp2_with fail
          refine (ref_same _ _ rfl V V2 cv cv2 _ HM.out.sps HM2.out.sps hmM).mono ?_
          rintro e w5 ⟨rfl, hb⟩
          have C6 := Lib.hid hb
          have B6 := Lib.hid (bstep B5.out C6.out)
          replace HL := Lib.hid (HL.out.on C6.out)
          replace HM := Lib.hid (HM.out.on C6.out)
          replace HM2 := Lib.hid (HM2.out.on C6.out)
          clear hb
          go_wp2_with fail
          refine (awake _).mono ?_
          rintro e wa6 ⟨rfl, hb⟩
          have C7 := Lib.hid hb
          have B7 := Lib.hid (bstep B6.out C7.out)
          replace HL := Lib.hid (HL.out.on C7.out)
          replace HM := Lib.hid (HM.out.on C7.out)
          replace HM2 := Lib.hid (HM2.out.on C7.out)
          clear hb
          go_wp2_with fail
          go_ret
          exact ⟨rfl, B7.out⟩
    · obtain ⟨z1, z2⟩ := ne_facts he
      obtain rfl := O.out.no he
      clear he
      go_wp2_with fail
      refine (awake _).mono ?_
      rintro e wa1 ⟨rfl, hb⟩
      have C2 := Lib.hid hb
      have B2 := Lib.hid (bstep B1.out C2.out)
      replace HL := Lib.hid (HL.out.on C2.out)
      replace HM := Lib.hid (HM.out.on C2.out)
      clear hb
      go_wp2_with fail
      go_ret
      exact ⟨rfl, B2.out⟩
#print axioms walk_SpanShifts
#print axioms walk_SpanNormal
end Go.Proofs.Ytidgcgnedeekhaa.Span
