/- The walks of SpanCombines, SpanSets. -/
import Derived.Test.YtidgcgnedeekhaaSpanV
namespace Go.Proofs.Ytidgcgnedeekhaa.Span
open Go.ChangeShapes Go.WideShapes Go.RowKit Go.Lib Go.Proofs
set_option linter.unusedVariables false
set_option maxRecDepth 100000

theorem has_is (L : List Sp) (x : Int) (A : Option Addr) (c : Nat) (w : World) (ha : Sps w A L) (hm : L.length ≤ 9223372036854775807) {r : Bool} (hr : hasB L x = r) :
    Calls Try.prog 16 #[.slice A L.length c, .int .i64 x] w fun e w' => e = .returned (.bool r) ∧ Below w.heap.size w w' := by
  have h := span_Has L x A c w ha hm
  rwa [hr] at h
theorem check_is (L : List Sp) (A : Option Addr) (c : Nat) (w : World) (ha : Sps w A L) (hm : L.length ≤ 9223372036854775807) {r : Int} (hr : chkE L = r) :
    Calls Try.prog 14 #[.slice A L.length c] w fun e w' => e = .returned (.int .i64 r) ∧ Below w.heap.size w w' := by
  have h := span_Check L A c w ha hm
  rwa [hr] at h
theorem ne_facts {z : Int} (h : ¬ z = 0) : (z == 0) = false ∧ (z != 0) = true := by
  have e := beq_false_of_ne h
  exact ⟨e, by rw [bne, e]; rfl⟩

set_option maxHeartbeats 6400000 in
theorem walk_SpanCombines (w : World) (a0 : Value) (a : List Sp) (h0 : InL w a0 a) (a1 : Value) (b : List Sp) (h1 : InL w a1 b) :
    Calls Try.prog 5 #[a0, a1] w fun e w' => e = .returned (.bool true) ∧ Below w.heap.size w w' := by
  obtain ⟨A, c, rfl, hma, -, hin⟩ := h0.open_
  have Ha := Lib.hid hin
  clear h0 hin
  obtain ⟨B, d, rfl, hmb, -, hin⟩ := h1.open_
  have Hb := Lib.hid hin
  clear h1 hin
  cases hga : decide (300 < a.length) with
  | true =>
    have B0 := Lib.hid (Below.refl w.heap.size w)
    go_enter Try.func5, Try.ntmps5
    go_wp2_with fail
    refine (is_great a A c _ hma hga).mono ?_
    rintro e w' ⟨rfl, rfl⟩
    go_wp2_with fail
    refine (awake _).mono ?_
    rintro e wa0 ⟨rfl, hb⟩
    have C1 := Lib.hid hb
    have B1 := Lib.hid (bstep B0.out C1.out)
    replace Ha := Lib.hid (Ha.out.on C1.out)
    replace Hb := Lib.hid (Hb.out.on C1.out)
    clear hb
    go_wp2_with fail
    go_ret
    exact ⟨rfl, B1.out⟩
  | false =>
    cases hgb : decide (300 < b.length) with
    | true =>
      have B0 := Lib.hid (Below.refl w.heap.size w)
      go_enter Try.func5, Try.ntmps5
      go_wp2_with fail
      refine (is_great a A c _ hma hga).mono ?_
      rintro e w' ⟨rfl, rfl⟩
      go_wp2_with fail
      refine (is_great b B d _ hmb hgb).mono ?_
      rintro e w' ⟨rfl, rfl⟩
      go_wp2_with fail
      refine (awake _).mono ?_
      rintro e wa0 ⟨rfl, hb⟩
      have C1 := Lib.hid hb
      have B1 := Lib.hid (bstep B0.out C1.out)
      replace Ha := Lib.hid (Ha.out.on C1.out)
      replace Hb := Lib.hid (Hb.out.on C1.out)
      clear hb
      go_wp2_with fail
      go_ret
      exact ⟨rfl, B1.out⟩
    | false =>
      have B0 := Lib.hid (Below.refl w.heap.size w)
      go_enter Try.func5, Try.ntmps5
      go_wp2_with fail
      refine (is_great a A c _ hma hga).mono ?_
      rintro e w' ⟨rfl, rfl⟩
      go_wp2_with fail
      refine (is_great b B d _ hmb hgb).mono ?_
      rintro e w' ⟨rfl, rfl⟩
      go_wp2_with fail
      refine (span_Union a b A B c d _ Ha.out.sps Hb.out.sps hma hmb).mono ?_
      intro e w1 h
      obtain ⟨M0, E0, V0, c0, rfl, hmM0, hin, ho, hb⟩ := h.outs
      have O0 := Lib.hid ho
      have HM0 := Lib.hid hin
      clear h hin ho
      have C1 := Lib.hid hb
      have B1 := Lib.hid (bstep B0.out C1.out)
      replace Ha := Lib.hid (Ha.out.on C1.out)
      replace Hb := Lib.hid (Hb.out.on C1.out)
      clear hb
      go_wp2_with fail
      refine (ref_Union a b A B c d _ Ha.out.sps Hb.out.sps hma hmb).mono ?_
      intro e w2 h
      obtain ⟨N0, F0, U0, d0, rfl, hmN0, hin, ho, hb⟩ := h.outs
      have Q0 := Lib.hid ho
      have HN0 := Lib.hid hin
      clear h hin ho
      have C2 := Lib.hid hb
      have B2 := Lib.hid (bstep B1.out C2.out)
      replace Ha := Lib.hid (Ha.out.on C2.out)
      replace Hb := Lib.hid (Hb.out.on C2.out)
      replace HM0 := Lib.hid (HM0.out.on C2.out)
      clear hb
      obtain ⟨rfl, rfl⟩ := O0.out.one Q0.out
      go_wp2_with fail
      refine (span_Common a b A B c d _ Ha.out.sps Hb.out.sps hma hmb).mono ?_
      intro e w3 h
      obtain ⟨M1, E1, V1, c1, rfl, hmM1, hin, ho, hb⟩ := h.outs
      have O1 := Lib.hid ho
      have HM1 := Lib.hid hin
      clear h hin ho
      have C3 := Lib.hid hb
      have B3 := Lib.hid (bstep B2.out C3.out)
      replace Ha := Lib.hid (Ha.out.on C3.out)
      replace Hb := Lib.hid (Hb.out.on C3.out)
      replace HM0 := Lib.hid (HM0.out.on C3.out)
      replace HN0 := Lib.hid (HN0.out.on C3.out)
      clear hb
      go_wp2_with fail
      refine (ref_Common a b A B c d _ Ha.out.sps Hb.out.sps hma hmb).mono ?_
      intro e w4 h
      obtain ⟨N1, F1, U1, d1, rfl, hmN1, hin, ho, hb⟩ := h.outs
      have Q1 := Lib.hid ho
      have HN1 := Lib.hid hin
      clear h hin ho
      have C4 := Lib.hid hb
      have B4 := Lib.hid (bstep B3.out C4.out)
      replace Ha := Lib.hid (Ha.out.on C4.out)
      replace Hb := Lib.hid (Hb.out.on C4.out)
      replace HM0 := Lib.hid (HM0.out.on C4.out)
      replace HN0 := Lib.hid (HN0.out.on C4.out)
      replace HM1 := Lib.hid (HM1.out.on C4.out)
      clear hb
      obtain ⟨rfl, rfl⟩ := O1.out.one Q1.out
      go_wp2_with fail
      refine (span_Minus a b A B c d _ Ha.out.sps Hb.out.sps hma hmb).mono ?_
      intro e w5 h
      obtain ⟨M2, E2, V2, c2, rfl, hmM2, hin, ho, hb⟩ := h.outs
      have O2 := Lib.hid ho
      have HM2 := Lib.hid hin
      clear h hin ho
      have C5 := Lib.hid hb
      have B5 := Lib.hid (bstep B4.out C5.out)
      replace Ha := Lib.hid (Ha.out.on C5.out)
      replace Hb := Lib.hid (Hb.out.on C5.out)
      replace HM0 := Lib.hid (HM0.out.on C5.out)
      replace HN0 := Lib.hid (HN0.out.on C5.out)
      replace HM1 := Lib.hid (HM1.out.on C5.out)
      replace HN1 := Lib.hid (HN1.out.on C5.out)
      clear hb
      go_wp2_with fail
      refine (ref_Minus a b A B c d _ Ha.out.sps Hb.out.sps hma hmb).mono ?_
      intro e w6 h
      obtain ⟨N2, F2, U2, d2, rfl, hmN2, hin, ho, hb⟩ := h.outs
      have Q2 := Lib.hid ho
      have HN2 := Lib.hid hin
      clear h hin ho
      have C6 := Lib.hid hb
      have B6 := Lib.hid (bstep B5.out C6.out)
      replace Ha := Lib.hid (Ha.out.on C6.out)
      replace Hb := Lib.hid (Hb.out.on C6.out)
      replace HM0 := Lib.hid (HM0.out.on C6.out)
      replace HN0 := Lib.hid (HN0.out.on C6.out)
      replace HM1 := Lib.hid (HM1.out.on C6.out)
      replace HN1 := Lib.hid (HN1.out.on C6.out)
      replace HM2 := Lib.hid (HM2.out.on C6.out)
      clear hb
      obtain ⟨rfl, rfl⟩ := O2.out.one Q2.out
      go_wp2_with fail
      refine (ref_same M0 M0 rfl V0 U0 c0 d0 _ HM0.out.sps HN0.out.sps hmM0).mono ?_
      rintro e w7 ⟨rfl, hb⟩
      have C7 := Lib.hid hb
      have B7 := Lib.hid (bstep B6.out C7.out)
      replace Ha := Lib.hid (Ha.out.on C7.out)
      replace Hb := Lib.hid (Hb.out.on C7.out)
      replace HM0 := Lib.hid (HM0.out.on C7.out)
      replace HN0 := Lib.hid (HN0.out.on C7.out)
      replace HM1 := Lib.hid (HM1.out.on C7.out)
      replace HN1 := Lib.hid (HN1.out.on C7.out)
      replace HM2 := Lib.hid (HM2.out.on C7.out)
      replace HN2 := Lib.hid (HN2.out.on C7.out)
      clear hb
      go_wp2_with fail
      refine (ref_same M1 M1 rfl V1 U1 c1 d1 _ HM1.out.sps HN1.out.sps hmM1).mono ?_
      rintro e w8 ⟨rfl, hb⟩
      have C8 := Lib.hid hb
      have B8 := Lib.hid (bstep B7.out C8.out)
      replace Ha := Lib.hid (Ha.out.on C8.out)
      replace Hb := Lib.hid (Hb.out.on C8.out)
      replace HM0 := Lib.hid (HM0.out.on C8.out)
      replace HN0 := Lib.hid (HN0.out.on C8.out)
      replace HM1 := Lib.hid (HM1.out.on C8.out)
      replace HN1 := Lib.hid (HN1.out.on C8.out)
      replace HM2 := Lib.hid (HM2.out.on C8.out)
      replace HN2 := Lib.hid (HN2.out.on C8.out)
      clear hb
      go_wp2_with fail
      refine (ref_same M2 M2 rfl V2 U2 c2 d2 _ HM2.out.sps HN2.out.sps hmM2).mono ?_
      rintro e w9 ⟨rfl, hb⟩
      have C9 := Lib.hid hb
      have B9 := Lib.hid (bstep B8.out C9.out)
      replace Ha := Lib.hid (Ha.out.on C9.out)
      replace Hb := Lib.hid (Hb.out.on C9.out)
      replace HM0 := Lib.hid (HM0.out.on C9.out)
      replace HN0 := Lib.hid (HN0.out.on C9.out)
      replace HM1 := Lib.hid (HM1.out.on C9.out)
      replace HN1 := Lib.hid (HN1.out.on C9.out)
      replace HM2 := Lib.hid (HM2.out.on C9.out)
      replace HN2 := Lib.hid (HN2.out.on C9.out)
      clear hb
      go_wp2_with fail
      refine (awake _).mono ?_
      rintro e wa9 ⟨rfl, hb⟩
      have C10 := Lib.hid hb
      have B10 := Lib.hid (bstep B9.out C10.out)
      replace Ha := Lib.hid (Ha.out.on C10.out)
      replace Hb := Lib.hid (Hb.out.on C10.out)
      replace HM0 := Lib.hid (HM0.out.on C10.out)
      replace HN0 := Lib.hid (HN0.out.on C10.out)
      replace HM1 := Lib.hid (HM1.out.on C10.out)
      replace HN1 := Lib.hid (HN1.out.on C10.out)
      replace HM2 := Lib.hid (HM2.out.on C10.out)
      replace HN2 := Lib.hid (HN2.out.on C10.out)
      clear hb
      go_wp2_with fail
      go_ret
      exact ⟨rfl, B10.out⟩

set_option maxHeartbeats 12800000 in
theorem sets_tt (w : World) (a b : List Sp) (A B : Option Addr) (c d : Nat) (ha : InL w (.slice A a.length c) a) (hb : InL w (.slice B b.length d) b) (hma : a.length ≤ 9223372036854775807) (hmb : b.length ≤ 9223372036854775807) (x : Int)
    (hga : decide (300 < a.length) = false) (hgb : decide (300 < b.length) = false) (hca : chkE a = 0) (hcb : chkE b = 0) (hp : hasB a x = true) (hq : hasB b x = true) :
    Calls Try.prog 7 #[.slice A a.length c, .slice B b.length d, .int .i64 x] w fun e w' => e = .returned (.bool true) ∧ Below w.heap.size w w' := by
  have Ha := Lib.hid ha
  have Hb := Lib.hid hb
  have HP := Lib.hid hp
  have HQ := Lib.hid hq
  have HCA := Lib.hid hca
  have HCB := Lib.hid hcb
  have HGA := Lib.hid hga
  have HGB := Lib.hid hgb
  clear ha hb hp hq hca hcb hga hgb
  have B0 := Lib.hid (Below.refl w.heap.size w)
  go_enter Try.func7, Try.ntmps7
  go_wp2_with fail
  refine (is_great a A c _ hma HGA.out).mono ?_
  rintro e w' ⟨rfl, rfl⟩
  go_wp2_with fail
  refine (is_great b B d _ hmb HGB.out).mono ?_
  rintro e w' ⟨rfl, rfl⟩
  go_wp2_with fail
  refine (check_is a A c _ Ha.out.sps hma HCA.out).mono ?_
  rintro e w1 ⟨rfl, hb⟩
  have C1 := Lib.hid hb
  have B1 := Lib.hid (bstep B0.out C1.out)
  replace Ha := Lib.hid (Ha.out.on C1.out)
  replace Hb := Lib.hid (Hb.out.on C1.out)
  clear hb
  go_wp2_with fail
  refine (check_is b B d _ Hb.out.sps hmb HCB.out).mono ?_
  rintro e w2 ⟨rfl, hb⟩
  have C2 := Lib.hid hb
  have B2 := Lib.hid (bstep B1.out C2.out)
  replace Ha := Lib.hid (Ha.out.on C2.out)
  replace Hb := Lib.hid (Hb.out.on C2.out)
  clear hb
  go_wp2_with fail
  refine (span_Union a b A B c d _ Ha.out.sps Hb.out.sps hma hmb).mono ?_
  intro e w3 h
  obtain ⟨M0, E0, V0, c0, rfl, hmM0, hin, ho, hb⟩ := h.outs
  have O0 := Lib.hid ho
  have HM0 := Lib.hid hin
  clear h hin ho
  have C3 := Lib.hid hb
  have B3 := Lib.hid (bstep B2.out C3.out)
  replace Ha := Lib.hid (Ha.out.on C3.out)
  replace Hb := Lib.hid (Hb.out.on C3.out)
  clear hb
  go_wp2_with fail
  refine (span_Common a b A B c d _ Ha.out.sps Hb.out.sps hma hmb).mono ?_
  intro e w4 h
  obtain ⟨M1, E1, V1, c1, rfl, hmM1, hin, ho, hb⟩ := h.outs
  have O1 := Lib.hid ho
  have HM1 := Lib.hid hin
  clear h hin ho
  have C4 := Lib.hid hb
  have B4 := Lib.hid (bstep B3.out C4.out)
  replace Ha := Lib.hid (Ha.out.on C4.out)
  replace Hb := Lib.hid (Hb.out.on C4.out)
  replace HM0 := Lib.hid (HM0.out.on C4.out)
  clear hb
  go_wp2_with fail
  refine (span_Minus a b A B c d _ Ha.out.sps Hb.out.sps hma hmb).mono ?_
  intro e w5 h
  obtain ⟨M2, E2, V2, c2, rfl, hmM2, hin, ho, hb⟩ := h.outs
  have O2 := Lib.hid ho
  have HM2 := Lib.hid hin
  clear h hin ho
  have C5 := Lib.hid hb
  have B5 := Lib.hid (bstep B4.out C5.out)
  replace Ha := Lib.hid (Ha.out.on C5.out)
  replace Hb := Lib.hid (Hb.out.on C5.out)
  replace HM0 := Lib.hid (HM0.out.on C5.out)
  replace HM1 := Lib.hid (HM1.out.on C5.out)
  clear hb
  go_wp2_with fail
  refine (has_is a x A c _ Ha.out.sps hma HP.out).mono ?_
  rintro e w6 ⟨rfl, hb⟩
  have C6 := Lib.hid hb
  have B6 := Lib.hid (bstep B5.out C6.out)
  replace Ha := Lib.hid (Ha.out.on C6.out)
  replace Hb := Lib.hid (Hb.out.on C6.out)
  replace HM0 := Lib.hid (HM0.out.on C6.out)
  replace HM1 := Lib.hid (HM1.out.on C6.out)
  replace HM2 := Lib.hid (HM2.out.on C6.out)
  clear hb
  go_wp2_with fail
  refine (has_is b x B d _ Hb.out.sps hmb HQ.out).mono ?_
  rintro e w7 ⟨rfl, hb⟩
  have C7 := Lib.hid hb
  have B7 := Lib.hid (bstep B6.out C7.out)
  replace Ha := Lib.hid (Ha.out.on C7.out)
  replace Hb := Lib.hid (Hb.out.on C7.out)
  replace HM0 := Lib.hid (HM0.out.on C7.out)
  replace HM1 := Lib.hid (HM1.out.on C7.out)
  replace HM2 := Lib.hid (HM2.out.on C7.out)
  clear hb
  rcases O0.out.cases HCA.out HCB.out with rfl | rfl
  · have HV0 := Lib.hid (show hasB M0 x = true by rw [(O0.out.ok rfl).2.2.2.2]; show setF _ a b x = _; unfold setF; rw [HP.out, HQ.out]; rfl)
    go_wp2_with fail
    refine (has_is M0 x V0 c0 _ HM0.out.sps hmM0 HV0.out).mono ?_
    rintro e x0 ⟨rfl, hb⟩
    have C8 := Lib.hid hb
    have B8 := Lib.hid (bstep B7.out C8.out)
    replace Ha := Lib.hid (Ha.out.on C8.out)
    replace Hb := Lib.hid (Hb.out.on C8.out)
    replace HM0 := Lib.hid (HM0.out.on C8.out)
    replace HM1 := Lib.hid (HM1.out.on C8.out)
    replace HM2 := Lib.hid (HM2.out.on C8.out)
    clear hb
    rcases O1.out.cases HCA.out HCB.out with rfl | rfl
    · have HV1 := Lib.hid (show hasB M1 x = true by rw [(O1.out.ok rfl).2.2.2.2]; show setF _ a b x = _; unfold setF; rw [HP.out, HQ.out]; rfl)
      go_wp2_with fail
      refine (has_is M1 x V1 c1 _ HM1.out.sps hmM1 HV1.out).mono ?_
      rintro e x1 ⟨rfl, hb⟩
      have C9 := Lib.hid hb
      have B9 := Lib.hid (bstep B8.out C9.out)
      replace Ha := Lib.hid (Ha.out.on C9.out)
      replace Hb := Lib.hid (Hb.out.on C9.out)
      replace HM0 := Lib.hid (HM0.out.on C9.out)
      replace HM1 := Lib.hid (HM1.out.on C9.out)
      replace HM2 := Lib.hid (HM2.out.on C9.out)
      clear hb
      rcases O2.out.cases HCA.out HCB.out with rfl | rfl
      · have HV2 := Lib.hid (show hasB M2 x = false by rw [(O2.out.ok rfl).2.2.2.2]; show setF _ a b x = _; unfold setF; rw [HP.out, HQ.out]; rfl)
        go_wp2_with fail
        refine (has_is M2 x V2 c2 _ HM2.out.sps hmM2 HV2.out).mono ?_
        rintro e x2 ⟨rfl, hb⟩
        have C10 := Lib.hid hb
        have B10 := Lib.hid (bstep B9.out C10.out)
        replace Ha := Lib.hid (Ha.out.on C10.out)
        replace Hb := Lib.hid (Hb.out.on C10.out)
        replace HM0 := Lib.hid (HM0.out.on C10.out)
        replace HM1 := Lib.hid (HM1.out.on C10.out)
        replace HM2 := Lib.hid (HM2.out.on C10.out)
        clear hb
        go_wp2_with fail
        refine (awake _).mono ?_
        rintro e wa10 ⟨rfl, hb⟩
        have C11 := Lib.hid hb
        have B11 := Lib.hid (bstep B10.out C11.out)
        replace Ha := Lib.hid (Ha.out.on C11.out)
        replace Hb := Lib.hid (Hb.out.on C11.out)
        replace HM0 := Lib.hid (HM0.out.on C11.out)
        replace HM1 := Lib.hid (HM1.out.on C11.out)
        replace HM2 := Lib.hid (HM2.out.on C11.out)
        clear hb
        go_wp2_with fail
        go_ret
        exact ⟨rfl, B11.out⟩
      · skip
        go_wp2_with fail
        refine (awake _).mono ?_
        rintro e wa9 ⟨rfl, hb⟩
        have C10 := Lib.hid hb
        have B10 := Lib.hid (bstep B9.out C10.out)
        replace Ha := Lib.hid (Ha.out.on C10.out)
        replace Hb := Lib.hid (Hb.out.on C10.out)
        replace HM0 := Lib.hid (HM0.out.on C10.out)
        replace HM1 := Lib.hid (HM1.out.on C10.out)
        replace HM2 := Lib.hid (HM2.out.on C10.out)
        clear hb
        go_wp2_with fail
        go_ret
        exact ⟨rfl, B10.out⟩
    · skip
      rcases O2.out.cases HCA.out HCB.out with rfl | rfl
      · have HV2 := Lib.hid (show hasB M2 x = false by rw [(O2.out.ok rfl).2.2.2.2]; show setF _ a b x = _; unfold setF; rw [HP.out, HQ.out]; rfl)
        go_wp2_with fail
        refine (has_is M2 x V2 c2 _ HM2.out.sps hmM2 HV2.out).mono ?_
        rintro e x2 ⟨rfl, hb⟩
        have C9 := Lib.hid hb
        have B9 := Lib.hid (bstep B8.out C9.out)
        replace Ha := Lib.hid (Ha.out.on C9.out)
        replace Hb := Lib.hid (Hb.out.on C9.out)
        replace HM0 := Lib.hid (HM0.out.on C9.out)
        replace HM1 := Lib.hid (HM1.out.on C9.out)
        replace HM2 := Lib.hid (HM2.out.on C9.out)
        clear hb
        go_wp2_with fail
        refine (awake _).mono ?_
        rintro e wa9 ⟨rfl, hb⟩
        have C10 := Lib.hid hb
        have B10 := Lib.hid (bstep B9.out C10.out)
        replace Ha := Lib.hid (Ha.out.on C10.out)
        replace Hb := Lib.hid (Hb.out.on C10.out)
        replace HM0 := Lib.hid (HM0.out.on C10.out)
        replace HM1 := Lib.hid (HM1.out.on C10.out)
        replace HM2 := Lib.hid (HM2.out.on C10.out)
        clear hb
        go_wp2_with fail
        go_ret
        exact ⟨rfl, B10.out⟩
      · skip
        go_wp2_with fail
        refine (awake _).mono ?_
        rintro e wa8 ⟨rfl, hb⟩
        have C9 := Lib.hid hb
        have B9 := Lib.hid (bstep B8.out C9.out)
        replace Ha := Lib.hid (Ha.out.on C9.out)
        replace Hb := Lib.hid (Hb.out.on C9.out)
        replace HM0 := Lib.hid (HM0.out.on C9.out)
        replace HM1 := Lib.hid (HM1.out.on C9.out)
        replace HM2 := Lib.hid (HM2.out.on C9.out)
        clear hb
        go_wp2_with fail
        go_ret
        exact ⟨rfl, B9.out⟩
  · skip
    rcases O1.out.cases HCA.out HCB.out with rfl | rfl
    · have HV1 := Lib.hid (show hasB M1 x = true by rw [(O1.out.ok rfl).2.2.2.2]; show setF _ a b x = _; unfold setF; rw [HP.out, HQ.out]; rfl)
      go_wp2_with fail
      refine (has_is M1 x V1 c1 _ HM1.out.sps hmM1 HV1.out).mono ?_
      rintro e x1 ⟨rfl, hb⟩
      have C8 := Lib.hid hb
      have B8 := Lib.hid (bstep B7.out C8.out)
      replace Ha := Lib.hid (Ha.out.on C8.out)
      replace Hb := Lib.hid (Hb.out.on C8.out)
      replace HM0 := Lib.hid (HM0.out.on C8.out)
      replace HM1 := Lib.hid (HM1.out.on C8.out)
      replace HM2 := Lib.hid (HM2.out.on C8.out)
      clear hb
      rcases O2.out.cases HCA.out HCB.out with rfl | rfl
      · have HV2 := Lib.hid (show hasB M2 x = false by rw [(O2.out.ok rfl).2.2.2.2]; show setF _ a b x = _; unfold setF; rw [HP.out, HQ.out]; rfl)
        go_wp2_with fail
        refine (has_is M2 x V2 c2 _ HM2.out.sps hmM2 HV2.out).mono ?_
        rintro e x2 ⟨rfl, hb⟩
        have C9 := Lib.hid hb
        have B9 := Lib.hid (bstep B8.out C9.out)
        replace Ha := Lib.hid (Ha.out.on C9.out)
        replace Hb := Lib.hid (Hb.out.on C9.out)
        replace HM0 := Lib.hid (HM0.out.on C9.out)
        replace HM1 := Lib.hid (HM1.out.on C9.out)
        replace HM2 := Lib.hid (HM2.out.on C9.out)
        clear hb
        go_wp2_with fail
        refine (awake _).mono ?_
        rintro e wa9 ⟨rfl, hb⟩
        have C10 := Lib.hid hb
        have B10 := Lib.hid (bstep B9.out C10.out)
        replace Ha := Lib.hid (Ha.out.on C10.out)
        replace Hb := Lib.hid (Hb.out.on C10.out)
        replace HM0 := Lib.hid (HM0.out.on C10.out)
        replace HM1 := Lib.hid (HM1.out.on C10.out)
        replace HM2 := Lib.hid (HM2.out.on C10.out)
        clear hb
        go_wp2_with fail
        go_ret
        exact ⟨rfl, B10.out⟩
      · skip
        go_wp2_with fail
        refine (awake _).mono ?_
        rintro e wa8 ⟨rfl, hb⟩
        have C9 := Lib.hid hb
        have B9 := Lib.hid (bstep B8.out C9.out)
        replace Ha := Lib.hid (Ha.out.on C9.out)
        replace Hb := Lib.hid (Hb.out.on C9.out)
        replace HM0 := Lib.hid (HM0.out.on C9.out)
        replace HM1 := Lib.hid (HM1.out.on C9.out)
        replace HM2 := Lib.hid (HM2.out.on C9.out)
        clear hb
        go_wp2_with fail
        go_ret
        exact ⟨rfl, B9.out⟩
    · skip
      rcases O2.out.cases HCA.out HCB.out with rfl | rfl
      · have HV2 := Lib.hid (show hasB M2 x = false by rw [(O2.out.ok rfl).2.2.2.2]; show setF _ a b x = _; unfold setF; rw [HP.out, HQ.out]; rfl)
        go_wp2_with fail
        refine (has_is M2 x V2 c2 _ HM2.out.sps hmM2 HV2.out).mono ?_
        rintro e x2 ⟨rfl, hb⟩
        have C8 := Lib.hid hb
        have B8 := Lib.hid (bstep B7.out C8.out)
        replace Ha := Lib.hid (Ha.out.on C8.out)
        replace Hb := Lib.hid (Hb.out.on C8.out)
        replace HM0 := Lib.hid (HM0.out.on C8.out)
        replace HM1 := Lib.hid (HM1.out.on C8.out)
        replace HM2 := Lib.hid (HM2.out.on C8.out)
        clear hb
        go_wp2_with fail
        refine (awake _).mono ?_
        rintro e wa8 ⟨rfl, hb⟩
        have C9 := Lib.hid hb
        have B9 := Lib.hid (bstep B8.out C9.out)
        replace Ha := Lib.hid (Ha.out.on C9.out)
        replace Hb := Lib.hid (Hb.out.on C9.out)
        replace HM0 := Lib.hid (HM0.out.on C9.out)
        replace HM1 := Lib.hid (HM1.out.on C9.out)
        replace HM2 := Lib.hid (HM2.out.on C9.out)
        clear hb
        go_wp2_with fail
        go_ret
        exact ⟨rfl, B9.out⟩
      · skip
        go_wp2_with fail
        refine (awake _).mono ?_
        rintro e wa7 ⟨rfl, hb⟩
        have C8 := Lib.hid hb
        have B8 := Lib.hid (bstep B7.out C8.out)
        replace Ha := Lib.hid (Ha.out.on C8.out)
        replace Hb := Lib.hid (Hb.out.on C8.out)
        replace HM0 := Lib.hid (HM0.out.on C8.out)
        replace HM1 := Lib.hid (HM1.out.on C8.out)
        replace HM2 := Lib.hid (HM2.out.on C8.out)
        clear hb
        go_wp2_with fail
        go_ret
        exact ⟨rfl, B8.out⟩

set_option maxHeartbeats 12800000 in
theorem sets_tf (w : World) (a b : List Sp) (A B : Option Addr) (c d : Nat) (ha : InL w (.slice A a.length c) a) (hb : InL w (.slice B b.length d) b) (hma : a.length ≤ 9223372036854775807) (hmb : b.length ≤ 9223372036854775807) (x : Int)
    (hga : decide (300 < a.length) = false) (hgb : decide (300 < b.length) = false) (hca : chkE a = 0) (hcb : chkE b = 0) (hp : hasB a x = true) (hq : hasB b x = false) :
    Calls Try.prog 7 #[.slice A a.length c, .slice B b.length d, .int .i64 x] w fun e w' => e = .returned (.bool true) ∧ Below w.heap.size w w' := by
  have Ha := Lib.hid ha
  have Hb := Lib.hid hb
  have HP := Lib.hid hp
  have HQ := Lib.hid hq
  have HCA := Lib.hid hca
  have HCB := Lib.hid hcb
  have HGA := Lib.hid hga
  have HGB := Lib.hid hgb
  clear ha hb hp hq hca hcb hga hgb
  have B0 := Lib.hid (Below.refl w.heap.size w)
  go_enter Try.func7, Try.ntmps7
  go_wp2_with fail
  refine (is_great a A c _ hma HGA.out).mono ?_
  rintro e w' ⟨rfl, rfl⟩
  go_wp2_with fail
  refine (is_great b B d _ hmb HGB.out).mono ?_
  rintro e w' ⟨rfl, rfl⟩
  go_wp2_with fail
  refine (check_is a A c _ Ha.out.sps hma HCA.out).mono ?_
  rintro e w1 ⟨rfl, hb⟩
  have C1 := Lib.hid hb
  have B1 := Lib.hid (bstep B0.out C1.out)
  replace Ha := Lib.hid (Ha.out.on C1.out)
  replace Hb := Lib.hid (Hb.out.on C1.out)
  clear hb
  go_wp2_with fail
  refine (check_is b B d _ Hb.out.sps hmb HCB.out).mono ?_
  rintro e w2 ⟨rfl, hb⟩
  have C2 := Lib.hid hb
  have B2 := Lib.hid (bstep B1.out C2.out)
  replace Ha := Lib.hid (Ha.out.on C2.out)
  replace Hb := Lib.hid (Hb.out.on C2.out)
  clear hb
  go_wp2_with fail
  refine (span_Union a b A B c d _ Ha.out.sps Hb.out.sps hma hmb).mono ?_
  intro e w3 h
  obtain ⟨M0, E0, V0, c0, rfl, hmM0, hin, ho, hb⟩ := h.outs
  have O0 := Lib.hid ho
  have HM0 := Lib.hid hin
  clear h hin ho
  have C3 := Lib.hid hb
  have B3 := Lib.hid (bstep B2.out C3.out)
  replace Ha := Lib.hid (Ha.out.on C3.out)
  replace Hb := Lib.hid (Hb.out.on C3.out)
  clear hb
  go_wp2_with fail
  refine (span_Common a b A B c d _ Ha.out.sps Hb.out.sps hma hmb).mono ?_
  intro e w4 h
  obtain ⟨M1, E1, V1, c1, rfl, hmM1, hin, ho, hb⟩ := h.outs
  have O1 := Lib.hid ho
  have HM1 := Lib.hid hin
  clear h hin ho
  have C4 := Lib.hid hb
  have B4 := Lib.hid (bstep B3.out C4.out)
  replace Ha := Lib.hid (Ha.out.on C4.out)
  replace Hb := Lib.hid (Hb.out.on C4.out)
  replace HM0 := Lib.hid (HM0.out.on C4.out)
  clear hb
  go_wp2_with fail
  refine (span_Minus a b A B c d _ Ha.out.sps Hb.out.sps hma hmb).mono ?_
  intro e w5 h
  obtain ⟨M2, E2, V2, c2, rfl, hmM2, hin, ho, hb⟩ := h.outs
  have O2 := Lib.hid ho
  have HM2 := Lib.hid hin
  clear h hin ho
  have C5 := Lib.hid hb
  have B5 := Lib.hid (bstep B4.out C5.out)
  replace Ha := Lib.hid (Ha.out.on C5.out)
  replace Hb := Lib.hid (Hb.out.on C5.out)
  replace HM0 := Lib.hid (HM0.out.on C5.out)
  replace HM1 := Lib.hid (HM1.out.on C5.out)
  clear hb
  go_wp2_with fail
  refine (has_is a x A c _ Ha.out.sps hma HP.out).mono ?_
  rintro e w6 ⟨rfl, hb⟩
  have C6 := Lib.hid hb
  have B6 := Lib.hid (bstep B5.out C6.out)
  replace Ha := Lib.hid (Ha.out.on C6.out)
  replace Hb := Lib.hid (Hb.out.on C6.out)
  replace HM0 := Lib.hid (HM0.out.on C6.out)
  replace HM1 := Lib.hid (HM1.out.on C6.out)
  replace HM2 := Lib.hid (HM2.out.on C6.out)
  clear hb
  go_wp2_with fail
  refine (has_is b x B d _ Hb.out.sps hmb HQ.out).mono ?_
  rintro e w7 ⟨rfl, hb⟩
  have C7 := Lib.hid hb
  have B7 := Lib.hid (bstep B6.out C7.out)
  replace Ha := Lib.hid (Ha.out.on C7.out)
  replace Hb := Lib.hid (Hb.out.on C7.out)
  replace HM0 := Lib.hid (HM0.out.on C7.out)
  replace HM1 := Lib.hid (HM1.out.on C7.out)
  replace HM2 := Lib.hid (HM2.out.on C7.out)
  clear hb
  rcases O0.out.cases HCA.out HCB.out with rfl | rfl
  · have HV0 := Lib.hid (show hasB M0 x = true by rw [(O0.out.ok rfl).2.2.2.2]; show setF _ a b x = _; unfold setF; rw [HP.out, HQ.out]; rfl)
    go_wp2_with fail
    refine (has_is M0 x V0 c0 _ HM0.out.sps hmM0 HV0.out).mono ?_
    rintro e x0 ⟨rfl, hb⟩
    have C8 := Lib.hid hb
    have B8 := Lib.hid (bstep B7.out C8.out)
    replace Ha := Lib.hid (Ha.out.on C8.out)
    replace Hb := Lib.hid (Hb.out.on C8.out)
    replace HM0 := Lib.hid (HM0.out.on C8.out)
    replace HM1 := Lib.hid (HM1.out.on C8.out)
    replace HM2 := Lib.hid (HM2.out.on C8.out)
    clear hb
    rcases O1.out.cases HCA.out HCB.out with rfl | rfl
    · have HV1 := Lib.hid (show hasB M1 x = false by rw [(O1.out.ok rfl).2.2.2.2]; show setF _ a b x = _; unfold setF; rw [HP.out, HQ.out]; rfl)
      go_wp2_with fail
      refine (has_is M1 x V1 c1 _ HM1.out.sps hmM1 HV1.out).mono ?_
      rintro e x1 ⟨rfl, hb⟩
      have C9 := Lib.hid hb
      have B9 := Lib.hid (bstep B8.out C9.out)
      replace Ha := Lib.hid (Ha.out.on C9.out)
      replace Hb := Lib.hid (Hb.out.on C9.out)
      replace HM0 := Lib.hid (HM0.out.on C9.out)
      replace HM1 := Lib.hid (HM1.out.on C9.out)
      replace HM2 := Lib.hid (HM2.out.on C9.out)
      clear hb
      rcases O2.out.cases HCA.out HCB.out with rfl | rfl
      · have HV2 := Lib.hid (show hasB M2 x = true by rw [(O2.out.ok rfl).2.2.2.2]; show setF _ a b x = _; unfold setF; rw [HP.out, HQ.out]; rfl)
        go_wp2_with fail
        refine (has_is M2 x V2 c2 _ HM2.out.sps hmM2 HV2.out).mono ?_
        rintro e x2 ⟨rfl, hb⟩
        have C10 := Lib.hid hb
        have B10 := Lib.hid (bstep B9.out C10.out)
        replace Ha := Lib.hid (Ha.out.on C10.out)
        replace Hb := Lib.hid (Hb.out.on C10.out)
        replace HM0 := Lib.hid (HM0.out.on C10.out)
        replace HM1 := Lib.hid (HM1.out.on C10.out)
        replace HM2 := Lib.hid (HM2.out.on C10.out)
        clear hb
        go_wp2_with fail
        refine (awake _).mono ?_
        rintro e wa10 ⟨rfl, hb⟩
        have C11 := Lib.hid hb
        have B11 := Lib.hid (bstep B10.out C11.out)
        replace Ha := Lib.hid (Ha.out.on C11.out)
        replace Hb := Lib.hid (Hb.out.on C11.out)
        replace HM0 := Lib.hid (HM0.out.on C11.out)
        replace HM1 := Lib.hid (HM1.out.on C11.out)
        replace HM2 := Lib.hid (HM2.out.on C11.out)
        clear hb
        go_wp2_with fail
        go_ret
        exact ⟨rfl, B11.out⟩
      · skip
        go_wp2_with fail
        refine (awake _).mono ?_
        rintro e wa9 ⟨rfl, hb⟩
        have C10 := Lib.hid hb
        have B10 := Lib.hid (bstep B9.out C10.out)
        replace Ha := Lib.hid (Ha.out.on C10.out)
        replace Hb := Lib.hid (Hb.out.on C10.out)
        replace HM0 := Lib.hid (HM0.out.on C10.out)
        replace HM1 := Lib.hid (HM1.out.on C10.out)
        replace HM2 := Lib.hid (HM2.out.on C10.out)
        clear hb
        go_wp2_with fail
        go_ret
        exact ⟨rfl, B10.out⟩
    · skip
      rcases O2.out.cases HCA.out HCB.out with rfl | rfl
      · have HV2 := Lib.hid (show hasB M2 x = true by rw [(O2.out.ok rfl).2.2.2.2]; show setF _ a b x = _; unfold setF; rw [HP.out, HQ.out]; rfl)
        go_wp2_with fail
        refine (has_is M2 x V2 c2 _ HM2.out.sps hmM2 HV2.out).mono ?_
        rintro e x2 ⟨rfl, hb⟩
        have C9 := Lib.hid hb
        have B9 := Lib.hid (bstep B8.out C9.out)
        replace Ha := Lib.hid (Ha.out.on C9.out)
        replace Hb := Lib.hid (Hb.out.on C9.out)
        replace HM0 := Lib.hid (HM0.out.on C9.out)
        replace HM1 := Lib.hid (HM1.out.on C9.out)
        replace HM2 := Lib.hid (HM2.out.on C9.out)
        clear hb
        go_wp2_with fail
        refine (awake _).mono ?_
        rintro e wa9 ⟨rfl, hb⟩
        have C10 := Lib.hid hb
        have B10 := Lib.hid (bstep B9.out C10.out)
        replace Ha := Lib.hid (Ha.out.on C10.out)
        replace Hb := Lib.hid (Hb.out.on C10.out)
        replace HM0 := Lib.hid (HM0.out.on C10.out)
        replace HM1 := Lib.hid (HM1.out.on C10.out)
        replace HM2 := Lib.hid (HM2.out.on C10.out)
        clear hb
        go_wp2_with fail
        go_ret
        exact ⟨rfl, B10.out⟩
      · skip
        go_wp2_with fail
        refine (awake _).mono ?_
        rintro e wa8 ⟨rfl, hb⟩
        have C9 := Lib.hid hb
        have B9 := Lib.hid (bstep B8.out C9.out)
        replace Ha := Lib.hid (Ha.out.on C9.out)
        replace Hb := Lib.hid (Hb.out.on C9.out)
        replace HM0 := Lib.hid (HM0.out.on C9.out)
        replace HM1 := Lib.hid (HM1.out.on C9.out)
        replace HM2 := Lib.hid (HM2.out.on C9.out)
        clear hb
        go_wp2_with fail
        go_ret
        exact ⟨rfl, B9.out⟩
  · skip
    rcases O1.out.cases HCA.out HCB.out with rfl | rfl
    · have HV1 := Lib.hid (show hasB M1 x = false by rw [(O1.out.ok rfl).2.2.2.2]; show setF _ a b x = _; unfold setF; rw [HP.out, HQ.out]; rfl)
      go_wp2_with fail
      refine (has_is M1 x V1 c1 _ HM1.out.sps hmM1 HV1.out).mono ?_
      rintro e x1 ⟨rfl, hb⟩
      have C8 := Lib.hid hb
      have B8 := Lib.hid (bstep B7.out C8.out)
      replace Ha := Lib.hid (Ha.out.on C8.out)
      replace Hb := Lib.hid (Hb.out.on C8.out)
      replace HM0 := Lib.hid (HM0.out.on C8.out)
      replace HM1 := Lib.hid (HM1.out.on C8.out)
      replace HM2 := Lib.hid (HM2.out.on C8.out)
      clear hb
      rcases O2.out.cases HCA.out HCB.out with rfl | rfl
      · have HV2 := Lib.hid (show hasB M2 x = true by rw [(O2.out.ok rfl).2.2.2.2]; show setF _ a b x = _; unfold setF; rw [HP.out, HQ.out]; rfl)
        go_wp2_with fail
        refine (has_is M2 x V2 c2 _ HM2.out.sps hmM2 HV2.out).mono ?_
        rintro e x2 ⟨rfl, hb⟩
        have C9 := Lib.hid hb
        have B9 := Lib.hid (bstep B8.out C9.out)
        replace Ha := Lib.hid (Ha.out.on C9.out)
        replace Hb := Lib.hid (Hb.out.on C9.out)
        replace HM0 := Lib.hid (HM0.out.on C9.out)
        replace HM1 := Lib.hid (HM1.out.on C9.out)
        replace HM2 := Lib.hid (HM2.out.on C9.out)
        clear hb
        go_wp2_with fail
        refine (awake _).mono ?_
        rintro e wa9 ⟨rfl, hb⟩
        have C10 := Lib.hid hb
        have B10 := Lib.hid (bstep B9.out C10.out)
        replace Ha := Lib.hid (Ha.out.on C10.out)
        replace Hb := Lib.hid (Hb.out.on C10.out)
        replace HM0 := Lib.hid (HM0.out.on C10.out)
        replace HM1 := Lib.hid (HM1.out.on C10.out)
        replace HM2 := Lib.hid (HM2.out.on C10.out)
        clear hb
        go_wp2_with fail
        go_ret
        exact ⟨rfl, B10.out⟩
      · skip
        go_wp2_with fail
        refine (awake _).mono ?_
        rintro e wa8 ⟨rfl, hb⟩
        have C9 := Lib.hid hb
        have B9 := Lib.hid (bstep B8.out C9.out)
        replace Ha := Lib.hid (Ha.out.on C9.out)
        replace Hb := Lib.hid (Hb.out.on C9.out)
        replace HM0 := Lib.hid (HM0.out.on C9.out)
        replace HM1 := Lib.hid (HM1.out.on C9.out)
        replace HM2 := Lib.hid (HM2.out.on C9.out)
        clear hb
        go_wp2_with fail
        go_ret
        exact ⟨rfl, B9.out⟩
    · skip
      rcases O2.out.cases HCA.out HCB.out with rfl | rfl
      · have HV2 := Lib.hid (show hasB M2 x = true by rw [(O2.out.ok rfl).2.2.2.2]; show setF _ a b x = _; unfold setF; rw [HP.out, HQ.out]; rfl)
        go_wp2_with fail
        refine (has_is M2 x V2 c2 _ HM2.out.sps hmM2 HV2.out).mono ?_
        rintro e x2 ⟨rfl, hb⟩
        have C8 := Lib.hid hb
        have B8 := Lib.hid (bstep B7.out C8.out)
        replace Ha := Lib.hid (Ha.out.on C8.out)
        replace Hb := Lib.hid (Hb.out.on C8.out)
        replace HM0 := Lib.hid (HM0.out.on C8.out)
        replace HM1 := Lib.hid (HM1.out.on C8.out)
        replace HM2 := Lib.hid (HM2.out.on C8.out)
        clear hb
        go_wp2_with fail
        refine (awake _).mono ?_
        rintro e wa8 ⟨rfl, hb⟩
        have C9 := Lib.hid hb
        have B9 := Lib.hid (bstep B8.out C9.out)
        replace Ha := Lib.hid (Ha.out.on C9.out)
        replace Hb := Lib.hid (Hb.out.on C9.out)
        replace HM0 := Lib.hid (HM0.out.on C9.out)
        replace HM1 := Lib.hid (HM1.out.on C9.out)
        replace HM2 := Lib.hid (HM2.out.on C9.out)
        clear hb
        go_wp2_with fail
        go_ret
        exact ⟨rfl, B9.out⟩
      · skip
        go_wp2_with fail
        refine (awake _).mono ?_
        rintro e wa7 ⟨rfl, hb⟩
        have C8 := Lib.hid hb
        have B8 := Lib.hid (bstep B7.out C8.out)
        replace Ha := Lib.hid (Ha.out.on C8.out)
        replace Hb := Lib.hid (Hb.out.on C8.out)
        replace HM0 := Lib.hid (HM0.out.on C8.out)
        replace HM1 := Lib.hid (HM1.out.on C8.out)
        replace HM2 := Lib.hid (HM2.out.on C8.out)
        clear hb
        go_wp2_with fail
        go_ret
        exact ⟨rfl, B8.out⟩

set_option maxHeartbeats 12800000 in
theorem sets_ft (w : World) (a b : List Sp) (A B : Option Addr) (c d : Nat) (ha : InL w (.slice A a.length c) a) (hb : InL w (.slice B b.length d) b) (hma : a.length ≤ 9223372036854775807) (hmb : b.length ≤ 9223372036854775807) (x : Int)
    (hga : decide (300 < a.length) = false) (hgb : decide (300 < b.length) = false) (hca : chkE a = 0) (hcb : chkE b = 0) (hp : hasB a x = false) (hq : hasB b x = true) :
    Calls Try.prog 7 #[.slice A a.length c, .slice B b.length d, .int .i64 x] w fun e w' => e = .returned (.bool true) ∧ Below w.heap.size w w' := by
  have Ha := Lib.hid ha
  have Hb := Lib.hid hb
  have HP := Lib.hid hp
  have HQ := Lib.hid hq
  have HCA := Lib.hid hca
  have HCB := Lib.hid hcb
  have HGA := Lib.hid hga
  have HGB := Lib.hid hgb
  clear ha hb hp hq hca hcb hga hgb
  have B0 := Lib.hid (Below.refl w.heap.size w)
  go_enter Try.func7, Try.ntmps7
  go_wp2_with fail
  refine (is_great a A c _ hma HGA.out).mono ?_
  rintro e w' ⟨rfl, rfl⟩
  go_wp2_with fail
  refine (is_great b B d _ hmb HGB.out).mono ?_
  rintro e w' ⟨rfl, rfl⟩
  go_wp2_with fail
  refine (check_is a A c _ Ha.out.sps hma HCA.out).mono ?_
  rintro e w1 ⟨rfl, hb⟩
  have C1 := Lib.hid hb
  have B1 := Lib.hid (bstep B0.out C1.out)
  replace Ha := Lib.hid (Ha.out.on C1.out)
  replace Hb := Lib.hid (Hb.out.on C1.out)
  clear hb
  go_wp2_with fail
  refine (check_is b B d _ Hb.out.sps hmb HCB.out).mono ?_
  rintro e w2 ⟨rfl, hb⟩
  have C2 := Lib.hid hb
  have B2 := Lib.hid (bstep B1.out C2.out)
  replace Ha := Lib.hid (Ha.out.on C2.out)
  replace Hb := Lib.hid (Hb.out.on C2.out)
  clear hb
  go_wp2_with fail
  refine (span_Union a b A B c d _ Ha.out.sps Hb.out.sps hma hmb).mono ?_
  intro e w3 h
  obtain ⟨M0, E0, V0, c0, rfl, hmM0, hin, ho, hb⟩ := h.outs
  have O0 := Lib.hid ho
  have HM0 := Lib.hid hin
  clear h hin ho
  have C3 := Lib.hid hb
  have B3 := Lib.hid (bstep B2.out C3.out)
  replace Ha := Lib.hid (Ha.out.on C3.out)
  replace Hb := Lib.hid (Hb.out.on C3.out)
  clear hb
  go_wp2_with fail
  refine (span_Common a b A B c d _ Ha.out.sps Hb.out.sps hma hmb).mono ?_
  intro e w4 h
  obtain ⟨M1, E1, V1, c1, rfl, hmM1, hin, ho, hb⟩ := h.outs
  have O1 := Lib.hid ho
  have HM1 := Lib.hid hin
  clear h hin ho
  have C4 := Lib.hid hb
  have B4 := Lib.hid (bstep B3.out C4.out)
  replace Ha := Lib.hid (Ha.out.on C4.out)
  replace Hb := Lib.hid (Hb.out.on C4.out)
  replace HM0 := Lib.hid (HM0.out.on C4.out)
  clear hb
  go_wp2_with fail
  refine (span_Minus a b A B c d _ Ha.out.sps Hb.out.sps hma hmb).mono ?_
  intro e w5 h
  obtain ⟨M2, E2, V2, c2, rfl, hmM2, hin, ho, hb⟩ := h.outs
  have O2 := Lib.hid ho
  have HM2 := Lib.hid hin
  clear h hin ho
  have C5 := Lib.hid hb
  have B5 := Lib.hid (bstep B4.out C5.out)
  replace Ha := Lib.hid (Ha.out.on C5.out)
  replace Hb := Lib.hid (Hb.out.on C5.out)
  replace HM0 := Lib.hid (HM0.out.on C5.out)
  replace HM1 := Lib.hid (HM1.out.on C5.out)
  clear hb
  go_wp2_with fail
  refine (has_is a x A c _ Ha.out.sps hma HP.out).mono ?_
  rintro e w6 ⟨rfl, hb⟩
  have C6 := Lib.hid hb
  have B6 := Lib.hid (bstep B5.out C6.out)
  replace Ha := Lib.hid (Ha.out.on C6.out)
  replace Hb := Lib.hid (Hb.out.on C6.out)
  replace HM0 := Lib.hid (HM0.out.on C6.out)
  replace HM1 := Lib.hid (HM1.out.on C6.out)
  replace HM2 := Lib.hid (HM2.out.on C6.out)
  clear hb
  go_wp2_with fail
  refine (has_is b x B d _ Hb.out.sps hmb HQ.out).mono ?_
  rintro e w7 ⟨rfl, hb⟩
  have C7 := Lib.hid hb
  have B7 := Lib.hid (bstep B6.out C7.out)
  replace Ha := Lib.hid (Ha.out.on C7.out)
  replace Hb := Lib.hid (Hb.out.on C7.out)
  replace HM0 := Lib.hid (HM0.out.on C7.out)
  replace HM1 := Lib.hid (HM1.out.on C7.out)
  replace HM2 := Lib.hid (HM2.out.on C7.out)
  clear hb
  rcases O0.out.cases HCA.out HCB.out with rfl | rfl
  · have HV0 := Lib.hid (show hasB M0 x = true by rw [(O0.out.ok rfl).2.2.2.2]; show setF _ a b x = _; unfold setF; rw [HP.out, HQ.out]; rfl)
    go_wp2_with fail
    refine (has_is M0 x V0 c0 _ HM0.out.sps hmM0 HV0.out).mono ?_
    rintro e x0 ⟨rfl, hb⟩
    have C8 := Lib.hid hb
    have B8 := Lib.hid (bstep B7.out C8.out)
    replace Ha := Lib.hid (Ha.out.on C8.out)
    replace Hb := Lib.hid (Hb.out.on C8.out)
    replace HM0 := Lib.hid (HM0.out.on C8.out)
    replace HM1 := Lib.hid (HM1.out.on C8.out)
    replace HM2 := Lib.hid (HM2.out.on C8.out)
    clear hb
    rcases O1.out.cases HCA.out HCB.out with rfl | rfl
    · have HV1 := Lib.hid (show hasB M1 x = false by rw [(O1.out.ok rfl).2.2.2.2]; show setF _ a b x = _; unfold setF; rw [HP.out, HQ.out]; rfl)
      go_wp2_with fail
      refine (has_is M1 x V1 c1 _ HM1.out.sps hmM1 HV1.out).mono ?_
      rintro e x1 ⟨rfl, hb⟩
      have C9 := Lib.hid hb
      have B9 := Lib.hid (bstep B8.out C9.out)
      replace Ha := Lib.hid (Ha.out.on C9.out)
      replace Hb := Lib.hid (Hb.out.on C9.out)
      replace HM0 := Lib.hid (HM0.out.on C9.out)
      replace HM1 := Lib.hid (HM1.out.on C9.out)
      replace HM2 := Lib.hid (HM2.out.on C9.out)
      clear hb
      rcases O2.out.cases HCA.out HCB.out with rfl | rfl
      · have HV2 := Lib.hid (show hasB M2 x = false by rw [(O2.out.ok rfl).2.2.2.2]; show setF _ a b x = _; unfold setF; rw [HP.out, HQ.out]; rfl)
        go_wp2_with fail
        refine (has_is M2 x V2 c2 _ HM2.out.sps hmM2 HV2.out).mono ?_
        rintro e x2 ⟨rfl, hb⟩
        have C10 := Lib.hid hb
        have B10 := Lib.hid (bstep B9.out C10.out)
        replace Ha := Lib.hid (Ha.out.on C10.out)
        replace Hb := Lib.hid (Hb.out.on C10.out)
        replace HM0 := Lib.hid (HM0.out.on C10.out)
        replace HM1 := Lib.hid (HM1.out.on C10.out)
        replace HM2 := Lib.hid (HM2.out.on C10.out)
        clear hb
        go_wp2_with fail
        refine (awake _).mono ?_
        rintro e wa10 ⟨rfl, hb⟩
        have C11 := Lib.hid hb
        have B11 := Lib.hid (bstep B10.out C11.out)
        replace Ha := Lib.hid (Ha.out.on C11.out)
        replace Hb := Lib.hid (Hb.out.on C11.out)
        replace HM0 := Lib.hid (HM0.out.on C11.out)
        replace HM1 := Lib.hid (HM1.out.on C11.out)
        replace HM2 := Lib.hid (HM2.out.on C11.out)
        clear hb
        go_wp2_with fail
        go_ret
        exact ⟨rfl, B11.out⟩
      · skip
        go_wp2_with fail
        refine (awake _).mono ?_
        rintro e wa9 ⟨rfl, hb⟩
        have C10 := Lib.hid hb
        have B10 := Lib.hid (bstep B9.out C10.out)
        replace Ha := Lib.hid (Ha.out.on C10.out)
        replace Hb := Lib.hid (Hb.out.on C10.out)
        replace HM0 := Lib.hid (HM0.out.on C10.out)
        replace HM1 := Lib.hid (HM1.out.on C10.out)
        replace HM2 := Lib.hid (HM2.out.on C10.out)
        clear hb
        go_wp2_with fail
        go_ret
        exact ⟨rfl, B10.out⟩
    · skip
      rcases O2.out.cases HCA.out HCB.out with rfl | rfl
      · have HV2 := Lib.hid (show hasB M2 x = false by rw [(O2.out.ok rfl).2.2.2.2]; show setF _ a b x = _; unfold setF; rw [HP.out, HQ.out]; rfl)
        go_wp2_with fail
        refine (has_is M2 x V2 c2 _ HM2.out.sps hmM2 HV2.out).mono ?_
        rintro e x2 ⟨rfl, hb⟩
        have C9 := Lib.hid hb
        have B9 := Lib.hid (bstep B8.out C9.out)
        replace Ha := Lib.hid (Ha.out.on C9.out)
        replace Hb := Lib.hid (Hb.out.on C9.out)
        replace HM0 := Lib.hid (HM0.out.on C9.out)
        replace HM1 := Lib.hid (HM1.out.on C9.out)
        replace HM2 := Lib.hid (HM2.out.on C9.out)
        clear hb
        go_wp2_with fail
        refine (awake _).mono ?_
        rintro e wa9 ⟨rfl, hb⟩
        have C10 := Lib.hid hb
        have B10 := Lib.hid (bstep B9.out C10.out)
        replace Ha := Lib.hid (Ha.out.on C10.out)
        replace Hb := Lib.hid (Hb.out.on C10.out)
        replace HM0 := Lib.hid (HM0.out.on C10.out)
        replace HM1 := Lib.hid (HM1.out.on C10.out)
        replace HM2 := Lib.hid (HM2.out.on C10.out)
        clear hb
        go_wp2_with fail
        go_ret
        exact ⟨rfl, B10.out⟩
      · skip
        go_wp2_with fail
        refine (awake _).mono ?_
        rintro e wa8 ⟨rfl, hb⟩
        have C9 := Lib.hid hb
        have B9 := Lib.hid (bstep B8.out C9.out)
        replace Ha := Lib.hid (Ha.out.on C9.out)
        replace Hb := Lib.hid (Hb.out.on C9.out)
        replace HM0 := Lib.hid (HM0.out.on C9.out)
        replace HM1 := Lib.hid (HM1.out.on C9.out)
        replace HM2 := Lib.hid (HM2.out.on C9.out)
        clear hb
        go_wp2_with fail
        go_ret
        exact ⟨rfl, B9.out⟩
  · skip
    rcases O1.out.cases HCA.out HCB.out with rfl | rfl
    · have HV1 := Lib.hid (show hasB M1 x = false by rw [(O1.out.ok rfl).2.2.2.2]; show setF _ a b x = _; unfold setF; rw [HP.out, HQ.out]; rfl)
      go_wp2_with fail
      refine (has_is M1 x V1 c1 _ HM1.out.sps hmM1 HV1.out).mono ?_
      rintro e x1 ⟨rfl, hb⟩
      have C8 := Lib.hid hb
      have B8 := Lib.hid (bstep B7.out C8.out)
      replace Ha := Lib.hid (Ha.out.on C8.out)
      replace Hb := Lib.hid (Hb.out.on C8.out)
      replace HM0 := Lib.hid (HM0.out.on C8.out)
      replace HM1 := Lib.hid (HM1.out.on C8.out)
      replace HM2 := Lib.hid (HM2.out.on C8.out)
      clear hb
      rcases O2.out.cases HCA.out HCB.out with rfl | rfl
      · have HV2 := Lib.hid (show hasB M2 x = false by rw [(O2.out.ok rfl).2.2.2.2]; show setF _ a b x = _; unfold setF; rw [HP.out, HQ.out]; rfl)
        go_wp2_with fail
        refine (has_is M2 x V2 c2 _ HM2.out.sps hmM2 HV2.out).mono ?_
        rintro e x2 ⟨rfl, hb⟩
        have C9 := Lib.hid hb
        have B9 := Lib.hid (bstep B8.out C9.out)
        replace Ha := Lib.hid (Ha.out.on C9.out)
        replace Hb := Lib.hid (Hb.out.on C9.out)
        replace HM0 := Lib.hid (HM0.out.on C9.out)
        replace HM1 := Lib.hid (HM1.out.on C9.out)
        replace HM2 := Lib.hid (HM2.out.on C9.out)
        clear hb
        go_wp2_with fail
        refine (awake _).mono ?_
        rintro e wa9 ⟨rfl, hb⟩
        have C10 := Lib.hid hb
        have B10 := Lib.hid (bstep B9.out C10.out)
        replace Ha := Lib.hid (Ha.out.on C10.out)
        replace Hb := Lib.hid (Hb.out.on C10.out)
        replace HM0 := Lib.hid (HM0.out.on C10.out)
        replace HM1 := Lib.hid (HM1.out.on C10.out)
        replace HM2 := Lib.hid (HM2.out.on C10.out)
        clear hb
        go_wp2_with fail
        go_ret
        exact ⟨rfl, B10.out⟩
      · skip
        go_wp2_with fail
        refine (awake _).mono ?_
        rintro e wa8 ⟨rfl, hb⟩
        have C9 := Lib.hid hb
        have B9 := Lib.hid (bstep B8.out C9.out)
        replace Ha := Lib.hid (Ha.out.on C9.out)
        replace Hb := Lib.hid (Hb.out.on C9.out)
        replace HM0 := Lib.hid (HM0.out.on C9.out)
        replace HM1 := Lib.hid (HM1.out.on C9.out)
        replace HM2 := Lib.hid (HM2.out.on C9.out)
        clear hb
        go_wp2_with fail
        go_ret
        exact ⟨rfl, B9.out⟩
    · skip
      rcases O2.out.cases HCA.out HCB.out with rfl | rfl
      · have HV2 := Lib.hid (show hasB M2 x = false by rw [(O2.out.ok rfl).2.2.2.2]; show setF _ a b x = _; unfold setF; rw [HP.out, HQ.out]; rfl)
        go_wp2_with fail
        refine (has_is M2 x V2 c2 _ HM2.out.sps hmM2 HV2.out).mono ?_
        rintro e x2 ⟨rfl, hb⟩
        have C8 := Lib.hid hb
        have B8 := Lib.hid (bstep B7.out C8.out)
        replace Ha := Lib.hid (Ha.out.on C8.out)
        replace Hb := Lib.hid (Hb.out.on C8.out)
        replace HM0 := Lib.hid (HM0.out.on C8.out)
        replace HM1 := Lib.hid (HM1.out.on C8.out)
        replace HM2 := Lib.hid (HM2.out.on C8.out)
        clear hb
        go_wp2_with fail
        refine (awake _).mono ?_
        rintro e wa8 ⟨rfl, hb⟩
        have C9 := Lib.hid hb
        have B9 := Lib.hid (bstep B8.out C9.out)
        replace Ha := Lib.hid (Ha.out.on C9.out)
        replace Hb := Lib.hid (Hb.out.on C9.out)
        replace HM0 := Lib.hid (HM0.out.on C9.out)
        replace HM1 := Lib.hid (HM1.out.on C9.out)
        replace HM2 := Lib.hid (HM2.out.on C9.out)
        clear hb
        go_wp2_with fail
        go_ret
        exact ⟨rfl, B9.out⟩
      · skip
        go_wp2_with fail
        refine (awake _).mono ?_
        rintro e wa7 ⟨rfl, hb⟩
        have C8 := Lib.hid hb
        have B8 := Lib.hid (bstep B7.out C8.out)
        replace Ha := Lib.hid (Ha.out.on C8.out)
        replace Hb := Lib.hid (Hb.out.on C8.out)
        replace HM0 := Lib.hid (HM0.out.on C8.out)
        replace HM1 := Lib.hid (HM1.out.on C8.out)
        replace HM2 := Lib.hid (HM2.out.on C8.out)
        clear hb
        go_wp2_with fail
        go_ret
        exact ⟨rfl, B8.out⟩

set_option maxHeartbeats 12800000 in
theorem sets_ff (w : World) (a b : List Sp) (A B : Option Addr) (c d : Nat) (ha : InL w (.slice A a.length c) a) (hb : InL w (.slice B b.length d) b) (hma : a.length ≤ 9223372036854775807) (hmb : b.length ≤ 9223372036854775807) (x : Int)
    (hga : decide (300 < a.length) = false) (hgb : decide (300 < b.length) = false) (hca : chkE a = 0) (hcb : chkE b = 0) (hp : hasB a x = false) (hq : hasB b x = false) :
    Calls Try.prog 7 #[.slice A a.length c, .slice B b.length d, .int .i64 x] w fun e w' => e = .returned (.bool true) ∧ Below w.heap.size w w' := by
  have Ha := Lib.hid ha
  have Hb := Lib.hid hb
  have HP := Lib.hid hp
  have HQ := Lib.hid hq
  have HCA := Lib.hid hca
  have HCB := Lib.hid hcb
  have HGA := Lib.hid hga
  have HGB := Lib.hid hgb
  clear ha hb hp hq hca hcb hga hgb
  have B0 := Lib.hid (Below.refl w.heap.size w)
  go_enter Try.func7, Try.ntmps7
  go_wp2_with fail
  refine (is_great a A c _ hma HGA.out).mono ?_
  rintro e w' ⟨rfl, rfl⟩
  go_wp2_with fail
  refine (is_great b B d _ hmb HGB.out).mono ?_
  rintro e w' ⟨rfl, rfl⟩
  go_wp2_with fail
  refine (check_is a A c _ Ha.out.sps hma HCA.out).mono ?_
  rintro e w1 ⟨rfl, hb⟩
  have C1 := Lib.hid hb
  have B1 := Lib.hid (bstep B0.out C1.out)
  replace Ha := Lib.hid (Ha.out.on C1.out)
  replace Hb := Lib.hid (Hb.out.on C1.out)
  clear hb
  go_wp2_with fail
  refine (check_is b B d _ Hb.out.sps hmb HCB.out).mono ?_
  rintro e w2 ⟨rfl, hb⟩
  have C2 := Lib.hid hb
  have B2 := Lib.hid (bstep B1.out C2.out)
  replace Ha := Lib.hid (Ha.out.on C2.out)
  replace Hb := Lib.hid (Hb.out.on C2.out)
  clear hb
  go_wp2_with fail
  refine (span_Union a b A B c d _ Ha.out.sps Hb.out.sps hma hmb).mono ?_
  intro e w3 h
  obtain ⟨M0, E0, V0, c0, rfl, hmM0, hin, ho, hb⟩ := h.outs
  have O0 := Lib.hid ho
  have HM0 := Lib.hid hin
  clear h hin ho
  have C3 := Lib.hid hb
  have B3 := Lib.hid (bstep B2.out C3.out)
  replace Ha := Lib.hid (Ha.out.on C3.out)
  replace Hb := Lib.hid (Hb.out.on C3.out)
  clear hb
  go_wp2_with fail
  refine (span_Common a b A B c d _ Ha.out.sps Hb.out.sps hma hmb).mono ?_
  intro e w4 h
  obtain ⟨M1, E1, V1, c1, rfl, hmM1, hin, ho, hb⟩ := h.outs
  have O1 := Lib.hid ho
  have HM1 := Lib.hid hin
  clear h hin ho
  have C4 := Lib.hid hb
  have B4 := Lib.hid (bstep B3.out C4.out)
  replace Ha := Lib.hid (Ha.out.on C4.out)
  replace Hb := Lib.hid (Hb.out.on C4.out)
  replace HM0 := Lib.hid (HM0.out.on C4.out)
  clear hb
  go_wp2_with fail
  refine (span_Minus a b A B c d _ Ha.out.sps Hb.out.sps hma hmb).mono ?_
  intro e w5 h
  obtain ⟨M2, E2, V2, c2, rfl, hmM2, hin, ho, hb⟩ := h.outs
  have O2 := Lib.hid ho
  have HM2 := Lib.hid hin
  clear h hin ho
  have C5 := Lib.hid hb
  have B5 := Lib.hid (bstep B4.out C5.out)
  replace Ha := Lib.hid (Ha.out.on C5.out)
  replace Hb := Lib.hid (Hb.out.on C5.out)
  replace HM0 := Lib.hid (HM0.out.on C5.out)
  replace HM1 := Lib.hid (HM1.out.on C5.out)
  clear hb
  go_wp2_with fail
  refine (has_is a x A c _ Ha.out.sps hma HP.out).mono ?_
  rintro e w6 ⟨rfl, hb⟩
  have C6 := Lib.hid hb
  have B6 := Lib.hid (bstep B5.out C6.out)
  replace Ha := Lib.hid (Ha.out.on C6.out)
  replace Hb := Lib.hid (Hb.out.on C6.out)
  replace HM0 := Lib.hid (HM0.out.on C6.out)
  replace HM1 := Lib.hid (HM1.out.on C6.out)
  replace HM2 := Lib.hid (HM2.out.on C6.out)
  clear hb
  go_wp2_with fail
  refine (has_is b x B d _ Hb.out.sps hmb HQ.out).mono ?_
  rintro e w7 ⟨rfl, hb⟩
  have C7 := Lib.hid hb
  have B7 := Lib.hid (bstep B6.out C7.out)
  replace Ha := Lib.hid (Ha.out.on C7.out)
  replace Hb := Lib.hid (Hb.out.on C7.out)
  replace HM0 := Lib.hid (HM0.out.on C7.out)
  replace HM1 := Lib.hid (HM1.out.on C7.out)
  replace HM2 := Lib.hid (HM2.out.on C7.out)
  clear hb
  rcases O0.out.cases HCA.out HCB.out with rfl | rfl
  · have HV0 := Lib.hid (show hasB M0 x = false by rw [(O0.out.ok rfl).2.2.2.2]; show setF _ a b x = _; unfold setF; rw [HP.out, HQ.out]; rfl)
    go_wp2_with fail
    refine (has_is M0 x V0 c0 _ HM0.out.sps hmM0 HV0.out).mono ?_
    rintro e x0 ⟨rfl, hb⟩
    have C8 := Lib.hid hb
    have B8 := Lib.hid (bstep B7.out C8.out)
    replace Ha := Lib.hid (Ha.out.on C8.out)
    replace Hb := Lib.hid (Hb.out.on C8.out)
    replace HM0 := Lib.hid (HM0.out.on C8.out)
    replace HM1 := Lib.hid (HM1.out.on C8.out)
    replace HM2 := Lib.hid (HM2.out.on C8.out)
    clear hb
    rcases O1.out.cases HCA.out HCB.out with rfl | rfl
    · have HV1 := Lib.hid (show hasB M1 x = false by rw [(O1.out.ok rfl).2.2.2.2]; show setF _ a b x = _; unfold setF; rw [HP.out, HQ.out]; rfl)
      go_wp2_with fail
      refine (has_is M1 x V1 c1 _ HM1.out.sps hmM1 HV1.out).mono ?_
      rintro e x1 ⟨rfl, hb⟩
      have C9 := Lib.hid hb
      have B9 := Lib.hid (bstep B8.out C9.out)
      replace Ha := Lib.hid (Ha.out.on C9.out)
      replace Hb := Lib.hid (Hb.out.on C9.out)
      replace HM0 := Lib.hid (HM0.out.on C9.out)
      replace HM1 := Lib.hid (HM1.out.on C9.out)
      replace HM2 := Lib.hid (HM2.out.on C9.out)
      clear hb
      rcases O2.out.cases HCA.out HCB.out with rfl | rfl
      · have HV2 := Lib.hid (show hasB M2 x = false by rw [(O2.out.ok rfl).2.2.2.2]; show setF _ a b x = _; unfold setF; rw [HP.out, HQ.out]; rfl)
        go_wp2_with fail
        refine (has_is M2 x V2 c2 _ HM2.out.sps hmM2 HV2.out).mono ?_
        rintro e x2 ⟨rfl, hb⟩
        have C10 := Lib.hid hb
        have B10 := Lib.hid (bstep B9.out C10.out)
        replace Ha := Lib.hid (Ha.out.on C10.out)
        replace Hb := Lib.hid (Hb.out.on C10.out)
        replace HM0 := Lib.hid (HM0.out.on C10.out)
        replace HM1 := Lib.hid (HM1.out.on C10.out)
        replace HM2 := Lib.hid (HM2.out.on C10.out)
        clear hb
        go_wp2_with fail
        refine (awake _).mono ?_
        rintro e wa10 ⟨rfl, hb⟩
        have C11 := Lib.hid hb
        have B11 := Lib.hid (bstep B10.out C11.out)
        replace Ha := Lib.hid (Ha.out.on C11.out)
        replace Hb := Lib.hid (Hb.out.on C11.out)
        replace HM0 := Lib.hid (HM0.out.on C11.out)
        replace HM1 := Lib.hid (HM1.out.on C11.out)
        replace HM2 := Lib.hid (HM2.out.on C11.out)
        clear hb
        go_wp2_with fail
        go_ret
        exact ⟨rfl, B11.out⟩
      · skip
        go_wp2_with fail
        refine (awake _).mono ?_
        rintro e wa9 ⟨rfl, hb⟩
        have C10 := Lib.hid hb
        have B10 := Lib.hid (bstep B9.out C10.out)
        replace Ha := Lib.hid (Ha.out.on C10.out)
        replace Hb := Lib.hid (Hb.out.on C10.out)
        replace HM0 := Lib.hid (HM0.out.on C10.out)
        replace HM1 := Lib.hid (HM1.out.on C10.out)
        replace HM2 := Lib.hid (HM2.out.on C10.out)
        clear hb
        go_wp2_with fail
        go_ret
        exact ⟨rfl, B10.out⟩
    · skip
      rcases O2.out.cases HCA.out HCB.out with rfl | rfl
      · have HV2 := Lib.hid (show hasB M2 x = false by rw [(O2.out.ok rfl).2.2.2.2]; show setF _ a b x = _; unfold setF; rw [HP.out, HQ.out]; rfl)
        go_wp2_with fail
        refine (has_is M2 x V2 c2 _ HM2.out.sps hmM2 HV2.out).mono ?_
        rintro e x2 ⟨rfl, hb⟩
        have C9 := Lib.hid hb
        have B9 := Lib.hid (bstep B8.out C9.out)
        replace Ha := Lib.hid (Ha.out.on C9.out)
        replace Hb := Lib.hid (Hb.out.on C9.out)
        replace HM0 := Lib.hid (HM0.out.on C9.out)
        replace HM1 := Lib.hid (HM1.out.on C9.out)
        replace HM2 := Lib.hid (HM2.out.on C9.out)
        clear hb
        go_wp2_with fail
        refine (awake _).mono ?_
        rintro e wa9 ⟨rfl, hb⟩
        have C10 := Lib.hid hb
        have B10 := Lib.hid (bstep B9.out C10.out)
        replace Ha := Lib.hid (Ha.out.on C10.out)
        replace Hb := Lib.hid (Hb.out.on C10.out)
        replace HM0 := Lib.hid (HM0.out.on C10.out)
        replace HM1 := Lib.hid (HM1.out.on C10.out)
        replace HM2 := Lib.hid (HM2.out.on C10.out)
        clear hb
        go_wp2_with fail
        go_ret
        exact ⟨rfl, B10.out⟩
      · skip
        go_wp2_with fail
        refine (awake _).mono ?_
        rintro e wa8 ⟨rfl, hb⟩
        have C9 := Lib.hid hb
        have B9 := Lib.hid (bstep B8.out C9.out)
        replace Ha := Lib.hid (Ha.out.on C9.out)
        replace Hb := Lib.hid (Hb.out.on C9.out)
        replace HM0 := Lib.hid (HM0.out.on C9.out)
        replace HM1 := Lib.hid (HM1.out.on C9.out)
        replace HM2 := Lib.hid (HM2.out.on C9.out)
        clear hb
        go_wp2_with fail
        go_ret
        exact ⟨rfl, B9.out⟩
  · skip
    rcases O1.out.cases HCA.out HCB.out with rfl | rfl
    · have HV1 := Lib.hid (show hasB M1 x = false by rw [(O1.out.ok rfl).2.2.2.2]; show setF _ a b x = _; unfold setF; rw [HP.out, HQ.out]; rfl)
      go_wp2_with fail
      refine (has_is M1 x V1 c1 _ HM1.out.sps hmM1 HV1.out).mono ?_
      rintro e x1 ⟨rfl, hb⟩
      have C8 := Lib.hid hb
      have B8 := Lib.hid (bstep B7.out C8.out)
      replace Ha := Lib.hid (Ha.out.on C8.out)
      replace Hb := Lib.hid (Hb.out.on C8.out)
      replace HM0 := Lib.hid (HM0.out.on C8.out)
      replace HM1 := Lib.hid (HM1.out.on C8.out)
      replace HM2 := Lib.hid (HM2.out.on C8.out)
      clear hb
      rcases O2.out.cases HCA.out HCB.out with rfl | rfl
      · have HV2 := Lib.hid (show hasB M2 x = false by rw [(O2.out.ok rfl).2.2.2.2]; show setF _ a b x = _; unfold setF; rw [HP.out, HQ.out]; rfl)
        go_wp2_with fail
        refine (has_is M2 x V2 c2 _ HM2.out.sps hmM2 HV2.out).mono ?_
        rintro e x2 ⟨rfl, hb⟩
        have C9 := Lib.hid hb
        have B9 := Lib.hid (bstep B8.out C9.out)
        replace Ha := Lib.hid (Ha.out.on C9.out)
        replace Hb := Lib.hid (Hb.out.on C9.out)
        replace HM0 := Lib.hid (HM0.out.on C9.out)
        replace HM1 := Lib.hid (HM1.out.on C9.out)
        replace HM2 := Lib.hid (HM2.out.on C9.out)
        clear hb
        go_wp2_with fail
        refine (awake _).mono ?_
        rintro e wa9 ⟨rfl, hb⟩
        have C10 := Lib.hid hb
        have B10 := Lib.hid (bstep B9.out C10.out)
        replace Ha := Lib.hid (Ha.out.on C10.out)
        replace Hb := Lib.hid (Hb.out.on C10.out)
        replace HM0 := Lib.hid (HM0.out.on C10.out)
        replace HM1 := Lib.hid (HM1.out.on C10.out)
        replace HM2 := Lib.hid (HM2.out.on C10.out)
        clear hb
        go_wp2_with fail
        go_ret
        exact ⟨rfl, B10.out⟩
      · skip
        go_wp2_with fail
        refine (awake _).mono ?_
        rintro e wa8 ⟨rfl, hb⟩
        have C9 := Lib.hid hb
        have B9 := Lib.hid (bstep B8.out C9.out)
        replace Ha := Lib.hid (Ha.out.on C9.out)
        replace Hb := Lib.hid (Hb.out.on C9.out)
        replace HM0 := Lib.hid (HM0.out.on C9.out)
        replace HM1 := Lib.hid (HM1.out.on C9.out)
        replace HM2 := Lib.hid (HM2.out.on C9.out)
        clear hb
        go_wp2_with fail
        go_ret
        exact ⟨rfl, B9.out⟩
    · skip
      rcases O2.out.cases HCA.out HCB.out with rfl | rfl
      · have HV2 := Lib.hid (show hasB M2 x = false by rw [(O2.out.ok rfl).2.2.2.2]; show setF _ a b x = _; unfold setF; rw [HP.out, HQ.out]; rfl)
        go_wp2_with fail
        refine (has_is M2 x V2 c2 _ HM2.out.sps hmM2 HV2.out).mono ?_
        rintro e x2 ⟨rfl, hb⟩
        have C8 := Lib.hid hb
        have B8 := Lib.hid (bstep B7.out C8.out)
        replace Ha := Lib.hid (Ha.out.on C8.out)
        replace Hb := Lib.hid (Hb.out.on C8.out)
        replace HM0 := Lib.hid (HM0.out.on C8.out)
        replace HM1 := Lib.hid (HM1.out.on C8.out)
        replace HM2 := Lib.hid (HM2.out.on C8.out)
        clear hb
        go_wp2_with fail
        refine (awake _).mono ?_
        rintro e wa8 ⟨rfl, hb⟩
        have C9 := Lib.hid hb
        have B9 := Lib.hid (bstep B8.out C9.out)
        replace Ha := Lib.hid (Ha.out.on C9.out)
        replace Hb := Lib.hid (Hb.out.on C9.out)
        replace HM0 := Lib.hid (HM0.out.on C9.out)
        replace HM1 := Lib.hid (HM1.out.on C9.out)
        replace HM2 := Lib.hid (HM2.out.on C9.out)
        clear hb
        go_wp2_with fail
        go_ret
        exact ⟨rfl, B9.out⟩
      · skip
        go_wp2_with fail
        refine (awake _).mono ?_
        rintro e wa7 ⟨rfl, hb⟩
        have C8 := Lib.hid hb
        have B8 := Lib.hid (bstep B7.out C8.out)
        replace Ha := Lib.hid (Ha.out.on C8.out)
        replace Hb := Lib.hid (Hb.out.on C8.out)
        replace HM0 := Lib.hid (HM0.out.on C8.out)
        replace HM1 := Lib.hid (HM1.out.on C8.out)
        replace HM2 := Lib.hid (HM2.out.on C8.out)
        clear hb
        go_wp2_with fail
        go_ret
        exact ⟨rfl, B8.out⟩

set_option maxHeartbeats 6400000 in
theorem walk_SpanSets (w : World) (a0 : Value) (a : List Sp) (h0 : InL w a0 a) (a1 : Value) (b : List Sp) (h1 : InL w a1 b) (x : Int) :
    Calls Try.prog 7 #[a0, a1, .int .i64 x] w fun e w' => e = .returned (.bool true) ∧ Below w.heap.size w w' := by
  obtain ⟨A, c, rfl, hma, -, hin⟩ := h0.open_
  have Ha := Lib.hid hin
  clear h0 hin
  obtain ⟨B, d, rfl, hmb, -, hin⟩ := h1.open_
  have Hb := Lib.hid hin
  clear h1 hin
  cases hga : decide (300 < a.length) with
  | true =>
    have B0 := Lib.hid (Below.refl w.heap.size w)
    go_enter Try.func7, Try.ntmps7
    go_wp2_with fail
    refine (is_great a A c _ hma hga).mono ?_
    rintro e w' ⟨rfl, rfl⟩
    go_wp2_with fail
    refine (awake _).mono ?_
    rintro e wa0 ⟨rfl, hb⟩
    have C1 := Lib.hid hb
    have B1 := Lib.hid (bstep B0.out C1.out)
    replace Ha := Lib.hid (Ha.out.on C1.out)
    replace Hb := Lib.hid (Hb.out.on C1.out)
    clear hb
    go_wp2_with fail
    go_ret
    exact ⟨rfl, B1.out⟩
  | false =>
    cases hgb : decide (300 < b.length) with
    | true =>
      have B0 := Lib.hid (Below.refl w.heap.size w)
      go_enter Try.func7, Try.ntmps7
      go_wp2_with fail
      refine (is_great a A c _ hma hga).mono ?_
      rintro e w' ⟨rfl, rfl⟩
      go_wp2_with fail
      refine (is_great b B d _ hmb hgb).mono ?_
      rintro e w' ⟨rfl, rfl⟩
      go_wp2_with fail
      refine (awake _).mono ?_
      rintro e wa0 ⟨rfl, hb⟩
      have C1 := Lib.hid hb
      have B1 := Lib.hid (bstep B0.out C1.out)
      replace Ha := Lib.hid (Ha.out.on C1.out)
      replace Hb := Lib.hid (Hb.out.on C1.out)
      clear hb
      go_wp2_with fail
      go_ret
      exact ⟨rfl, B1.out⟩
    | false =>
      by_cases hca : chkE a = 0
      · by_cases hcb : chkE b = 0
        · cases hp : hasB a x with
          | true =>
            cases hq : hasB b x with
            | true => exact sets_tt w a b A B c d Ha.out Hb.out hma hmb x hga hgb hca hcb hp hq
            | false => exact sets_tf w a b A B c d Ha.out Hb.out hma hmb x hga hgb hca hcb hp hq
          | false =>
            cases hq : hasB b x with
            | true => exact sets_ft w a b A B c d Ha.out Hb.out hma hmb x hga hgb hca hcb hp hq
            | false => exact sets_ff w a b A B c d Ha.out Hb.out hma hmb x hga hgb hca hcb hp hq
        · obtain ⟨z1, z2⟩ := ne_facts hcb
          have HCA := Lib.hid hca
          clear hca hcb
          have B0 := Lib.hid (Below.refl w.heap.size w)
          go_enter Try.func7, Try.ntmps7
          go_wp2_with fail
          refine (is_great a A c _ hma hga).mono ?_
          rintro e w' ⟨rfl, rfl⟩
          go_wp2_with fail
          refine (is_great b B d _ hmb hgb).mono ?_
          rintro e w' ⟨rfl, rfl⟩
          go_wp2_with fail
          refine (check_is a A c _ Ha.out.sps hma HCA.out).mono ?_
          rintro e w1 ⟨rfl, hb⟩
          have C1 := Lib.hid hb
          have B1 := Lib.hid (bstep B0.out C1.out)
          replace Ha := Lib.hid (Ha.out.on C1.out)
          replace Hb := Lib.hid (Hb.out.on C1.out)
          clear hb
          go_wp2_with fail
          refine (span_Check b B d _ Hb.out.sps hmb).mono ?_
          rintro e w2 ⟨rfl, hb⟩
          have C2 := Lib.hid hb
          have B2 := Lib.hid (bstep B1.out C2.out)
          replace Ha := Lib.hid (Ha.out.on C2.out)
          replace Hb := Lib.hid (Hb.out.on C2.out)
          clear hb
          go_wp2_with fail
          refine (awake _).mono ?_
          rintro e wa2 ⟨rfl, hb⟩
          have C3 := Lib.hid hb
          have B3 := Lib.hid (bstep B2.out C3.out)
          replace Ha := Lib.hid (Ha.out.on C3.out)
          replace Hb := Lib.hid (Hb.out.on C3.out)
          clear hb
          go_wp2_with fail
          go_ret
          exact ⟨rfl, B3.out⟩
      · obtain ⟨z1, z2⟩ := ne_facts hca
        clear hca
        have B0 := Lib.hid (Below.refl w.heap.size w)
        go_enter Try.func7, Try.ntmps7
        go_wp2_with fail
        refine (is_great a A c _ hma hga).mono ?_
        rintro e w' ⟨rfl, rfl⟩
        go_wp2_with fail
        refine (is_great b B d _ hmb hgb).mono ?_
        rintro e w' ⟨rfl, rfl⟩
        go_wp2_with fail
        refine (span_Check a A c _ Ha.out.sps hma).mono ?_
        rintro e w1 ⟨rfl, hb⟩
        have C1 := Lib.hid hb
        have B1 := Lib.hid (bstep B0.out C1.out)
        replace Ha := Lib.hid (Ha.out.on C1.out)
        replace Hb := Lib.hid (Hb.out.on C1.out)
        clear hb
        go_wp2_with fail
        refine (awake _).mono ?_
        rintro e wa1 ⟨rfl, hb⟩
        have C2 := Lib.hid hb
        have B2 := Lib.hid (bstep B1.out C2.out)
        replace Ha := Lib.hid (Ha.out.on C2.out)
        replace Hb := Lib.hid (Hb.out.on C2.out)
        clear hb
        go_wp2_with fail
        go_ret
        exact ⟨rfl, B2.out⟩
#print axioms walk_SpanCombines
#print axioms walk_SpanSets
end Go.Proofs.Ytidgcgnedeekhaa.Span
