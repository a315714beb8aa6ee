/- The walks of SpanChecks, SpanNorms, SpanMoves, SpanCombines. -/
import Derived.Test.YtidgcgnedeekhaaSpanU
namespace Go.Proofs.Ytidgcgnedeekhaa.Span
open Go.ChangeShapes Go.WideShapes Go.RowKit Go.Lib Go.Proofs
set_option linter.unusedVariables false
set_option maxRecDepth 100000

set_option maxHeartbeats 6400000 in
theorem walk_SpanChecks (w : World) (a0 : Value) (L : List Sp) (h0 : InL w a0 L) (x : Int) :
    Calls Try.prog 3 #[a0, .int .i64 x] w fun e w' => e = .returned (.bool true) ∧ Below w.heap.size w w' := by
  obtain ⟨A, c, rfl, hmL, -, hin⟩ := h0.open_
  have HL := Lib.hid hin
  clear h0 hin
  cases hgL : decide (300 < L.length) with
  | true =>
    have B0 := Lib.hid (Below.refl w.heap.size w)
    go_enter Try.func3, Try.ntmps3
    go_wp2_with fail
    refine (is_great L A c _ hmL hgL).mono ?_
    rintro e w' ⟨rfl, rfl⟩
    go_wp2_with fail
    refine (awake _).mono ?_
    rintro e wa0 ⟨rfl, hb⟩
    have C1 := Lib.hid hb
    have B1 := Lib.hid (bstep B0.out C1.out)
    replace HL := Lib.hid (HL.out.on C1.out)
    clear hb
    go_wp2_with fail
    go_ret
    exact ⟨rfl, B1.out⟩
  | false =>
    have B0 := Lib.hid (Below.refl w.heap.size w)
    go_enter Try.func3, Try.ntmps3
    go_wp2_with fail
    refine (is_great L A c _ hmL hgL).mono ?_
    rintro e w' ⟨rfl, rfl⟩
    go_wp2_with fail
    refine (span_Check L A c _ HL.out.sps hmL).mono ?_
    rintro e w1 ⟨rfl, hb⟩
    have C1 := Lib.hid hb
    have B1 := Lib.hid (bstep B0.out C1.out)
    replace HL := Lib.hid (HL.out.on C1.out)
    clear hb
    go_wp2_with fail
    refine (ref_Check L A c _ HL.out.sps hmL).mono ?_
    rintro e w2 ⟨rfl, hb⟩
    have C2 := Lib.hid hb
    have B2 := Lib.hid (bstep B1.out C2.out)
    replace HL := Lib.hid (HL.out.on C2.out)
    clear hb
    go_wp2_with fail
    refine (span_Has L x A c _ HL.out.sps hmL).mono ?_
    rintro e w3 ⟨rfl, hb⟩
    have C3 := Lib.hid hb
    have B3 := Lib.hid (bstep B2.out C3.out)
    replace HL := Lib.hid (HL.out.on C3.out)
    clear hb
    go_wp2_with fail
    refine (ref_Has L x A c _ HL.out.sps hmL).mono ?_
    rintro e w' ⟨rfl, rfl⟩
    go_wp2_with fail
    refine (awake _).mono ?_
    rintro e wa3 ⟨rfl, hb⟩
    have C4 := Lib.hid hb
    have B4 := Lib.hid (bstep B3.out C4.out)
    replace HL := Lib.hid (HL.out.on C4.out)
    clear hb
    go_wp2_with fail
    go_ret
    exact ⟨rfl, B4.out⟩

set_option maxHeartbeats 6400000 in
theorem walk_SpanNorms (w : World) (a0 : Value) (L : List Sp) (h0 : InL w a0 L) :
    Calls Try.prog 4 #[a0] w fun e w' => e = .returned (.bool true) ∧ Below w.heap.size w w' := by
  obtain ⟨A, c, rfl, hmL, -, hin⟩ := h0.open_
  have HL := Lib.hid hin
  clear h0 hin
  cases hgL : decide (300 < L.length) with
  | true =>
    have B0 := Lib.hid (Below.refl w.heap.size w)
    go_enter Try.func4, Try.ntmps4
    go_wp2_with fail
    refine (is_great L A c _ hmL hgL).mono ?_
    rintro e w' ⟨rfl, rfl⟩
    go_wp2_with fail
    refine (awake _).mono ?_
    rintro e wa0 ⟨rfl, hb⟩
    have C1 := Lib.hid hb
    have B1 := Lib.hid (bstep B0.out C1.out)
    replace HL := Lib.hid (HL.out.on C1.out)
    clear hb
    go_wp2_with fail
    go_ret
    exact ⟨rfl, B1.out⟩
  | false =>
    have B0 := Lib.hid (Below.refl w.heap.size w)
    go_enter Try.func4, Try.ntmps4
    go_wp2_with fail
    refine (is_great L A c _ hmL hgL).mono ?_
    rintro e w' ⟨rfl, rfl⟩
    go_wp2_with fail
    refine (span_Norm L A c _ HL.out.sps hmL).mono ?_
    intro e w1 h
    obtain ⟨M, E, V, cv, rfl, hmM, hin, ho, hb⟩ := h.outs
    have O := Lib.hid ho
    have HM := Lib.hid hin
    clear h hin ho
    have C1 := Lib.hid hb
    have B1 := Lib.hid (bstep B0.out C1.out)
    replace HL := Lib.hid (HL.out.on C1.out)
    clear hb
    go_wp2_with fail
    refine (ref_Norm L A c _ HL.out.sps hmL).mono ?_
    intro e w2 h
    obtain ⟨M2, E2, V2, cv2, rfl, hmM2, hin, ho, hb⟩ := h.outs
    have O2 := Lib.hid ho
    have HM2 := Lib.hid hin
    clear h hin ho
    have C2 := Lib.hid hb
    have B2 := Lib.hid (bstep B1.out C2.out)
    replace HL := Lib.hid (HL.out.on C2.out)
    replace HM := Lib.hid (HM.out.on C2.out)
    clear hb
    obtain ⟨rfl, rfl⟩ := O.out.one O2.out
    go_wp2_with fail
    refine (span_Total L A c _ HL.out.sps hmL).mono ?_
    intro e w3 h
    obtain ⟨M3, E3, rfl, ho, hb⟩ := h.outs
    have O3 := Lib.hid ho
    clear h ho
    have C3 := Lib.hid hb
    have B3 := Lib.hid (bstep B2.out C3.out)
    replace HL := Lib.hid (HL.out.on C3.out)
    replace HM := Lib.hid (HM.out.on C3.out)
    replace HM2 := Lib.hid (HM2.out.on C3.out)
    clear hb
    obtain ⟨rfl, rfl⟩ := O.out.one O3.out
    go_wp2_with fail
    refine (ref_Total L A c _ HL.out.sps hmL).mono ?_
    intro e w4 h
    obtain ⟨M4, E4, rfl, ho, hb⟩ := h.outs
    have O4 := Lib.hid ho
    clear h ho
    have C4 := Lib.hid hb
    have B4 := Lib.hid (bstep B3.out C4.out)
    replace HL := Lib.hid (HL.out.on C4.out)
    replace HM := Lib.hid (HM.out.on C4.out)
    replace HM2 := Lib.hid (HM2.out.on C4.out)
    clear hb
    obtain ⟨rfl, rfl⟩ := O.out.one O4.out
    go_wp2_with fail
    refine (ref_same M M rfl V V2 cv cv2 _ HM.out.sps HM2.out.sps hmM).mono ?_
    rintro e w5 ⟨rfl, hb⟩
    have C5 := Lib.hid hb
    have B5 := Lib.hid (bstep B4.out C5.out)
    replace HL := Lib.hid (HL.out.on C5.out)
    replace HM := Lib.hid (HM.out.on C5.out)
    replace HM2 := Lib.hid (HM2.out.on C5.out)
    clear hb
    go_wp2_with fail
    refine (awake _).mono ?_
    rintro e wa5 ⟨rfl, hb⟩
    have C6 := Lib.hid hb
    have B6 := Lib.hid (bstep B5.out C6.out)
    replace HL := Lib.hid (HL.out.on C6.out)
    replace HM := Lib.hid (HM.out.on C6.out)
    replace HM2 := Lib.hid (HM2.out.on C6.out)
    clear hb
    go_wp2_with fail
    go_ret
    exact ⟨rfl, B6.out⟩

set_option maxHeartbeats 6400000 in
theorem walk_SpanMoves (w : World) (a0 : Value) (L : List Sp) (h0 : InL w a0 L) (n : Int) :
    Calls Try.prog 6 #[a0, .int .i64 n] w fun e w' => e = .returned (.bool true) ∧ Below w.heap.size w w' := by
  obtain ⟨A, c, rfl, hmL, -, hin⟩ := h0.open_
  have HL := Lib.hid hin
  clear h0 hin
  cases hgL : decide (300 < L.length) with
  | true =>
    have B0 := Lib.hid (Below.refl w.heap.size w)
    go_enter Try.func6, Try.ntmps6
    go_wp2_with fail
    refine (is_great L A c _ hmL hgL).mono ?_
    rintro e w' ⟨rfl, rfl⟩
    go_wp2_with fail
    refine (awake _).mono ?_
    rintro e wa0 ⟨rfl, hb⟩
    have C1 := Lib.hid hb
    have B1 := Lib.hid (bstep B0.out C1.out)
    replace HL := Lib.hid (HL.out.on C1.out)
    clear hb
    go_wp2_with fail
    go_ret
    exact ⟨rfl, B1.out⟩
  | false =>
    have B0 := Lib.hid (Below.refl w.heap.size w)
    go_enter Try.func6, Try.ntmps6
    go_wp2_with fail
    refine (is_great L A c _ hmL hgL).mono ?_
    rintro e w' ⟨rfl, rfl⟩
    go_wp2_with fail
    refine (span_Move L n A c _ HL.out.sps hmL).mono ?_
    intro e w1 h
    obtain ⟨V1, c1, rfl, hm1, hin, hb⟩ := h.open_
    have HM1 := Lib.hid hin
    clear h hin
    have C1 := Lib.hid hb
    have B1 := Lib.hid (bstep B0.out C1.out)
    replace HL := Lib.hid (HL.out.on C1.out)
    clear hb
    go_wp2_with fail
    refine (ref_Move L n A c _ HL.out.sps hmL).mono ?_
    intro e w2 h
    obtain ⟨V2, c2, rfl, hm2, hin, hb⟩ := h.open_
    have HM2 := Lib.hid hin
    clear h hin
    have C2 := Lib.hid hb
    have B2 := Lib.hid (bstep B1.out C2.out)
    replace HL := Lib.hid (HL.out.on C2.out)
    replace HM1 := Lib.hid (HM1.out.on C2.out)
    clear hb
    go_wp2_with fail
    refine (ref_same (movL L n) (movL L n) rfl V1 V2 c1 c2 _ HM1.out.sps HM2.out.sps hm1).mono ?_
    rintro e w3 ⟨rfl, hb⟩
    have C3 := Lib.hid hb
    have B3 := Lib.hid (bstep B2.out C3.out)
    replace HL := Lib.hid (HL.out.on C3.out)
    replace HM1 := Lib.hid (HM1.out.on C3.out)
    replace HM2 := Lib.hid (HM2.out.on C3.out)
    clear hb
    go_wp2_with fail
    refine (awake _).mono ?_
    rintro e wa3 ⟨rfl, hb⟩
    have C4 := Lib.hid hb
    have B4 := Lib.hid (bstep B3.out C4.out)
    replace HL := Lib.hid (HL.out.on C4.out)
    replace HM1 := Lib.hid (HM1.out.on C4.out)
    replace HM2 := Lib.hid (HM2.out.on C4.out)
    clear hb
    go_wp2_with fail
    go_ret
    exact ⟨rfl, B4.out⟩
#print axioms walk_SpanChecks
#print axioms walk_SpanNorms
#print axioms walk_SpanMoves
end Go.Proofs.Ytidgcgnedeekhaa.Span
