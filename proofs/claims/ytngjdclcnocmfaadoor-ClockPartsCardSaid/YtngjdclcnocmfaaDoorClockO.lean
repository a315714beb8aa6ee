/- The walks of ClockShifts, ClockForms, ClockCrews, ClockSteps, ClockNexts, ClockParts. -/
import Derived.Test.YtngjdclcnocmfaaDoorClockN
namespace Go.Proofs.YtngjdclcnocmfaaDoor.Clock
open Go.ChangeShapes Go.WideShapes Go.RowKit
set_option linter.unusedVariables false
set_option maxRecDepth 100000

set_option maxHeartbeats 1600000 in
theorem walk_ClockShifts (w : World) (t : Int) (hl : Laid w) : Calls Tryd.prog 3 #[.int .i64 t] w fun e w' => e = .returned (.bool true) ∧ Below w.heap.size w w' := by
  have HL := Lib.hid hl
  clear hl
  go_enter Tryd.func3, Tryd.ntmps3
  go_wp2_with fail
  refine (clock_Shift t w).mono ?_
  rintro e w' ⟨rfl, rfl⟩
  go_wp2_with fail
  refine (ref_Shift t w).mono ?_
  rintro e w' ⟨rfl, rfl⟩
  go_wp2_with fail
  refine (awake w HL.out).mono ?_
  rintro e w1 ⟨rfl, hb⟩
  have B1 := Lib.hid (hb)
  clear hb
  go_wp2_with fail
  go_ret
  exact ⟨rfl, B1.out⟩
set_option maxHeartbeats 1600000 in
theorem walk_ClockNexts (w : World) (t k : Int) (hl : Laid w) : Calls Tryd.prog 7 #[.int .i64 t, .int .i64 k] w fun e w' => e = .returned (.bool true) ∧ Below w.heap.size w w' := by
  have HL := Lib.hid hl
  clear hl
  go_enter Tryd.func7, Tryd.ntmps7
  go_wp2_with fail
  refine (clock_Next t k w).mono ?_
  rintro e w' ⟨rfl, rfl⟩
  go_wp2_with fail
  refine (ref_Next t k w).mono ?_
  rintro e w' ⟨rfl, rfl⟩
  go_wp2_with fail
  refine (awake w HL.out).mono ?_
  rintro e w1 ⟨rfl, hb⟩
  have B1 := Lib.hid (hb)
  clear hb
  go_wp2_with fail
  go_ret
  exact ⟨rfl, B1.out⟩
set_option maxHeartbeats 1600000 in
theorem walk_ClockSteps (w : World) (a b s : Int) (hl : Laid w) : Calls Tryd.prog 6 #[.agg #[.int .i64 a, .int .i64 b], .int .i64 s] w fun e w' => e = .returned (.bool true) ∧ Below w.heap.size w w' := by
  have HL := Lib.hid hl
  clear hl
  have B0 := Lib.hid (below_alloc w (.cells #[.int .i64 a, .int .i64 b] 36))
  have K0 := Lib.hid (IntsB.new w [a, b] 36)
  go_enter Tryd.func6, Tryd.ntmps6
  go_wp2_with fail
  refine (clock_Steps a b s _).mono ?_
  rintro e w1 ⟨rfl, hb⟩
  have B1 := Lib.hid (bstep B0.out hb)
  have K1 := Lib.hid (K0.out.on hb)
  have c10 := (K1.out.cell (k := 0) rfl).1
  have c11 := (K1.out.cell (k := 1) rfl).1
  clear hb
  go_wp2_with fail
  refine (ref_Steps a b s _).mono ?_
  rintro e w2 ⟨rfl, hb⟩
  have B2 := Lib.hid (bstep B1.out hb)
  clear hb
  go_wp2_with fail
  refine (awake _ (HL.out.on B2.out)).mono ?_
  rintro e w3 ⟨rfl, hb⟩
  have B3 := Lib.hid (bstep B2.out hb)
  clear hb
  go_wp2_with fail
  go_ret
  exact ⟨rfl, B3.out⟩
set_option maxHeartbeats 1600000 in
theorem walk_ClockParts (w : World) (a b : Int) (hl : Laid w) : Calls Tryd.prog 8 #[.agg #[.int .i64 a, .int .i64 b]] w fun e w' => e = .returned (.bool true) ∧ Below w.heap.size w w' := by
  have HL := Lib.hid hl
  clear hl
  have B0 := Lib.hid (below_alloc w (.cells #[.int .i64 a, .int .i64 b] 36))
  have K0 := Lib.hid (IntsB.new w [a, b] 36)
  go_enter Tryd.func8, Tryd.ntmps8
  go_wp2_with fail
  refine (clock_Parts a b _).mono ?_
  rintro e w1 ⟨v, rfl, hin, hb⟩
  obtain ⟨V1, p1, rfl, m1, s1, -⟩ := hin.open_
  have B1 := Lib.hid (bstep B0.out hb)
  have S1 := Lib.hid s1
  have K1 := Lib.hid (K0.out.on hb)
  have c10 := (K1.out.cell (k := 0) rfl).1
  have c11 := (K1.out.cell (k := 1) rfl).1
  clear hb hin s1
  go_wp2_with fail
  refine (ref_Parts a b _).mono ?_
  rintro e w2 ⟨v, rfl, hin, hb⟩
  obtain ⟨V2, p2, rfl, m2, s2, -⟩ := hin.open_
  have B2 := Lib.hid (bstep B1.out hb)
  replace S1 := Lib.hid (S1.out.on hb)
  have S2 := Lib.hid s2
  clear hb hin s2 c10 c11
  go_wp2_with fail
  refine (law_spans (prtL a b) (prtL a b) V1 V2 p1 p2 w2 S1.out S2.out m1 m2).mono ?_
  rintro e w3 ⟨rfl, hb⟩
  have B3 := Lib.hid (bstep B2.out hb)
  clear hb
  rw [decide_eq_true (rfl : prtL a b = prtL a b)]
  go_wp2_with fail
  refine (awake _ (HL.out.on B3.out)).mono ?_
  rintro e w4 ⟨rfl, hb⟩
  have B4 := Lib.hid (bstep B3.out hb)
  clear hb
  go_wp2_with fail
  go_ret
  exact ⟨rfl, B4.out⟩
set_option maxHeartbeats 1600000 in
theorem walk_ClockCrews (w : World) (A : Option Addr) (n c : Nat) (zs : List Int) (hn : n = zs.length) (hm : zs.length ≤ 9223372036854775807) (ha : Its w A zs) (t : Int) (hl : Laid w) : Calls Tryd.prog 5 #[.slice A n c, .int .i64 t] w fun e w' => e = .returned (.bool true) ∧ Below w.heap.size w w' := by
  have HL := Lib.hid hl
  clear hl
  subst hn
  have HA := Lib.hid ha
  clear ha
  rcases Nat.lt_or_ge 200 zs.length with h | h
  · have i1 : (200 : Int) < (zs.length : Int) := by omega
    go_enter Tryd.func5, Tryd.ntmps5
    go_wp2_with fail
    refine (awake w HL.out).mono ?_
    rintro e w1 ⟨rfl, hb⟩
    have B1 := Lib.hid (hb)
    clear hb
    go_wp2_with fail
    go_ret
    exact ⟨rfl, B1.out⟩
  · have i1 : decide ((200 : Int) < (zs.length : Int)) = false := decide_eq_false (by omega)
    go_enter Tryd.func5, Tryd.ntmps5
    go_wp2_with fail
    refine (clock_Crew zs t A c w HA.out hm).mono ?_
    rintro e w1 ⟨rfl, hb⟩
    have B1 := Lib.hid (hb)
    have A1 := Lib.hid (HA.out.on hb)
    clear hb
    go_wp2_with fail
    refine (ref_Crew zs t A c w1 A1.out hm).mono ?_
    rintro e w2 ⟨rfl, hb⟩
    have B2 := Lib.hid (bstep B1.out hb)
    clear hb
    go_wp2_with fail
    refine (awake _ (HL.out.on B2.out)).mono ?_
    rintro e w3 ⟨rfl, hb⟩
    have B3 := Lib.hid (bstep B2.out hb)
    clear hb
    go_wp2_with fail
    go_ret
    exact ⟨rfl, B3.out⟩
set_option maxHeartbeats 1600000 in
theorem walk_ClockForms (w : World) (t : Int) (s : ByteArray) (hm : s.size ≤ 9223372036854775807) (hl : Laid w) : Calls Tryd.prog 4 #[.int .i64 t, .string s] w fun e w' => e = .returned (.bool true) ∧ Below w.heap.size w w' := by
  have HL := Lib.hid hl
  clear hl
  rcases Nat.lt_or_ge 100 s.size with h | h
  · have i1 : (100 : Int) < (s.size : Int) := by omega
    go_enter Tryd.func4, Tryd.ntmps4
    go_wp2_with fail
    refine (awake w HL.out).mono ?_
    rintro e w1 ⟨rfl, hb⟩
    have B1 := Lib.hid (hb)
    clear hb
    go_wp2_with fail
    go_ret
    exact ⟨rfl, B1.out⟩
  · have i1 : decide ((100 : Int) < (s.size : Int)) = false := decide_eq_false (by omega)
    obtain ⟨F, hF⟩ : ∃ F, F = fmtS t := ⟨_, rfl⟩
    have q : (F.toList == F.toList) = true := beq_self_eq_true _
    have HF := Lib.hid hF
    clear hF
    go_enter Tryd.func4, Tryd.ntmps4
    go_wp2_with fail
    refine (clock_Format t w HL.out).mono ?_
    rintro e w1 ⟨rfl, hb⟩
    have B1 := Lib.hid (hb)
    clear hb
    rw [← HF.out]
    go_wp2_with fail
    refine (ref_Format t w1).mono ?_
    rintro e w' ⟨rfl, rfl⟩
    rw [← HF.out]
    go_wp2_with fail
    refine (clock_Parse s w1 hm (HL.out.on B1.out)).mono ?_
    rintro e w2 ⟨x, er, rfl, hp, hb⟩
    have HP := Lib.hid hp
    have B2 := Lib.hid (bstep B1.out hb)
    clear hb hp
    go_wp2_with fail
    refine (ref_Parse s w2 hm).mono ?_
    rintro e w3 ⟨y, es, rfl, hp, hb⟩
    obtain ⟨rfl, rfl⟩ := HP.out.one hp
    have B3 := Lib.hid (bstep B2.out hb)
    clear hb hp
    go_wp2_with fail
    refine (awake _ (HL.out.on B3.out)).mono ?_
    rintro e w4 ⟨rfl, hb⟩
    have B4 := Lib.hid (bstep B3.out hb)
    clear hb
    go_wp2_with fail
    go_ret
    exact ⟨rfl, B4.out⟩
#print axioms walk_ClockShifts
#print axioms walk_ClockNexts
#print axioms walk_ClockSteps
#print axioms walk_ClockParts
#print axioms walk_ClockCrews
#print axioms walk_ClockForms
end Go.Proofs.YtngjdclcnocmfaaDoor.Clock
