/- The walk of ClockAdds. -/
import Derived.Test.YtngjdclcnocmfaaDoorClockN
namespace Go.Proofs.YtngjdclcnocmfaaDoor.Clock
open Go.ChangeShapes Go.WideShapes Go.RowKit
set_option linter.unusedVariables false
set_option maxRecDepth 100000

theorem upV_mono {x y s : Int} (h : x ≤ y) (hs : 1 ≤ s) : upV x s ≤ upV y s := Int.ediv_le_ediv (by omega) (by omega)
theorem stp_parts {a b t s : Int} (h : stpOk a b s = true) (h1 : a ≤ t) (h2 : t ≤ b) : stpOk a t s = true ∧ stpOk t b s = true ∧ stpV a t s + stpV t b s = stpV a b s ∧ 0 ≤ stpV a b s := by
  obtain ⟨hw, s1, s2⟩ := stpOk_iff.mp h
  obtain ⟨g1, g2, g3⟩ := wit_iff.mp hw
  have k1 : stpOk a t s = true := stpOk_iff.mpr ⟨wit_iff.mpr ⟨g1, h1, by omega⟩, s1, s2⟩
  have k2 : stpOk t b s = true := stpOk_iff.mpr ⟨wit_iff.mpr ⟨by omega, h2, g3⟩, s1, s2⟩
  refine ⟨k1, k2, ?_, ?_⟩
  · rw [stpV_yes k1, stpV_yes k2, stpV_yes h]; omega
  · rw [stpV_yes h]; have := upV_mono (s := s) g2 s1; omega
theorem stpV_bd {a b s : Int} (h : stpOk a b s = true) : -2147570048 ≤ stpV a b s ∧ stpV a b s ≤ 2147570048 := by
  obtain ⟨hw, s1, s2⟩ := stpOk_iff.mp h
  obtain ⟨g1, g2, g3⟩ := wit_iff.mp hw
  have b1 := upV_bd (x := a) (s := s) g1 (by omega) s1 s2
  have b2 := upV_bd (x := b) (s := s) (by omega) g3 s1 s2
  rw [stpV_yes h]; omega
/-- What Next returns is the beginning of the shift, less than a day later. -/
theorem nxt_facts (t k : Int) : (¬ nxtE t k = 0 ∧ nxtV t k = 0) ∨ (nxtE t k = 0 ∧ 0 ≤ t ∧ ∃ v, nxtV t k = v ∧ t ≤ v ∧ v - t < 86400 ∧ v ≤ 2147483647 ∧ v % 28800 = 0 ∧ shK v = k ∧ rngE v = 0) := by
  rcases nxt_cases t k with ⟨hm, hv, he⟩ | ⟨hm, h1, hv, he⟩ | ⟨hm, h1, h2, hv, he⟩ | ⟨hm, h1, h2, q, d, q0, q1, d0, d1, ht, eq, ed, hway⟩
  · exact Or.inl ⟨by rw [he]; decide, hv⟩
  · exact Or.inl ⟨by rw [he]; decide, hv⟩
  · exact Or.inl ⟨by rw [he]; decide, hv⟩
  · rcases hway with ⟨h3, h4, hv, he⟩ | ⟨h3, h4, hv, he⟩ | ⟨h3, h4, hv, he⟩ | ⟨h3, h4, hv, he⟩
    · exact Or.inl ⟨by rw [he]; decide, hv⟩
    · have m : mom (q * 86400 + k * 28800 + 86400) = true := mom_iff.mpr ⟨by omega, by omega⟩
      refine Or.inr ⟨he, by omega, _, hv, by omega, by omega, by omega, by omega, ?_, rngE_yes m⟩
      rw [shK_yes m]; omega
    · exact Or.inl ⟨by rw [he]; decide, hv⟩
    · have m : mom (q * 86400 + k * 28800) = true := mom_iff.mpr ⟨by omega, by omega⟩
      refine Or.inr ⟨he, by omega, _, hv, by omega, by omega, by omega, by omega, ?_, rngE_yes m⟩
      rw [shK_yes m]; omega

set_option maxHeartbeats 3200000 in
theorem walk_ClockAdds (w : World) (a b t s k : Int) (hl : Laid w) : Calls Tryd.prog 10 #[.agg #[.int .i64 a, .int .i64 b], .int .i64 t, .int .i64 s, .int .i64 k] w fun e w' => e = .returned (.bool true) ∧ Below w.heap.size w w' := by
  have HL := Lib.hid hl
  clear hl
  have B0 := Lib.hid (below_alloc w (.cells #[.int .i64 a, .int .i64 b] 36))
  have K0 := Lib.hid (IntsB.new w [a, b] 36)
  by_cases ho : stpOk a b s = true
  · have HO := Lib.hid (stpE_yes ho)
    rcases Int.lt_or_le t a with h1 | h1
    · have d1 : decide (a ≤ t) = false := decide_eq_false (by omega)
      clear ho h1
      go_enter Tryd.func10, Tryd.ntmps10
      go_wp2_with fail
      refine (clock_Steps a b s _).mono ?_
      rintro e w1 ⟨rfl, hb⟩
      have B1 := Lib.hid (bstep B0.out hb)
      have K1 := Lib.hid (K0.out.on hb)
      have c10 := (K1.out.cell (k := 0) rfl).1
      have c11 := (K1.out.cell (k := 1) rfl).1
      clear hb
      rw [HO.out]
      rcases nxt_facts t k with ⟨he, hv⟩ | ⟨he, t0, v, hv, v1, v2, v3, v4, v5, v6⟩
      · have e1 : (nxtE t k == 0) = false := beq_false_of_ne he
        have e2 : (nxtE t k != 0) = true := by rw [bne, e1]; rfl
        have HV := Lib.hid hv
        clear he hv
        go_wp2_with fail
        refine (clock_Next t k w1).mono ?_
        rintro e w' ⟨rfl, rfl⟩
        rw [HV.out]
        go_wp2_with fail
        refine (awake w1 (HL.out.on B1.out)).mono ?_
        rintro e w9 ⟨rfl, hb⟩
        have B9 := Lib.hid (bstep B1.out hb)
        clear hb
        go_wp2_with fail
        go_ret
        exact ⟨rfl, B9.out⟩
      · have HV := Lib.hid hv
        have HE := Lib.hid he
        have HK := Lib.hid v5
        have HR := Lib.hid v6
        have v0 : 0 ≤ v := by omega
        clear he hv v5 v6
        go_wp2_with fail
        refine (clock_Next t k w1).mono ?_
        rintro e w' ⟨rfl, rfl⟩
        rw [HV.out, HE.out]
        go_wp2_with fail
        refine (clock_Shift v w1).mono ?_
        rintro e w' ⟨rfl, rfl⟩
        rw [HK.out, HR.out]
        go_wp2_with fail
        refine (awake w1 (HL.out.on B1.out)).mono ?_
        rintro e w9 ⟨rfl, hb⟩
        have B9 := Lib.hid (bstep B1.out hb)
        clear hb
        go_wp2_with fail
        go_ret
        exact ⟨rfl, B9.out⟩
    · rcases Int.lt_or_le b t with h2 | h2
      · have d2 : decide (t ≤ b) = false := decide_eq_false (by omega)
        clear ho h2
        go_enter Tryd.func10, Tryd.ntmps10
        go_wp2_with fail
        refine (clock_Steps a b s _).mono ?_
        rintro e w1 ⟨rfl, hb⟩
        have B1 := Lib.hid (bstep B0.out hb)
        have K1 := Lib.hid (K0.out.on hb)
        have c10 := (K1.out.cell (k := 0) rfl).1
        have c11 := (K1.out.cell (k := 1) rfl).1
        clear hb
        rw [HO.out]
        rcases nxt_facts t k with ⟨he, hv⟩ | ⟨he, t0, v, hv, v1, v2, v3, v4, v5, v6⟩
        · have e1 : (nxtE t k == 0) = false := beq_false_of_ne he
          have e2 : (nxtE t k != 0) = true := by rw [bne, e1]; rfl
          have HV := Lib.hid hv
          clear he hv
          go_wp2_with fail
          refine (clock_Next t k w1).mono ?_
          rintro e w' ⟨rfl, rfl⟩
          rw [HV.out]
          go_wp2_with fail
          refine (awake w1 (HL.out.on B1.out)).mono ?_
          rintro e w9 ⟨rfl, hb⟩
          have B9 := Lib.hid (bstep B1.out hb)
          clear hb
          go_wp2_with fail
          go_ret
          exact ⟨rfl, B9.out⟩
        · have HV := Lib.hid hv
          have HE := Lib.hid he
          have HK := Lib.hid v5
          have HR := Lib.hid v6
          have v0 : 0 ≤ v := by omega
          clear he hv v5 v6
          go_wp2_with fail
          refine (clock_Next t k w1).mono ?_
          rintro e w' ⟨rfl, rfl⟩
          rw [HV.out, HE.out]
          go_wp2_with fail
          refine (clock_Shift v w1).mono ?_
          rintro e w' ⟨rfl, rfl⟩
          rw [HK.out, HR.out]
          go_wp2_with fail
          refine (awake w1 (HL.out.on B1.out)).mono ?_
          rintro e w9 ⟨rfl, hb⟩
          have B9 := Lib.hid (bstep B1.out hb)
          clear hb
          go_wp2_with fail
          go_ret
          exact ⟨rfl, B9.out⟩
      · obtain ⟨p1, p2, p3, p4⟩ := stp_parts ho h1 h2
        have HA := Lib.hid (stpE_yes p1)
        have HB := Lib.hid (stpE_yes p2)
        have b1 := stpV_bd p1
        have b2 := stpV_bd p2
        obtain ⟨x, hx⟩ : ∃ x, x = stpV a t s := ⟨_, rfl⟩
        obtain ⟨y, hy⟩ : ∃ y, y = stpV t b s := ⟨_, rfl⟩
        obtain ⟨z, hz⟩ : ∃ z, z = stpV a b s := ⟨_, rfl⟩
        rw [← hx, ← hy, ← hz] at p3
        rw [← hx] at b1
        rw [← hy] at b2
        rw [← hz] at p4
        have HX := Lib.hid hx
        have HY := Lib.hid hy
        have HZ := Lib.hid hz
        have wz : IntKind.i64.wrap (x + y) = z := by rw [wrap_id (by omega) (by omega)]; exact p3
        have d3 : decide (z < 0) = false := decide_eq_false (by omega)
        clear ho p1 p2 hx hy hz p3
        go_enter Tryd.func10, Tryd.ntmps10
        go_wp2_with fail
        refine (clock_Steps a b s _).mono ?_
        rintro e w1 ⟨rfl, hb⟩
        have B1 := Lib.hid (bstep B0.out hb)
        have K1 := Lib.hid (K0.out.on hb)
        have c10 := (K1.out.cell (k := 0) rfl).1
        have c11 := (K1.out.cell (k := 1) rfl).1
        clear hb
        rw [HO.out, ← HZ.out]
        go_wp2_with fail
        refine (clock_Steps a t s _).mono ?_
        rintro e w2 ⟨rfl, hb⟩
        have B2 := Lib.hid (bstep B1.out hb)
        have K2 := Lib.hid (K1.out.on hb)
        have c20 := (K2.out.cell (k := 0) rfl).1
        have c21 := (K2.out.cell (k := 1) rfl).1
        clear hb
        rw [HA.out, ← HX.out]
        go_wp2_with fail
        refine (clock_Steps t b s _).mono ?_
        rintro e w3 ⟨rfl, hb⟩
        have B3 := Lib.hid (bstep B2.out hb)
        have K3 := Lib.hid (K2.out.on hb)
        have c30 := (K3.out.cell (k := 0) rfl).1
        have c31 := (K3.out.cell (k := 1) rfl).1
        clear hb
        rw [HB.out, ← HY.out]
        rcases nxt_facts t k with ⟨he, hv⟩ | ⟨he, t0, v, hv, v1, v2, v3, v4, v5, v6⟩
        · have e1 : (nxtE t k == 0) = false := beq_false_of_ne he
          have e2 : (nxtE t k != 0) = true := by rw [bne, e1]; rfl
          have HV := Lib.hid hv
          clear he hv
          go_wp2_with fail
          refine (clock_Next t k w3).mono ?_
          rintro e w' ⟨rfl, rfl⟩
          rw [HV.out]
          go_wp2_with fail
          refine (awake w3 (HL.out.on B3.out)).mono ?_
          rintro e w9 ⟨rfl, hb⟩
          have B9 := Lib.hid (bstep B3.out hb)
          clear hb
          go_wp2_with fail
          go_ret
          exact ⟨rfl, B9.out⟩
        · have HV := Lib.hid hv
          have HE := Lib.hid he
          have HK := Lib.hid v5
          have HR := Lib.hid v6
          have v0 : 0 ≤ v := by omega
          clear he hv v5 v6
          go_wp2_with fail
          refine (clock_Next t k w3).mono ?_
          rintro e w' ⟨rfl, rfl⟩
          rw [HV.out, HE.out]
          go_wp2_with fail
          refine (clock_Shift v w3).mono ?_
          rintro e w' ⟨rfl, rfl⟩
          rw [HK.out, HR.out]
          go_wp2_with fail
          refine (awake w3 (HL.out.on B3.out)).mono ?_
          rintro e w9 ⟨rfl, hb⟩
          have B9 := Lib.hid (bstep B3.out hb)
          clear hb
          go_wp2_with fail
          go_ret
          exact ⟨rfl, B9.out⟩
  · have HO := Lib.hid (stpE_no ho)
    clear ho
    go_enter Tryd.func10, Tryd.ntmps10
    go_wp2_with fail
    refine (clock_Steps a b s _).mono ?_
    rintro e w1 ⟨rfl, hb⟩
    have B1 := Lib.hid (bstep B0.out hb)
    have K1 := Lib.hid (K0.out.on hb)
    have c10 := (K1.out.cell (k := 0) rfl).1
    have c11 := (K1.out.cell (k := 1) rfl).1
    clear hb
    rw [HO.out]
    rcases nxt_facts t k with ⟨he, hv⟩ | ⟨he, t0, v, hv, v1, v2, v3, v4, v5, v6⟩
    · have e1 : (nxtE t k == 0) = false := beq_false_of_ne he
      have e2 : (nxtE t k != 0) = true := by rw [bne, e1]; rfl
      have HV := Lib.hid hv
      clear he hv
      go_wp2_with fail
      refine (clock_Next t k w1).mono ?_
      rintro e w' ⟨rfl, rfl⟩
      rw [HV.out]
      go_wp2_with fail
      refine (awake w1 (HL.out.on B1.out)).mono ?_
      rintro e w9 ⟨rfl, hb⟩
      have B9 := Lib.hid (bstep B1.out hb)
      clear hb
      go_wp2_with fail
      go_ret
      exact ⟨rfl, B9.out⟩
    · have HV := Lib.hid hv
      have HE := Lib.hid he
      have HK := Lib.hid v5
      have HR := Lib.hid v6
      have v0 : 0 ≤ v := by omega
      clear he hv v5 v6
      go_wp2_with fail
      refine (clock_Next t k w1).mono ?_
      rintro e w' ⟨rfl, rfl⟩
      rw [HV.out, HE.out]
      go_wp2_with fail
      refine (clock_Shift v w1).mono ?_
      rintro e w' ⟨rfl, rfl⟩
      rw [HK.out, HR.out]
      go_wp2_with fail
      refine (awake w1 (HL.out.on B1.out)).mono ?_
      rintro e w9 ⟨rfl, hb⟩
      have B9 := Lib.hid (bstep B1.out hb)
      clear hb
      go_wp2_with fail
      go_ret
      exact ⟨rfl, B9.out⟩
#print axioms walk_ClockAdds
end Go.Proofs.YtngjdclcnocmfaaDoor.Clock
