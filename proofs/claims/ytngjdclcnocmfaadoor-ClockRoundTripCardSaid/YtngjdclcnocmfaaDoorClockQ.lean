/- The walk of ClockRoundTrip. -/
import Derived.Test.YtngjdclcnocmfaaDoorClockN
namespace Go.Proofs.YtngjdclcnocmfaaDoor.Clock
open Go.ChangeShapes Go.WideShapes Go.RowKit
set_option linter.unusedVariables false
set_option maxRecDepth 100000

theorem fmtS_size {t : Int} (h : mom t = true) : (fmtS t).size ≤ 14 := by
  obtain ⟨n, rfl, hn⟩ := mom_nat h
  rw [fmtS_yes hn]
  exact fmtL_length hn
theorem par_fmt {t : Int} (h : mom t = true) (x er : Int) (hp : ParR (fmtS t).data.toList x er) : er = 0 ∧ x = t := by
  obtain ⟨n, rfl, hn⟩ := mom_nat h
  rw [fmtS_yes hn] at hp
  exact hp.fmt hn
theorem par_form {s : ByteArray} {x : Int} (h : mom x = true) (hf : fmtL x.toNat = s.data.toList) : fmtS x = s := by
  obtain ⟨n, rfl, hn⟩ := mom_nat h
  exact (fmtS_eq hn s).mpr hf
/-- A part begins and ends within one shift. -/
theorem part_shift {a b : Int} (h : wit a b = true) {k : Nat} (hk : k < prtN a b) : cur a b k < cur a b (k + 1) ∧ mom (cur a b k) = true ∧ rngE (cur a b k) = 0 ∧ rngE (cur a b (k + 1) - 1) = 0 ∧
    shD (cur a b (k + 1) - 1) = shD (cur a b k) ∧ shK (cur a b (k + 1) - 1) = shK (cur a b k) := by
  obtain ⟨g1, g2, g3⟩ := wit_iff.mp h
  have hlt := (cur_lt g1 g2 k).mpr hk
  obtain ⟨s1, s2⟩ := cur_shift g1 g2 hlt
  have b1 := cur_bd g1 g2 k
  have b2 := cur_bd g1 g2 (k + 1)
  have m1 : mom (cur a b k) = true := mom_iff.mpr ⟨by omega, by omega⟩
  have m2 : mom (cur a b (k + 1) - 1) = true := mom_iff.mpr ⟨by omega, by omega⟩
  refine ⟨s1, m1, rngE_yes m1, rngE_yes m2, ?_, ?_⟩
  · rw [shD_yes m1, shD_yes m2]; omega
  · rw [shK_yes m1, shK_yes m2]; omega

set_option maxHeartbeats 3200000 in
theorem walk_ClockRoundTrip (w : World) (t : Int) (s : ByteArray) (hm : s.size ≤ 9223372036854775807) (a b : Int) (hl : Laid w) : Calls Tryd.prog 9 #[.int .i64 t, .string s, .agg #[.int .i64 a, .int .i64 b]] w fun e w' => e = .returned (.bool true) ∧ Below w.heap.size w w' := by
  have HL := Lib.hid hl
  clear hl
  have B0 := Lib.hid (below_alloc w (.cells #[.int .i64 a, .int .i64 b] 36))
  have K0 := Lib.hid (IntsB.new w [a, b] 36)
  rcases Nat.lt_or_ge 100 s.size with h | h
  · have i1 : (100 : Int) < (s.size : Int) := by omega
    go_enter Tryd.func9, Tryd.ntmps9
    go_wp2_with fail
    refine (awake _ (HL.out.on B0.out)).mono ?_
    rintro e w1 ⟨rfl, hb⟩
    have B1 := Lib.hid (bstep B0.out hb)
    clear hb
    go_wp2_with fail
    go_ret
    exact ⟨rfl, B1.out⟩
  · have i1 : decide ((100 : Int) < (s.size : Int)) = false := decide_eq_false (by omega)
    cases ht : mom t with
    | false =>
      rcases mom_no ht with h1 | ⟨h1, h2⟩
      · have d0 : decide (0 ≤ t) = false := decide_eq_false (by omega)
        clear ht h1
        go_enter Tryd.func9, Tryd.ntmps9
        go_wp2_with fail
        refine (clock_Parse s _ hm (HL.out.on B0.out)).mono ?_
        rintro e w2 ⟨x, er, rfl, hp, hb⟩
        have B2 := Lib.hid (bstep B0.out hb)
        have K2 := Lib.hid (K0.out.on hb)
        have c20 := (K2.out.cell (k := 0) rfl).1
        have c21 := (K2.out.cell (k := 1) rfl).1
        clear hb
        rcases hp with ⟨rfl, hm1, hf1⟩ | ⟨rfl, rfl, -⟩
        · have hs := par_form hm1 hf1
          have q : ((fmtS x).toList == s.toList) = true := by rw [hs]; exact beq_self_eq_true _
          have HR := Lib.hid (rngE_yes hm1)
          clear hs hm1 hf1
          go_wp2_with fail
          refine (clock_Format x _ (HL.out.on B2.out)).mono ?_
          rintro e w3 ⟨rfl, hb⟩
          have B3 := Lib.hid (bstep B2.out hb)
          have K3 := Lib.hid (K2.out.on hb)
          have c30 := (K3.out.cell (k := 0) rfl).1
          have c31 := (K3.out.cell (k := 1) rfl).1
          clear hb
          clear c20 c21
          rw [HR.out]
          by_cases he : prtE a b = 0
          · have HE := Lib.hid he
            obtain ⟨hw, hN⟩ := prtE_zero he
            have HW := Lib.hid hw
            obtain ⟨g1, g2, g3⟩ := wit_iff.mp hw
            have hce := cur_end g1 g2
            obtain ⟨N, hNN⟩ : ∃ N, N = prtN a b := ⟨_, rfl⟩
            rw [← hNN] at hce hN
            have HN := Lib.hid hNN
            have HCE := Lib.hid hce
            clear he hw hNN hce
            go_wp2_with fail
            refine (clock_Parts a b _).mono ?_
            rintro e wp ⟨v, rfl, hin, hb⟩
            rw [prtL_ok HE.out, ← HN.out] at hin
            obtain ⟨V, cap, rfl, -, hs, -⟩ := hin.open_
            rw [partsL_length, HE.out]
            have BP := Lib.hid (bstep B3.out hb)
            have KP := Lib.hid (K3.out.on hb)
            have cp0 := (KP.out.cell (k := 0) rfl).1
            have cp1 := (KP.out.cell (k := 1) rfl).1
            have SP := Lib.hid hs
            clear hb hin hs c30 c31
            go_wp2_with fail
            clear cp0 cp1
            go_loopw [17, 18] (fun x i wr => ∃ k : Nat, k ≤ N ∧ x = .int .i64 (cur a b k) ∧ i = .int .i64 (k : Int) ∧ Below wp.heap.size wp wr) (fun _ i _ => N - (intOf i).toNat)
            case atStart => exact ⟨0, Nat.zero_le _, rfl, rfl, Below.refl _ _⟩
            case round =>
              obtain ⟨k, hk, rfl, rfl, hbel⟩ := hrel
              have HB := Lib.hid hbel
              clear hbel
              rcases Nat.lt_or_ge k N with hlt | hge
              · obtain ⟨p1, p2, p3, p4, p5, p6⟩ := part_shift HW.out (k := k) (by rw [← HN.out]; exact hlt)
                have hb1 := cur_bd g1 g2 k
                have hb2 := cur_bd g1 g2 (k + 1)
                obtain ⟨b1, off1, rfl, hlt1, h0, h1⟩ := (SP.out.on HB.out) k _ (partsL_at hlt)
                obtain ⟨x, hx⟩ : ∃ x, x = cur a b k := ⟨_, rfl⟩
                obtain ⟨y, hy⟩ : ∃ y, y = cur a b (k + 1) := ⟨_, rfl⟩
                simp only at h0 h1
                rw [← hx] at h0 hb1
                rw [← hy] at h1 hb2
                rw [← hx, ← hy] at p1 p5 p6
                rw [← hy] at p4
                rw [← hx] at p3
                rw [← hx]
                have HY := Lib.hid hy
                have P3 := Lib.hid p3
                have P4 := Lib.hid p4
                have P5 := Lib.hid p5
                have P6 := Lib.hid p6
                have d1 : decide (y ≤ x) = false := decide_eq_false (by omega)
                have i1 : (k : Int) < (N : Int) := by omega
                have i2 : (0 : Int) ≤ (k : Int) := by omega
                have wy : IntKind.i64.wrap (y - 1) = y - 1 := wrap_id (by omega) (by omega)
                clear hx hy p2 p3 p4 p5 p6
                go_wp2_with fail
                refine (clock_Shift x _).mono ?_
                rintro e w' ⟨rfl, rfl⟩
                rw [P3.out]
                go_wp2_with fail
                refine (clock_Shift (y - 1) _).mono ?_
                rintro e w' ⟨rfl, rfl⟩
                rw [P4.out, P5.out, P6.out]
                go_wp2_with fail
                go_roundw
                case rel => exact ⟨k + 1, by omega, by rw [← HY.out], by go_num, HB.out⟩
                case measure => simp [intOf]; omega
              · obtain rfl : k = N := by omega
                have BQ := Lib.hid (bstep BP.out HB.out)
                have cq1 := ((KP.out.on HB.out).cell (k := 1) rfl).1
                rw [HCE.out]
                go_wp2_with fail
                refine (awake wr (HL.out.on BQ.out)).mono ?_
                rintro e w9 ⟨rfl, hb⟩
                have B9 := Lib.hid (bstep BQ.out hb)
                clear hb
                go_wp2_with fail
                go_ret
                exact ⟨rfl, B9.out⟩
          · have e1 : (prtE a b == 0) = false := beq_false_of_ne he
            have e2 : (prtE a b != 0) = true := by rw [bne, e1]; rfl
            have HE := Lib.hid he
            clear he
            go_wp2_with fail
            refine (clock_Parts a b _).mono ?_
            rintro e wp ⟨v, rfl, hin, hb⟩
            rw [prtL_no HE.out] at hin
            obtain ⟨V, cap, rfl, -, hs, -⟩ := hin.open_
            have BP := Lib.hid (bstep B3.out hb)
            clear hb hin hs c30 c31
            go_wp2_with fail
            refine (awake wp (HL.out.on BP.out)).mono ?_
            rintro e w9 ⟨rfl, hb⟩
            have B9 := Lib.hid (bstep BP.out hb)
            clear hb
            go_wp2_with fail
            go_ret
            exact ⟨rfl, B9.out⟩
        · by_cases he : prtE a b = 0
          · have HE := Lib.hid he
            obtain ⟨hw, hN⟩ := prtE_zero he
            have HW := Lib.hid hw
            obtain ⟨g1, g2, g3⟩ := wit_iff.mp hw
            have hce := cur_end g1 g2
            obtain ⟨N, hNN⟩ : ∃ N, N = prtN a b := ⟨_, rfl⟩
            rw [← hNN] at hce hN
            have HN := Lib.hid hNN
            have HCE := Lib.hid hce
            clear he hw hNN hce
            go_wp2_with fail
            refine (clock_Parts a b _).mono ?_
            rintro e wp ⟨v, rfl, hin, hb⟩
            rw [prtL_ok HE.out, ← HN.out] at hin
            obtain ⟨V, cap, rfl, -, hs, -⟩ := hin.open_
            rw [partsL_length, HE.out]
            have BP := Lib.hid (bstep B2.out hb)
            have KP := Lib.hid (K2.out.on hb)
            have cp0 := (KP.out.cell (k := 0) rfl).1
            have cp1 := (KP.out.cell (k := 1) rfl).1
            have SP := Lib.hid hs
            clear hb hin hs c20 c21
            go_wp2_with fail
            clear cp0 cp1
            go_loopw [17, 18] (fun x i wr => ∃ k : Nat, k ≤ N ∧ x = .int .i64 (cur a b k) ∧ i = .int .i64 (k : Int) ∧ Below wp.heap.size wp wr) (fun _ i _ => N - (intOf i).toNat)
            case atStart => exact ⟨0, Nat.zero_le _, rfl, rfl, Below.refl _ _⟩
            case round =>
              obtain ⟨k, hk, rfl, rfl, hbel⟩ := hrel
              have HB := Lib.hid hbel
              clear hbel
              rcases Nat.lt_or_ge k N with hlt | hge
              · obtain ⟨p1, p2, p3, p4, p5, p6⟩ := part_shift HW.out (k := k) (by rw [← HN.out]; exact hlt)
                have hb1 := cur_bd g1 g2 k
                have hb2 := cur_bd g1 g2 (k + 1)
                obtain ⟨b1, off1, rfl, hlt1, h0, h1⟩ := (SP.out.on HB.out) k _ (partsL_at hlt)
                obtain ⟨x, hx⟩ : ∃ x, x = cur a b k := ⟨_, rfl⟩
                obtain ⟨y, hy⟩ : ∃ y, y = cur a b (k + 1) := ⟨_, rfl⟩
                simp only at h0 h1
                rw [← hx] at h0 hb1
                rw [← hy] at h1 hb2
                rw [← hx, ← hy] at p1 p5 p6
                rw [← hy] at p4
                rw [← hx] at p3
                rw [← hx]
                have HY := Lib.hid hy
                have P3 := Lib.hid p3
                have P4 := Lib.hid p4
                have P5 := Lib.hid p5
                have P6 := Lib.hid p6
                have d1 : decide (y ≤ x) = false := decide_eq_false (by omega)
                have i1 : (k : Int) < (N : Int) := by omega
                have i2 : (0 : Int) ≤ (k : Int) := by omega
                have wy : IntKind.i64.wrap (y - 1) = y - 1 := wrap_id (by omega) (by omega)
                clear hx hy p2 p3 p4 p5 p6
                go_wp2_with fail
                refine (clock_Shift x _).mono ?_
                rintro e w' ⟨rfl, rfl⟩
                rw [P3.out]
                go_wp2_with fail
                refine (clock_Shift (y - 1) _).mono ?_
                rintro e w' ⟨rfl, rfl⟩
                rw [P4.out, P5.out, P6.out]
                go_wp2_with fail
                go_roundw
                case rel => exact ⟨k + 1, by omega, by rw [← HY.out], by go_num, HB.out⟩
                case measure => simp [intOf]; omega
              · obtain rfl : k = N := by omega
                have BQ := Lib.hid (bstep BP.out HB.out)
                have cq1 := ((KP.out.on HB.out).cell (k := 1) rfl).1
                rw [HCE.out]
                go_wp2_with fail
                refine (awake wr (HL.out.on BQ.out)).mono ?_
                rintro e w9 ⟨rfl, hb⟩
                have B9 := Lib.hid (bstep BQ.out hb)
                clear hb
                go_wp2_with fail
                go_ret
                exact ⟨rfl, B9.out⟩
          · have e1 : (prtE a b == 0) = false := beq_false_of_ne he
            have e2 : (prtE a b != 0) = true := by rw [bne, e1]; rfl
            have HE := Lib.hid he
            clear he
            go_wp2_with fail
            refine (clock_Parts a b _).mono ?_
            rintro e wp ⟨v, rfl, hin, hb⟩
            rw [prtL_no HE.out] at hin
            obtain ⟨V, cap, rfl, -, hs, -⟩ := hin.open_
            have BP := Lib.hid (bstep B2.out hb)
            clear hb hin hs c20 c21
            go_wp2_with fail
            refine (awake wp (HL.out.on BP.out)).mono ?_
            rintro e w9 ⟨rfl, hb⟩
            have B9 := Lib.hid (bstep BP.out hb)
            clear hb
            go_wp2_with fail
            go_ret
            exact ⟨rfl, B9.out⟩
      · have d0 : decide (t ≤ 2147483647) = false := decide_eq_false (by omega)
        clear ht h2
        go_enter Tryd.func9, Tryd.ntmps9
        go_wp2_with fail
        refine (clock_Parse s _ hm (HL.out.on B0.out)).mono ?_
        rintro e w2 ⟨x, er, rfl, hp, hb⟩
        have B2 := Lib.hid (bstep B0.out hb)
        have K2 := Lib.hid (K0.out.on hb)
        have c20 := (K2.out.cell (k := 0) rfl).1
        have c21 := (K2.out.cell (k := 1) rfl).1
        clear hb
        rcases hp with ⟨rfl, hm1, hf1⟩ | ⟨rfl, rfl, -⟩
        · have hs := par_form hm1 hf1
          have q : ((fmtS x).toList == s.toList) = true := by rw [hs]; exact beq_self_eq_true _
          have HR := Lib.hid (rngE_yes hm1)
          clear hs hm1 hf1
          go_wp2_with fail
          refine (clock_Format x _ (HL.out.on B2.out)).mono ?_
          rintro e w3 ⟨rfl, hb⟩
          have B3 := Lib.hid (bstep B2.out hb)
          have K3 := Lib.hid (K2.out.on hb)
          have c30 := (K3.out.cell (k := 0) rfl).1
          have c31 := (K3.out.cell (k := 1) rfl).1
          clear hb
          clear c20 c21
          rw [HR.out]
          by_cases he : prtE a b = 0
          · have HE := Lib.hid he
            obtain ⟨hw, hN⟩ := prtE_zero he
            have HW := Lib.hid hw
            obtain ⟨g1, g2, g3⟩ := wit_iff.mp hw
            have hce := cur_end g1 g2
            obtain ⟨N, hNN⟩ : ∃ N, N = prtN a b := ⟨_, rfl⟩
            rw [← hNN] at hce hN
            have HN := Lib.hid hNN
            have HCE := Lib.hid hce
            clear he hw hNN hce
            go_wp2_with fail
            refine (clock_Parts a b _).mono ?_
            rintro e wp ⟨v, rfl, hin, hb⟩
            rw [prtL_ok HE.out, ← HN.out] at hin
            obtain ⟨V, cap, rfl, -, hs, -⟩ := hin.open_
            rw [partsL_length, HE.out]
            have BP := Lib.hid (bstep B3.out hb)
            have KP := Lib.hid (K3.out.on hb)
            have cp0 := (KP.out.cell (k := 0) rfl).1
            have cp1 := (KP.out.cell (k := 1) rfl).1
            have SP := Lib.hid hs
            clear hb hin hs c30 c31
            go_wp2_with fail
            clear cp0 cp1
            go_loopw [17, 18] (fun x i wr => ∃ k : Nat, k ≤ N ∧ x = .int .i64 (cur a b k) ∧ i = .int .i64 (k : Int) ∧ Below wp.heap.size wp wr) (fun _ i _ => N - (intOf i).toNat)
            case atStart => exact ⟨0, Nat.zero_le _, rfl, rfl, Below.refl _ _⟩
            case round =>
              obtain ⟨k, hk, rfl, rfl, hbel⟩ := hrel
              have HB := Lib.hid hbel
              clear hbel
              rcases Nat.lt_or_ge k N with hlt | hge
              · obtain ⟨p1, p2, p3, p4, p5, p6⟩ := part_shift HW.out (k := k) (by rw [← HN.out]; exact hlt)
                have hb1 := cur_bd g1 g2 k
                have hb2 := cur_bd g1 g2 (k + 1)
                obtain ⟨b1, off1, rfl, hlt1, h0, h1⟩ := (SP.out.on HB.out) k _ (partsL_at hlt)
                obtain ⟨x, hx⟩ : ∃ x, x = cur a b k := ⟨_, rfl⟩
                obtain ⟨y, hy⟩ : ∃ y, y = cur a b (k + 1) := ⟨_, rfl⟩
                simp only at h0 h1
                rw [← hx] at h0 hb1
                rw [← hy] at h1 hb2
                rw [← hx, ← hy] at p1 p5 p6
                rw [← hy] at p4
                rw [← hx] at p3
                rw [← hx]
                have HY := Lib.hid hy
                have P3 := Lib.hid p3
                have P4 := Lib.hid p4
                have P5 := Lib.hid p5
                have P6 := Lib.hid p6
                have d1 : decide (y ≤ x) = false := decide_eq_false (by omega)
                have i1 : (k : Int) < (N : Int) := by omega
                have i2 : (0 : Int) ≤ (k : Int) := by omega
                have wy : IntKind.i64.wrap (y - 1) = y - 1 := wrap_id (by omega) (by omega)
                clear hx hy p2 p3 p4 p5 p6
                go_wp2_with fail
                refine (clock_Shift x _).mono ?_
                rintro e w' ⟨rfl, rfl⟩
                rw [P3.out]
                go_wp2_with fail
                refine (clock_Shift (y - 1) _).mono ?_
                rintro e w' ⟨rfl, rfl⟩
                rw [P4.out, P5.out, P6.out]
                go_wp2_with fail
                go_roundw
                case rel => exact ⟨k + 1, by omega, by rw [← HY.out], by go_num, HB.out⟩
                case measure => simp [intOf]; omega
              · obtain rfl : k = N := by omega
                have BQ := Lib.hid (bstep BP.out HB.out)
                have cq1 := ((KP.out.on HB.out).cell (k := 1) rfl).1
                rw [HCE.out]
                go_wp2_with fail
                refine (awake wr (HL.out.on BQ.out)).mono ?_
                rintro e w9 ⟨rfl, hb⟩
                have B9 := Lib.hid (bstep BQ.out hb)
                clear hb
                go_wp2_with fail
                go_ret
                exact ⟨rfl, B9.out⟩
          · have e1 : (prtE a b == 0) = false := beq_false_of_ne he
            have e2 : (prtE a b != 0) = true := by rw [bne, e1]; rfl
            have HE := Lib.hid he
            clear he
            go_wp2_with fail
            refine (clock_Parts a b _).mono ?_
            rintro e wp ⟨v, rfl, hin, hb⟩
            rw [prtL_no HE.out] at hin
            obtain ⟨V, cap, rfl, -, hs, -⟩ := hin.open_
            have BP := Lib.hid (bstep B3.out hb)
            clear hb hin hs c30 c31
            go_wp2_with fail
            refine (awake wp (HL.out.on BP.out)).mono ?_
            rintro e w9 ⟨rfl, hb⟩
            have B9 := Lib.hid (bstep BP.out hb)
            clear hb
            go_wp2_with fail
            go_ret
            exact ⟨rfl, B9.out⟩
        · by_cases he : prtE a b = 0
          · have HE := Lib.hid he
            obtain ⟨hw, hN⟩ := prtE_zero he
            have HW := Lib.hid hw
            obtain ⟨g1, g2, g3⟩ := wit_iff.mp hw
            have hce := cur_end g1 g2
            obtain ⟨N, hNN⟩ : ∃ N, N = prtN a b := ⟨_, rfl⟩
            rw [← hNN] at hce hN
            have HN := Lib.hid hNN
            have HCE := Lib.hid hce
            clear he hw hNN hce
            go_wp2_with fail
            refine (clock_Parts a b _).mono ?_
            rintro e wp ⟨v, rfl, hin, hb⟩
            rw [prtL_ok HE.out, ← HN.out] at hin
            obtain ⟨V, cap, rfl, -, hs, -⟩ := hin.open_
            rw [partsL_length, HE.out]
            have BP := Lib.hid (bstep B2.out hb)
            have KP := Lib.hid (K2.out.on hb)
            have cp0 := (KP.out.cell (k := 0) rfl).1
            have cp1 := (KP.out.cell (k := 1) rfl).1
            have SP := Lib.hid hs
            clear hb hin hs c20 c21
            go_wp2_with fail
            clear cp0 cp1
            go_loopw [17, 18] (fun x i wr => ∃ k : Nat, k ≤ N ∧ x = .int .i64 (cur a b k) ∧ i = .int .i64 (k : Int) ∧ Below wp.heap.size wp wr) (fun _ i _ => N - (intOf i).toNat)
            case atStart => exact ⟨0, Nat.zero_le _, rfl, rfl, Below.refl _ _⟩
            case round =>
              obtain ⟨k, hk, rfl, rfl, hbel⟩ := hrel
              have HB := Lib.hid hbel
              clear hbel
              rcases Nat.lt_or_ge k N with hlt | hge
              · obtain ⟨p1, p2, p3, p4, p5, p6⟩ := part_shift HW.out (k := k) (by rw [← HN.out]; exact hlt)
                have hb1 := cur_bd g1 g2 k
                have hb2 := cur_bd g1 g2 (k + 1)
                obtain ⟨b1, off1, rfl, hlt1, h0, h1⟩ := (SP.out.on HB.out) k _ (partsL_at hlt)
                obtain ⟨x, hx⟩ : ∃ x, x = cur a b k := ⟨_, rfl⟩
                obtain ⟨y, hy⟩ : ∃ y, y = cur a b (k + 1) := ⟨_, rfl⟩
                simp only at h0 h1
                rw [← hx] at h0 hb1
                rw [← hy] at h1 hb2
                rw [← hx, ← hy] at p1 p5 p6
                rw [← hy] at p4
                rw [← hx] at p3
                rw [← hx]
                have HY := Lib.hid hy
                have P3 := Lib.hid p3
                have P4 := Lib.hid p4
                have P5 := Lib.hid p5
                have P6 := Lib.hid p6
                have d1 : decide (y ≤ x) = false := decide_eq_false (by omega)
                have i1 : (k : Int) < (N : Int) := by omega
                have i2 : (0 : Int) ≤ (k : Int) := by omega
                have wy : IntKind.i64.wrap (y - 1) = y - 1 := wrap_id (by omega) (by omega)
                clear hx hy p2 p3 p4 p5 p6
                go_wp2_with fail
                refine (clock_Shift x _).mono ?_
                rintro e w' ⟨rfl, rfl⟩
                rw [P3.out]
                go_wp2_with fail
                refine (clock_Shift (y - 1) _).mono ?_
                rintro e w' ⟨rfl, rfl⟩
                rw [P4.out, P5.out, P6.out]
                go_wp2_with fail
                go_roundw
                case rel => exact ⟨k + 1, by omega, by rw [← HY.out], by go_num, HB.out⟩
                case measure => simp [intOf]; omega
              · obtain rfl : k = N := by omega
                have BQ := Lib.hid (bstep BP.out HB.out)
                have cq1 := ((KP.out.on HB.out).cell (k := 1) rfl).1
                rw [HCE.out]
                go_wp2_with fail
                refine (awake wr (HL.out.on BQ.out)).mono ?_
                rintro e w9 ⟨rfl, hb⟩
                have B9 := Lib.hid (bstep BQ.out hb)
                clear hb
                go_wp2_with fail
                go_ret
                exact ⟨rfl, B9.out⟩
          · have e1 : (prtE a b == 0) = false := beq_false_of_ne he
            have e2 : (prtE a b != 0) = true := by rw [bne, e1]; rfl
            have HE := Lib.hid he
            clear he
            go_wp2_with fail
            refine (clock_Parts a b _).mono ?_
            rintro e wp ⟨v, rfl, hin, hb⟩
            rw [prtL_no HE.out] at hin
            obtain ⟨V, cap, rfl, -, hs, -⟩ := hin.open_
            have BP := Lib.hid (bstep B2.out hb)
            clear hb hin hs c20 c21
            go_wp2_with fail
            refine (awake wp (HL.out.on BP.out)).mono ?_
            rintro e w9 ⟨rfl, hb⟩
            have B9 := Lib.hid (bstep BP.out hb)
            clear hb
            go_wp2_with fail
            go_ret
            exact ⟨rfl, B9.out⟩
    | true =>
      obtain ⟨h1, h2⟩ := mom_iff.mp ht
      obtain ⟨F, hF⟩ : ∃ F, F = fmtS t := ⟨_, rfl⟩
      have hfs : F.size ≤ 9223372036854775807 := by have := fmtS_size ht; rw [hF]; omega
      have HPF := Lib.hid (par_fmt ht)
      rw [← hF] at HPF
      have HRT := Lib.hid (rngE_yes ht)
      have HF := Lib.hid hF
      clear ht hF
      go_enter Tryd.func9, Tryd.ntmps9
      go_wp2_with fail
      refine (clock_Format t _ (HL.out.on B0.out)).mono ?_
      rintro e w1 ⟨rfl, hb⟩
      have B1 := Lib.hid (bstep B0.out hb)
      have K1 := Lib.hid (K0.out.on hb)
      have c10 := (K1.out.cell (k := 0) rfl).1
      have c11 := (K1.out.cell (k := 1) rfl).1
      clear hb
      clear c10 c11
      rw [← HF.out, HRT.out]
      go_wp2_with fail
      refine (clock_Parse F _ hfs (HL.out.on B1.out)).mono ?_
      rintro e w4 ⟨x, er, rfl, hp, hb⟩
      have B4 := Lib.hid (bstep B1.out hb)
      have K4 := Lib.hid (K1.out.on hb)
      have c40 := (K4.out.cell (k := 0) rfl).1
      have c41 := (K4.out.cell (k := 1) rfl).1
      clear hb c40 c41
      obtain ⟨hq1, hq2⟩ := HPF.out x er hp
      subst hq1
      rw [hq2]
      clear hp hq2
      go_wp2_with fail
      refine (clock_Parse s _ hm (HL.out.on B4.out)).mono ?_
      rintro e w2 ⟨x, er, rfl, hp, hb⟩
      have B2 := Lib.hid (bstep B4.out hb)
      have K2 := Lib.hid (K4.out.on hb)
      have c20 := (K2.out.cell (k := 0) rfl).1
      have c21 := (K2.out.cell (k := 1) rfl).1
      clear hb
      rcases hp with ⟨rfl, hm1, hf1⟩ | ⟨rfl, rfl, -⟩
      · have hs := par_form hm1 hf1
        have q : ((fmtS x).toList == s.toList) = true := by rw [hs]; exact beq_self_eq_true _
        have HR := Lib.hid (rngE_yes hm1)
        clear hs hm1 hf1
        go_wp2_with fail
        refine (clock_Format x _ (HL.out.on B2.out)).mono ?_
        rintro e w3 ⟨rfl, hb⟩
        have B3 := Lib.hid (bstep B2.out hb)
        have K3 := Lib.hid (K2.out.on hb)
        have c30 := (K3.out.cell (k := 0) rfl).1
        have c31 := (K3.out.cell (k := 1) rfl).1
        clear hb
        clear c20 c21
        rw [HR.out]
        by_cases he : prtE a b = 0
        · have HE := Lib.hid he
          obtain ⟨hw, hN⟩ := prtE_zero he
          have HW := Lib.hid hw
          obtain ⟨g1, g2, g3⟩ := wit_iff.mp hw
          have hce := cur_end g1 g2
          obtain ⟨N, hNN⟩ : ∃ N, N = prtN a b := ⟨_, rfl⟩
          rw [← hNN] at hce hN
          have HN := Lib.hid hNN
          have HCE := Lib.hid hce
          clear he hw hNN hce
          go_wp2_with fail
          refine (clock_Parts a b _).mono ?_
          rintro e wp ⟨v, rfl, hin, hb⟩
          rw [prtL_ok HE.out, ← HN.out] at hin
          obtain ⟨V, cap, rfl, -, hs, -⟩ := hin.open_
          rw [partsL_length, HE.out]
          have BP := Lib.hid (bstep B3.out hb)
          have KP := Lib.hid (K3.out.on hb)
          have cp0 := (KP.out.cell (k := 0) rfl).1
          have cp1 := (KP.out.cell (k := 1) rfl).1
          have SP := Lib.hid hs
          clear hb hin hs c30 c31
          go_wp2_with fail
          clear cp0 cp1
          go_loopw [17, 18] (fun x i wr => ∃ k : Nat, k ≤ N ∧ x = .int .i64 (cur a b k) ∧ i = .int .i64 (k : Int) ∧ Below wp.heap.size wp wr) (fun _ i _ => N - (intOf i).toNat)
          case atStart => exact ⟨0, Nat.zero_le _, rfl, rfl, Below.refl _ _⟩
          case round =>
            obtain ⟨k, hk, rfl, rfl, hbel⟩ := hrel
            have HB := Lib.hid hbel
            clear hbel
            rcases Nat.lt_or_ge k N with hlt | hge
            · obtain ⟨p1, p2, p3, p4, p5, p6⟩ := part_shift HW.out (k := k) (by rw [← HN.out]; exact hlt)
              have hb1 := cur_bd g1 g2 k
              have hb2 := cur_bd g1 g2 (k + 1)
              obtain ⟨b1, off1, rfl, hlt1, h0, h1⟩ := (SP.out.on HB.out) k _ (partsL_at hlt)
              obtain ⟨x, hx⟩ : ∃ x, x = cur a b k := ⟨_, rfl⟩
              obtain ⟨y, hy⟩ : ∃ y, y = cur a b (k + 1) := ⟨_, rfl⟩
              simp only at h0 h1
              rw [← hx] at h0 hb1
              rw [← hy] at h1 hb2
              rw [← hx, ← hy] at p1 p5 p6
              rw [← hy] at p4
              rw [← hx] at p3
              rw [← hx]
              have HY := Lib.hid hy
              have P3 := Lib.hid p3
              have P4 := Lib.hid p4
              have P5 := Lib.hid p5
              have P6 := Lib.hid p6
              have d1 : decide (y ≤ x) = false := decide_eq_false (by omega)
              have i1 : (k : Int) < (N : Int) := by omega
              have i2 : (0 : Int) ≤ (k : Int) := by omega
              have wy : IntKind.i64.wrap (y - 1) = y - 1 := wrap_id (by omega) (by omega)
              clear hx hy p2 p3 p4 p5 p6
              go_wp2_with fail
              refine (clock_Shift x _).mono ?_
              rintro e w' ⟨rfl, rfl⟩
              rw [P3.out]
              go_wp2_with fail
              refine (clock_Shift (y - 1) _).mono ?_
              rintro e w' ⟨rfl, rfl⟩
              rw [P4.out, P5.out, P6.out]
              go_wp2_with fail
              go_roundw
              case rel => exact ⟨k + 1, by omega, by rw [← HY.out], by go_num, HB.out⟩
              case measure => simp [intOf]; omega
            · obtain rfl : k = N := by omega
              have BQ := Lib.hid (bstep BP.out HB.out)
              have cq1 := ((KP.out.on HB.out).cell (k := 1) rfl).1
              rw [HCE.out]
              go_wp2_with fail
              refine (awake wr (HL.out.on BQ.out)).mono ?_
              rintro e w9 ⟨rfl, hb⟩
              have B9 := Lib.hid (bstep BQ.out hb)
              clear hb
              go_wp2_with fail
              go_ret
              exact ⟨rfl, B9.out⟩
        · have e1 : (prtE a b == 0) = false := beq_false_of_ne he
          have e2 : (prtE a b != 0) = true := by rw [bne, e1]; rfl
          have HE := Lib.hid he
          clear he
          go_wp2_with fail
          refine (clock_Parts a b _).mono ?_
          rintro e wp ⟨v, rfl, hin, hb⟩
          rw [prtL_no HE.out] at hin
          obtain ⟨V, cap, rfl, -, hs, -⟩ := hin.open_
          have BP := Lib.hid (bstep B3.out hb)
          clear hb hin hs c30 c31
          go_wp2_with fail
          refine (awake wp (HL.out.on BP.out)).mono ?_
          rintro e w9 ⟨rfl, hb⟩
          have B9 := Lib.hid (bstep BP.out hb)
          clear hb
          go_wp2_with fail
          go_ret
          exact ⟨rfl, B9.out⟩
      · by_cases he : prtE a b = 0
        · have HE := Lib.hid he
          obtain ⟨hw, hN⟩ := prtE_zero he
          have HW := Lib.hid hw
          obtain ⟨g1, g2, g3⟩ := wit_iff.mp hw
          have hce := cur_end g1 g2
          obtain ⟨N, hNN⟩ : ∃ N, N = prtN a b := ⟨_, rfl⟩
          rw [← hNN] at hce hN
          have HN := Lib.hid hNN
          have HCE := Lib.hid hce
          clear he hw hNN hce
          go_wp2_with fail
          refine (clock_Parts a b _).mono ?_
          rintro e wp ⟨v, rfl, hin, hb⟩
          rw [prtL_ok HE.out, ← HN.out] at hin
          obtain ⟨V, cap, rfl, -, hs, -⟩ := hin.open_
          rw [partsL_length, HE.out]
          have BP := Lib.hid (bstep B2.out hb)
          have KP := Lib.hid (K2.out.on hb)
          have cp0 := (KP.out.cell (k := 0) rfl).1
          have cp1 := (KP.out.cell (k := 1) rfl).1
          have SP := Lib.hid hs
          clear hb hin hs c20 c21
          go_wp2_with fail
          clear cp0 cp1
          go_loopw [17, 18] (fun x i wr => ∃ k : Nat, k ≤ N ∧ x = .int .i64 (cur a b k) ∧ i = .int .i64 (k : Int) ∧ Below wp.heap.size wp wr) (fun _ i _ => N - (intOf i).toNat)
          case atStart => exact ⟨0, Nat.zero_le _, rfl, rfl, Below.refl _ _⟩
          case round =>
            obtain ⟨k, hk, rfl, rfl, hbel⟩ := hrel
            have HB := Lib.hid hbel
            clear hbel
            rcases Nat.lt_or_ge k N with hlt | hge
            · obtain ⟨p1, p2, p3, p4, p5, p6⟩ := part_shift HW.out (k := k) (by rw [← HN.out]; exact hlt)
              have hb1 := cur_bd g1 g2 k
              have hb2 := cur_bd g1 g2 (k + 1)
              obtain ⟨b1, off1, rfl, hlt1, h0, h1⟩ := (SP.out.on HB.out) k _ (partsL_at hlt)
              obtain ⟨x, hx⟩ : ∃ x, x = cur a b k := ⟨_, rfl⟩
              obtain ⟨y, hy⟩ : ∃ y, y = cur a b (k + 1) := ⟨_, rfl⟩
              simp only at h0 h1
              rw [← hx] at h0 hb1
              rw [← hy] at h1 hb2
              rw [← hx, ← hy] at p1 p5 p6
              rw [← hy] at p4
              rw [← hx] at p3
              rw [← hx]
              have HY := Lib.hid hy
              have P3 := Lib.hid p3
              have P4 := Lib.hid p4
              have P5 := Lib.hid p5
              have P6 := Lib.hid p6
              have d1 : decide (y ≤ x) = false := decide_eq_false (by omega)
              have i1 : (k : Int) < (N : Int) := by omega
              have i2 : (0 : Int) ≤ (k : Int) := by omega
              have wy : IntKind.i64.wrap (y - 1) = y - 1 := wrap_id (by omega) (by omega)
              clear hx hy p2 p3 p4 p5 p6
              go_wp2_with fail
              refine (clock_Shift x _).mono ?_
              rintro e w' ⟨rfl, rfl⟩
              rw [P3.out]
              go_wp2_with fail
              refine (clock_Shift (y - 1) _).mono ?_
              rintro e w' ⟨rfl, rfl⟩
              rw [P4.out, P5.out, P6.out]
              go_wp2_with fail
              go_roundw
              case rel => exact ⟨k + 1, by omega, by rw [← HY.out], by go_num, HB.out⟩
              case measure => simp [intOf]; omega
            · obtain rfl : k = N := by omega
              have BQ := Lib.hid (bstep BP.out HB.out)
              have cq1 := ((KP.out.on HB.out).cell (k := 1) rfl).1
              rw [HCE.out]
              go_wp2_with fail
              refine (awake wr (HL.out.on BQ.out)).mono ?_
              rintro e w9 ⟨rfl, hb⟩
              have B9 := Lib.hid (bstep BQ.out hb)
              clear hb
              go_wp2_with fail
              go_ret
              exact ⟨rfl, B9.out⟩
        · have e1 : (prtE a b == 0) = false := beq_false_of_ne he
          have e2 : (prtE a b != 0) = true := by rw [bne, e1]; rfl
          have HE := Lib.hid he
          clear he
          go_wp2_with fail
          refine (clock_Parts a b _).mono ?_
          rintro e wp ⟨v, rfl, hin, hb⟩
          rw [prtL_no HE.out] at hin
          obtain ⟨V, cap, rfl, -, hs, -⟩ := hin.open_
          have BP := Lib.hid (bstep B2.out hb)
          clear hb hin hs c20 c21
          go_wp2_with fail
          refine (awake wp (HL.out.on BP.out)).mono ?_
          rintro e w9 ⟨rfl, hb⟩
          have B9 := Lib.hid (bstep BP.out hb)
          clear hb
          go_wp2_with fail
          go_ret
          exact ⟨rfl, B9.out⟩
#print axioms walk_ClockRoundTrip
end Go.Proofs.YtngjdclcnocmfaaDoor.Clock
