/- Levels and Reverse. -/
import Derived.Test.YtlbknnafecdakaaGraphFF
import Derived.Test.YtlbknnafecdakaaGraphR
namespace Go.Proofs.Ytlbknnafecdakaa.Graph
open Go.ChangeShapes Go.WideShapes Go.RowKit Go.Lib
set_option linter.unusedVariables false
set_option maxRecDepth 100000

/-- a Reverse's answer, whichever way. -/
theorem rv_any {n : Int} {L : List Pr} {w : World} {e : Ending} {w' : World} (h : RvR n L w e w') :
    ∃ m M A c, (m = (if chkE n L = 0 then n else 0) ∧ M = (if chkE n L = 0 then swp L else [])) ∧ e = .returned (.tuple #[.agg #[.int .i64 m, .slice A M.length c], .int .i64 (chkE n L)]) ∧ M.length ≤ 512 ∧ Ars w' A M ∧ Below w.heap.size w w' := by
  rcases h with ⟨hz, ⟨A, c, rfl, _, _, ha⟩, hb⟩ | ⟨hz, rfl, hb⟩
  · exact ⟨n, swp L, A, c, by rw [if_pos hz, if_pos hz]; exact ⟨rfl, rfl⟩, by rw [swp_len, hz], by rw [swp_len]; exact chk_len hz, ha, hb⟩
  · exact ⟨0, [], none, 0, by rw [if_neg hz, if_neg hz]; exact ⟨rfl, rfl⟩, rfl, by simp, fun k s h => by simp at h, hb⟩

set_option maxHeartbeats 3200000 in
theorem walk_GraphLevels (n : Int) (zs : List Pr) (A : Option Addr) (c : Nat) (w : World) (ha : Ars w A zs) (hm : zs.length ≤ 9223372036854775807) :
    Calls Try.prog 7 #[.agg #[.int .i64 n, .slice A zs.length c]] w fun e w' => e = .returned (.bool true) ∧ Below w.heap.size w w' := by
  have HA := Lib.hid ha
  clear ha
  go_enter Try.func7, Try.ntmps7
  go_upto_region 1 with fail
  obtain ⟨w1, hw1⟩ : ∃ W, w.alloc (.cells #[.int .i64 n, .slice A zs.length c] 24) = W := ⟨_, rfl⟩
  have HX1 : Hid (Bx w1 w.heap.size n A zs.length c) := hw1 ▸ Bx.new _ _ _ _ _ _
  have HB1 : Hid (Below w.heap.size w w1) := hw1 ▸ below_alloc _ _
  rw [hw1]
  clear hw1
  obtain ⟨_, x0, x1⟩ := HX1.out
  go_wp2_with fail
  refine (great_at n zs A c w1 hm).mono ?_
  rintro e w2 ⟨rfl, hb2⟩
  have HK2 := Lib.hid (bx_off ⟨HX1.out, HB1.out⟩ hb2)
  clear hb2 x0 x1 HX1 HB1
  cases hgr : decide (600 < (zs.length : Int)) with
  | true =>
    go_wp2_with fail
    refine (awake_true w2).mono ?_
    rintro e w3 ⟨rfl, hb3⟩
    go_wp2_with fail
    go_ret
    exact ⟨rfl, bstep HK2.out.2 hb3⟩
  | false =>
    obtain ⟨_, x0, x1⟩ := HK2.out.1
    go_wp2_with fail
    refine (graph_Levels n zs A c w2 (HA.out.on HK2.out.2) hm).mono ?_
    rintro e w3 ⟨A3, c3, l, E, rfl, hl, hP, hc, hb3⟩
    have HK3 := Lib.hid (bx_off HK2.out hb3)
    have HP := Lib.hid hP
    have HL := Lib.hid hl
    have HC := Lib.hid hc
    clear hP hl hc hb3 x0 x1
    obtain ⟨_, x0, x1⟩ := HK3.out.1
    go_wp2_with fail
    refine (ref_Levels n zs A c w3 (HA.out.on HK3.out.2) hm).mono ?_
    rintro e w4 ⟨A4, c4, l', E', rfl, _, hP, hc, hb4⟩
    obtain ⟨rfl, rfl⟩ := LevP.one hP HP.out
    have HK4 := Lib.hid (bx_off HK3.out hb4)
    have HD := Lib.hid hc
    have HC' := Lib.hid (HC.out.on hb4)
    clear hP hc hb4 x0 x1 HC
    have HL4 := Lib.hid (HL.out)
    obtain ⟨N4, hN4⟩ : ∃ N4, l'.length = N4 := ⟨_, rfl⟩
    have HI0 : Hid (∀ W, Below w4.heap.size w4 W → Calls Try.prog 18 #[.slice A3 l'.length c3, .slice A4 l'.length c4] W fun e w' => e = .returned (.bool true) ∧ Below W.heap.size W w') := Lib.hid fun W hW => by
      have := ref_Ints _ _ A3 A4 c3 c4 W (HC'.out.on hW) (HD.out.on hW) (Nat.le_trans HL.out (by omega)) (Nat.le_trans HL.out (by omega))
      rw [decide_eq_true (rfl : l' = l')] at this
      exact this
    rw [hN4] at HI0
    rw [hN4]
    clear hN4 HL HL4 HC' HD HP
    obtain ⟨_, x0, x1⟩ := HK4.out.1
    go_wp2_with fail
    refine (graph_Reverse n zs A c w4 (HA.out.on HK4.out.2) hm).mono ?_
    intro e w5 hr5
    obtain ⟨m, M, A5, c5, hM, rfl, hM5, k5, b5⟩ := rv_any hr5
    have HK5 := Lib.hid (bx_off HK4.out b5)
    have K5 := Lib.hid k5
    have HM := Lib.hid hM
    have HM5 := Lib.hid hM5
    obtain ⟨E5, hE5⟩ : ∃ E, chkE n zs = E := ⟨_, rfl⟩
    have HE5 := Lib.hid hE5
    have BW5 := Lib.hid b5
    obtain ⟨q, hq⟩ : ∃ q, M.length = q := ⟨_, rfl⟩
    have HQ := Lib.hid hq
    rw [hE5, hq]
    clear hr5 k5 b5 hM hM5 x0 x1 hE5 hq
    go_upto_region 6 with fail
    have BX := Bx.new w5 m A5 q c5 24
    have BQ := below_alloc w5 (.cells #[.int .i64 m, .slice A5 q c5] 24)
    obtain ⟨w6, hw6⟩ : ∃ W, w5.alloc (.cells #[.int .i64 m, .slice A5 q c5] 24) = W := ⟨_, rfl⟩
    have BX6 := Lib.hid (hw6 ▸ BX)
    have BW6 := Lib.hid (hw6 ▸ BQ)
    rw [hw6]
    clear hw6 BX BQ
    have HK6 := Lib.hid (bx_off HK5.out BW6.out)
    obtain ⟨_, x0, x1⟩ := HK6.out.1
    go_wp2_with fail
    refine (ref_Reverse n zs A c w6 (HA.out.on HK6.out.2) hm).mono ?_
    intro e w7 hr7
    obtain ⟨m', M', A7, c7, hM', rfl, hM7, k7, b7⟩ := rv_any hr7
    obtain rfl : m' = m := hM'.1.trans HM.out.1.symm
    obtain rfl : M' = M := hM'.2.trans HM.out.2.symm
    rw [HE5.out, HQ.out]
    have HK7 := Lib.hid (bx_off HK6.out b7)
    have K7 := Lib.hid k7
    have BW7 := Lib.hid b7
    clear hr7 k7 b7 hM' hM7 x0 x1
    go_upto_region 7 with fail
    have BX := Bx.new w7 m' A7 q c7 24
    have BQ := below_alloc w7 (.cells #[.int .i64 m', .slice A7 q c7] 24)
    obtain ⟨w8, hw8⟩ : ∃ W, w7.alloc (.cells #[.int .i64 m', .slice A7 q c7] 24) = W := ⟨_, rfl⟩
    have BX8 := Lib.hid (hw8 ▸ BX)
    have BW8 := Lib.hid (hw8 ▸ BQ)
    rw [hw8]
    clear hw8 BX BQ
    have HK8 := Lib.hid (bx_off HK7.out BW8.out)
    go_wp2_with fail
    refine (HI0.out w8 (bstep (bstep BW5.out BW6.out) (bstep BW7.out BW8.out))).mono ?_
    rintro e w9 ⟨rfl, b9⟩
    have HK9 := Lib.hid (bx_off HK8.out b9)
    have B6 := Lib.hid (BX6.out.on (bstep BW7.out (bstep BW8.out b9)))
    have B8 := Lib.hid (BX8.out.on b9)
    have HS := ref_Same m' m' M' M' A5 A7 c5 c7 w9 (K5.out.on (bstep BW6.out (bstep BW7.out (bstep BW8.out b9)))) (K7.out.on (bstep BW8.out b9)) (Nat.le_trans HM5.out (by omega)) (Nat.le_trans HM5.out (by omega))
    rw [HQ.out, decide_eq_true (⟨rfl, rfl⟩ : m' = m' ∧ M' = M')] at HS
    have HS := Lib.hid HS
    clear b9
    obtain ⟨_, x0, x1⟩ := B6.out
    obtain ⟨_, y0, y1⟩ := B8.out
    go_wp2_with fail
    refine HS.out.mono ?_
    rintro e w10 ⟨rfl, b10⟩
    have HK10 := Lib.hid (bx_off HK9.out b10)
    clear x0 x1 y0 y1 b10
    go_wp2_with fail
    refine (awake_true w10).mono ?_
    rintro e w11 ⟨rfl, b11⟩
    go_wp2_with fail
    go_ret
    exact ⟨rfl, bstep HK10.out.2 b11⟩

end Go.Proofs.Ytlbknnafecdakaa.Graph
