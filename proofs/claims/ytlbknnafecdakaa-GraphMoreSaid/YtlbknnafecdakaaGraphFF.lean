/- Check, Order, Cycle, Reach. -/
import Derived.Test.YtlbknnafecdakaaGraphEE
namespace Go.Proofs.Ytlbknnafecdakaa.Graph
open Go.ChangeShapes Go.WideShapes Go.RowKit Go.Lib
set_option linter.unusedVariables false
set_option maxRecDepth 100000

theorem great_at (n : Int) (zs : List Pr) (A : Option Addr) (c : Nat) (w : World) (hm : zs.length ≤ 9223372036854775807) :
    Calls Try.prog 12 #[.agg #[.int .i64 n, .slice A zs.length c]] w fun e w' => e = .returned (.bool (decide (600 < (zs.length : Int)))) ∧ Below w.heap.size w w' := by
  go_enter Try.func12, Try.ntmps12
  go_wp2_with fail
  go_ret
  exact ⟨rfl, below_alloc _ _⟩

theorem bx_off {w w' : World} {g : Nat} {n : Int} {A : Option Addr} {m c : Nat} {v : World} (h : Bx w g n A m c ∧ Below v.heap.size v w) (hb : Below w.heap.size w w') : Bx w' g n A m c ∧ Below v.heap.size v w' := ⟨h.1.on hb, bstep h.2 hb⟩

set_option maxHeartbeats 1600000 in
theorem walk_GraphChecks (n : Int) (zs : List Pr) (A : Option Addr) (c : Nat) (w : World) (ha : Ars w A zs) (hm : zs.length ≤ 9223372036854775807) :
    Calls Try.prog 3 #[.agg #[.int .i64 n, .slice A zs.length c]] w fun e w' => e = .returned (.bool true) ∧ Below w.heap.size w w' := by
  have HA := Lib.hid ha
  clear ha
  go_enter Try.func3, Try.ntmps3
  go_upto_region 1 with fail
  obtain ⟨w1, hw1⟩ : ∃ W, w.alloc (.cells #[.int .i64 n, .slice A zs.length c] 24) = W := ⟨_, rfl⟩
  have HX1 : Hid (Bx w1 w.heap.size n A zs.length c) := hw1 ▸ Bx.new _ _ _ _ _ _
  have HB1 : Hid (Below w.heap.size w w1) := hw1 ▸ below_alloc _ _
  rw [hw1]
  clear hw1
  obtain ⟨_, x0, x1⟩ := HX1.out
  go_wp2_with fail
  refine (great_at n zs A c w1 hm).mono ?_
  rintro e w2 ⟨rfl, hb2⟩
  have hk2 := bx_off ⟨HX1.out, HB1.out⟩ hb2
  clear hb2 x0 x1
  cases hgr : decide (600 < (zs.length : Int)) with
  | true =>
    go_wp2_with fail
    refine (awake_true w2).mono ?_
    rintro e w3 ⟨rfl, hb3⟩
    go_wp2_with fail
    go_ret
    exact ⟨rfl, bstep hk2.2 hb3⟩
  | false =>
    obtain ⟨E, hE⟩ : ∃ E, chkE n zs = E := ⟨_, rfl⟩
    have HC1 : Hid (∀ W, Bx W w.heap.size n A zs.length c ∧ Below w.heap.size w W → Calls Try.prog 14 #[.agg #[.int .i64 n, .slice A zs.length c]] W fun e w' => e = .returned (.int .i64 E) ∧ Below W.heap.size W w') := Lib.hid fun W h => hE ▸ graph_Check n zs A c W (HA.out.on h.2) hm
    have HC2 : Hid (∀ W, Bx W w.heap.size n A zs.length c ∧ Below w.heap.size w W → Calls Try.prog 15 #[.agg #[.int .i64 n, .slice A zs.length c]] W fun e w' => e = .returned (.int .i64 E) ∧ Below W.heap.size W w') := Lib.hid fun W h => hE ▸ ref_Check n zs A c W (HA.out.on h.2) hm
    have HC3 : Hid (∀ W, Bx W w.heap.size n A zs.length c ∧ Below w.heap.size w W → Calls Try.prog 13 #[] W fun e w' => e = .returned (.bool true) ∧ Below W.heap.size W w') := Lib.hid fun W h => awake_true W
    have hkd : Bx w2.drew w.heap.size n A zs.length c ∧ Below w.heap.size w w2.drew := bx_off hk2 (Below.refl _ _).drew
    obtain ⟨_, x0, x1⟩ := hk2.1
    clear hE HX1 HB1 HA
    go_upto_region 3 with fail
    go_region_with (first
      | (go_at_call 14; first | ((with_reducible refine (HC1.out _ hkd).mono ?_); rintro e w3 ⟨rfl, hb3⟩; have hk3 := bx_off hkd hb3; obtain ⟨_, y0, y1⟩ := hk3.1) | ((with_reducible refine (HC1.out _ hk3).mono ?_); rintro e w4 ⟨rfl, hb4⟩; have hk4 := bx_off hk3 hb4))
      | (go_at_call 15; first | ((with_reducible refine (HC2.out _ hkd).mono ?_); rintro e w3 ⟨rfl, hb3⟩; have hk3 := bx_off hkd hb3; obtain ⟨_, y0, y1⟩ := hk3.1) | ((with_reducible refine (HC2.out _ hk3).mono ?_); rintro e w4 ⟨rfl, hb4⟩; have hk4 := bx_off hk3 hb4))
      | (go_at_call 13; (with_reducible refine (HC3.out _ hk4).mono ?_); rintro e w5 ⟨rfl, hb5⟩; have hk5 := bx_off hk4 hb5))
    all_goals
      go_wp2_with fail
      go_ret
      exact ⟨rfl, hk5.2⟩

set_option maxHeartbeats 1600000 in
theorem walk_GraphOrders (n : Int) (zs : List Pr) (A : Option Addr) (c : Nat) (w : World) (ha : Ars w A zs) (hm : zs.length ≤ 9223372036854775807) :
    Calls Try.prog 4 #[.agg #[.int .i64 n, .slice A zs.length c]] w fun e w' => e = .returned (.bool true) ∧ Below w.heap.size w w' := by
  have HA := Lib.hid ha
  clear ha
  go_enter Try.func4, Try.ntmps4
  go_upto_region 1 with fail
  obtain ⟨w1, hw1⟩ : ∃ W, w.alloc (.cells #[.int .i64 n, .slice A zs.length c] 24) = W := ⟨_, rfl⟩
  have HX1 : Hid (Bx w1 w.heap.size n A zs.length c) := hw1 ▸ Bx.new _ _ _ _ _ _
  have HB1 : Hid (Below w.heap.size w w1) := hw1 ▸ below_alloc _ _
  rw [hw1]
  clear hw1
  obtain ⟨_, x0, x1⟩ := HX1.out
  go_wp2_with fail
  refine (great_at n zs A c w1 hm).mono ?_
  rintro e w2 ⟨rfl, hb2⟩
  have HK2 := Lib.hid (bx_off ⟨HX1.out, HB1.out⟩ hb2)
  clear hb2 x0 x1 HX1 HB1
  cases hgr : decide (600 < (zs.length : Int)) with
  | true =>
    go_wp2_with fail
    refine (awake_true w2).mono ?_
    rintro e w3 ⟨rfl, hb3⟩
    go_wp2_with fail
    go_ret
    exact ⟨rfl, bstep HK2.out.2 hb3⟩
  | false =>
    obtain ⟨_, x0, x1⟩ := HK2.out.1
    go_wp2_with fail
    refine (graph_Order n zs A c w2 (HA.out.on HK2.out.2) hm).mono ?_
    rintro e w3 ⟨A3, c3, l, E, rfl, hl, hP, hc, hb3⟩
    have HK3 := Lib.hid (bx_off HK2.out hb3)
    have HP := Lib.hid hP
    have HL := Lib.hid hl
    have HC := Lib.hid hc
    clear hP hl hc hb3 x0 x1
    obtain ⟨_, x0, x1⟩ := HK3.out.1
    go_wp2_with fail
    refine (ref_Order n zs A c w3 (HA.out.on HK3.out.2) hm).mono ?_
    rintro e w4 ⟨A4, c4, l', E', rfl, _, hP, hc, hb4⟩
    obtain ⟨rfl, rfl⟩ := OrdP.one hP HP.out
    have HK4 := Lib.hid (bx_off HK3.out hb4)
    have HD := Lib.hid hc
    have HC' := Lib.hid (HC.out.on hb4)
    clear hP hc hb4 x0 x1 HC
    have HI := Lib.hid (ref_Ints _ _ A3 A4 c3 c4 w4 HC'.out HD.out (Nat.le_trans HL.out (by omega)) (Nat.le_trans HL.out (by omega)))
    rw [decide_eq_true (rfl : l' = l')] at HI
    go_wp2_with fail
    refine HI.out.mono ?_
    rintro e w5 ⟨rfl, hb5⟩
    have HK5 := Lib.hid (bx_off HK4.out hb5)
    clear hb5
    go_wp2_with fail
    refine (awake_true w5).mono ?_
    rintro e w6 ⟨rfl, hb6⟩
    go_wp2_with fail
    go_ret
    exact ⟨rfl, bstep HK5.out.2 hb6⟩

set_option maxHeartbeats 1600000 in
theorem walk_GraphCycles (n : Int) (zs : List Pr) (A : Option Addr) (c : Nat) (w : World) (ha : Ars w A zs) (hm : zs.length ≤ 9223372036854775807) :
    Calls Try.prog 5 #[.agg #[.int .i64 n, .slice A zs.length c]] w fun e w' => e = .returned (.bool true) ∧ Below w.heap.size w w' := by
  have HA := Lib.hid ha
  clear ha
  go_enter Try.func5, Try.ntmps5
  go_upto_region 1 with fail
  obtain ⟨w1, hw1⟩ : ∃ W, w.alloc (.cells #[.int .i64 n, .slice A zs.length c] 24) = W := ⟨_, rfl⟩
  have HX1 : Hid (Bx w1 w.heap.size n A zs.length c) := hw1 ▸ Bx.new _ _ _ _ _ _
  have HB1 : Hid (Below w.heap.size w w1) := hw1 ▸ below_alloc _ _
  rw [hw1]
  clear hw1
  obtain ⟨_, x0, x1⟩ := HX1.out
  go_wp2_with fail
  refine (great_at n zs A c w1 hm).mono ?_
  rintro e w2 ⟨rfl, hb2⟩
  have HK2 := Lib.hid (bx_off ⟨HX1.out, HB1.out⟩ hb2)
  clear hb2 x0 x1 HX1 HB1
  cases hgr : decide (600 < (zs.length : Int)) with
  | true =>
    go_wp2_with fail
    refine (awake_true w2).mono ?_
    rintro e w3 ⟨rfl, hb3⟩
    go_wp2_with fail
    go_ret
    exact ⟨rfl, bstep HK2.out.2 hb3⟩
  | false =>
    obtain ⟨_, x0, x1⟩ := HK2.out.1
    go_wp2_with fail
    refine (graph_Cycle n zs A c w2 (HA.out.on HK2.out.2) hm).mono ?_
    rintro e w3 ⟨A3, c3, l, E, rfl, hl, hP, hc, hb3⟩
    have HK3 := Lib.hid (bx_off HK2.out hb3)
    have HP := Lib.hid hP
    have HL := Lib.hid hl
    have HC := Lib.hid hc
    clear hP hl hc hb3 x0 x1
    obtain ⟨_, x0, x1⟩ := HK3.out.1
    go_wp2_with fail
    refine (ref_Cycle n zs A c w3 (HA.out.on HK3.out.2) hm).mono ?_
    rintro e w4 ⟨A4, c4, l', E', rfl, _, hP, hc, hb4⟩
    obtain ⟨rfl, rfl⟩ := CycP.one hP HP.out
    have HK4 := Lib.hid (bx_off HK3.out hb4)
    have HD := Lib.hid hc
    have HC' := Lib.hid (HC.out.on hb4)
    clear hP hc hb4 x0 x1 HC
    have HI := Lib.hid (ref_Ints _ _ A3 A4 c3 c4 w4 HC'.out HD.out (Nat.le_trans HL.out (by omega)) (Nat.le_trans HL.out (by omega)))
    rw [decide_eq_true (rfl : l' = l')] at HI
    go_wp2_with fail
    refine HI.out.mono ?_
    rintro e w5 ⟨rfl, hb5⟩
    have HK5 := Lib.hid (bx_off HK4.out hb5)
    clear hb5
    go_wp2_with fail
    refine (awake_true w5).mono ?_
    rintro e w6 ⟨rfl, hb6⟩
    go_wp2_with fail
    go_ret
    exact ⟨rfl, bstep HK5.out.2 hb6⟩

set_option maxHeartbeats 1600000 in
theorem walk_GraphReaches (n : Int) (zs : List Pr) (s : Int) (A : Option Addr) (c : Nat) (w : World) (ha : Ars w A zs) (hm : zs.length ≤ 9223372036854775807) :
    Calls Try.prog 6 #[.agg #[.int .i64 n, .slice A zs.length c], .int .i64 s] w fun e w' => e = .returned (.bool true) ∧ Below w.heap.size w w' := by
  have HA := Lib.hid ha
  clear ha
  go_enter Try.func6, Try.ntmps6
  go_upto_region 1 with fail
  obtain ⟨w1, hw1⟩ : ∃ W, w.alloc (.cells #[.int .i64 n, .slice A zs.length c] 24) = W := ⟨_, rfl⟩
  have HX1 : Hid (Bx w1 w.heap.size n A zs.length c) := hw1 ▸ Bx.new _ _ _ _ _ _
  have HB1 : Hid (Below w.heap.size w w1) := hw1 ▸ below_alloc _ _
  rw [hw1]
  clear hw1
  obtain ⟨_, x0, x1⟩ := HX1.out
  go_wp2_with fail
  refine (great_at n zs A c w1 hm).mono ?_
  rintro e w2 ⟨rfl, hb2⟩
  have HK2 := Lib.hid (bx_off ⟨HX1.out, HB1.out⟩ hb2)
  clear hb2 x0 x1 HX1 HB1
  cases hgr : decide (600 < (zs.length : Int)) with
  | true =>
    go_wp2_with fail
    refine (awake_true w2).mono ?_
    rintro e w3 ⟨rfl, hb3⟩
    go_wp2_with fail
    go_ret
    exact ⟨rfl, bstep HK2.out.2 hb3⟩
  | false =>
    obtain ⟨_, x0, x1⟩ := HK2.out.1
    go_wp2_with fail
    refine (graph_Reach n zs s A c w2 (HA.out.on HK2.out.2) hm).mono ?_
    rintro e w3 ⟨A3, c3, l, E, rfl, hl, hP, hc, hb3⟩
    have HK3 := Lib.hid (bx_off HK2.out hb3)
    have HP := Lib.hid hP
    have HL := Lib.hid hl
    have HC := Lib.hid hc
    clear hP hl hc hb3 x0 x1
    obtain ⟨_, x0, x1⟩ := HK3.out.1
    go_wp2_with fail
    refine (ref_Reach n zs s A c w3 (HA.out.on HK3.out.2) hm).mono ?_
    rintro e w4 ⟨A4, c4, l', E', rfl, _, hP, hc, hb4⟩
    obtain ⟨rfl, rfl⟩ := RchP.one hP HP.out
    have HK4 := Lib.hid (bx_off HK3.out hb4)
    have HD := Lib.hid hc
    have HC' := Lib.hid (HC.out.on hb4)
    clear hP hc hb4 x0 x1 HC
    have HI := Lib.hid (ref_Bools _ _ A3 A4 c3 c4 w4 HC'.out HD.out (Nat.le_trans HL.out (by omega)) (Nat.le_trans HL.out (by omega)))
    rw [decide_eq_true (rfl : l' = l')] at HI
    go_wp2_with fail
    refine HI.out.mono ?_
    rintro e w5 ⟨rfl, hb5⟩
    have HK5 := Lib.hid (bx_off HK4.out hb5)
    clear hb5
    go_wp2_with fail
    refine (awake_true w5).mono ?_
    rintro e w6 ⟨rfl, hb6⟩
    go_wp2_with fail
    go_ret
    exact ⟨rfl, bstep HK5.out.2 hb6⟩

end Go.Proofs.Ytlbknnafecdakaa.Graph
