/- The walk of PqueuePlays (gen11/ak.py). -/
import Derived.Test.YtkgmfdmgaloaoaaPqueueAJ
namespace Go.Proofs.Ytkgmfdmgaloaoaa.PqueueI
open Go.ChangeShapes Go.WideShapes Go.RowKit Go.Lib Go.Proofs.Ytkgmfdmgaloaoaa.Pqueue
set_option linter.unusedVariables false
set_option maxRecDepth 100000

theorem rd_act {w : World} {A : Option Addr} {L : List At} (h : Rd cA 3 w A L) {k : Nat} {a : At} (ha : L[k]? = some a) : ∃ b off, A = some ⟨b, off, none⟩ ∧ b < w.heap.size ∧
    w.cell? ⟨b, off + k * 3, none⟩ = some (.int .i64 a.1) ∧ w.cell? ⟨b, off + k * 3 + 1, none⟩ = some (.int .i64 a.2.1) ∧ w.cell? ⟨b, off + k * 3 + 2, none⟩ = some (.int .i64 a.2.2) := by
  obtain ⟨b, off, e, hb, hc⟩ := h k a ha
  exact ⟨b, off, e, hb, hc 0 _ rfl, hc 1 _ rfl, hc 2 _ rfl⟩
theorem quiet_len {w : World} {B g h n p q : Nat} {m : Int} {R T : List It} (H : Half w B g h n m R T p) (hq : R.length = q) (i : Nat) :
    Calls Try.prog 19 #[.pointer (some ⟨g, 0, none⟩)] (w.drewN i) fun e w' => e = .returned (.int .i64 (q : Int)) ∧ w' = w.drewN i :=
  (half_len (H.on (below_drewN (Below.refl _ _) i))).mono fun _ _ ⟨h1, h2⟩ => ⟨by rw [h1, hq], h2.symm⟩
set_option maxHeartbeats 6400000 in
theorem walk_PqueuePlays (w : World) (m : Int) (A : Option Addr) (c : Nat) (L : List At) (hs : Rd cA 3 w A L) (hl : L.length ≤ c) (hc : c ≤ maxLen) :
    Calls Try.prog 3 #[.int .i64 m, .slice A L.length c] w fun e w' => e = .returned (.bool true) ∧ Below w.heap.size w w' := by
  have HS := Lib.hid hs
  have hm9 : L.length ≤ 9223372036854775807 := by unfold maxLen at hc; omega
  obtain ⟨N, hN⟩ : ∃ N, L.length = N := ⟨_, rfl⟩
  have HN := Lib.hid hN
  rw [hN] at hm9 ⊢
  clear hs hc hl hN
  rcases Nat.lt_or_ge 200 N with hg | hg
  · go_enter Try.func3, Try.ntmps3
    go_wp2_with fail
    refine (awake_true w).mono ?_
    rintro e w1 ⟨rfl, hb⟩
    have HB := Lib.hid hb
    clear hb
    go_wp2_with fail
    go_ret
    exact ⟨rfl, HB.out⟩
  · have hg' : ¬ 200 < N := by omega
    have HG := Lib.hid hg
    clear hg
    go_enter Try.func3, Try.ntmps3
    go_wp2_with fail
    refine (order_at m w).mono ?_
    rintro e w0 ⟨n, rfl, ho, rfl⟩
    have HO := Lib.hid ho
    clear ho
    go_wp2_with fail
    refine (q_New n w).mono ?_
    intro e w1 hnew
    obtain ⟨rfl, hq1, hb1⟩ := hnew.open_ (lessM m)
    have HH1 := Lib.hid (half_new hq1 (B := w.heap.size) (fun j h => Nat.le_of_eq h.symm) hb1.size)
    have HB1 := Lib.hid (bstep hb1 (below_alloc w1 (.cells #[.int .i64 m, .slice none 0 0] TR)))
    clear hnew hq1 hb1
    go_wp2_with fail
    obtain ⟨hr, hhr⟩ : ∃ hr, w1.heap.size = hr := ⟨_, rfl⟩
    rw [hhr] at HH1 ⊢
    clear hhr
    go_loopw [7] (fun i wr => ∃ (k : Nat) (R : List It) (p : Nat), i = .int .i64 (k : Int) ∧ k ≤ N ∧ p ≤ k ∧ R.length ≤ k ∧ Half wr w.heap.size w.heap.size hr n m R R p ∧ Below w.heap.size w wr) (fun i _ => N - (intOf i).toNat)
    case atStart => exact ⟨0, [], 0, rfl, Nat.zero_le _, Nat.le_refl _, Nat.le_refl _, HH1.out, HB1.out⟩
    case round =>
      obtain ⟨k, R, p, rfl, hk, hp, hR, hh, hbel⟩ := hrel
      have HH := Lib.hid hh
      have HP := Lib.hid hp
      have HR := Lib.hid hR
      have HB := Lib.hid hbel
      have HK := Lib.hid hk
      clear hh hp hR hbel hk
      rcases Nat.lt_or_ge k N with hlt | hge
      · obtain ⟨a, ha⟩ := get_lt (L := L) (k := k) (by rw [HN.out]; exact hlt)
        obtain ⟨b, off, rfl, hb, h0, h1, h2⟩ := rd_act (HS.out.on HB.out) ha
        have HKL := Lib.hid hlt
        have HBL := Lib.hid (show b < w.heap.size by obtain ⟨b', o', e, hb', -⟩ := rd_act HS.out ha; cases e; exact hb')
        have i1 : (k : Int) < (N : Int) := by omega
        have i2 : (0 : Int) ≤ (k : Int) := by omega
        clear ha
        by_cases d0 : a.1 = 0
        · have t0 : (a.1 == 0) = true := by simp [d0]
          clear d0
          go_wp2_with fail
          refine (half_push HH.out HO.out (by have := HR.out; have := HG.out; have := HKL.out; omega) (by have := HP.out; have := HG.out; have := HKL.out; omega) a.2).mono ?_
          rintro e w3 ⟨rfl, hh3, hb3⟩
          have HH3 := Lib.hid hh3
          have HB3 := Lib.hid (HB.out.trans hb3)
          have g0 : w3.cell? ⟨b, off + k * 3, none⟩ = some (.int .i64 a.1) := (hb3.cell (p := ⟨b, _, none⟩) (Nat.lt_of_lt_of_le HBL.out (Nat.le_refl _))).trans h0
          have g1 : w3.cell? ⟨b, off + k * 3 + 1, none⟩ = some (.int .i64 a.2.1) := (hb3.cell (p := ⟨b, _, none⟩) HBL.out).trans h1
          have g2 : w3.cell? ⟨b, off + k * 3 + 2, none⟩ = some (.int .i64 a.2.2) := (hb3.cell (p := ⟨b, _, none⟩) HBL.out).trans h2
          have HB3S := Lib.hid HB3.out.size
          clear hh3 hb3 h0 h1 h2
          go_wp2_with fail
          refine (half_push2 HH3.out (by have := HR.out; have := HG.out; have := HKL.out; omega) a.2).mono ?_
          rintro e w4 ⟨rfl, hh4, hb4⟩
          have HT := Lib.hid hh4
          have HBT := Lib.hid (HB3.out.trans hb4)
          have HPT := Lib.hid (show p + 1 ≤ k + 1 by have := HP.out; omega)
          have HRT := Lib.hid (show (R ++ [a.2]).length ≤ k + 1 by have := HR.out; simp; omega)
          clear hh4 hb4 g0 g1 g2
          obtain ⟨q, hq⟩ : ∃ q, List.length (R ++ [a.2]) = q := ⟨_, rfl⟩
          obtain ⟨A9, c9, hl9, e9⟩ := half_read HT.out
          rw [hq] at e9
          have HQL := Lib.hid hq
          have HLE := Lib.hid (quiet_len HT.out hq)
          have hnn : ((q : Int) != (q : Int)) = false := by simp
          clear hq
          go_wp2_with fail
          go_quiet ((go_at_call 19; exact Calls.quiet_of_same (HLE.out _)))
          go_wp2_with fail
          go_roundw
          case rel => exact ⟨k + 1, (R ++ [a.2]), (p + 1), by go_num, HKL.out, HPT.out, HRT.out, HT.out.on (below_drewN (Below.refl _ _) _), below_drewN HBT.out _⟩
          case measure => simp [intOf]; omega
        · have t0 : (a.1 == 0) = false := by simp [d0]
          by_cases d1 : a.1 = 1
          · have t1 : (a.1 == 1) = true := by simp [d1]
            clear d0 d1
            rcases Nat.eq_zero_or_pos R.length with hr0 | hr0
            · obtain rfl : R = [] := List.eq_nil_of_length_eq_zero hr0
              clear hr0
              go_wp2_with fail
              refine (half_pop_no HH.out).mono ?_
              rintro e w3 ⟨rfl, hh3, hb3, -⟩
              have HH3 := Lib.hid hh3
              have HB3 := Lib.hid (HB.out.trans hb3)
              clear hh3 hb3
              go_wp2_with fail
              have HNH := Lib.hid (show w3.heap.size ≠ hr by obtain ⟨_, _, h1, _⟩ := half_read HH3.out; omega)
              generalize hw4 : w3.alloc (.cells #[.int .i64 0, .int .i64 0] TV) = w4
              have hb4 : Below w3.heap.size w3 w4 := hw4 ▸ below_alloc _ _
              have HA4 := Lib.hid (show w4.heap[w3.heap.size]? = some (.cells #[.int .i64 0, .int .i64 0] TV (0, 0)) by rw [← hw4]; exact heap_alloc_new _ _)
              have HB4 := Lib.hid (bstep HB3.out hb4)
              have HH4 := Lib.hid (HH3.out.on hb4)
              clear hw4 hb4
              refine (half_pop_no2 HH4.out).mono ?_
              rintro e w5 ⟨rfl, hh5, hb5, kp5⟩
              have HH5 := Lib.hid hh5
              have HB5 := Lib.hid (HB4.out.trans hb5)
              have HA5 := Lib.hid ((kp5 _ (Array.getElem?_eq_some_iff.mp HA4.out).1 HNH.out).trans HA4.out)
              clear hh5 hb5 kp5
              go_upto_region 15 with fail
              generalize hw6 : w5.alloc (.cells #[.int .i64 0, .int .i64 0] TV) = w6
              have hb6 : Below w5.heap.size w5 w6 := hw6 ▸ below_alloc _ _
              have HBT := Lib.hid (bstep HB5.out hb6)
              have HT := Lib.hid (HH5.out.on hb6)
              have HPT := Lib.hid (show p ≤ k + 1 by have := HP.out; omega)
              have HRT := Lib.hid (show ([] : List It).length ≤ k + 1 from Nat.zero_le _)
              have k1 := (hb6.block _ (Array.getElem?_eq_some_iff.mp HA5.out).1).trans HA5.out
              have k2 : w6.heap[w5.heap.size]? = some (.cells #[.int .i64 0, .int .i64 0] TV (0, 0)) := by rw [← hw6]; exact heap_alloc_new _ _
              clear hw6 hb6
              have a0 : w6.cell? ⟨w3.heap.size, 0, none⟩ = some (.int .i64 0) := by rw [cell_of_row _ _ _ _ _ _ k1]; rfl
              have a1 : w6.cell? ⟨w3.heap.size, 1, none⟩ = some (.int .i64 0) := by rw [cell_of_row _ _ _ _ _ _ k1]; rfl
              have b0 : w6.cell? ⟨w5.heap.size, 0, none⟩ = some (.int .i64 0) := by rw [cell_of_row _ _ _ _ _ _ k2]; rfl
              have b1 : w6.cell? ⟨w5.heap.size, 1, none⟩ = some (.int .i64 0) := by rw [cell_of_row _ _ _ _ _ _ k2]; rfl
              have hne := zero_neq
              clear k1 k2
              go_wp2_with fail
              obtain ⟨q, hq⟩ : ∃ q, List.length ([] : List It) = q := ⟨_, rfl⟩
              obtain ⟨A9, c9, hl9, e9⟩ := half_read HT.out
              rw [hq] at e9
              have HQL := Lib.hid hq
              have HLE := Lib.hid (quiet_len HT.out hq)
              have hnn : ((q : Int) != (q : Int)) = false := by simp
              clear hq
              go_wp2_with fail
              go_quiet ((go_at_call 19; exact Calls.quiet_of_same (HLE.out _)))
              go_wp2_with fail
              go_roundw
              case rel => exact ⟨k + 1, ([] : List It), p, by go_num, HKL.out, HPT.out, HRT.out, HT.out.on (below_drewN (Below.refl _ _) _), below_drewN HBT.out _⟩
              case measure => simp [intOf]; omega
            · go_wp2_with fail
              refine (half_pop HH.out HO.out (by have := HR.out; have := HG.out; have := HKL.out; omega) hr0).mono ?_
              rintro e w3 ⟨i, x, hx, hf, rfl, hh3, hb3⟩
              have HH3 := Lib.hid hh3
              have HB3 := Lib.hid (HB.out.trans hb3)
              have HX := Lib.hid hx
              have HF := Lib.hid hf
              have HR0 := Lib.hid hr0
              clear hh3 hb3 hx hf hr0
              go_wp2_with fail
              have HNH := Lib.hid (show w3.heap.size ≠ hr by obtain ⟨_, _, h1, _⟩ := half_read HH3.out; omega)
              generalize hw4 : w3.alloc (.cells #[.int .i64 x.1, .int .i64 x.2] TV) = w4
              have hb4 : Below w3.heap.size w3 w4 := hw4 ▸ below_alloc _ _
              have HA4 := Lib.hid (show w4.heap[w3.heap.size]? = some (.cells #[.int .i64 x.1, .int .i64 x.2] TV (0, 0)) by rw [← hw4]; exact heap_alloc_new _ _)
              have HB4 := Lib.hid (bstep HB3.out hb4)
              have HH4 := Lib.hid (HH3.out.on hb4)
              clear hw4 hb4
              refine (half_pop2 HH4.out (by have := HR.out; have := HG.out; have := HKL.out; omega) HR0.out).mono ?_
              rintro e w5 ⟨i2, x2, hx2, hf2, rfl, hh5, hb5, kp5⟩
              obtain rfl := hf2.one (sw_lessM m) HF.out
              obtain rfl : x2 = x := by have := HX.out; rw [hx2] at this; exact Option.some.inj this
              have HH5 := Lib.hid hh5
              have HB5 := Lib.hid (HB4.out.trans hb5)
              have HA5 := Lib.hid ((kp5 _ (Array.getElem?_eq_some_iff.mp HA4.out).1 HNH.out).trans HA4.out)
              clear hx2 hf2 hh5 hb5 kp5
              go_upto_region 15 with fail
              generalize hw6 : w5.alloc (.cells #[.int .i64 x2.1, .int .i64 x2.2] TV) = w6
              have hb6 : Below w5.heap.size w5 w6 := hw6 ▸ below_alloc _ _
              have HBT := Lib.hid (bstep HB5.out hb6)
              have HT := Lib.hid (HH5.out.on hb6)
              have HPT := Lib.hid (show p ≤ k + 1 by have := HP.out; omega)
              have HRT := Lib.hid (show (R.eraseIdx i2).length ≤ k + 1 by have := erase_len HX.out; have := HR.out; omega)
              have k1 := (hb6.block _ (Array.getElem?_eq_some_iff.mp HA5.out).1).trans HA5.out
              have k2 : w6.heap[w5.heap.size]? = some (.cells #[.int .i64 x2.1, .int .i64 x2.2] TV (0, 0)) := by rw [← hw6]; exact heap_alloc_new _ _
              clear hw6 hb6
              have a0 : w6.cell? ⟨w3.heap.size, 0, none⟩ = some (.int .i64 x2.1) := by rw [cell_of_row _ _ _ _ _ _ k1]; rfl
              have a1 : w6.cell? ⟨w3.heap.size, 1, none⟩ = some (.int .i64 x2.2) := by rw [cell_of_row _ _ _ _ _ _ k1]; rfl
              have b0 : w6.cell? ⟨w5.heap.size, 0, none⟩ = some (.int .i64 x2.1) := by rw [cell_of_row _ _ _ _ _ _ k2]; rfl
              have b1 : w6.cell? ⟨w5.heap.size, 1, none⟩ = some (.int .i64 x2.2) := by rw [cell_of_row _ _ _ _ _ _ k2]; rfl
              have hne := neq_same x2
              clear k1 k2
              go_wp2_with fail
              obtain ⟨q, hq⟩ : ∃ q, List.length (R.eraseIdx i2) = q := ⟨_, rfl⟩
              obtain ⟨A9, c9, hl9, e9⟩ := half_read HT.out
              rw [hq] at e9
              have HQL := Lib.hid hq
              have HLE := Lib.hid (quiet_len HT.out hq)
              have hnn : ((q : Int) != (q : Int)) = false := by simp
              clear hq
              go_wp2_with fail
              go_quiet ((go_at_call 19; exact Calls.quiet_of_same (HLE.out _)))
              go_wp2_with fail
              go_roundw
              case rel => exact ⟨k + 1, (R.eraseIdx i2), p, by go_num, HKL.out, HPT.out, HRT.out, HT.out.on (below_drewN (Below.refl _ _) _), below_drewN HBT.out _⟩
              case measure => simp [intOf]; omega
          · have t1 : (a.1 == 1) = false := by simp [d1]
            by_cases d2 : a.1 = 2
            · have t2 : (a.1 == 2) = true := by simp [d2]
              clear d0 d1 d2
              rcases Nat.eq_zero_or_pos R.length with hr0 | hr0
              · obtain rfl : R = [] := List.eq_nil_of_length_eq_zero hr0
                clear hr0
                go_wp2_with fail
                refine (half_peek_no HH.out).mono ?_
                rintro e w3 ⟨rfl, hh3, hb3, -⟩
                have HH3 := Lib.hid hh3
                have HB3 := Lib.hid (HB.out.trans hb3)
                clear hh3 hb3
                go_wp2_with fail
                have HNH := Lib.hid (show w3.heap.size ≠ hr by obtain ⟨_, _, h1, _⟩ := half_read HH3.out; omega)
                generalize hw4 : w3.alloc (.cells #[.int .i64 0, .int .i64 0] TV) = w4
                have hb4 : Below w3.heap.size w3 w4 := hw4 ▸ below_alloc _ _
                have HA4 := Lib.hid (show w4.heap[w3.heap.size]? = some (.cells #[.int .i64 0, .int .i64 0] TV (0, 0)) by rw [← hw4]; exact heap_alloc_new _ _)
                have HB4 := Lib.hid (bstep HB3.out hb4)
                have HH4 := Lib.hid (HH3.out.on hb4)
                clear hw4 hb4
                refine (half_peek_no2 HH4.out).mono ?_
                rintro e w5 ⟨rfl, hh5, hb5, kp5⟩
                have HH5 := Lib.hid hh5
                have HB5 := Lib.hid (HB4.out.trans hb5)
                have HA5 := Lib.hid ((kp5 _ (Array.getElem?_eq_some_iff.mp HA4.out).1 HNH.out).trans HA4.out)
                clear hh5 hb5 kp5
                go_upto_region 20 with fail
                generalize hw6 : w5.alloc (.cells #[.int .i64 0, .int .i64 0] TV) = w6
                have hb6 : Below w5.heap.size w5 w6 := hw6 ▸ below_alloc _ _
                have HBT := Lib.hid (bstep HB5.out hb6)
                have HT := Lib.hid (HH5.out.on hb6)
                have HPT := Lib.hid (show p ≤ k + 1 by have := HP.out; omega)
                have HRT := Lib.hid (show ([] : List It).length ≤ k + 1 from Nat.zero_le _)
                have k1 := (hb6.block _ (Array.getElem?_eq_some_iff.mp HA5.out).1).trans HA5.out
                have k2 : w6.heap[w5.heap.size]? = some (.cells #[.int .i64 0, .int .i64 0] TV (0, 0)) := by rw [← hw6]; exact heap_alloc_new _ _
                clear hw6 hb6
                have a0 : w6.cell? ⟨w3.heap.size, 0, none⟩ = some (.int .i64 0) := by rw [cell_of_row _ _ _ _ _ _ k1]; rfl
                have a1 : w6.cell? ⟨w3.heap.size, 1, none⟩ = some (.int .i64 0) := by rw [cell_of_row _ _ _ _ _ _ k1]; rfl
                have b0 : w6.cell? ⟨w5.heap.size, 0, none⟩ = some (.int .i64 0) := by rw [cell_of_row _ _ _ _ _ _ k2]; rfl
                have b1 : w6.cell? ⟨w5.heap.size, 1, none⟩ = some (.int .i64 0) := by rw [cell_of_row _ _ _ _ _ _ k2]; rfl
                have hne := zero_neq
                clear k1 k2
                go_wp2_with fail
                obtain ⟨q, hq⟩ : ∃ q, List.length ([] : List It) = q := ⟨_, rfl⟩
                obtain ⟨A9, c9, hl9, e9⟩ := half_read HT.out
                rw [hq] at e9
                have HQL := Lib.hid hq
                have HLE := Lib.hid (quiet_len HT.out hq)
                have hnn : ((q : Int) != (q : Int)) = false := by simp
                clear hq
                go_wp2_with fail
                go_quiet ((go_at_call 19; exact Calls.quiet_of_same (HLE.out _)))
                go_wp2_with fail
                go_roundw
                case rel => exact ⟨k + 1, ([] : List It), p, by go_num, HKL.out, HPT.out, HRT.out, HT.out.on (below_drewN (Below.refl _ _) _), below_drewN HBT.out _⟩
                case measure => simp [intOf]; omega
              · go_wp2_with fail
                refine (half_peek HH.out (by have := HR.out; have := HG.out; have := HKL.out; omega) hr0).mono ?_
                rintro e w3 ⟨i, x, hx, hf, rfl, hh3, hb3, -⟩
                have HH3 := Lib.hid hh3
                have HB3 := Lib.hid (HB.out.trans hb3)
                have HX := Lib.hid hx
                have HF := Lib.hid hf
                have HR0 := Lib.hid hr0
                clear hh3 hb3 hx hf hr0
                go_wp2_with fail
                have HNH := Lib.hid (show w3.heap.size ≠ hr by obtain ⟨_, _, h1, _⟩ := half_read HH3.out; omega)
                generalize hw4 : w3.alloc (.cells #[.int .i64 x.1, .int .i64 x.2] TV) = w4
                have hb4 : Below w3.heap.size w3 w4 := hw4 ▸ below_alloc _ _
                have HA4 := Lib.hid (show w4.heap[w3.heap.size]? = some (.cells #[.int .i64 x.1, .int .i64 x.2] TV (0, 0)) by rw [← hw4]; exact heap_alloc_new _ _)
                have HB4 := Lib.hid (bstep HB3.out hb4)
                have HH4 := Lib.hid (HH3.out.on hb4)
                clear hw4 hb4
                refine (half_peek2 HH4.out (by have := HR.out; have := HG.out; have := HKL.out; omega) HR0.out).mono ?_
                rintro e w5 ⟨i2, x2, hx2, hf2, rfl, hh5, hb5, kp5⟩
                obtain rfl := hf2.one (sw_lessM m) HF.out
                obtain rfl : x2 = x := by have := HX.out; rw [hx2] at this; exact Option.some.inj this
                have HH5 := Lib.hid hh5
                have HB5 := Lib.hid (HB4.out.trans hb5)
                have HA5 := Lib.hid ((kp5 _ (Array.getElem?_eq_some_iff.mp HA4.out).1 HNH.out).trans HA4.out)
                clear hx2 hf2 hh5 hb5 kp5
                go_upto_region 20 with fail
                generalize hw6 : w5.alloc (.cells #[.int .i64 x2.1, .int .i64 x2.2] TV) = w6
                have hb6 : Below w5.heap.size w5 w6 := hw6 ▸ below_alloc _ _
                have HBT := Lib.hid (bstep HB5.out hb6)
                have HT := Lib.hid (HH5.out.on hb6)
                have HPT := Lib.hid (show p ≤ k + 1 by have := HP.out; omega)
                have HRT := Lib.hid (show R.length ≤ k + 1 by have := HR.out; omega)
                have k1 := (hb6.block _ (Array.getElem?_eq_some_iff.mp HA5.out).1).trans HA5.out
                have k2 : w6.heap[w5.heap.size]? = some (.cells #[.int .i64 x2.1, .int .i64 x2.2] TV (0, 0)) := by rw [← hw6]; exact heap_alloc_new _ _
                clear hw6 hb6
                have a0 : w6.cell? ⟨w3.heap.size, 0, none⟩ = some (.int .i64 x2.1) := by rw [cell_of_row _ _ _ _ _ _ k1]; rfl
                have a1 : w6.cell? ⟨w3.heap.size, 1, none⟩ = some (.int .i64 x2.2) := by rw [cell_of_row _ _ _ _ _ _ k1]; rfl
                have b0 : w6.cell? ⟨w5.heap.size, 0, none⟩ = some (.int .i64 x2.1) := by rw [cell_of_row _ _ _ _ _ _ k2]; rfl
                have b1 : w6.cell? ⟨w5.heap.size, 1, none⟩ = some (.int .i64 x2.2) := by rw [cell_of_row _ _ _ _ _ _ k2]; rfl
                have hne := neq_same x2
                clear k1 k2
                go_wp2_with fail
                obtain ⟨q, hq⟩ : ∃ q, List.length R = q := ⟨_, rfl⟩
                obtain ⟨A9, c9, hl9, e9⟩ := half_read HT.out
                rw [hq] at e9
                have HQL := Lib.hid hq
                have HLE := Lib.hid (quiet_len HT.out hq)
                have hnn : ((q : Int) != (q : Int)) = false := by simp
                clear hq
                go_wp2_with fail
                go_quiet ((go_at_call 19; exact Calls.quiet_of_same (HLE.out _)))
                go_wp2_with fail
                go_roundw
                case rel => exact ⟨k + 1, R, p, by go_num, HKL.out, HPT.out, HRT.out, HT.out.on (below_drewN (Below.refl _ _) _), below_drewN HBT.out _⟩
                case measure => simp [intOf]; omega
            · have t2 : (a.1 == 2) = false := by simp [d2]
              clear d0 d1 d2
              have HT := Lib.hid HH.out
              have HBT := Lib.hid HB.out
              have HPT := Lib.hid (show p ≤ k + 1 by have := HP.out; omega)
              have HRT := Lib.hid (show R.length ≤ k + 1 by have := HR.out; omega)
              obtain ⟨q, hq⟩ : ∃ q, List.length R = q := ⟨_, rfl⟩
              obtain ⟨A9, c9, hl9, e9⟩ := half_read HT.out
              rw [hq] at e9
              have HQL := Lib.hid hq
              have HLE := Lib.hid (quiet_len HT.out hq)
              have hnn : ((q : Int) != (q : Int)) = false := by simp
              clear hq
              go_wp2_with fail
              go_quiet ((go_at_call 19; exact Calls.quiet_of_same (HLE.out _)))
              go_wp2_with fail
              go_roundw
              case rel => exact ⟨k + 1, R, p, by go_num, HKL.out, HPT.out, HRT.out, HT.out.on (below_drewN (Below.refl _ _) _), below_drewN HBT.out _⟩
              case measure => simp [intOf]; omega
      · obtain rfl : k = N := by have := HK.out; omega
        obtain ⟨wo, rfl⟩ : ∃ wo : World, wo = wr := ⟨_, rfl⟩
        go_wp2_with fail
        refine (awake_true wo).mono ?_
        rintro e w8 ⟨rfl, hb8⟩
        have HB8 := Lib.hid (bstep HB.out hb8)
        clear hb8
        go_wp2_with fail
        go_ret
        exact ⟨rfl, HB8.out⟩
#print axioms walk_PqueuePlays
end Go.Proofs.Ytkgmfdmgaloaoaa.PqueueI
