/- The walk of PqueuePeeks. -/
import Derived.Test.YtkgmfdmgaloaoaaPqueueAE
import Derived.Deep.LoopGhost
namespace Go.Proofs.Ytkgmfdmgaloaoaa.PqueueI
open Go.ChangeShapes Go.WideShapes Go.RowKit Go.Lib Go.Proofs.Ytkgmfdmgaloaoaa.Pqueue
set_option linter.unusedVariables false
set_option maxRecDepth 100000

set_option maxHeartbeats 3200000 in
theorem walk_PqueuePeeks (w : World) (m : Int) (A : Option Addr) (c : Nat) (L : List It) (hs : Rd cV 2 w A L) (hl : L.length ≤ c) (hc : c ≤ maxLen) :
    Calls Try.prog 6 #[.int .i64 m, .slice A L.length c] w fun e w' => e = .returned (.bool true) ∧ Below w.heap.size w w' := by
  have HS := Lib.hid hs
  have hm9 : L.length ≤ 9223372036854775807 := by unfold maxLen at hc; omega
  obtain ⟨N, hN⟩ : ∃ N, L.length = N := ⟨_, rfl⟩
  have HN := Lib.hid hN
  rw [hN] at hm9 ⊢
  clear hs hc hl hN
  rcases Nat.lt_or_ge 200 N with hg | hg
  · go_enter Try.func6, Try.ntmps6
    go_wp2_with fail
    refine (awake_true w).mono ?_
    rintro e w1 ⟨rfl, hb⟩
    have HB := Lib.hid hb
    clear hb
    go_wp2_with fail
    go_ret
    exact ⟨rfl, HB.out⟩
  · have hg' : ¬ 200 < N := by omega
    have HG := Lib.hid hg
    clear hg
    go_enter Try.func6, Try.ntmps6
    go_wp2_with fail
    refine (order_at m w).mono ?_
    rintro e w0 ⟨n, rfl, ho, rfl⟩
    have HO := Lib.hid ho
    clear ho
    go_wp2_with fail
    refine (q_New n w).mono ?_
    intro e w1 hnew
    obtain ⟨rfl, hq1, hb1⟩ := hnew.open_ (lessM m)
    have HQ1 := Lib.hid hq1
    have HB1 := Lib.hid hb1
    clear hnew hq1 hb1
    go_wp2_with fail
    go_loopw [6] (fun i wr => ∃ (k : Nat) (S : Nat → Prop), i = .int .i64 (k : Int) ∧ k ≤ N ∧ Qr wr w.heap.size S n (lessM m) (L.take k) k ∧ (∀ j, S j → w.heap.size ≤ j) ∧ Below w.heap.size w wr) (fun i _ => N - (intOf i).toNat)
    case atStart => exact ⟨0, _, rfl, Nat.zero_le _, HQ1.out, fun j h => Nat.le_of_eq h.symm, HB1.out⟩
    case round =>
      obtain ⟨k, S, rfl, hk, hq, hS, hbel⟩ := hrel
      have HQ := Lib.hid hq
      have HSS := Lib.hid hS
      have HB := Lib.hid hbel
      have HK := Lib.hid hk
      clear hq hS hbel hk
      rcases Nat.lt_or_ge k N with hlt | hge
      · obtain ⟨x, hx⟩ := get_lt (L := L) (k := k) (by rw [HN.out]; exact hlt)
        obtain ⟨b, off, rfl, hb, h0, h1⟩ := rd_cells (HS.out.on HB.out) hx
        have HX := Lib.hid (take_snoc_of hx)
        have HKL := Lib.hid hlt
        have i1 : (k : Int) < (N : Int) := by omega
        have i2 : (0 : Int) ≤ (k : Int) := by omega
        clear hx
        go_wp2_with fail
        refine (push_at HQ.out HO.out (by rw [List.length_take]; have := HG.out; omega) (by have := HG.out; have := HKL.out; omega) x).mono ?_
        rintro e w4 ⟨rfl, S', hq4, hs4, ho4⟩
        have HQ4 := Lib.hid hq4
        have HO4 := Lib.hid (Off.below ho4 (B := w.heap.size) HB.out.size HSS.out)
        have HS4 : Hid (∀ j, S' j → w.heap.size ≤ j) := fun j hj => by
          rcases hs4 j hj with h | h
          · exact HSS.out j h
          · have := HB.out.size; omega
        clear hq4 hs4 ho4
        go_wp2_with fail
        go_roundw
        case rel => exact ⟨k + 1, S', by go_num, HKL.out, by rw [HX.out]; exact HQ4.out, HS4.out, HB.out.trans HO4.out⟩
        case measure => simp [intOf]; omega
      · obtain rfl : k = N := by have := HK.out; omega
        have HQN : Hid (Qr wr w.heap.size S n (lessM m) L k) := by have := HQ.out; rw [← HN.out, List.take_length, HN.out] at this; exact this
        have HBN := Lib.hid HB.out
        have HS0 := Lib.hid HSS.out
        clear HQ HB HSS
        obtain ⟨wo, rfl⟩ : ∃ wo : World, wo = wr := ⟨_, rfl⟩
        go_wp2_with fail
        go_loopw [7] (fun v wr => ∃ (R : List It) (S : Nat → Prop), v = .int .i64 (R.length : Int) ∧ R.length ≤ k ∧ Qr wr w.heap.size S n (lessM m) R k ∧ (∀ j, S j → w.heap.size ≤ j) ∧ Below w.heap.size w wr) (fun v _ => (intOf v).toNat)
        case atStart => exact ⟨L, S, by rw [HN.out], Nat.le_of_eq HN.out, HQN.out, HS0.out, HBN.out⟩
        case round =>
          obtain ⟨R, S2, rfl, hr, hq, hS, hbel⟩ := hrel
          have HQ := Lib.hid hq
          have HS2 := Lib.hid hS
          have HB := Lib.hid hbel
          have HLEN := Lib.hid (len_at hq)
          obtain ⟨r, hrr⟩ : ∃ r, R.length = r := ⟨_, rfl⟩
          have HR := Lib.hid hrr
          have hr2 : (r : Int) ≤ 200 := by have := HG.out; omega
          have HRK := Lib.hid (show r ≤ k by omega)
          rw [hrr] at HLEN
          rw [hrr]
          clear hr hq hS hbel hrr
          rcases Nat.eq_zero_or_pos r with h0 | h0
          · have hR : R = [] := List.eq_nil_of_length_eq_zero (by rw [HR.out]; exact h0)
            subst h0
            have HQE := Lib.hid (show Qr wr w.heap.size S2 n (lessM m) [] k by have := HQ.out; rw [hR] at this; exact this)
            have heq : ∀ W : World, (binOp .eql 27 (.agg #[.int .i64 0, .int .i64 0]) (.agg #[.int .i64 0, .int .i64 0])).run Try.prog W = .ok (.bool true) W := fun W => (eql_item (0, 0) (0, 0) W).trans (by simp)
            clear hR
            go_wp2_with fail
            refine (peek_none HQE.out).mono ?_
            rintro e w3 ⟨rfl, hb3⟩
            have HB3 := Lib.hid (HB.out.trans (hb3.mono HB.out.size))
            have HQ3 := Lib.hid (HQE.out.on hb3)
            clear hb3
            go_wp2_with fail
            generalize hw4 : w3.alloc (.cells #[.int .i64 0, .int .i64 0] TV) = w4
            have hb4 : Below w3.heap.size w3 w4 := hw4 ▸ below_alloc _ _
            have HA4 := Lib.hid (show w4.heap[w3.heap.size]? = some (.cells #[.int .i64 0, .int .i64 0] TV (0, 0)) by rw [← hw4]; exact heap_alloc_new _ _)
            have HB4 := Lib.hid (bstep HB3.out hb4)
            have HQ4 := Lib.hid (HQ3.out.on hb4)
            clear hw4 hb4
            refine (pop_none HQ4.out).mono ?_
            rintro e w5 ⟨rfl, hb5⟩
            have HB5 := Lib.hid (bstep HB4.out hb5)
            have HA5 := Lib.hid ((hb5.block _ (Array.getElem?_eq_some_iff.mp HA4.out).1).trans HA4.out)
            clear hb5
            go_upto_region 23 with fail
            generalize hw6 : w5.alloc (.cells #[.int .i64 0, .int .i64 0] TV) = w6
            have hb6 : Below w5.heap.size w5 w6 := hw6 ▸ below_alloc _ _
            have HB6 := Lib.hid (bstep HB5.out hb6)
            have k1 := (hb6.block _ (Array.getElem?_eq_some_iff.mp HA5.out).1).trans HA5.out
            have k2 : w6.heap[w5.heap.size]? = some (.cells #[.int .i64 0, .int .i64 0] TV (0, 0)) := by rw [← hw6]; exact heap_alloc_new _ _
            clear hw6 hb6
            have a0 : w6.cell? ⟨w3.heap.size, 0, none⟩ = some (.int .i64 0) := by rw [cell_of_row _ _ _ _ _ _ k1]; rfl
            have a1 : w6.cell? ⟨w3.heap.size, 1, none⟩ = some (.int .i64 0) := by rw [cell_of_row _ _ _ _ _ _ k1]; rfl
            have b0 : w6.cell? ⟨w5.heap.size, 0, none⟩ = some (.int .i64 0) := by rw [cell_of_row _ _ _ _ _ _ k2]; rfl
            have b1 : w6.cell? ⟨w5.heap.size, 1, none⟩ = some (.int .i64 0) := by rw [cell_of_row _ _ _ _ _ _ k2]; rfl
            clear k1 k2
            go_wp2_with fail
            refine (awake_true w6).mono ?_
            rintro e w7 ⟨rfl, hb7⟩
            have HB7 := Lib.hid (bstep HB6.out hb7)
            clear hb7 a0 a1 b0 b1
            go_wp2_with fail
            go_ret
            exact ⟨rfl, HB7.out⟩
          · have hnn : ((r : Int) != (r : Int)) = false := by simp
            have h01 : (1 : Int) ≤ (r : Int) := by omega
            go_wp2_with fail
            refine HLEN.out.mono ?_
            rintro e w' ⟨rfl, rfl⟩
            go_wp2_with fail
            refine (peek_at HQ.out (by rw [HR.out]; have := HRK.out; have := HG.out; omega) (by rw [HR.out]; exact h0)).mono ?_
            rintro e w3 ⟨i, x, hx, hf, rfl, hb3⟩
            have HB3 := Lib.hid (HB.out.trans (hb3.mono HB.out.size))
            have HQ3 := Lib.hid (HQ.out.on hb3)
            have HX := Lib.hid hx
            have HF := Lib.hid (hf (sw_lessM m))
            clear hx hf hb3
            go_wp2_with fail
            generalize hw4 : w3.alloc (.cells #[.int .i64 x.1, .int .i64 x.2] TV) = w4
            have hb4 : Below w3.heap.size w3 w4 := hw4 ▸ below_alloc _ _
            have HA4 := Lib.hid (show w4.heap[w3.heap.size]? = some (.cells #[.int .i64 x.1, .int .i64 x.2] TV (0, 0)) by rw [← hw4]; exact heap_alloc_new _ _)
            have HB4 := Lib.hid (HB3.out.trans (hb4.mono HB3.out.size))
            have HQ4 := Lib.hid (HQ3.out.on hb4)
            have HNS := Lib.hid (show ¬ S2 w3.heap.size from fun h => Nat.lt_irrefl _ (HQ3.out.bnd _ h))
            clear hw4 hb4
            have HLEN4 := Lib.hid (len_at HQ4.out)
            rw [HR.out] at HLEN4
            refine HLEN4.out.mono ?_
            rintro e w' ⟨rfl, rfl⟩
            go_wp2_with fail
            refine (pop_at HQ4.out HO.out (by rw [HR.out]; have := HRK.out; have := HG.out; omega) (by rw [HR.out]; exact h0)).mono ?_
            rintro e w5 ⟨i2, x2, hx2, hf2, rfl, hq5, ho5⟩
            obtain rfl := (hf2 (sw_lessM m)).one (sw_lessM m) HF.out
            obtain rfl : x2 = x := by have := HX.out; rw [hx2] at this; exact Option.some.inj this
            have HQ5 := Lib.hid hq5
            have HB5 := Lib.hid (HB4.out.trans (Off.below ho5 (B := w.heap.size) HB4.out.size HS2.out))
            have HA5 := Lib.hid ((ho5.block _ (Array.getElem?_eq_some_iff.mp HA4.out).1 HNS.out).trans HA4.out)
            clear hx2 hf2 hq5 ho5 HLEN4 HLEN
            go_upto_region 19 with fail
            generalize hw6 : w5.alloc (.cells #[.int .i64 x2.1, .int .i64 x2.2] TV) = w6
            have hb6 : Below w5.heap.size w5 w6 := hw6 ▸ below_alloc _ _
            have HB6 := Lib.hid (HB5.out.trans (hb6.mono HB5.out.size))
            have HQ6 := Lib.hid (HQ5.out.on hb6)
            have k1 := (hb6.block _ (Array.getElem?_eq_some_iff.mp HA5.out).1).trans HA5.out
            have k2 : w6.heap[w5.heap.size]? = some (.cells #[.int .i64 x2.1, .int .i64 x2.2] TV (0, 0)) := by rw [← hw6]; exact heap_alloc_new _ _
            clear hw6 hb6
            have a0 : w6.cell? ⟨w3.heap.size, 0, none⟩ = some (.int .i64 x2.1) := by rw [cell_of_row _ _ _ _ _ _ k1]; rfl
            have a1 : w6.cell? ⟨w3.heap.size, 1, none⟩ = some (.int .i64 x2.2) := by rw [cell_of_row _ _ _ _ _ _ k1]; rfl
            have b0 : w6.cell? ⟨w5.heap.size, 0, none⟩ = some (.int .i64 x2.1) := by rw [cell_of_row _ _ _ _ _ _ k2]; rfl
            have b1 : w6.cell? ⟨w5.heap.size, 1, none⟩ = some (.int .i64 x2.2) := by rw [cell_of_row _ _ _ _ _ _ k2]; rfl
            have hne := neq_same x2
            obtain ⟨r1, hr1⟩ : ∃ r1, r = r1 + 1 := ⟨r - 1, by omega⟩
            have HR1 := Lib.hid (show (R.eraseIdx i2).length = r1 by have := erase_len HX.out; rw [HR.out] at this; omega)
            have HRK1 := Lib.hid (show r1 ≤ k by have := HRK.out; omega)
            have hd : (r : Int) - 1 = (r1 : Int) := by omega
            have HMS := Lib.hid (show r1 < r by omega)
            clear k1 k2 hr1

            go_wp2_with fail
            go_roundw
            case rel => exact ⟨R.eraseIdx i2, S2, by rw [HR1.out], by rw [HR1.out]; exact HRK1.out, HQ6.out, HS2.out, HB6.out⟩
            case measure => have := HMS.out; simp [intOf]; omega
#print axioms walk_PqueuePeeks
end Go.Proofs.Ytkgmfdmgaloaoaa.PqueueI
