/- The walk of PqueueNil. -/
import Derived.Test.YtkgmfdmgaloaoaaPqueueAD
namespace Go.Proofs.Ytkgmfdmgaloaoaa.PqueueI
open Go.ChangeShapes Go.WideShapes Go.RowKit Go.Lib Go.Proofs.Ytkgmfdmgaloaoaa.Pqueue
set_option linter.unusedVariables false
set_option maxRecDepth 100000

theorem flat_putV (L : List It) (k : Nat) (z : It) (hk : k < L.length) : ((L.flatMap cV).set (k * 2) (.int .i64 z.1)).set (k * 2 + 1) (.int .i64 z.2) = (L.set k z).flatMap cV := by
  induction L generalizing k with
  | nil => simp at hk
  | cons y L ih =>
    cases k with
    | zero => simp
    | succ k =>
      have := ih k (by simpa using hk)
      rw [List.set_cons_succ, List.flatMap_cons, List.flatMap_cons, ← this, Nat.succ_mul]
      rfl
/-- The first element is set. -/
theorem row_set0 {B h m c : Nat} {w : World} {L : List It} (hr : Row cV 2 TV B w (.slice (some ⟨h, 0, none⟩) m c) L) (h0 : 0 < L.length) (z : It) : Row cV 2 TV B ((w.setCell ⟨h, 0, none⟩ (.int .i64 z.1)).setCell ⟨h, 1, none⟩ (.int .i64 z.2)) (.slice (some ⟨h, 0, none⟩) m c) (L.set 0 z) := by
  have hm := (row_rd hr).2.1
  subst hm
  unfold Row
  rw [List.length_set, ← flat_putV L 0 z h0]
  exact own_set (own_set hr _ _) _ _
theorem row_some {B : Nat} {w : World} {A : Option Addr} {n c : Nat} {L : List It} (h : Row cV 2 TV B w (.slice A n c) L) (h0 : 0 < L.length) : ∃ g, A = some ⟨g, 0, none⟩ ∧ B ≤ g ∧ g < w.heap.size ∧ (∀ j, w.frozen? ⟨g, j, none⟩ = false) ∧ (∀ k x, L[k]? = some x → w.cell? ⟨g, k * 2, none⟩ = some (.int .i64 x.1) ∧ w.cell? ⟨g, k * 2 + 1, none⟩ = some (.int .i64 x.2)) := by
  obtain ⟨g, cap, e, h1, h2, -, -⟩ := h.blk h0
  cases e
  exact ⟨g, rfl, h1, h2, fun j => h.warm rfl j, fun k x hx => ⟨h.cell cV_len hx (j := 0) rfl, h.cell cV_len hx (j := 1) rfl⟩⟩
theorem zero_neq (W : World) : (binOp .neq 27 (.agg #[.int .i64 0, .int .i64 0]) (.agg #[.int .i64 0, .int .i64 0])).run Try.prog W = .ok (.bool false) W := neq_same (0, 0) W

set_option maxHeartbeats 1600000 in
theorem walk_PqueueNil (w : World) (A : Option Addr) (c : Nat) (L : List It) (hs : Rd cV 2 w A L) (hl : L.length ≤ c) (hc : c ≤ maxLen) (x : It) :
    Calls Try.prog 8 #[.slice A L.length c, eV x] w fun e w' => e = .returned (.bool true) ∧ Below w.heap.size w w' := by
  have HS := Lib.hid hs
  have HL := Lib.hid hl
  have HC := Lib.hid hc
  have hm9 : L.length ≤ 9223372036854775807 := by unfold maxLen at hc; omega
  obtain ⟨N, hN⟩ : ∃ N, L.length = N := ⟨_, rfl⟩
  have HN := Lib.hid hN
  rw [hN] at hm9 ⊢
  clear hs hl hc hN
  rcases Nat.lt_or_ge 200 N with hg | hg
  · go_enter Try.func8, Try.ntmps8
    go_wp2_with fail
    refine (awake_true _).mono ?_
    rintro e w1 ⟨rfl, hb⟩
    have HB := Lib.hid (bstep (below_alloc _ _) hb)
    clear hb
    go_wp2_with fail
    go_ret
    exact ⟨rfl, HB.out⟩
  · have hg' : ¬ 200 < N := by omega
    have HG := Lib.hid hg
    clear hg
    by_cases h0 : N = 0
    · subst h0
      go_enter Try.func8, Try.ntmps8
      go_wp2_with fail
      refine (awake_true _).mono ?_
      rintro e w1 ⟨rfl, hb⟩
      have HB := Lib.hid (bstep (below_alloc _ _) hb)
      clear hb
      go_wp2_with fail
      go_ret
      exact ⟨rfl, HB.out⟩
    · have h00 : ((N : Int) == 0) = false := by simp; omega
      have H0 := Lib.hid (show 0 < N by omega)
      have hzn := zero_neq
      go_enter Try.func8, Try.ntmps8
      go_wp2_with fail
      generalize hw1 : w.alloc (.cells #[.int .i64 x.1, .int .i64 x.2] TV) = w1
      have HB1 : Hid (Below w.heap.size w w1) := hw1 ▸ below_alloc _ _
      have x0 : w1.cell? ⟨w.heap.size, 0, none⟩ = some (.int .i64 x.1) := by subst hw1; simp
      have x1 : w1.cell? ⟨w.heap.size, 1, none⟩ = some (.int .i64 x.2) := by subst hw1; simp
      clear hw1
      refine (q_New_nil w1).mono ?_
      rintro e w' ⟨rfl, rfl⟩
      go_wp2_with fail
      refine (q_Push_nil x w1).mono ?_
      rintro e w2 ⟨rfl, hb2⟩
      have HB2 := Lib.hid (bstep HB1.out hb2)
      clear hb2 x0 x1
      go_wp2_with fail
      refine (q_Pop_nil w2).mono ?_
      rintro e w3 ⟨rfl, hb3⟩
      have HB3 := Lib.hid (bstep HB2.out hb3)
      clear hb3
      go_wp2_with fail
      generalize hw4 : w3.alloc (.cells #[.int .i64 0, .int .i64 0] TV) = w4
      have HB4 := Lib.hid (bstep HB3.out (show Below w3.heap.size w3 w4 from hw4 ▸ below_alloc _ _))
      have HA4 := Lib.hid (show w4.heap[w3.heap.size]? = some (.cells #[.int .i64 0, .int .i64 0] TV (0, 0)) by rw [← hw4]; exact heap_alloc_new _ _)
      clear hw4
      refine (q_Peek_nil w4).mono ?_
      rintro e w5 ⟨rfl, hb5⟩
      have HB5 := Lib.hid (bstep HB4.out hb5)
      have HA5 := Lib.hid ((hb5.block _ (Array.getElem?_eq_some_iff.mp HA4.out).1).trans HA4.out)
      clear hb5
      go_upto_region 7 with fail
      generalize hw6 : w5.alloc (.cells #[.int .i64 0, .int .i64 0] TV) = w6
      have hb6 : Below w5.heap.size w5 w6 := hw6 ▸ below_alloc _ _
      have HB6 := Lib.hid (bstep HB5.out hb6)
      have k1 := (hb6.block _ (Array.getElem?_eq_some_iff.mp HA5.out).1).trans HA5.out
      have k2 : w6.heap[w5.heap.size]? = some (.cells #[.int .i64 0, .int .i64 0] TV (0, 0)) := by rw [← hw6]; exact heap_alloc_new _ _
      clear hw6 hb6
      have a0 : w6.cell? ⟨w3.heap.size, 0, none⟩ = some (.int .i64 0) := by rw [cell_of_row _ _ _ _ _ _ k1]; rfl
      have a1 : w6.cell? ⟨w3.heap.size, 1, none⟩ = some (.int .i64 0) := by rw [cell_of_row _ _ _ _ _ _ k1]; rfl
      have b0 : w6.cell? ⟨w5.heap.size, 0, none⟩ = some (.int .i64 0) := by rw [cell_of_row _ _ _ _ _ _ k2]; rfl
      have b1 : w6.cell? ⟨w5.heap.size, 1, none⟩ = some (.int .i64 0) := by rw [cell_of_row _ _ _ _ _ _ k2]; rfl
      clear k1 k2
      go_wp2_with fail
      refine (q_Len_nil w6).mono ?_
      rintro e w' ⟨rfl, rfl⟩
      clear a0 a1 b0 b1
      go_wp2_with fail
      have HSN := Lib.hid (q_Sort_nil (c := c) (HS.out.on HB6.out) (by rw [HN.out]; have := HG.out; omega))
      rw [HN.out] at HSN
      refine HSN.out.mono ?_
      rintro e w7 ⟨As, cs, rfl, hrs, hb7⟩
      have HRS := Lib.hid hrs
      have HB7 := Lib.hid (bstep HB6.out hb7)
      clear hrs hb7 HSN
      go_wp2_with fail
      have HSU := Lib.hid (q_Sort (c := c) (HS.out.on HB7.out) (by rw [HN.out]; have := HG.out; omega) ord_up)
      rw [HN.out] at HSU
      refine HSU.out.mono ?_
      rintro e w8 ⟨T, At, ct, hT, rfl, hrt, -, -, hb8⟩
      have HRT := Lib.hid hrt
      have HT := Lib.hid hT
      have HRS8 := Lib.hid (HRS.out.on hb8)
      have HB8 := Lib.hid (bstep HB7.out hb8)
      have HSZ := Lib.hid hb8.size
      clear hrt hT hb8 HSU
      rw [HN.out]
      have hnn : ((N : Int) != (N : Int)) = false := by simp
      obtain ⟨gs, rfl, gs1, gs2, -, -⟩ := row_some HRS.out (by rw [HN.out]; exact H0.out)
      obtain ⟨gt, rfl, gt1, gt2, -, -⟩ := row_some HRT.out (by rw [HT.out, HN.out]; exact H0.out)
      go_upto_region 12 with fail
      go_wp2_with (at_builtin; refine append_rows kdV rfl _ _ rfl (.slice (some ⟨w8.heap.size, 0, none⟩) 0 0) [] rfl (Row.empty cV 2 TV w8 (Nat.le_refl _)) A N c L HN.out.symm rfl (HS.out.on (bstep HB8.out (below_alloc _ _))) (by have := HG.out; simp; omega) (by simp) ?_; intro Aw nw cw w9 hnw hrw hgw hatw; refine Hid.out ?_)
      have HRW := Lib.hid (show Row cV 2 TV w8.heap.size w9 (.slice Aw nw cw) L by rw [List.nil_append] at hrw; exact hrw)
      have HBW := Lib.hid ((below_alloc w8 (.cells #[] TV)).trans (Row.below (Row.empty cV 2 TV w8 (Nat.le_refl _)) hgw (by simp)))
      obtain rfl : nw = N := by simpa using hnw
      clear hnw hrw hgw hatw
      obtain ⟨gw, rfl, gw1, gw2, fw, cw2⟩ := row_some HRW.out (by rw [HN.out]; exact H0.out)
      obtain ⟨y, hy⟩ := get_lt (L := L) (k := 0) (by rw [HN.out]; exact H0.out)
      obtain ⟨w0, w1c⟩ := cw2 0 y hy
      simp only [Nat.zero_mul, Nat.zero_add] at w0 w1c
      have HRS9 := Lib.hid (HRS8.out.on HBW.out)
      have HRT9 := Lib.hid (HRT.out.on HBW.out)
      obtain ⟨gs', es, -, gs3, fs, cs2⟩ := row_some HRS9.out (by rw [HN.out]; exact H0.out)
      cases es
      obtain ⟨gt', et, -, gt3, ft, ct2⟩ := row_some HRT9.out (by rw [HT.out, HN.out]; exact H0.out)
      cases et
      obtain ⟨s0, s1⟩ := cs2 0 y hy
      obtain ⟨u, hu⟩ := get_lt (L := T) (k := 0) (by rw [HT.out, HN.out]; exact H0.out)
      obtain ⟨t0, t1⟩ := ct2 0 u hu
      simp only [Nat.zero_mul, Nat.zero_add] at s0 s1 t0 t1
      have fs0 := fs 0
      have fs1 := fs 1
      have ft0 := ft 0
      have ft1 := ft 1
      have hst : ¬ gs = gt := by omega
      have hts : ¬ gt = gs := by omega
      have i0 : (0 : Int) < (nw : Int) := by have := H0.out; omega
      have i1 : 0 < nw := H0.out
      have HY := Lib.hid hy
      clear fw cw2 fs cs2 ft ct2 hy hu
      refine Lib.hid ?_
      go_upto_region 15 with fail
      obtain ⟨z, hz⟩ : ∃ z, bits .xor .i64 y.1 1 = z := ⟨_, rfl⟩
      rw [hz]
      clear hz
      have HRSZ := Lib.hid (row_set0 HRS9.out (by rw [HN.out]; exact H0.out) (z, 0))
      generalize hw10 : (((w9.setCell ⟨gs, 0, none⟩ (.int .i64 z)).setCell ⟨gs, 1, none⟩ (.int .i64 0)).setCell ⟨gt, 0, none⟩ (.int .i64 z)).setCell ⟨gt, 1, none⟩ (.int .i64 0) = w10
      have HW6 := HB6.out.size
      have HW78 := HSZ.out
      have HW7 := HB7.out.size
      have HB10 := Lib.hid (show Below w.heap.size w w10 by
        rw [← hw10]
        have hb9 := HB8.out.trans (HBW.out.mono HB8.out.size)
        exact (((hb9.setCell (p := ⟨gs, 0, none⟩) (by show w.heap.size ≤ gs; omega) _).setCell (p := ⟨gs, 1, none⟩) (by show w.heap.size ≤ gs; omega) _).setCell (p := ⟨gt, 0, none⟩) (by show w.heap.size ≤ gt; omega) _).setCell (p := ⟨gt, 1, none⟩) (by show w.heap.size ≤ gt; omega) _)
      have HWAS := Lib.hid (show Rd cV 2 w10 (some ⟨gw, 0, none⟩) L from (row_rd (HRW.out.keep fun k hk => by
        cases hk
        rw [← hw10]
        exact (Below.heap_setCell _ _ _ _ (by show gw ≠ gt; omega)).trans ((Below.heap_setCell _ _ _ _ (by show gw ≠ gt; omega)).trans ((Below.heap_setCell _ _ _ _ (by show gw ≠ gs; omega)).trans (Below.heap_setCell _ _ _ _ (by show gw ≠ gs; omega)))))).1)
      have hrs10 : Row cV 2 TV w6.heap.size w10 (.slice (some ⟨gs, 0, none⟩) nw cs) (L.set 0 (z, 0)) := HRSZ.out.keep fun k hk => by
        cases hk
        rw [← hw10]
        exact (Below.heap_setCell _ _ _ _ hst).trans (Below.heap_setCell _ _ _ _ hst)
      clear hw10 HW6 HW78 HW7 w0 w1c s0 s1 t0 t1 fs0 fs1 ft0 ft1
      obtain ⟨hr1, hr2, hr3, -⟩ := row_rd hrs10
      obtain ⟨A1, c1, m1, hm1, hsf1, hd1⟩ := slice_from hr1 (by rw [← hr2]; exact hr3) 1 (by rw [← hr2]; exact H0.out)
      obtain ⟨A2, c2, m2, hm2, hsf2, hd2⟩ := slice_from (HS.out.on HB10.out) HL.out 1 (by rw [HN.out]; exact H0.out)
      have hdd : (L.set 0 (z, 0)).drop 1 = L.drop 1 := by
        cases L with
        | nil => rfl
        | cons a L => rfl
      rw [hdd] at hm1 hd1
      rw [← hr2] at hsf1
      rw [HN.out] at hsf2
      obtain rfl : m1 = m2 := by rw [← hm1, ← hm2]
      replace hsf1 : ∀ W : World, (Instr.slice 31 (.slice (some ⟨gs, 0, none⟩) nw cs) (some (.int .i64 1)) none none).run Try.prog W = .ok (.slice A1 m1 c1) W := hsf1
      replace hsf2 : ∀ W : World, (Instr.slice 31 (.slice A nw c) (some (.int .i64 1)) none none).run Try.prog W = .ok (.slice A2 m1 c2) W := hsf2
      have HD1 := Lib.hid hd1
      have HD2 := Lib.hid hd2
      have HM1 := Lib.hid hm1
      clear hr1 hr2 hr3 hd1 hd2 hm1 hm2 hdd hrs10
      have HC1 := Lib.hid (show ∀ W, Below w10.heap.size w10 W → Calls Try.prog 20 #[.slice A nw c, .slice (some ⟨gw, 0, none⟩) nw cw] W fun e w' => e = .returned (.bool true) ∧ Below W.heap.size W w' from fun W hW => by
        have h := ref_Same L A (some ⟨gw, 0, none⟩) c cw W ((HS.out.on HB10.out).on hW) (HWAS.out.on hW) (by rw [HN.out]; have := HG.out; omega)
        rw [HN.out] at h
        exact h)
      have HC2 := Lib.hid (show ∀ W, Below w10.heap.size w10 W → Calls Try.prog 20 #[.slice A1 m1 c1, .slice A2 m1 c2] W fun e w' => e = .returned (.bool true) ∧ Below W.heap.size W w' from fun W hW => by
        have h := ref_Same (L.drop 1) A1 A2 c1 c2 W (HD1.out.on hW) (HD2.out.on hW) (by rw [List.length_drop, HN.out]; have := HG.out; omega)
        rw [HM1.out] at h
        exact h)
      go_region_held3 (fun W' => True) (trivial)
        (first | (go_at_call 20; (with_reducible refine (HC1.out _ (drew_below _)).mono ?_); rintro e wA ⟨rfl, hbA⟩) | (go_at_call 20; (with_reducible refine (HC2.out _ (bstep (drew_below _) hbA)).mono ?_); rintro e wB ⟨rfl, hbB⟩) | (go_at_call 10; (with_reducible refine (awake_true wB).mono ?_); rintro e wC ⟨rfl, hbC⟩))
      go_wp2_with fail
      go_ret
      exact ⟨rfl, bstep HB10.out (bstep (bstep (bstep (drew_below _) hbA) hbB) hbC)⟩
#print axioms walk_PqueueNil
end Go.Proofs.Ytkgmfdmgaloaoaa.PqueueI
