/- The examples of the chapter (awake); longer. Written by gen12/awake.py. -/
import Derived.Test.YtdolhanniiejfaaShareL
namespace Go.Proofs.Ytdolhanniiejfaa.Share
open Go.ChangeShapes Go.WideShapes Go.RowKit Go.Lib Go.Proofs.Ytdolhanniiejfaa.Mem
set_option linter.unusedVariables false
set_option maxRecDepth 100000

theorem lit_cl (L : List Int) (w : World) (c : Array Value) (hc : c = (L.map eI).toArray) : Cl eI (w.alloc (.cells c 3)) (some ⟨w.heap.size, 0, none⟩) L := by
  subst hc
  intro k z hz
  refine ⟨w.heap.size, 0, rfl, by simp, ?_⟩
  rw [cell_of_row _ _ _ _ _ _ (heap_alloc_new _ _), Nat.zero_add]
  simp [hz]
theorem ex0 (A : Option Addr) (c : Nat) (W : World) (h : Cl eI W A [10, 5]) : Calls Try.prog 11 #[.int .i64 4, .slice A 2 c] W (ResL [3, 1] 0 W) := by
  have h1 := split_n 4 [10, 5] 2 rfl A c W h (by omega)
  have e1 : splL 4 [10, 5] = [3, 1] := by decide +kernel
  have e2 : errS 4 [10, 5] = 0 := by decide +kernel
  rw [e1, e2] at h1
  exact h1
theorem ex1 (A : Option Addr) (c : Nat) (W : World) (h : Cl eI W A [1, 1, 1]) : Calls Try.prog 11 #[.int .i64 10, .slice A 3 c] W (ResL [4, 3, 3] 0 W) := by
  have h1 := split_n 10 [1, 1, 1] 3 rfl A c W h (by omega)
  have e1 : splL 10 [1, 1, 1] = [4, 3, 3] := by decide +kernel
  have e2 : errS 10 [1, 1, 1] = 0 := by decide +kernel
  rw [e1, e2] at h1
  exact h1
theorem ex2 (A : Option Addr) (c : Nat) (W : World) (h : Cl eI W A [1, 1, 1]) : Calls Try.prog 13 #[.int .i64 10, .slice A 3 c] W (ResL [3, 6, 10] 0 W) := by
  have h1 := bounds_n 10 [1, 1, 1] 3 rfl A c W h (by omega)
  have e1 : bouL 10 [1, 1, 1] = [3, 6, 10] := by decide +kernel
  have e2 : errS 10 [1, 1, 1] = 0 := by decide +kernel
  rw [e1, e2] at h1
  exact h1
theorem ex3 (A : Option Addr) (c : Nat) (W : World) (h : Cl eI W A [0, 0]) : Calls Try.prog 11 #[.int .i64 0, .slice A 2 c] W (ResL [0, 0] 0 W) := by
  have h1 := split_n 0 [0, 0] 2 rfl A c W h (by omega)
  have e1 : splL 0 [0, 0] = [0, 0] := by decide +kernel
  have e2 : errS 0 [0, 0] = 0 := by decide +kernel
  rw [e1, e2] at h1
  exact h1
theorem ex4 (A : Option Addr) (c : Nat) (W : World) (h : Cl eI W A [0, 0]) : Calls Try.prog 11 #[.int .i64 1, .slice A 2 c] W (ResL [] 16 W) := by
  have h1 := split_n 1 [0, 0] 2 rfl A c W h (by omega)
  have e1 : splL 1 [0, 0] = [] := by decide +kernel
  have e2 : errS 1 [0, 0] = 16 := by decide +kernel
  rw [e1, e2] at h1
  exact h1
theorem exf0 (A B : Option Addr) (c d : Nat) (W : World) (h : Cl eI W A [3, 1]) (k : Cl eI W B [10, 5]) : Calls Try.prog 18 #[.slice A 2 c, .slice B 2 d] W fun e w' => e = .returned (.bool true) ∧ Below W.heap.size W w' := by
  have h1 := share_fair [3, 1] [10, 5] 2 2 rfl rfl A B c d W h k (by omega) (by omega)
  have e1 : fairB [3, 1] [10, 5] = true := by decide +kernel
  rw [e1] at h1
  exact h1
theorem exf1 (A B : Option Addr) (c d : Nat) (W : World) (h : Cl eI W A [2, 2]) (k : Cl eI W B [10, 5]) : Calls Try.prog 18 #[.slice A 2 c, .slice B 2 d] W fun e w' => e = .returned (.bool false) ∧ Below W.heap.size W w' := by
  have h1 := share_fair [2, 2] [10, 5] 2 2 rfl rfl A B c d W h k (by omega) (by omega)
  have e1 : fairB [2, 2] [10, 5] = false := by decide +kernel
  rw [e1] at h1
  exact h1
theorem same_yes (L : List Int) (n : Nat) (hn : L.length = n) (A B : Option Addr) (c d : Nat) (w : World) (ha : Cl eI w A L) (hb : Cl eI w B L) (h1 : n ≤ 9223372036854775807) :
    Calls Try.prog 15 #[.slice A n c, .slice B n d] w fun e w' => e = .returned (.bool true) ∧ Below w.heap.size w w' := by
  have h := same_n L L n n hn hn A B c d w ha hb h1 h1
  rw [decide_eq_true rfl] at h
  exact h

set_option maxHeartbeats 3200000 in
theorem awake_true (w : World) : Calls Try.prog 9 #[] w fun e w' => e = .returned (.bool true) ∧ Below w.heap.size w w' := by
  have HBW := Lib.hid (Below.refl w.heap.size w)
  go_enter Try.func9, Try.ntmps9
  go_wp2_with fail
  have HA0 := Lib.hid (below_alloc w (.cells #[.int .i64 10, .int .i64 5] 3))
  refine (ex0 (some ⟨w.heap.size, 0, none⟩) 2 _ (lit_cl [10, 5] w _ rfl)).mono ?_
  intro e w0 hr
  obtain ⟨A0, n0, c0, rfl, hn, hl, ho, hc, hb⟩ := hr.open_
  obtain rfl : n0 = 2 := hn.symm
  have HB0 := Lib.hid (bstep HA0.out hb)
  have HC0 := Lib.hid hc
  clear hr hn hl ho hc hb HA0
  go_wp2_with fail
  have HA1 := Lib.hid (below_alloc w0 (.cells #[.int .i64 1, .int .i64 1, .int .i64 1] 3))
  refine (ex1 (some ⟨w0.heap.size, 0, none⟩) 3 _ (lit_cl [1, 1, 1] w0 _ rfl)).mono ?_
  intro e w1 hr
  obtain ⟨A1, n1, c1, rfl, hn, hl, ho, hc, hb⟩ := hr.open_
  obtain rfl : n1 = 3 := hn.symm
  have HB1 := Lib.hid (bstep HA1.out hb)
  have HC1 := Lib.hid hc
  clear hr hn hl ho hc hb HA1
  go_wp2_with fail
  have HA2 := Lib.hid (below_alloc w1 (.cells #[.int .i64 1, .int .i64 1, .int .i64 1] 3))
  refine (ex2 (some ⟨w1.heap.size, 0, none⟩) 3 _ (lit_cl [1, 1, 1] w1 _ rfl)).mono ?_
  intro e w2 hr
  obtain ⟨A2, n2, c2, rfl, hn, hl, ho, hc, hb⟩ := hr.open_
  obtain rfl : n2 = 3 := hn.symm
  have HB2 := Lib.hid (bstep HA2.out hb)
  have HC2 := Lib.hid hc
  clear hr hn hl ho hc hb HA2
  go_wp2_with fail
  have HA3 := Lib.hid (below_alloc w2 (.cells #[.int .i64 0, .int .i64 0] 3))
  refine (ex3 (some ⟨w2.heap.size, 0, none⟩) 2 _ (lit_cl [0, 0] w2 _ rfl)).mono ?_
  intro e w3 hr
  obtain ⟨A3, n3, c3, rfl, hn, hl, ho, hc, hb⟩ := hr.open_
  obtain rfl : n3 = 2 := hn.symm
  have HB3 := Lib.hid (bstep HA3.out hb)
  have HC3 := Lib.hid hc
  clear hr hn hl ho hc hb HA3
  go_wp2_with fail
  have HA4 := Lib.hid (below_alloc w3 (.cells #[.int .i64 0, .int .i64 0] 3))
  refine (ex4 (some ⟨w3.heap.size, 0, none⟩) 2 _ (lit_cl [0, 0] w3 _ rfl)).mono ?_
  intro e w4 hr
  obtain ⟨A4, n4, c4, rfl, hn, hl, ho, hc, hb⟩ := hr.open_
  obtain rfl : n4 = 0 := hn.symm
  have HB4 := Lib.hid (bstep HA4.out hb)
  have HC4 := Lib.hid hc
  clear hr hn hl ho hc hb HA4
  go_wp2_with fail
  have HA5 := Lib.hid (below_alloc w4 (.cells #[.int .i64 3, .int .i64 1] 3))
  refine (same_yes [3, 1] 2 rfl A0 (some ⟨w4.heap.size, 0, none⟩) c0 2 _ (HC0.out.on (bstep (bstep (bstep (bstep (HB1.out) HB2.out) HB3.out) HB4.out) HA5.out)) (lit_cl [3, 1] w4 _ rfl) (by omega)).mono ?_
  rintro e w5 ⟨rfl, hb⟩
  have HB5 := Lib.hid (bstep HA5.out hb)
  clear hb
  go_wp2_with fail
  have HA6 := Lib.hid (below_alloc w5 (.cells #[.int .i64 4, .int .i64 3, .int .i64 3] 3))
  refine (same_yes [4, 3, 3] 3 rfl A1 (some ⟨w5.heap.size, 0, none⟩) c1 3 _ (HC1.out.on (bstep (bstep (bstep (bstep (HB2.out) HB3.out) HB4.out) HB5.out) HA6.out)) (lit_cl [4, 3, 3] w5 _ rfl) (by omega)).mono ?_
  rintro e w6 ⟨rfl, hb⟩
  have HB6 := Lib.hid (bstep HA6.out hb)
  clear hb
  go_wp2_with fail
  have HA7 := Lib.hid (below_alloc w6 (.cells #[.int .i64 3, .int .i64 6, .int .i64 10] 3))
  refine (same_yes [3, 6, 10] 3 rfl A2 (some ⟨w6.heap.size, 0, none⟩) c2 3 _ (HC2.out.on (bstep (bstep (bstep (bstep (HB3.out) HB4.out) HB5.out) HB6.out) HA7.out)) (lit_cl [3, 6, 10] w6 _ rfl) (by omega)).mono ?_
  rintro e w7 ⟨rfl, hb⟩
  have HB7 := Lib.hid (bstep HA7.out hb)
  clear hb
  go_wp2_with fail
  have HA8 := Lib.hid (below_alloc w7 (.cells #[.int .i64 0, .int .i64 0] 3))
  refine (same_yes [0, 0] 2 rfl A3 (some ⟨w7.heap.size, 0, none⟩) c3 2 _ (HC3.out.on (bstep (bstep (bstep (bstep (HB4.out) HB5.out) HB6.out) HB7.out) HA8.out)) (lit_cl [0, 0] w7 _ rfl) (by omega)).mono ?_
  rintro e w8 ⟨rfl, hb⟩
  have HB8 := Lib.hid (bstep HA8.out hb)
  clear hb
  go_wp2_with fail
  have HX0 := Lib.hid (below_alloc w8 (.cells #[.int .i64 3, .int .i64 1] 3))
  have HY0 := Lib.hid (below_alloc (w8.alloc (.cells #[.int .i64 3, .int .i64 1] 3)) (.cells #[.int .i64 10, .int .i64 5] 3))
  have HZ0 := Lib.hid (lit_cl [10, 5] (w8.alloc (.cells #[.int .i64 3, .int .i64 1] 3)) #[.int .i64 10, .int .i64 5] rfl)
  rw [show (w8.alloc (.cells #[.int .i64 3, .int .i64 1] 3)).heap.size = w8.heap.size + 1 by simp] at HZ0
  refine (exf0 (some ⟨w8.heap.size, 0, none⟩) (some ⟨w8.heap.size + 1, 0, none⟩) 2 2 _ ((lit_cl [3, 1] w8 _ rfl).on HY0.out) HZ0.out).mono ?_
  rintro e w9 ⟨rfl, hb⟩
  have HB9 := Lib.hid (bstep (bstep HX0.out HY0.out) hb)
  clear hb
  go_wp2_with fail
  have HX1 := Lib.hid (below_alloc w9 (.cells #[.int .i64 2, .int .i64 2] 3))
  have HY1 := Lib.hid (below_alloc (w9.alloc (.cells #[.int .i64 2, .int .i64 2] 3)) (.cells #[.int .i64 10, .int .i64 5] 3))
  have HZ1 := Lib.hid (lit_cl [10, 5] (w9.alloc (.cells #[.int .i64 2, .int .i64 2] 3)) #[.int .i64 10, .int .i64 5] rfl)
  rw [show (w9.alloc (.cells #[.int .i64 2, .int .i64 2] 3)).heap.size = w9.heap.size + 1 by simp] at HZ1
  refine (exf1 (some ⟨w9.heap.size, 0, none⟩) (some ⟨w9.heap.size + 1, 0, none⟩) 2 2 _ ((lit_cl [2, 2] w9 _ rfl).on HY1.out) HZ1.out).mono ?_
  rintro e w10 ⟨rfl, hb⟩
  have HB10 := Lib.hid (bstep (bstep HX1.out HY1.out) hb)
  clear hb
  go_wp2_with fail
  go_ret
  exact ⟨rfl, bstep HB0.out (bstep (bstep (bstep (bstep (bstep (bstep (bstep (bstep (bstep (HB1.out) HB2.out) HB3.out) HB4.out) HB5.out) HB6.out) HB7.out) HB8.out) HB9.out) HB10.out)⟩
#print axioms awake_true
end Go.Proofs.Ytdolhanniiejfaa.Share
