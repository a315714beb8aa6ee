/- AlignChecks, AlignForwards, AlignBacks, AlignCovers, AlignThins -/
import Derived.Test.YtkbnhmgladkojaaAlignW
namespace Go.Proofs.Ytkbnhmgladkojaa.Align
open Go.ChangeShapes Go.WideShapes Go.RowKit Go.Lib Go.Proofs.Ytkbnhmgladkojaa.Rw
set_option linter.unusedVariables false
set_option maxRecDepth 100000

set_option maxHeartbeats 6400000 in
theorem walk_AlignChecks (w : World) (A : Option Addr) (c : Nat) (L : List Mk) (ha : Mks w A L) (hcap : L.length ≤ c) (hm : L.length ≤ 9223372036854775807) :
    Calls Try.prog 3 #[.slice A L.length c] w fun e w' => e = .returned (.bool true) ∧ Below w.heap.size w w' := by
  have HA := Lib.hid ha
  have HCap := Lib.hid hcap
  clear ha hcap
  by_cases hf : L.length ≤ 100
  rotate_left
  · have hfd : decide (L.length ≤ 100) = false := decide_eq_false hf
    clear hf
    go_enter Try.func3, Try.ntmps3
    go_wp2_with fail
    refine (law_few L A c _ hfd).mono ?_
    rintro e w' ⟨rfl, rfl⟩
    go_wp2_with fail
    refine (law_awake _).mono ?_
    rintro e w1 ⟨rfl, hb⟩
    have B1 := Lib.hid hb
    clear hb
    go_wp2_with fail
    go_ret
    exact ⟨rfl, B1.out⟩
  have hfd : decide (L.length ≤ 100) = true := decide_eq_true hf
  clear hf
  go_enter Try.func3, Try.ntmps3
  go_wp2_with fail
  refine (law_few L A c _ hfd).mono ?_
  rintro e w' ⟨rfl, rfl⟩
  go_wp2_with fail
  refine (law_few L A c _ hfd).mono ?_
  rintro e w' ⟨rfl, rfl⟩
  go_wp2_with fail
  refine (align_Check L A c w HA.out hm HCap.out).mono ?_
  rintro e w1 ⟨rfl, hb⟩
  have B1 := Lib.hid hb
  clear hb
  go_wp2_with fail
  refine (ref_Check L A c w1 (HA.out.on B1.out) hm).mono ?_
  rintro e w2 ⟨rfl, hb⟩
  have B2 := Lib.hid (bstep B1.out hb)
  clear hb
  obtain ⟨E, hE⟩ : ∃ E, chkA L = E := ⟨_, rfl⟩
  rw [hE]
  clear hE
  go_wp2_with fail
  refine (law_awake w2).mono ?_
  rintro e w3 ⟨rfl, hb⟩
  have B3 := Lib.hid (bstep B2.out hb)
  clear hb
  go_wp2_with fail
  go_ret
  exact ⟨rfl, B3.out⟩

set_option maxHeartbeats 6400000 in
theorem walk_AlignForwards (w : World) (A : Option Addr) (c : Nat) (L : List Mk) (ha : Mks w A L) (hcap : L.length ≤ c) (hm : L.length ≤ 9223372036854775807) (a : Int) :
    Calls Try.prog 4 #[.slice A L.length c, .int .i64 a] w fun e w' => e = .returned (.bool true) ∧ Below w.heap.size w w' := by
  have HA := Lib.hid ha
  have HCap := Lib.hid hcap
  clear ha hcap
  by_cases hf : L.length ≤ 100
  rotate_left
  · have hfd : decide (L.length ≤ 100) = false := decide_eq_false hf
    clear hf
    go_enter Try.func4, Try.ntmps4
    go_wp2_with fail
    refine (law_few L A c _ hfd).mono ?_
    rintro e w' ⟨rfl, rfl⟩
    go_wp2_with fail
    refine (law_awake _).mono ?_
    rintro e w1 ⟨rfl, hb⟩
    have B1 := Lib.hid hb
    clear hb
    go_wp2_with fail
    go_ret
    exact ⟨rfl, B1.out⟩
  have hfd : decide (L.length ≤ 100) = true := decide_eq_true hf
  clear hf
  obtain ⟨V, hV⟩ : ∃ V, fwdV L a = V := ⟨_, rfl⟩
  obtain ⟨E, hE⟩ : ∃ E, fwdE L a = E := ⟨_, rfl⟩
  have H1 := Lib.hid (align_Forward L A c a w HA.out hm HCap.out)
  have H2 := Lib.hid fun (W : World) (h : Mks W A L) => ref_Forward L A c a W h hm
  rw [hV, hE] at H1 H2
  clear hV hE
  go_enter Try.func4, Try.ntmps4
  go_wp2_with fail
  refine (law_few L A c _ hfd).mono ?_
  rintro e w' ⟨rfl, rfl⟩
  go_wp2_with fail
  refine (H1.out).mono ?_
  rintro e w1 ⟨rfl, hb⟩
  have B1 := Lib.hid hb
  clear hb
  go_wp2_with fail
  refine (H2.out w1 (HA.out.on B1.out)).mono ?_
  rintro e w2 ⟨rfl, hb⟩
  have B2 := Lib.hid (bstep B1.out hb)
  clear hb
  go_wp2_with fail
  refine (law_awake w2).mono ?_
  rintro e w3 ⟨rfl, hb⟩
  have B3 := Lib.hid (bstep B2.out hb)
  clear hb
  go_wp2_with fail
  go_ret
  exact ⟨rfl, B3.out⟩

set_option maxHeartbeats 6400000 in
theorem walk_AlignBacks (w : World) (A : Option Addr) (c : Nat) (L : List Mk) (ha : Mks w A L) (hcap : L.length ≤ c) (hm : L.length ≤ 9223372036854775807) (a : Int) :
    Calls Try.prog 5 #[.slice A L.length c, .int .i64 a] w fun e w' => e = .returned (.bool true) ∧ Below w.heap.size w w' := by
  have HA := Lib.hid ha
  have HCap := Lib.hid hcap
  clear ha hcap
  by_cases hf : L.length ≤ 100
  rotate_left
  · have hfd : decide (L.length ≤ 100) = false := decide_eq_false hf
    clear hf
    go_enter Try.func5, Try.ntmps5
    go_wp2_with fail
    refine (law_few L A c _ hfd).mono ?_
    rintro e w' ⟨rfl, rfl⟩
    go_wp2_with fail
    refine (law_awake _).mono ?_
    rintro e w1 ⟨rfl, hb⟩
    have B1 := Lib.hid hb
    clear hb
    go_wp2_with fail
    go_ret
    exact ⟨rfl, B1.out⟩
  have hfd : decide (L.length ≤ 100) = true := decide_eq_true hf
  clear hf
  obtain ⟨V, hV⟩ : ∃ V, bckV L a = V := ⟨_, rfl⟩
  obtain ⟨E, hE⟩ : ∃ E, bckE L a = E := ⟨_, rfl⟩
  have H1 := Lib.hid (align_Back L A c a w HA.out hm HCap.out)
  have H2 := Lib.hid fun (W : World) (h : Mks W A L) => ref_Back L A c a W h hm
  rw [hV, hE] at H1 H2
  clear hV hE
  go_enter Try.func5, Try.ntmps5
  go_wp2_with fail
  refine (law_few L A c _ hfd).mono ?_
  rintro e w' ⟨rfl, rfl⟩
  go_wp2_with fail
  refine (H1.out).mono ?_
  rintro e w1 ⟨rfl, hb⟩
  have B1 := Lib.hid hb
  clear hb
  go_wp2_with fail
  refine (H2.out w1 (HA.out.on B1.out)).mono ?_
  rintro e w2 ⟨rfl, hb⟩
  have B2 := Lib.hid (bstep B1.out hb)
  clear hb
  go_wp2_with fail
  refine (law_awake w2).mono ?_
  rintro e w3 ⟨rfl, hb⟩
  have B3 := Lib.hid (bstep B2.out hb)
  clear hb
  go_wp2_with fail
  go_ret
  exact ⟨rfl, B3.out⟩

set_option maxHeartbeats 6400000 in
theorem walk_AlignCovers (w : World) (A : Option Addr) (c : Nat) (L : List Mk) (ha : Mks w A L) (hcap : L.length ≤ c) (hm : L.length ≤ 9223372036854775807) (f t : Int) (wf : -9223372036854775808 ≤ f ∧ f ≤ 9223372036854775807) (wt : -9223372036854775808 ≤ t ∧ t ≤ 9223372036854775807) :
    Calls Try.prog 6 #[.slice A L.length c, .agg #[.int .i64 f, .int .i64 t]] w fun e w' => e = .returned (.bool true) ∧ Below w.heap.size w w' := by
  have HA := Lib.hid ha
  have HCap := Lib.hid hcap
  clear ha hcap
  by_cases hf : L.length ≤ 100
  rotate_left
  · have hfd : decide (L.length ≤ 100) = false := decide_eq_false hf
    clear hf
    go_enter Try.func6, Try.ntmps6
    go_upto_region 1 with fail
    go_wp2_with fail
    refine (law_few L A c _ hfd).mono ?_
    rintro e w' ⟨rfl, rfl⟩
    go_wp2_with fail
    refine (law_awake _).mono ?_
    rintro e w1 ⟨rfl, hb⟩
    have B1 := Lib.hid hb
    clear hb
    go_wp2_with fail
    go_ret
    exact ⟨rfl, (below_alloc _ _).trans (B1.out.mono (below_alloc _ _).size)⟩
  have hfd : decide (L.length ≤ 100) = true := decide_eq_true hf
  clear hf
  obtain ⟨E, hE⟩ : ∃ E, covE L f t = E := ⟨_, rfl⟩
  obtain ⟨lo, hi, hV⟩ : ∃ lo hi, covV L f t = (lo, hi) := ⟨_, _, rfl⟩
  have H1 := Lib.hid fun (W : World) (h : Mks W A L) => align_Cover L A c f t W h hm HCap.out wf wt
  have H2 := Lib.hid fun (W : World) (h : Mks W A L) => ref_Cover L A c f t W h hm
  rw [hV, hE] at H1 H2
  clear hV hE wf wt
  go_enter Try.func6, Try.ntmps6
  go_upto_region 1 with fail
  obtain ⟨w0, hw0⟩ : ∃ W, w.alloc (.cells #[.int .i64 f, .int .i64 t] 31) = W := ⟨_, rfl⟩
  have C0 : Hid (Cel w0 w.heap.size [.int .i64 f, .int .i64 t]) := hw0 ▸ Cel.new w [.int .i64 f, .int .i64 t] _
  have B0 : Hid (Below w.heap.size w w0) := hw0 ▸ below_alloc _ _
  rw [hw0]
  clear hw0
  go_wp2_with fail
  refine (law_few L A c w0 hfd).mono ?_
  rintro e w' ⟨rfl, rfl⟩
  obtain ⟨x0, x1⟩ := C0.out.two
  go_wp2_with fail
  refine (H1.out w0 (HA.out.on B0.out)).mono ?_
  rintro e w1 ⟨rfl, hb⟩
  have B1 := Lib.hid (bstep B0.out hb)
  replace C0 := Lib.hid (C0.out.on hb)
  clear x0 x1
  clear hb
  go_upto_region 4 with fail
  generalize hw2 : w1.alloc (.cells #[.int .i64 lo, .int .i64 hi] 31) = w2
  have C2 : Hid (Cel w2 w1.heap.size [.int .i64 lo, .int .i64 hi]) := hw2 ▸ Cel.new w1 [.int .i64 lo, .int .i64 hi] _
  have hb2 : Below w1.heap.size w1 w2 := hw2 ▸ below_alloc _ _
  have B2 := Lib.hid (bstep B1.out hb2)
  replace C0 := Lib.hid (C0.out.on hb2)
  clear hw2 hb2
  obtain ⟨x0, x1⟩ := C0.out.two
  go_wp2_with fail
  refine (H2.out w2 (HA.out.on B2.out)).mono ?_
  rintro e w3 ⟨rfl, hb⟩
  have B3 := Lib.hid (bstep B2.out hb)
  replace C2 := Lib.hid (C2.out.on hb)
  clear x0 x1
  clear hb
  go_upto_region 5 with fail
  generalize hw4 : w3.alloc (.cells #[.int .i64 lo, .int .i64 hi] 31) = w4
  have C4 : Hid (Cel w4 w3.heap.size [.int .i64 lo, .int .i64 hi]) := hw4 ▸ Cel.new w3 [.int .i64 lo, .int .i64 hi] _
  have hb4 : Below w3.heap.size w3 w4 := hw4 ▸ below_alloc _ _
  have B4 := Lib.hid (bstep B3.out hb4)
  replace C2 := Lib.hid (C2.out.on hb4)
  clear hw4 hb4
  obtain ⟨x0, x1⟩ := C2.out.two
  obtain ⟨x2, x3⟩ := C4.out.two
  have hq : ∀ W, (binOp .eql 31 (.agg #[.int .i64 lo, .int .i64 hi]) (.agg #[.int .i64 lo, .int .i64 hi])).run Try.prog W = .ok (.bool true) W := fun W => by rw [eql_span]; simp
  go_wp2_with fail
  refine (law_awake w4).mono ?_
  rintro e w5 ⟨rfl, hb⟩
  have B5 := Lib.hid (bstep B4.out hb)
  clear hb
  go_wp2_with fail
  go_ret
  exact ⟨rfl, B5.out⟩

set_option maxHeartbeats 6400000 in
theorem walk_AlignThins (w : World) (A : Option Addr) (c : Nat) (L : List Mk) (ha : Mks w A L) (hcap : L.length ≤ c) (hm : L.length ≤ 9223372036854775807) :
    Calls Try.prog 7 #[.slice A L.length c] w fun e w' => e = .returned (.bool true) ∧ Below w.heap.size w w' := by
  have HA := Lib.hid ha
  have HCap := Lib.hid hcap
  clear ha hcap
  by_cases hf : L.length ≤ 100
  rotate_left
  · have hfd : decide (L.length ≤ 100) = false := decide_eq_false hf
    clear hf
    go_enter Try.func7, Try.ntmps7
    go_wp2_with fail
    refine (law_few L A c _ hfd).mono ?_
    rintro e w' ⟨rfl, rfl⟩
    go_wp2_with fail
    refine (law_awake _).mono ?_
    rintro e w1 ⟨rfl, hb⟩
    have B1 := Lib.hid hb
    clear hb
    go_wp2_with fail
    go_ret
    exact ⟨rfl, B1.out⟩
  have hfd : decide (L.length ≤ 100) = true := decide_eq_true hf
  clear hf
  obtain ⟨E, hE⟩ : ∃ E, chkA L = E := ⟨_, rfl⟩
  obtain ⟨lo, hi, hV⟩ : ∃ lo hi, slpV L = (lo, hi) := ⟨_, _, rfl⟩
  obtain ⟨T, hT⟩ : ∃ T, thnV L = T := ⟨_, rfl⟩
  obtain ⟨n, hn⟩ : ∃ n, n = T.length := ⟨_, rfl⟩
  have hTl : T.length ≤ 100 := by have h1 := thnV_len L; have h2 := of_decide_eq_true hfd; rw [hT] at h1; omega
  have HTl := Lib.hid hTl
  have HN := Lib.hid hn
  have H1 := Lib.hid (align_Thin L A c w HA.out hm HCap.out)
  have H2 := Lib.hid fun (W : World) (h : Mks W A L) => ref_Thin L A c W h hm
  have H3 := Lib.hid fun (W : World) (h : Mks W A L) => align_Slip L A c W h hm HCap.out
  have H4 := Lib.hid fun (W : World) (h : Mks W A L) => ref_Slip L A c W h hm
  rw [hT, hE] at H1 H2
  rw [hV, hE] at H3 H4
  clear hV hE hT hTl
  go_enter Try.func7, Try.ntmps7
  go_wp2_with fail
  refine (law_few L A c _ hfd).mono ?_
  rintro e w' ⟨rfl, rfl⟩
  unfold ThnR at H1 H2
  rw [← hn] at H1 H2
  clear hn
  go_wp2_with fail
  refine (H1.out).mono ?_
  rintro e w1 ⟨A1, c1, rfl, -, hr1, hb⟩
  have B1 := Lib.hid hb
  have R1 := Lib.hid hr1
  clear hr1
  clear hb
  go_wp2_with fail
  refine (H2.out w1 (HA.out.on B1.out)).mono ?_
  rintro e w2 ⟨A2, c2, rfl, -, hr2, hb⟩
  have B2 := Lib.hid (bstep B1.out hb)
  replace R1 := Lib.hid (R1.out.on hb)
  have R2 := Lib.hid hr2
  clear hr2
  clear hb
  go_wp2_with fail
  refine (H3.out w2 (HA.out.on B2.out)).mono ?_
  rintro e w3 ⟨rfl, hb⟩
  have B3 := Lib.hid (bstep B2.out hb)
  replace R1 := Lib.hid (R1.out.on hb)
  replace R2 := Lib.hid (R2.out.on hb)
  clear hb
  go_wp2_with fail
  refine (H4.out w3 (HA.out.on B3.out)).mono ?_
  rintro e w4 ⟨rfl, hb⟩
  have B4 := Lib.hid (bstep B3.out hb)
  replace R1 := Lib.hid (R1.out.on hb)
  replace R2 := Lib.hid (R2.out.on hb)
  clear hb
  go_wp2_with fail
  refine (ref_Same T T A1 A2 c1 c2 n n HN.out HN.out w4 R1.out R2.out (by have := HTl.out; have := HN.out; omega) (by have := HTl.out; have := HN.out; omega)).mono ?_
  rintro e w5 ⟨rfl, hb⟩
  have B5 := Lib.hid (bstep B4.out hb)
  replace R1 := Lib.hid (R1.out.on hb)
  replace R2 := Lib.hid (R2.out.on hb)
  rw [decide_eq_true (rfl : T = T)]
  clear hb
  go_wp2_with fail
  refine (law_awake w5).mono ?_
  rintro e w6 ⟨rfl, hb⟩
  have B6 := Lib.hid (bstep B5.out hb)
  clear hb
  go_wp2_with fail
  go_ret
  exact ⟨rfl, B6.out⟩
#print axioms walk_AlignChecks
#print axioms walk_AlignForwards
#print axioms walk_AlignBacks
#print axioms walk_AlignCovers
#print axioms walk_AlignThins
end Go.Proofs.Ytkbnhmgladkojaa.Align
