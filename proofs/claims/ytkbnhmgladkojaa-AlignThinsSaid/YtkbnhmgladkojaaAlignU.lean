/- The examples of the chapter. -/
import Derived.Test.YtkbnhmgladkojaaAlignS
import Derived.Test.YtkbnhmgladkojaaAlignN
import Derived.Test.YtkbnhmgladkojaaAlignM
namespace Go.Proofs.Ytkbnhmgladkojaa.Align
open Go.ChangeShapes Go.WideShapes Go.RowKit Go.Lib Go.Proofs.Ytkbnhmgladkojaa.Rw
set_option linter.unusedVariables false
set_option maxRecDepth 100000

theorem lit_marks (w : World) (L : List Mk) : Mks (w.alloc (.cells (L.flatMap cM).toArray TM)) (some ⟨w.heap.size, 0, none⟩) L := by
  intro k z hz
  refine ⟨w.heap.size, 0, rfl, by simp, fun j u hu => ?_⟩
  rw [cell_of_row _ _ _ _ _ _ (heap_alloc_new w _), Nat.zero_add]
  have := flat_at cM_len hz hu
  simpa using this
abbrev MK : List Mk := [(0, 100), (10, 105), (20, 125)]
theorem law_marks (w : World) :
    Calls Try.prog 26 #[] w fun e w' => ∃ A, e = .returned (.slice A 3 3) ∧ Mks w' A MK ∧ Below w.heap.size w w' := by
  go_enter Try.func26, Try.ntmps26
  go_wp2_with fail
  go_ret
  exact ⟨_, rfl, lit_marks w MK, below_alloc _ _⟩
theorem eql_span (a b c d : Int) (w : World) : (binOp .eql 31 (.agg #[.int .i64 a, .int .i64 b]) (.agg #[.int .i64 c, .int .i64 d])).run Try.prog w = .ok (.bool (decide (a = c ∧ b = d))) w := by
  have u3 := Try.underlying3
  have a3 := Try.isAgg3
  have z3 := Try.sizeOf3
  have hS : Try.prog.underlying 31 = some (.struct (Try.prog.fieldsOf 31)) := by kernel_rfl
  have hp : Try.prog.stoodInHeld 31 = false := by kernel_rfl
  rw [run_eql_struct, show (10000 : Nat) = 9999 + 1 from rfl, run_equalIn_agg w 9999 31 _ _ hS hp]
  simp only [Program.fieldsOf, Try.underlying31]
  go_simp
  by_cases h1 : a = c <;> by_cases h2 : b = d <;> simp [h1, h2]
abbrev MK2 : List Mk := [(0, 0), (10, 5), (20, 10), (30, 20)]
abbrev MK3 : List Mk := [(0, 0), (20, 10), (30, 20)]
theorem ex_fwd : fwdV MK 11 = 107 ∧ fwdE MK 11 = 0 := by decide +kernel
theorem ex_bck : bckV MK 103 = 6 ∧ bckE MK 103 = 0 := by decide +kernel
theorem ex_cov : covV MK 0 11 = (100, 106) ∧ covE MK 0 11 = 0 := by decide +kernel
theorem ex_slp : slpV MK = (95, 105) ∧ chkA MK = 0 := by decide +kernel
theorem ex_thn : thnV MK2 = MK3 ∧ chkA MK2 = 0 := by decide +kernel
set_option maxHeartbeats 3200000 in
theorem law_awake (w : World) :
    Calls Try.prog 12 #[] w fun e w' => e = .returned (.bool true) ∧ Below w.heap.size w w' := by
  have HF := Lib.hid fun (A : Option Addr) (W : World) (h : Mks W A MK) => align_Forward MK A 3 11 W h (by decide) (by decide)
  have HBk := Lib.hid fun (A : Option Addr) (W : World) (h : Mks W A MK) => align_Back MK A 3 103 W h (by decide) (by decide)
  have HCv := Lib.hid fun (A : Option Addr) (W : World) (h : Mks W A MK) => align_Cover MK A 3 0 11 W h (by decide) (by decide) (by decide) (by decide)
  have HSl := Lib.hid fun (A : Option Addr) (W : World) (h : Mks W A MK) => align_Slip MK A 3 W h (by decide) (by decide)
  have HTh := Lib.hid fun (A : Option Addr) (W : World) (h : Mks W A MK2) => align_Thin MK2 A 4 W h (by decide) (by decide)
  rw [ex_fwd.1, ex_fwd.2] at HF
  rw [ex_bck.1, ex_bck.2] at HBk
  rw [ex_cov.1, ex_cov.2] at HCv
  rw [ex_slp.1, ex_slp.2] at HSl
  rw [ex_thn.1, ex_thn.2] at HTh
  go_enter Try.func12, Try.ntmps12
  go_wp2_with fail
  refine (law_marks w).mono ?_
  rintro e w1 ⟨A1, rfl, h1, hb1⟩
  have HB1 := Lib.hid hb1
  go_wp2_with fail
  refine (HF.out A1 w1 h1).mono ?_
  rintro e w2 ⟨rfl, hb2⟩
  have HB2 := Lib.hid (bstep HB1.out hb2)
  clear hb1 hb2 h1
  go_wp2_with fail
  refine (law_marks w2).mono ?_
  rintro e w3 ⟨A3, rfl, h3, hb3⟩
  have HB3 := Lib.hid (bstep HB2.out hb3)
  go_wp2_with fail
  refine (HBk.out A3 w3 h3).mono ?_
  rintro e w4 ⟨rfl, hb4⟩
  have HB4 := Lib.hid (bstep HB3.out hb4)
  clear hb3 hb4 h3
  go_wp2_with fail
  refine (law_marks w4).mono ?_
  rintro e w5 ⟨A5, rfl, h5, hb5⟩
  have HB5 := Lib.hid (bstep HB4.out hb5)
  go_wp2_with fail
  refine (HCv.out A5 w5 h5).mono ?_
  rintro e w6 ⟨rfl, hb6⟩
  have HB6 := Lib.hid (bstep HB5.out hb6)
  clear hb5 hb6 h5
  go_upto_region 4 with fail
  generalize hw7 : w6.alloc (.cells #[.int .i64 100, .int .i64 106] 31) = w7
  have HB7 : Hid (Below w.heap.size w w7) := bstep HB6.out (hw7 ▸ below_alloc _ _)
  have HC7 : Hid (Cel w7 w6.heap.size [.int .i64 100, .int .i64 106]) := hw7 ▸ Cel.new w6 [.int .i64 100, .int .i64 106] _
  clear hw7
  go_wp2_with fail
  refine (law_marks w7).mono ?_
  rintro e w8 ⟨A8, rfl, h8, hb8⟩
  have HB8 := Lib.hid (bstep HB7.out hb8)
  have HC8 := Lib.hid (HC7.out.on hb8)
  go_wp2_with fail
  refine (HSl.out A8 w8 h8).mono ?_
  rintro e w9 ⟨rfl, hb9⟩
  have HB9 := Lib.hid (bstep HB8.out hb9)
  have HC9 := Lib.hid (HC8.out.on hb9)
  clear hb8 hb9 h8
  go_wp2_with fail
  have hl := lit_marks w9 MK2
  have HBA := Lib.hid (bstep HB9.out (below_alloc w9 (.cells (MK2.flatMap cM).toArray TM)))
  have HCA := Lib.hid (HC9.out.on (below_alloc w9 (.cells (MK2.flatMap cM).toArray TM)))
  refine (HTh.out _ _ hl).mono ?_
  rintro e w10 ⟨A10, c10, rfl, -, h10, hb10⟩
  have HB10 := Lib.hid (bstep HBA.out hb10)
  have HC10 := Lib.hid (HCA.out.on hb10)
  have H10 := Lib.hid h10
  clear hb10 h10 hl
  have hq : ∀ W, (binOp .eql 31 (.agg #[.int .i64 100, .int .i64 106]) (.agg #[.int .i64 100, .int .i64 106])).run Try.prog W = .ok (.bool true) W := fun W => eql_span 100 106 100 106 W
  obtain ⟨x0, x1⟩ := HC10.out.two
  go_wp2_with fail
  refine (ref_Same MK3 MK3 A10 _ c10 _ 3 3 rfl rfl _ (H10.out.on (below_alloc _ _)) (lit_marks w10 MK3) (by decide) (by decide)).mono ?_
  rintro e w11 ⟨rfl, hb11⟩
  have HB11 := Lib.hid (bstep (bstep HB10.out (below_alloc _ _)) hb11)
  clear hb11
  rw [decide_eq_true (rfl : MK3 = MK3)]
  go_wp2_with fail
  go_ret
  exact ⟨rfl, HB11.out⟩
#print axioms law_awake
end Go.Proofs.Ytkbnhmgladkojaa.Align
