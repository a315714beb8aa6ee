/- The examples of the chapter. -/
import Derived.Test.YtnblpooimgpgoaaIsoS
import Derived.Test.YtnblpooimgpgoaaIsoT
import Derived.Test.YtnblpooimgpgoaaSpanE
namespace Go.Proofs.Ytnblpooimgpgoaa.Iso
open Go.ChangeShapes Go.WideShapes Go.RowKit Go.Lib Go.Proofs.Ytnblpooimgpgoaa.Rw
open Go.Proofs.Ytnblpooimgpgoaa.Span (Sps IsNf Nrm)
set_option linter.unusedVariables false
set_option maxRecDepth 100000

/-- A list of runs that is written out. -/
theorem lit_runs (w : World) (L : List Rn) : Rns (w.alloc (.cells (L.flatMap cR).toArray TR)) (some ⟨w.heap.size, 0, none⟩) L := by
  intro k z hz
  refine ⟨w.heap.size, 0, rfl, by simp, fun j u hu => ?_⟩
  rw [cell_of_row _ _ _ _ _ _ (heap_alloc_new w _), Nat.zero_add]
  have := flat_at cR_len hz hu
  simpa using this
theorem lit_sps (w : World) (L : List (Int × Int)) : Sps (w.alloc (.cells (L.flatMap fun s => [Value.int .i64 s.1, Value.int .i64 s.2]).toArray 28)) (some ⟨w.heap.size, 0, none⟩) L := by
  have hc : ∀ s : Int × Int, ((fun s : Int × Int => [Value.int .i64 s.1, Value.int .i64 s.2]) s).length = 2 := fun _ => rfl
  intro k s hs
  refine ⟨w.heap.size, 0, rfl, by simp, ?_, ?_⟩
  · rw [cell_of_row _ _ _ _ _ _ (heap_alloc_new w _)]
    have := flat_at hc hs (j := 0) rfl
    simpa using this
  · rw [cell_of_row _ _ _ _ _ _ (heap_alloc_new w _)]
    have := flat_at hc hs (j := 1) rfl
    simpa using this
theorem nf_find : ∀ M, IsNf (fndB [(10, 3, false), (10, 3, false)] (11, 12)) M → M = [(1, 2), (4, 5)] := by
  intro M hM
  refine hM.one ⟨⟨by simp, by simp⟩, fun x => ?_⟩
  rw [Bool.eq_iff_iff, Span.hasB_iff]
  unfold fndB atM
  by_cases h0 : x < 0
  · rw [if_pos h0]; simp; omega
  · rw [if_neg h0]
    have e : ex [(10, 3, false), (10, 3, false)] = [10, 11, 12, 10, 11, 12] := by decide
    rw [e]
    obtain ⟨k, hk⟩ : ∃ k : Nat, x = (k : Int) := ⟨x.toNat, by omega⟩
    subst hk
    rw [Int.toNat_natCast]
    rcases Nat.lt_or_ge k 6 with h | h
    · have : k = 0 ∨ k = 1 ∨ k = 2 ∨ k = 3 ∨ k = 4 ∨ k = 5 := by omega
      rcases this with rfl | rfl | rfl | rfl | rfl | rfl <;> simp [Span.inS]
    · rw [List.getElem?_eq_none (by simpa using h)]; simp; omega
theorem sng_yes : sngB [(10, 3, false), (7, 2, true)] = true := by
  unfold sngB
  have hv : Vd [(10, 3, false), (7, 2, true)] := ⟨by decide, by decide, by decide⟩
  rw [decide_eq_true hv.eC, Bool.true_and, decide_eq_true_iff]
  exact (single_iff hv).2.mpr (by decide)
theorem sng_no : sngB [(4, 2, false), (5, 1, false)] = false := by
  unfold sngB
  have hv : Vd [(4, 2, false), (5, 1, false)] := ⟨by decide, by decide, by decide⟩
  rw [decide_eq_true hv.eC, Bool.true_and, decide_eq_false_iff_not]
  intro h
  exact absurd ((single_iff hv).2.mp h) (by decide)
theorem e_At {L : List Rn} {x y : Int} (h1 : atV L x = y) (h2 : atE L x = 0) (hl : L.length ≤ 1000) (A : Option Addr) (c : Nat) (w : World) (ha : Rns w A L) : Calls Try.prog 20 #[.slice A L.length c, .int .i64 x] w fun e w' => e = .returned (.tuple #[.int .i64 y, .int .i64 0]) ∧ Below w.heap.size w w' := by
  have h := iso_At L A c x w ha (by omega)
  rw [h1, h2] at h; exact h
theorem e_Same (L : List Rn) (hl : L.length ≤ 1000) (A B : Option Addr) (c d : Nat) (w : World) (ha : Rns w A L) (hb : Rns w B L) : Calls Try.prog 24 #[.slice A L.length c, .slice B L.length d] w fun e w' => e = .returned (.bool true) ∧ Below w.heap.size w w' := by
  have h := ref_Same L L A B c d w ha hb (by omega) (by omega)
  rw [decide_eq_true rfl] at h; exact h

theorem e_Norm (L M : List Rn) (h1 : nrmL L = M) (h2 : eC L = 0) (A : Option Addr) (c : Nat) (w : World) (ha : Rns w A L) : Calls Try.prog 22 #[.slice A L.length c] w (Res M 0 w) := by
  have h := iso_Norm L A c w ha (by have := (Vd.ofE h2).n; omega)
  rw [h1, h2] at h; exact h
theorem e_Rev (L M : List Rn) (h1 : revL L = M) (h2 : eC L = 0) (A : Option Addr) (c : Nat) (w : World) (ha : Rns w A L) : Calls Try.prog 36 #[.slice A L.length c] w (Res M 0 w) := by
  have h := iso_Reverse L A c w ha (by have := (Vd.ofE h2).n; omega)
  rw [h1, h2] at h; exact h
theorem cmpE_both {a b : List Rn} (h : cmpE a b = 0) : a.length ≤ 256 ∧ b.length ≤ 256 := by
  unfold cmpE at h
  by_cases hz : bothE a b = 0
  · have := both_zero hz; exact ⟨this.1.n, this.2.n⟩
  · rw [if_neg hz] at h; exact absurd h hz
theorem e_Comp (a b M : List Rn) (h1 : cmpL a b = M) (h2 : cmpE a b = 0) (A B : Option Addr) (c d : Nat) (w : World) (ha : Rns w A a) (hb : Rns w B b) : Calls Try.prog 30 #[.slice A a.length c, .slice B b.length d] w (Res M 0 w) := by
  have hl := cmpE_both h2
  have h := iso_Compose a b A B c d w ha hb (by omega) (by omega)
  rw [h1, h2] at h; exact h
theorem e_Find (A : Option Addr) (c : Nat) (w : World) (ha : Rns w A [(10, 3, false), (10, 3, false)]) : Calls Try.prog 27 #[.slice A 2 c, .agg #[.int .i64 11, .int .i64 12]] w fun e w' => ∃ V cap, e = .returned (.tuple #[.slice V 2 cap, .int .i64 0]) ∧ Sps w' V [(1, 2), (4, 5)] ∧ Below w.heap.size w w' := by
  refine (iso_Find [(10, 3, false), (10, 3, false)] A c 11 12 w ha (by decide)).mono ?_
  rintro e w' ⟨M, V, cap, rfl, hl, hs, hn, -, hb⟩
  have e0 : fndE [(10, 3, false), (10, 3, false)] 11 12 = 0 := by decide +kernel
  obtain rfl := nf_find M (hn e0)
  rw [e0]
  exact ⟨V, cap, rfl, hs, hb⟩
theorem e_Same4 (L : List (Int × Int)) (hl : L.length ≤ 1000) (A B : Option Addr) (c d : Nat) (w : World) (ha : Sps w A L) (hb : Sps w B L) : Calls Try.prog 29 #[.slice A L.length c, .slice B L.length d] w fun e w' => e = .returned (.bool true) ∧ Below w.heap.size w w' := by
  have h := Span.ref_Same L L A B c d w ha hb (by omega) (by omega)
  rw [decide_eq_true rfl] at h; exact h
theorem e_Single (L : List Rn) {b : Bool} (h1 : sngB L = b) (hl : L.length ≤ 1000) (A : Option Addr) (c : Nat) (w : World) (ha : Rns w A L) : Calls Try.prog 16 #[.slice A L.length c] w fun e w' => e = .returned (.bool b) ∧ Below w.heap.size w w' := by
  have h := iso_Single L A c w ha (by omega)
  rw [h1] at h; exact h

set_option maxHeartbeats 6400000 in
theorem iso_awake (w : World) : Calls Try.prog 13 #[] w fun e w' => e = .returned (.bool true) ∧ Below w.heap.size w w' := by
  go_enter Try.func13, Try.ntmps13
  go_upto_region 2 with fail
  generalize hwa : w.alloc (.cells #[.int .i64 10, .int .i64 3, .bool false, .int .i64 7, .int .i64 2, .bool true] 48) = w1
  have R1 : Hid (Rns w1 (some ⟨w.heap.size, 0, none⟩) [(10, 3, false), (7, 2, true)]) := hwa ▸ lit_runs w [(10, 3, false), (7, 2, true)]
  have B1 : Hid (Below w.heap.size w w1) := hwa ▸ below_alloc _ _
  clear hwa
  go_wp2_with fail
  refine (e_At (y := 12) (by decide +kernel) (by decide +kernel) (by decide) _ 2 _ R1.out).mono ?_
  rintro e w2 ⟨rfl, hb⟩
  have B2 := Lib.hid (bstep B1.out hb)
  replace R1 := Lib.hid (R1.out.on hb)
  clear hb
  go_wp2_with fail
  refine (e_At (y := 6) (by decide +kernel) (by decide +kernel) (by decide) _ 2 _ R1.out).mono ?_
  rintro e w3 ⟨rfl, hb⟩
  have B3 := Lib.hid (bstep B2.out hb)
  replace R1 := Lib.hid (R1.out.on hb)
  clear hb
  have L0 : Hid (Rns (w3.alloc (.cells #[.int .i64 5, .int .i64 1, .bool false, .int .i64 6, .int .i64 2, .bool false, .int .i64 6, .int .i64 1, .bool false] 48)) (some ⟨w3.heap.size, 0, none⟩) [(5, 1, false), (6, 2, false), (6, 1, false)]) := (lit_runs w3 [(5, 1, false), (6, 2, false), (6, 1, false)])
  have BL : Hid (Below w3.heap.size w3 (w3.alloc (.cells #[.int .i64 5, .int .i64 1, .bool false, .int .i64 6, .int .i64 2, .bool false, .int .i64 6, .int .i64 1, .bool false] 48))) := below_alloc _ _
  go_wp2_with fail
  refine (e_Norm [(5, 1, false), (6, 2, false), (6, 1, false)] [(5, 3, false), (6, 1, false)] (by decide +kernel) (by decide +kernel) _ 3 _ L0.out).mono ?_
  rintro e w4 ⟨A4, c4, rfl, hr, hb⟩
  have RN : Hid (Rns w4 A4 [(5, 3, false), (6, 1, false)]) := hr.1
  have B4 := Lib.hid (bstep B3.out (bstep BL.out hb))
  replace R1 := Lib.hid (R1.out.on (bstep BL.out hb))
  clear hr hb BL L0
  have L0 : Hid (Rns ((w4.alloc (.cells #[.int .i64 2, .int .i64 2, .bool true] 48)).alloc (.cells #[.int .i64 10, .int .i64 5, .bool false] 48)) (some ⟨w4.heap.size, 0, none⟩) [(2, 2, true)]) := (lit_runs w4 [(2, 2, true)]).on (below_alloc _ _)
  have L1 : Hid (Rns ((w4.alloc (.cells #[.int .i64 2, .int .i64 2, .bool true] 48)).alloc (.cells #[.int .i64 10, .int .i64 5, .bool false] 48)) (some ⟨w4.heap.size + 1, 0, none⟩) [(10, 5, false)]) := (by have h := lit_runs (w4.alloc (.cells #[.int .i64 2, .int .i64 2, .bool true] 48)) [(10, 5, false)]; simp only [World.size_alloc] at h; exact h)
  have BL : Hid (Below w4.heap.size w4 ((w4.alloc (.cells #[.int .i64 2, .int .i64 2, .bool true] 48)).alloc (.cells #[.int .i64 10, .int .i64 5, .bool false] 48))) := bstep (below_alloc _ _) (below_alloc _ _)
  go_wp2_with fail
  refine (e_Comp [(2, 2, true)] [(10, 5, false)] [(12, 2, true)] (by decide +kernel) (by decide +kernel) _ _ 1 1 _ L0.out L1.out).mono ?_
  rintro e w5 ⟨A5, c5, rfl, hr, hb⟩
  have RC : Hid (Rns w5 A5 [(12, 2, true)]) := hr.1
  have B5 := Lib.hid (bstep B4.out (bstep BL.out hb))
  replace R1 := Lib.hid (R1.out.on (bstep BL.out hb))
  replace RN := Lib.hid (RN.out.on (bstep BL.out hb))
  clear hr hb BL L0 L1
  have L0 : Hid (Rns (w5.alloc (.cells #[.int .i64 10, .int .i64 3, .bool false] 48)) (some ⟨w5.heap.size, 0, none⟩) [(10, 3, false)]) := (lit_runs w5 [(10, 3, false)])
  have BL : Hid (Below w5.heap.size w5 (w5.alloc (.cells #[.int .i64 10, .int .i64 3, .bool false] 48))) := below_alloc _ _
  go_wp2_with fail
  refine (e_Rev [(10, 3, false)] [(12, 3, true)] (by decide +kernel) (by decide +kernel) _ 1 _ L0.out).mono ?_
  rintro e w6 ⟨A6, c6, rfl, hr, hb⟩
  have RV : Hid (Rns w6 A6 [(12, 3, true)]) := hr.1
  have B6 := Lib.hid (bstep B5.out (bstep BL.out hb))
  replace R1 := Lib.hid (R1.out.on (bstep BL.out hb))
  replace RN := Lib.hid (RN.out.on (bstep BL.out hb))
  replace RC := Lib.hid (RC.out.on (bstep BL.out hb))
  clear hr hb BL L0
  have L0 : Hid (Rns (w6.alloc (.cells #[.int .i64 10, .int .i64 3, .bool false, .int .i64 10, .int .i64 3, .bool false] 48)) (some ⟨w6.heap.size, 0, none⟩) [(10, 3, false), (10, 3, false)]) := lit_runs w6 [(10, 3, false), (10, 3, false)]
  have BL : Hid (Below w6.heap.size w6 (w6.alloc (.cells #[.int .i64 10, .int .i64 3, .bool false, .int .i64 10, .int .i64 3, .bool false] 48))) := below_alloc _ _
  go_wp2_with fail
  refine (e_Find _ 2 _ L0.out).mono ?_
  rintro e w7 ⟨A7, c7, rfl, hr, hb⟩
  have RF := Lib.hid hr
  have B7 := Lib.hid (bstep B6.out (bstep BL.out hb))
  replace R1 := Lib.hid (R1.out.on (bstep BL.out hb))
  replace RN := Lib.hid (RN.out.on (bstep BL.out hb))
  replace RC := Lib.hid (RC.out.on (bstep BL.out hb))
  replace RV := Lib.hid (RV.out.on (bstep BL.out hb))
  clear hr hb BL L0
  have L0 : Hid (Rns (w7.alloc (.cells #[.int .i64 5, .int .i64 3, .bool false, .int .i64 6, .int .i64 1, .bool false] 48)) (some ⟨w7.heap.size, 0, none⟩) [(5, 3, false), (6, 1, false)]) := lit_runs w7 [(5, 3, false), (6, 1, false)]
  have BL : Hid (Below w7.heap.size w7 (w7.alloc (.cells #[.int .i64 5, .int .i64 3, .bool false, .int .i64 6, .int .i64 1, .bool false] 48))) := below_alloc _ _
  have LR := Lib.hid (RN.out.on BL.out)
  go_wp2_with fail
  refine (e_Same [(5, 3, false), (6, 1, false)] (by decide) _ _ _ 2 _ LR.out L0.out).mono ?_
  rintro e w8 ⟨rfl, hb⟩
  have B8 := Lib.hid (bstep B7.out (bstep BL.out hb))
  replace R1 := Lib.hid (R1.out.on (bstep BL.out hb))
  replace RC := Lib.hid (RC.out.on (bstep BL.out hb))
  replace RV := Lib.hid (RV.out.on (bstep BL.out hb))
  replace RF := Lib.hid (RF.out.on (bstep BL.out hb))
  clear hb BL L0 LR
  have L0 : Hid (Rns (w8.alloc (.cells #[.int .i64 12, .int .i64 2, .bool true] 48)) (some ⟨w8.heap.size, 0, none⟩) [(12, 2, true)]) := lit_runs w8 [(12, 2, true)]
  have BL : Hid (Below w8.heap.size w8 (w8.alloc (.cells #[.int .i64 12, .int .i64 2, .bool true] 48))) := below_alloc _ _
  have LR := Lib.hid (RC.out.on BL.out)
  go_wp2_with fail
  refine (e_Same [(12, 2, true)] (by decide) _ _ _ 1 _ LR.out L0.out).mono ?_
  rintro e w9 ⟨rfl, hb⟩
  have B9 := Lib.hid (bstep B8.out (bstep BL.out hb))
  replace R1 := Lib.hid (R1.out.on (bstep BL.out hb))
  replace RV := Lib.hid (RV.out.on (bstep BL.out hb))
  replace RF := Lib.hid (RF.out.on (bstep BL.out hb))
  clear hb BL L0 LR
  have L0 : Hid (Rns (w9.alloc (.cells #[.int .i64 12, .int .i64 3, .bool true] 48)) (some ⟨w9.heap.size, 0, none⟩) [(12, 3, true)]) := lit_runs w9 [(12, 3, true)]
  have BL : Hid (Below w9.heap.size w9 (w9.alloc (.cells #[.int .i64 12, .int .i64 3, .bool true] 48))) := below_alloc _ _
  have LR := Lib.hid (RV.out.on BL.out)
  go_wp2_with fail
  refine (e_Same [(12, 3, true)] (by decide) _ _ _ 1 _ LR.out L0.out).mono ?_
  rintro e w10 ⟨rfl, hb⟩
  have B10 := Lib.hid (bstep B9.out (bstep BL.out hb))
  replace R1 := Lib.hid (R1.out.on (bstep BL.out hb))
  replace RF := Lib.hid (RF.out.on (bstep BL.out hb))
  clear hb BL L0 LR
  have L0 : Hid (Sps (w10.alloc (.cells #[.int .i64 1, .int .i64 2, .int .i64 4, .int .i64 5] 28)) (some ⟨w10.heap.size, 0, none⟩) [(1, 2), (4, 5)]) := lit_sps w10 [(1, 2), (4, 5)]
  have BL : Hid (Below w10.heap.size w10 (w10.alloc (.cells #[.int .i64 1, .int .i64 2, .int .i64 4, .int .i64 5] 28))) := below_alloc _ _
  have LR := Lib.hid (RF.out.on BL.out)
  go_wp2_with fail
  refine (e_Same4 [(1, 2), (4, 5)] (by decide) _ _ _ 2 _ LR.out L0.out).mono ?_
  rintro e w11 ⟨rfl, hb⟩
  have B11 := Lib.hid (bstep B10.out (bstep BL.out hb))
  replace R1 := Lib.hid (R1.out.on (bstep BL.out hb))
  clear hb BL L0 LR
  go_wp2_with fail
  refine (e_Single [(10, 3, false), (7, 2, true)] sng_yes (by decide) _ 2 _ R1.out).mono ?_
  rintro e w12 ⟨rfl, hb⟩
  have B12 := Lib.hid (bstep B11.out hb)
  clear hb
  have L0 : Hid (Rns (w12.alloc (.cells #[.int .i64 4, .int .i64 2, .bool false, .int .i64 5, .int .i64 1, .bool false] 48)) (some ⟨w12.heap.size, 0, none⟩) [(4, 2, false), (5, 1, false)]) := lit_runs w12 [(4, 2, false), (5, 1, false)]
  have BL : Hid (Below w12.heap.size w12 (w12.alloc (.cells #[.int .i64 4, .int .i64 2, .bool false, .int .i64 5, .int .i64 1, .bool false] 48))) := below_alloc _ _
  go_wp2_with fail
  refine (e_Single [(4, 2, false), (5, 1, false)] sng_no (by decide) _ 2 _ L0.out).mono ?_
  rintro e w13 ⟨rfl, hb⟩
  have B13 := Lib.hid (bstep B12.out (bstep BL.out hb))
  clear hb
  go_wp2_with fail
  go_ret
  exact ⟨rfl, B13.out⟩
#print axioms iso_awake
end Go.Proofs.Ytnblpooimgpgoaa.Iso
