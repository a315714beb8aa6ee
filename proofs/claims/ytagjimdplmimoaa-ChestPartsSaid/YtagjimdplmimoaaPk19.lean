/- Several texts in one: ChestQ, ChestG, ChestI, ChestJ. -/
import Derived.Test.YtagjimdplmimoaaPk18
import Derived.Test.YtagjimdplmimoaaPk9
/- The chapter's examples (gen18/q.py). -/
namespace Go.Proofs.Ytagjimdplmimoaa.Chest
open Go.ChangeShapes Go.WideShapes Go.RowKit Go.Lib
open Go.Proofs.Ytagjimdplmimoaa.Mem (Cl eI Own)
open Go.Proofs.Ytagjimdplmimoaa.Share (own_cl same_n)
open Go.Proofs.Ytagjimdplmimoaa.Rw (glt get_lt below_alloc bstep below_drewN below_drew drew_below)
set_option linter.unusedVariables false
set_option maxRecDepth 100000

theorem lit_two (w : World) (x y : Int) (T : TypeId) : Cl eI (w.alloc (.cells #[.int .i64 x, .int .i64 y] T)) (some ⟨w.heap.size, 0, none⟩) [x, y] := by
  have hc := Rw.Cel.new w [.int .i64 x, .int .i64 y] T
  intro i s hs
  match i, hs with
  | 0, hs => simp at hs; subst hs; exact ⟨_, 0, rfl, hc.lt, hc.at_ 0 _ rfl⟩
  | 1, hs => simp at hs; subst hs; exact ⟨_, 0, rfl, hc.lt, hc.at_ 1 _ rfl⟩
theorem aw_one : drE 100 [10, 5] 4 = 0 ∧ drC 100 [10, 5] 4 = 100 ∧ drL 100 [10, 5] 4 = [7, 4] ∧ drM 100 [10, 5] 4 = [3, 1] := by decide +kernel
theorem aw_two : drE 100 [7, 4] 4 = 0 ∧ drC 100 [7, 4] 4 = 100 ∧ drL 100 [7, 4] 4 = [4, 3] ∧ drM 100 [7, 4] 4 = [3, 1] := by decide +kernel
theorem aw_rate : ratE 100 [10, 5] 0 = 0 ∧ ratV 100 [10, 5] 0 = 666 := by decide +kernel
theorem aw_more : drE 100 [10, 5] 16 = 19 ∧ drC 100 [10, 5] 16 = 0 ∧ drL 100 [10, 5] 16 = [] ∧ drM 100 [10, 5] 16 = [] := by decide +kernel
theorem aw_full : filE 100 [10, 5] [80, 6] = 8 ∧ filC 100 [10, 5] [80, 6] = 0 ∧ filL 100 [10, 5] [80, 6] = [] := by decide +kernel
theorem aw_fill : filE 100 [10, 5] [80, 5] = 0 ∧ filC 100 [10, 5] [80, 5] = 100 ∧ filL 100 [10, 5] [80, 5] = [90, 10] := by decide +kernel
theorem aw_lev : ckC 100 [90, 10] = 0 ∧ levV 100 [90, 10] = 100 := by decide +kernel
set_option maxHeartbeats 6400000 in
theorem law_awake (w : World) :
    Calls Try.prog 12 #[] w fun e w' => e = .returned (.bool true) ∧ Below w.heap.size w w' := by
  have KD := Lib.hid fun A c (W : World) (h : Cl eI W A [10, 5]) => ch_Draw 100 4 [10, 5] A 2 c rfl W h (by decide)
  have KE := Lib.hid fun A c (W : World) (h : Cl eI W A [7, 4]) => ch_Draw 100 4 [7, 4] A 2 c rfl W h (by decide)
  have KR := Lib.hid fun A c (W : World) (h : Cl eI W A [10, 5]) => ch_Rate 100 0 [10, 5] A 2 c rfl W h (by decide)
  have KM := Lib.hid fun A c (W : World) (h : Cl eI W A [10, 5]) => ch_Draw 100 16 [10, 5] A 2 c rfl W h (by decide)
  have KF := Lib.hid fun A c B (W : World) (h : Cl eI W A [10, 5]) (k : Cl eI W B [80, 6]) => ch_Fill 100 [10, 5] [80, 6] A B 2 c 2 2 rfl rfl W h k (by decide) (by decide)
  have KG := Lib.hid fun A c B (W : World) (h : Cl eI W A [10, 5]) (k : Cl eI W B [80, 5]) => ch_Fill 100 [10, 5] [80, 5] A B 2 c 2 2 rfl rfl W h k (by decide) (by decide)
  have KL := Lib.hid fun A c (W : World) (h : Cl eI W A [90, 10]) => ch_Level 100 [90, 10] A 2 c rfl W h (by decide)
  have KS := Lib.hid fun (x y : Int) (A B : Option Addr) c d (W : World) (h : Cl eI W A [x, y]) (k : Cl eI W B [x, y]) => same_n [x, y] [x, y] 2 2 rfl rfl A B c d W h k (by decide) (by decide)
  rw [aw_one.1, aw_one.2.1, aw_one.2.2.1, aw_one.2.2.2] at KD
  rw [aw_two.1, aw_two.2.1, aw_two.2.2.1, aw_two.2.2.2] at KE
  rw [aw_rate.1, aw_rate.2] at KR
  rw [aw_more.1, aw_more.2.1, aw_more.2.2.1, aw_more.2.2.2] at KM
  rw [aw_full.1, aw_full.2.1, aw_full.2.2] at KF
  rw [aw_fill.1, aw_fill.2.1, aw_fill.2.2] at KG
  rw [aw_lev.1, aw_lev.2] at KL
  go_enter Try.func12, Try.ntmps12
  go_upto_region 2 with fail
  obtain ⟨g, hg⟩ : ∃ g, w.heap.size + 1 = g := ⟨_, rfl⟩
  obtain ⟨w1, hw⟩ : ∃ W, (w.alloc (.cells #[.int .i64 10, .int .i64 5] 3)).alloc (.cells #[.int .i64 100, .slice (some ⟨w.heap.size, 0, none⟩) 2 2] 24) = W := ⟨_, rfl⟩
  have R0 : Hid (Cl eI w1 (some ⟨w.heap.size, 0, none⟩) [10, 5]) := hw ▸ Cl.on (lit_two w 10 5 _) (below_alloc _ _)
  have HB : Hid (Below w.heap.size w w1) := hw ▸ bstep (below_alloc _ _) (below_alloc _ _)
  have C0 : Hid (Rw.Cel w1 g [.int .i64 100, .slice (some ⟨w.heap.size, 0, none⟩) 2 2]) := Lib.hid (by rw [← hw]; exact Rw.Cel.new_at _ [_, _] _ (by simp [← hg]))
  rw [hw, hg]
  clear hw hg
  obtain ⟨x0, x1⟩ := C0.out.two
  go_wp2_with fail
  refine (KD.out _ _ _ R0.out).mono ?_
  rintro e w2 ⟨A1, n1, c1, M1, m1, d1, rfl, hl, hm, ho, hp, hb⟩
  obtain rfl : 2 = n1 := hl
  obtain rfl : 2 = m1 := hm
  replace HB := Lib.hid (bstep HB.out hb)
  replace R0 := Lib.hid (R0.out.on hb)
  replace C0 := Lib.hid (C0.out.on hb)
  have R1 := Lib.hid (own_cl ho)
  have T1 := Lib.hid (own_cl hp)
  clear hb ho hp x0 x1
  go_upto_region 3 with fail
  obtain ⟨w3, hw⟩ : ∃ W, w2.alloc (.cells #[.int .i64 100, .slice A1 2 c1] 24) = W := ⟨_, rfl⟩
  obtain ⟨gC1, hg⟩ : ∃ g, w2.heap.size = g := ⟨_, rfl⟩
  have hb : Below w2.heap.size w2 w3 := hw ▸ below_alloc _ _
  have C1 : Hid (Rw.Cel w3 gC1 [.int .i64 100, .slice A1 2 c1]) := hw ▸ hg ▸ Rw.Cel.new w2 [_, _] _
  replace HB := Lib.hid (bstep HB.out hb)
  replace R0 := Lib.hid (R0.out.on hb)
  replace C0 := Lib.hid (C0.out.on hb)
  replace R1 := Lib.hid (R1.out.on hb)
  replace T1 := Lib.hid (T1.out.on hb)
  rw [hw, hg]
  clear hw hg hb
  obtain ⟨x0, x1⟩ := C1.out.two
  go_wp2_with fail
  refine (KE.out _ _ _ R1.out).mono ?_
  rintro e w4 ⟨A2, n2, c2, M2, m2, d2, rfl, hl, hm, ho, hp, hb⟩
  obtain rfl : 2 = n2 := hl
  obtain rfl : 2 = m2 := hm
  replace HB := Lib.hid (bstep HB.out hb)
  replace R0 := Lib.hid (R0.out.on hb)
  replace C0 := Lib.hid (C0.out.on hb)
  replace R1 := Lib.hid (R1.out.on hb)
  replace T1 := Lib.hid (T1.out.on hb)
  replace C1 := Lib.hid (C1.out.on hb)
  have R2 := Lib.hid (own_cl ho)
  have T2 := Lib.hid (own_cl hp)
  clear hb ho hp x0 x1
  go_upto_region 4 with fail
  obtain ⟨w5, hw⟩ : ∃ W, w4.alloc (.cells #[.int .i64 100, .slice A2 2 c2] 24) = W := ⟨_, rfl⟩
  obtain ⟨gC2, hg⟩ : ∃ g, w4.heap.size = g := ⟨_, rfl⟩
  have hb : Below w4.heap.size w4 w5 := hw ▸ below_alloc _ _
  have C2 : Hid (Rw.Cel w5 gC2 [.int .i64 100, .slice A2 2 c2]) := hw ▸ hg ▸ Rw.Cel.new w4 [_, _] _
  replace HB := Lib.hid (bstep HB.out hb)
  replace R0 := Lib.hid (R0.out.on hb)
  replace C0 := Lib.hid (C0.out.on hb)
  replace R1 := Lib.hid (R1.out.on hb)
  replace T1 := Lib.hid (T1.out.on hb)
  replace C1 := Lib.hid (C1.out.on hb)
  replace R2 := Lib.hid (R2.out.on hb)
  replace T2 := Lib.hid (T2.out.on hb)
  rw [hw, hg]
  clear hw hg hb
  obtain ⟨x0, x1⟩ := C0.out.two
  go_wp2_with fail
  refine (KR.out _ _ _ R0.out).mono ?_
  rintro e w6 ⟨rfl, hb⟩
  replace HB := Lib.hid (bstep HB.out hb)
  replace R0 := Lib.hid (R0.out.on hb)
  replace C0 := Lib.hid (C0.out.on hb)
  replace R1 := Lib.hid (R1.out.on hb)
  replace T1 := Lib.hid (T1.out.on hb)
  replace C1 := Lib.hid (C1.out.on hb)
  replace R2 := Lib.hid (R2.out.on hb)
  replace T2 := Lib.hid (T2.out.on hb)
  replace C2 := Lib.hid (C2.out.on hb)
  clear hb x0 x1
  obtain ⟨x0, x1⟩ := C0.out.two
  go_wp2_with fail
  refine (KM.out _ _ _ R0.out).mono ?_
  rintro e w7 ⟨A3, n3, c3, M3, m3, d3, rfl, hl, hm, ho, hp, hb⟩
  obtain rfl : 0 = n3 := hl
  obtain rfl : 0 = m3 := hm
  replace HB := Lib.hid (bstep HB.out hb)
  replace R0 := Lib.hid (R0.out.on hb)
  replace C0 := Lib.hid (C0.out.on hb)
  replace R1 := Lib.hid (R1.out.on hb)
  replace T1 := Lib.hid (T1.out.on hb)
  replace C1 := Lib.hid (C1.out.on hb)
  replace R2 := Lib.hid (R2.out.on hb)
  replace T2 := Lib.hid (T2.out.on hb)
  replace C2 := Lib.hid (C2.out.on hb)
  clear hb ho hp x0 x1
  go_upto_region 6 with fail
  obtain ⟨w8, hw⟩ : ∃ W, w7.alloc (.cells #[.int .i64 0, .slice A3 0 c3] 24) = W := ⟨_, rfl⟩
  obtain ⟨gC3, hg⟩ : ∃ g, w7.heap.size = g := ⟨_, rfl⟩
  have hb : Below w7.heap.size w7 w8 := hw ▸ below_alloc _ _
  have C3 : Hid (Rw.Cel w8 gC3 [.int .i64 0, .slice A3 0 c3]) := hw ▸ hg ▸ Rw.Cel.new w7 [_, _] _
  replace HB := Lib.hid (bstep HB.out hb)
  replace R0 := Lib.hid (R0.out.on hb)
  replace C0 := Lib.hid (C0.out.on hb)
  replace R1 := Lib.hid (R1.out.on hb)
  replace T1 := Lib.hid (T1.out.on hb)
  replace C1 := Lib.hid (C1.out.on hb)
  replace R2 := Lib.hid (R2.out.on hb)
  replace T2 := Lib.hid (T2.out.on hb)
  replace C2 := Lib.hid (C2.out.on hb)
  rw [hw, hg]
  clear hw hg hb
  obtain ⟨x0, x1⟩ := C0.out.two
  go_wp2_with fail
  refine (KF.out _ _ _ _ (R0.out.on (below_alloc _ _)) (lit_two w8 80 6 _)).mono ?_
  rintro e w9 ⟨A4, n4, c4, rfl, hl, ho, hb⟩
  obtain rfl : 0 = n4 := hl
  have hb := bstep (below_alloc _ _) hb
  replace HB := Lib.hid (bstep HB.out hb)
  replace R0 := Lib.hid (R0.out.on hb)
  replace C0 := Lib.hid (C0.out.on hb)
  replace R1 := Lib.hid (R1.out.on hb)
  replace T1 := Lib.hid (T1.out.on hb)
  replace C1 := Lib.hid (C1.out.on hb)
  replace R2 := Lib.hid (R2.out.on hb)
  replace T2 := Lib.hid (T2.out.on hb)
  replace C2 := Lib.hid (C2.out.on hb)
  replace C3 := Lib.hid (C3.out.on hb)
  clear hb ho x0 x1
  go_upto_region 7 with fail
  obtain ⟨w10, hw⟩ : ∃ W, w9.alloc (.cells #[.int .i64 0, .slice A4 0 c4] 24) = W := ⟨_, rfl⟩
  obtain ⟨gC4, hg⟩ : ∃ g, w9.heap.size = g := ⟨_, rfl⟩
  have hb : Below w9.heap.size w9 w10 := hw ▸ below_alloc _ _
  have C4 : Hid (Rw.Cel w10 gC4 [.int .i64 0, .slice A4 0 c4]) := hw ▸ hg ▸ Rw.Cel.new w9 [_, _] _
  replace HB := Lib.hid (bstep HB.out hb)
  replace R0 := Lib.hid (R0.out.on hb)
  replace C0 := Lib.hid (C0.out.on hb)
  replace R1 := Lib.hid (R1.out.on hb)
  replace T1 := Lib.hid (T1.out.on hb)
  replace C1 := Lib.hid (C1.out.on hb)
  replace R2 := Lib.hid (R2.out.on hb)
  replace T2 := Lib.hid (T2.out.on hb)
  replace C2 := Lib.hid (C2.out.on hb)
  replace C3 := Lib.hid (C3.out.on hb)
  rw [hw, hg]
  clear hw hg hb
  obtain ⟨x0, x1⟩ := C0.out.two
  go_wp2_with fail
  refine (KG.out _ _ _ _ (R0.out.on (below_alloc _ _)) (lit_two w10 80 5 _)).mono ?_
  rintro e w11 ⟨A5, n5, c5, rfl, hl, ho, hb⟩
  obtain rfl : 2 = n5 := hl
  have hb := bstep (below_alloc _ _) hb
  replace HB := Lib.hid (bstep HB.out hb)
  replace R0 := Lib.hid (R0.out.on hb)
  replace C0 := Lib.hid (C0.out.on hb)
  replace R1 := Lib.hid (R1.out.on hb)
  replace T1 := Lib.hid (T1.out.on hb)
  replace C1 := Lib.hid (C1.out.on hb)
  replace R2 := Lib.hid (R2.out.on hb)
  replace T2 := Lib.hid (T2.out.on hb)
  replace C2 := Lib.hid (C2.out.on hb)
  replace C3 := Lib.hid (C3.out.on hb)
  replace C4 := Lib.hid (C4.out.on hb)
  have R5 := Lib.hid (own_cl ho)
  clear hb ho x0 x1
  go_upto_region 8 with fail
  obtain ⟨w12, hw⟩ : ∃ W, w11.alloc (.cells #[.int .i64 100, .slice A5 2 c5] 24) = W := ⟨_, rfl⟩
  obtain ⟨gC5, hg⟩ : ∃ g, w11.heap.size = g := ⟨_, rfl⟩
  have hb : Below w11.heap.size w11 w12 := hw ▸ below_alloc _ _
  have C5 : Hid (Rw.Cel w12 gC5 [.int .i64 100, .slice A5 2 c5]) := hw ▸ hg ▸ Rw.Cel.new w11 [_, _] _
  replace HB := Lib.hid (bstep HB.out hb)
  replace R0 := Lib.hid (R0.out.on hb)
  replace C0 := Lib.hid (C0.out.on hb)
  replace R1 := Lib.hid (R1.out.on hb)
  replace T1 := Lib.hid (T1.out.on hb)
  replace C1 := Lib.hid (C1.out.on hb)
  replace R2 := Lib.hid (R2.out.on hb)
  replace T2 := Lib.hid (T2.out.on hb)
  replace C2 := Lib.hid (C2.out.on hb)
  replace C3 := Lib.hid (C3.out.on hb)
  replace C4 := Lib.hid (C4.out.on hb)
  replace R5 := Lib.hid (R5.out.on hb)
  rw [hw, hg]
  clear hw hg hb
  obtain ⟨x0, x1⟩ := C5.out.two
  go_wp2_with fail
  refine (KL.out _ _ _ R5.out).mono ?_
  rintro e w13 ⟨rfl, hb⟩
  replace HB := Lib.hid (bstep HB.out hb)
  replace R0 := Lib.hid (R0.out.on hb)
  replace C0 := Lib.hid (C0.out.on hb)
  replace R1 := Lib.hid (R1.out.on hb)
  replace T1 := Lib.hid (T1.out.on hb)
  replace C1 := Lib.hid (C1.out.on hb)
  replace R2 := Lib.hid (R2.out.on hb)
  replace T2 := Lib.hid (T2.out.on hb)
  replace C2 := Lib.hid (C2.out.on hb)
  replace C3 := Lib.hid (C3.out.on hb)
  replace C4 := Lib.hid (C4.out.on hb)
  replace R5 := Lib.hid (R5.out.on hb)
  replace C5 := Lib.hid (C5.out.on hb)
  clear hb x0 x1
  go_wp2_with fail
  refine (KS.out 3 1 _ _ _ _ _ (T1.out.on (below_alloc _ _)) (lit_two w13 3 1 _)).mono ?_
  rintro e w14 ⟨rfl, hb⟩
  have hb := bstep (below_alloc _ _) hb
  replace HB := Lib.hid (bstep HB.out hb)
  replace R0 := Lib.hid (R0.out.on hb)
  replace C0 := Lib.hid (C0.out.on hb)
  replace R1 := Lib.hid (R1.out.on hb)
  replace T1 := Lib.hid (T1.out.on hb)
  replace C1 := Lib.hid (C1.out.on hb)
  replace R2 := Lib.hid (R2.out.on hb)
  replace T2 := Lib.hid (T2.out.on hb)
  replace C2 := Lib.hid (C2.out.on hb)
  replace C3 := Lib.hid (C3.out.on hb)
  replace C4 := Lib.hid (C4.out.on hb)
  replace R5 := Lib.hid (R5.out.on hb)
  replace C5 := Lib.hid (C5.out.on hb)
  clear hb
  obtain ⟨x0, x1⟩ := C1.out.two
  go_wp2_with fail
  refine (KS.out 7 4 _ _ _ _ _ (R1.out.on (below_alloc _ _)) (lit_two w14 7 4 _)).mono ?_
  rintro e w15 ⟨rfl, hb⟩
  have hb := bstep (below_alloc _ _) hb
  replace HB := Lib.hid (bstep HB.out hb)
  replace R0 := Lib.hid (R0.out.on hb)
  replace C0 := Lib.hid (C0.out.on hb)
  replace R1 := Lib.hid (R1.out.on hb)
  replace T1 := Lib.hid (T1.out.on hb)
  replace C1 := Lib.hid (C1.out.on hb)
  replace R2 := Lib.hid (R2.out.on hb)
  replace T2 := Lib.hid (T2.out.on hb)
  replace C2 := Lib.hid (C2.out.on hb)
  replace C3 := Lib.hid (C3.out.on hb)
  replace C4 := Lib.hid (C4.out.on hb)
  replace R5 := Lib.hid (R5.out.on hb)
  replace C5 := Lib.hid (C5.out.on hb)
  clear hb x0 x1
  go_wp2_with fail
  refine (KS.out 3 1 _ _ _ _ _ (T2.out.on (below_alloc _ _)) (lit_two w15 3 1 _)).mono ?_
  rintro e w16 ⟨rfl, hb⟩
  have hb := bstep (below_alloc _ _) hb
  replace HB := Lib.hid (bstep HB.out hb)
  replace R0 := Lib.hid (R0.out.on hb)
  replace C0 := Lib.hid (C0.out.on hb)
  replace R1 := Lib.hid (R1.out.on hb)
  replace T1 := Lib.hid (T1.out.on hb)
  replace C1 := Lib.hid (C1.out.on hb)
  replace R2 := Lib.hid (R2.out.on hb)
  replace T2 := Lib.hid (T2.out.on hb)
  replace C2 := Lib.hid (C2.out.on hb)
  replace C3 := Lib.hid (C3.out.on hb)
  replace C4 := Lib.hid (C4.out.on hb)
  replace R5 := Lib.hid (R5.out.on hb)
  replace C5 := Lib.hid (C5.out.on hb)
  clear hb
  obtain ⟨x0, x1⟩ := C2.out.two
  go_wp2_with fail
  refine (KS.out 4 3 _ _ _ _ _ (R2.out.on (below_alloc _ _)) (lit_two w16 4 3 _)).mono ?_
  rintro e w17 ⟨rfl, hb⟩
  have hb := bstep (below_alloc _ _) hb
  replace HB := Lib.hid (bstep HB.out hb)
  replace R0 := Lib.hid (R0.out.on hb)
  replace C0 := Lib.hid (C0.out.on hb)
  replace R1 := Lib.hid (R1.out.on hb)
  replace T1 := Lib.hid (T1.out.on hb)
  replace C1 := Lib.hid (C1.out.on hb)
  replace R2 := Lib.hid (R2.out.on hb)
  replace T2 := Lib.hid (T2.out.on hb)
  replace C2 := Lib.hid (C2.out.on hb)
  replace C3 := Lib.hid (C3.out.on hb)
  replace C4 := Lib.hid (C4.out.on hb)
  replace R5 := Lib.hid (R5.out.on hb)
  replace C5 := Lib.hid (C5.out.on hb)
  clear hb x0 x1
  obtain ⟨x0, x1⟩ := C1.out.two
  go_wp2_with fail
  go_ret
  exact ⟨rfl, HB.out⟩
end Go.Proofs.Ytagjimdplmimoaa.Chest
/- Draw of the reference. -/
namespace Go.Proofs.Ytagjimdplmimoaa.Chest
open Go.ChangeShapes Go.WideShapes Go.RowKit Go.Lib
open Go.Proofs.Ytagjimdplmimoaa.Mem (Cl eI Own)
open Go.Proofs.Ytagjimdplmimoaa.Share (errS partsL partsL_len splL ResL rsplit_n)
open Go.Proofs.Ytagjimdplmimoaa.Tank (MM cl_at)
open Go.Proofs.Ytagjimdplmimoaa.Rw (Rd Kd glt get_lt ret_bool ret_int bstep below_drewN below_drew drew_below below_alloc cI cI_len kdI flat_cI rd_one step_rows take_snoc_of)
set_option linter.unusedVariables false
set_option maxRecDepth 100000

/-- A chest and a list of the call's own, and an error. -/
def DRes (w : World) (err cap : Int) (L m : List Int) (e : Ending) (w' : World) : Prop :=
  ∃ A n c A' n' c', e = .returned (.tuple #[.agg #[.int .i64 cap, .slice A n c], .slice A' n' c', .int .i64 err]) ∧ L.length = n ∧ m.length = n' ∧
    Own eI 3 w.heap.size w' (.slice A n c) L ∧ Own eI 3 w.heap.size w' (.slice A' n' c') m ∧ Below w.heap.size w w'
theorem DRes.none_ {w w' : World} {err : Int} (hb : Below w.heap.size w w') : DRes w err 0 [] [] (.returned (.tuple #[.agg #[.int .i64 0, .slice none 0 0], .slice none 0 0, .int .i64 err])) w' :=
  ⟨_, _, _, _, _, _, rfl, rfl, rfl, Own.nil _ _ _ _, Own.nil _ _ _ _, hb⟩
set_option maxHeartbeats 3200000 in
theorem cr_Draw (cap t : Int) (L : List Int) (A : Option Addr) (n c : Nat) (hn : L.length = n) (w : World) (ha : Cl eI w A L) (h1 : n ≤ 9223372036854775807) :
    Calls Try.prog 22 #[.agg #[.int .i64 cap, .slice A n c], .int .i64 t] w (DRes w (drE cap L t) (drC cap L t) (drL cap L t) (drM cap L t)) := by
  have HA := Lib.hid ha
  have HN := Lib.hid hn
  have KC := Lib.hid fun (W : World) (h : Cl eI W A L) => cr_Check cap L A n c hn.symm W h h1
  have KS := Lib.hid fun (W : World) (h : Cl eI W A L) => rsplit_n t L n hn A c W h h1
  obtain ⟨E, hE⟩ : ∃ E, ckC cap L = E := ⟨_, rfl⟩
  rw [hE] at KC
  have HE := Lib.hid hE
  clear ha hn h1 hE
  go_enter Try.func22, Try.ntmps22
  go_upto_region 1 with fail
  obtain ⟨w0, hw0⟩ : ∃ W, w.alloc (.cells #[.int .i64 cap, .slice A n c] 24) = W := ⟨_, rfl⟩
  have C0 : Hid (Rw.Cel w0 w.heap.size [.int .i64 cap, .slice A n c]) := hw0 ▸ Rw.Cel.new w [_, _] _
  have B0 : Hid (Below w.heap.size w w0) := hw0 ▸ below_alloc _ _
  have S0 : Hid (w0.heap.size = w.heap.size + 1) := Lib.hid (by rw [← hw0]; simp)
  rw [hw0]
  clear hw0
  obtain ⟨w1, hw1⟩ : ∃ W, w0.alloc (.cells #[.int .i64 0, .slice none 0 0] 24) = W := ⟨_, rfl⟩
  have D1 : Hid (Rw.Cel w1 (w.heap.size + 1) [.int .i64 0, .slice none 0 0]) := by
    refine Lib.hid ?_
    rw [← hw1, ← S0.out]; exact Rw.Cel.new w0 [_, _] _
  have C1 : Hid (Rw.Cel w1 w.heap.size [.int .i64 cap, .slice A n c]) := hw1 ▸ C0.out.alloc _
  have B1 : Hid (Below w.heap.size w w1) := Lib.hid (bstep B0.out (hw1 ▸ below_alloc _ _))
  have S1 : Hid (w1.heap.size = w.heap.size + 2) := Lib.hid (by rw [← hw1]; simp [S0.out])
  rw [hw1]
  clear hw1 C0 B0 S0
  obtain ⟨x0, x1⟩ := C1.out.two
  go_wp2_with fail
  refine (KC.out _ (HA.out.on B1.out)).mono ?_
  rintro e w2 ⟨rfl, hb⟩
  have B2 := Lib.hid (bstep B1.out hb)
  have C2 := Lib.hid (C1.out.on hb)
  have D2 := Lib.hid (D1.out.on hb)
  have S2 : Hid (w.heap.size + 2 ≤ w2.heap.size) := Lib.hid (by have := hb.size; have := S1.out; omega)
  clear hb x0 x1 C1 D1 B1 S1
  obtain ⟨x0, x1⟩ := C2.out.two
  by_cases hz : E = 0
  rotate_left
  · obtain ⟨z1, z2⟩ := ne_zero hz
    have e1 : drE cap L t = E := (drE_ck (by rw [HE.out]; exact hz)).trans HE.out
    have HEE := Lib.hid (And.intro e1 (dr_no (by rw [e1]; exact hz)))
    clear hz e1
    obtain ⟨u0, u1⟩ := D2.out.two
    obtain ⟨v0, v1⟩ := D2.out.warm2
    go_wp2_with fail
    exact bodyPost_ret (res_chest3 Try.results22 rfl (D2.out.put2 _ _)) rfl (by rw [HEE.out.1, HEE.out.2.1, HEE.out.2.2.1, HEE.out.2.2.2]; exact DRes.none_ (Rw.below_put2 B2.out (Nat.le_succ _) _ _))
  subst hz
  have hMM : MM = 1099511627776 := rfl
  rcases Int.lt_or_le t 0 with h0 | h0
  · have d0 : decide (t < 0) = true := decide_eq_true h0
    have e1 : drE cap L t = 1 := drE_out HE.out (by omega)
    have HEE := Lib.hid (And.intro e1 (dr_no (by rw [e1]; decide)))
    clear h0 e1 hMM
    obtain ⟨u0, u1⟩ := D2.out.two
    obtain ⟨v0, v1⟩ := D2.out.warm2
    go_wp2_with fail
    exact bodyPost_ret (res_chest3 Try.results22 rfl (D2.out.put2 _ _)) rfl (by rw [HEE.out.1, HEE.out.2.1, HEE.out.2.2.1, HEE.out.2.2.2]; exact DRes.none_ (Rw.below_put2 B2.out (Nat.le_succ _) _ _))
  have d0 : decide (t < 0) = false := decide_eq_false (by omega)
  rcases Int.lt_or_le 1099511627776 t with h3 | h3
  · have d1 : decide (1099511627776 < t) = true := decide_eq_true h3
    have e1 : drE cap L t = 1 := drE_out HE.out (by omega)
    have HEE := Lib.hid (And.intro e1 (dr_no (by rw [e1]; decide)))
    clear h0 h3 e1 hMM
    obtain ⟨u0, u1⟩ := D2.out.two
    obtain ⟨v0, v1⟩ := D2.out.warm2
    go_wp2_with fail
    exact bodyPost_ret (res_chest3 Try.results22 rfl (D2.out.put2 _ _)) rfl (by rw [HEE.out.1, HEE.out.2.1, HEE.out.2.2.1, HEE.out.2.2.2]; exact DRes.none_ (Rw.below_put2 B2.out (Nat.le_succ _) _ _))
  have d1 : decide (1099511627776 < t) = false := decide_eq_false (by omega)
  have ok := ckC_ok HE.out
  have HOK := Lib.hid ok
  have KZ := Lib.hid fun (W : World) (h : Cl eI W A L) => cr_sum L A n c HN.out.symm W h (by have := ok.len; have := HN.out; omega) ok.all
  have hin : 0 ≤ t ∧ t ≤ MM := ⟨h0, by omega⟩
  have HM := Lib.hid (And.intro hin ok.pos)
  obtain ⟨S, hS⟩ : ∃ S, sumZ L = S := ⟨_, rfl⟩
  have HSS := Lib.hid hS
  rw [hS] at KZ
  clear h0 h3 hMM ok hin hS
  go_wp2_with fail
  refine (KZ.out _ (HA.out.on B2.out)).mono ?_
  rintro e w3 ⟨rfl, hb⟩
  have B3 := Lib.hid (bstep B2.out hb)
  have C3 := Lib.hid (C2.out.on hb)
  have D3 := Lib.hid (D2.out.on hb)
  have S3 : Hid (w.heap.size + 2 ≤ w3.heap.size) := Lib.hid (by have := hb.size; have := S2.out; omega)
  clear hb x0 x1 C2 D2 B2 S2
  obtain ⟨x0, x1⟩ := C3.out.two
  rcases Int.lt_or_le S t with hg | hg
  · have d2 : decide (S < t) = true := decide_eq_true hg
    have e1 : drE cap L t = 19 := drE_more HE.out HM.out.1 (by rw [HSS.out]; exact hg)
    have HEE := Lib.hid (And.intro e1 (dr_no (by rw [e1]; decide)))
    clear hg e1
    obtain ⟨u0, u1⟩ := D3.out.two
    obtain ⟨v0, v1⟩ := D3.out.warm2
    go_wp2_with fail
    exact bodyPost_ret (res_chest3 Try.results22 rfl (D3.out.put2 _ _)) rfl (by rw [HEE.out.1, HEE.out.2.1, HEE.out.2.2.1, HEE.out.2.2.2]; exact DRes.none_ (Rw.below_put2 B3.out (Nat.le_succ _) _ _))
  have d2 : decide (S < t) = false := decide_eq_false (by omega)
  have hle : t ≤ sumZ L := by rw [HSS.out]; exact hg
  have e1 : drE cap L t = 0 := drE_ok HE.out HM.out.1 (by omega)
  have HEE := Lib.hid (And.intro e1 (dr_yes e1))
  have sok := dr_ok HOK.out HM.out.1.1 hle
  have HP := Lib.hid fun (k : Nat) (x y : Int) (hx : (partsL t L)[k]? = some x) (hy : L[k]? = some y) => dr_part sok hle hx hy
  have hspl : splL t L = partsL t L := if_pos sok.err
  rw [hspl, sok.err] at KS
  have HPL := Lib.hid (partsL_len t L)
  clear hg e1 hle sok hspl
  go_wp2_with fail
  refine (KS.out _ (HA.out.on B3.out)).mono ?_
  intro e w4 hr
  obtain ⟨A4, n4, c4, rfl, hl4, _, ho4, hc4, hb⟩ := Share.ResL.open_ hr
  have hn4 : n4 = n := by have := HPL.out; have := HN.out; omega
  subst hn4
  have B4 := Lib.hid (bstep B3.out hb)
  have C4 := Lib.hid (C3.out.on hb)
  have D4 := Lib.hid (D3.out.on hb)
  have S4 : Hid (w.heap.size + 2 ≤ w4.heap.size) := Lib.hid (by have := hb.size; have := S3.out; omega)
  have HO4 : Hid (Own eI 3 (w.heap.size + 2) w4 (.slice A4 n4 c4) (partsL t L)) := Lib.hid (ho4.less S3.out)
  have HC4 := Lib.hid hc4
  have HPE := Lib.hid (less_len HPL.out)
  clear hr ho4 hc4 hl4 hb x0 x1 C3 D3 B3 S3
  obtain ⟨x0, x1⟩ := C4.out.two
  go_wp2_with fail
  go_loopw [10, 11] (fun v i wr => ∃ (k : Nat) (A' : Option Addr) (n5 c5 : Nat), k ≤ n4 ∧ i = .int .i64 k ∧ v = .slice A' n5 c5 ∧ Rw.Row cI 1 3 w4.heap.size wr (.slice A' n5 c5) ((lessL L (partsL t L)).take k) ∧ Below w4.heap.size w4 wr) (fun _ i _ => n4 - (RowKit.intOf i).toNat)
  case atStart => exact ⟨0, none, 0, 0, Nat.zero_le _, rfl, rfl, Rw.Row.nil _ _ _ _ _, Below.refl _ _⟩
  case round =>
    obtain ⟨k, A', n5, c5, hk, rfl, rfl, hrow, hbel⟩ := hrel
    have HR := Lib.hid hrow
    have HW := Lib.hid hbel
    clear hrow hbel x0 x1
    obtain ⟨z0, z1⟩ := (C4.out.on HW.out).two
    rcases Nat.lt_or_ge k n4 with hlt | hge
    · obtain ⟨x, hx⟩ := get_lt (L := L) (k := k) (by have := HN.out; omega)
      obtain ⟨y, hy⟩ := get_lt (L := partsL t L) (k := k) (by have := HN.out; have := HPL.out; omega)
      obtain ⟨b1, o1, hA0, hb1, h0⟩ := cl_at (HA.out.on B4.out) hx
      obtain ⟨b2, o2, hB0, hb2, h3⟩ := cl_at HC4.out hy
      subst hA0
      subst hB0
      have hxl := HOK.out.all x (List.mem_of_getElem? hx)
      have hyl := HP.out k y x hy hx
      have hM : MM = 1099511627776 := rfl
      have i1 : (k : Int) < (n4 : Int) := by omega
      have i2 : (0 : Int) ≤ (k : Int) := by omega
      obtain ⟨s, hs⟩ : ∃ s, x - y = s := ⟨_, rfl⟩
      have ws : IntKind.i64.wrap s = s := Rw.wrap_id (by omega)
      have HTn : Hid ((lessL L (partsL t L)).take (k + 1) = (lessL L (partsL t L)).take k ++ [s]) := Lib.hid (by rw [take_snoc_of (less_at hx hy), hs])
      have HSl : Hid (((lessL L (partsL t L)).take k).length + 1 ≤ 1000000) := Lib.hid (by have := List.length_take_le k (lessL L (partsL t L)); have := HOK.out.len; have := HN.out; omega)
      have HF : Hid (∀ W, Below w4.heap.size w4 W → (W.cell? ⟨b1, o1 + k, none⟩ = some (.int .i64 x) ∧ W.cell? ⟨b2, o2 + k, none⟩ = some (.int .i64 y)) ∧ W.cell? ⟨w.heap.size, 1, none⟩ = some (.slice (some ⟨b1, o1, none⟩) n4 c)) := fun W h =>
        ⟨⟨(h.cell (p := ⟨b1, o1 + k, none⟩) hb1).trans h0, (h.cell (p := ⟨b2, o2 + k, none⟩) hb2).trans h3⟩, (C4.out.on h).two.2⟩
      have HXl : Hid (∀ W : World, W.heap.size = wr.heap.size → ∀ ty, Rd cI 1 (W.alloc (.cells #[.int .i64 s] ty)) (some ⟨wr.heap.size, 0, none⟩) [s]) := fun W hW ty => rd_one cI_len (by rw [← hW]; exact heap_alloc_new _ _)
      clear hx hy h0 h3 hxl hyl hM hb1 hb2
      go_wp2_with fail
      clear z0 z1
      go_region_held3 (fun W => (W.cell? ⟨b1, o1 + k, none⟩ = some (.int .i64 x) ∧ W.cell? ⟨b2, o2 + k, none⟩ = some (.int .i64 y)) ∧ W.cell? ⟨w.heap.size, 1, none⟩ = some (.slice (some ⟨b1, o1, none⟩) n4 c))
        (first | exact HF.out _ HW.out | exact HF.out _ (bstep HW.out (drew_below _)) | exact HF.out _ (bstep HW.out (below_drew (below_alloc _ _))) | exact HF.out _ (bstep HW.out (bstep (drew_below _) (below_alloc _ _))) | exact HF.out _ (HW.out.trans (HR.out.below HG5.out HW.out.size)))
        ((refine step_rows kdI wr rfl (.tmp 44) (.tmp 55) rfl (.slice A' n5 c5) ((lessL L (partsL t L)).take k) (by simp [Act.eval]) HR.out (by first | exact below_alloc _ _ | exact below_drew (below_alloc _ _) | exact bstep (drew_below _) (below_alloc _ _)) (some ⟨wr.heap.size, 0, none⟩) 1 1 [s] rfl (by simp [Act.eval]) (by first | exact HXl.out _ rfl _) HSl.out HW.out.size ?_; intro A5 n5 c5 w5 hn5 hr5 hk5 hg5 hat5; have HN5 := Lib.hid hn5; have HR5 := Lib.hid hr5; have HG5 := Lib.hid hg5; clear hn5 hr5 hk5 hg5 hat5))
      all_goals
        have HB5 : Hid (Below w4.heap.size w4 w5) := HW.out.trans (HR.out.below HG5.out HW.out.size)
        have HR6 : Hid (Rw.Row cI 1 3 w4.heap.size w5 (.slice A5 n5 c5) ((lessL L (partsL t L)).take (k + 1))) := Lib.hid (by rw [HTn.out]; exact HR5.out)
        go_wp2_with fail
        go_roundw
        case rel => exact ⟨k + 1, A5, n5, c5, by omega, by go_num, rfl, HR6.out, HB5.out⟩
        case measure => simp [RowKit.intOf]; omega
    · obtain rfl : k = n4 := by omega
      have HO : Hid (Own eI 3 w4.heap.size wr (.slice A' n5 c5) (lessL L (partsL t L))) := Lib.hid (by
        have h1 := own_row HR.out
        rw [List.take_of_length_le (by rw [HPE.out, HN.out]; exact Nat.le_refl _)] at h1
        exact h1)
      have HQ := Lib.hid (HO4.out.on HW.out)
      obtain ⟨u0, u1⟩ := (D4.out.on HW.out).two
      obtain ⟨v0, v1⟩ := (D4.out.on HW.out).warm2
      go_wp2_with fail
      exact bodyPost_ret (res_chest3 Try.results22 rfl ((D4.out.on HW.out).put2 _ _)) rfl (by
        rw [HEE.out.1, HEE.out.2.1, HEE.out.2.2.1, HEE.out.2.2.2]
        exact ⟨_, _, _, _, _, _, rfl, own_len HO.out, own_len HQ.out, own_far2 (HO.out.less (by have := S4.out; omega)) (fun e => by have h1 := (HO.out.lt _ e).1; have := S4.out; omega) _ _,
          own_far2 (HQ.out.less (by omega)) (fun e => by have h1 := (HQ.out.lt _ e).1; omega) _ _, Rw.below_put2 (bstep B4.out HW.out) (Nat.le_succ _) _ _⟩)
end Go.Proofs.Ytagjimdplmimoaa.Chest
/- Pour of the reference. -/
namespace Go.Proofs.Ytagjimdplmimoaa.Chest
open Go.ChangeShapes Go.WideShapes Go.RowKit Go.Lib
open Go.Proofs.Ytagjimdplmimoaa.Mem (Cl eI Own)
open Go.Proofs.Ytagjimdplmimoaa.Share (partsL partsL_len)
open Go.Proofs.Ytagjimdplmimoaa.Tank (MM cl_at)
open Go.Proofs.Ytagjimdplmimoaa.Rw (glt get_lt ret_bool ret_int bstep below_drewN below_drew drew_below below_alloc)
set_option linter.unusedVariables false
set_option maxRecDepth 100000

/-- Pour. -/
def poE (ca : Int) (La : List Int) (cb : Int) (Lb : List Int) (t : Int) : Int :=
  if ckC ca La = 0 then if ckC cb Lb = 0 then if La.length = Lb.length then if drE ca La t = 0 then if cb < sumZ Lb + t then 8 else 0 else drE ca La t else 17 else ckC cb Lb else ckC ca La
def poA (ca : Int) (La : List Int) (cb : Int) (Lb : List Int) (t : Int) : Int := if poE ca La cb Lb t = 0 then ca else 0
def poB (ca : Int) (La : List Int) (cb : Int) (Lb : List Int) (t : Int) : Int := if poE ca La cb Lb t = 0 then cb else 0
def poX (ca : Int) (La : List Int) (cb : Int) (Lb : List Int) (t : Int) : List Int := if poE ca La cb Lb t = 0 then lessL La (partsL t La) else []
def poY (ca : Int) (La : List Int) (cb : Int) (Lb : List Int) (t : Int) : List Int := if poE ca La cb Lb t = 0 then plusL Lb (partsL t La) else []
/-- Two chests of the call's own, and an error. -/
def PRes (w : World) (err cx : Int) (X : List Int) (cy : Int) (Y : List Int) (e : Ending) (w' : World) : Prop :=
  ∃ A n c A' n' c', e = .returned (.tuple #[.agg #[.int .i64 cx, .slice A n c], .agg #[.int .i64 cy, .slice A' n' c'], .int .i64 err]) ∧ X.length = n ∧ Y.length = n' ∧
    Own eI 3 w.heap.size w' (.slice A n c) X ∧ Own eI 3 w.heap.size w' (.slice A' n' c') Y ∧ Below w.heap.size w w'
theorem PRes.none_ {w w' : World} {err : Int} (hb : Below w.heap.size w w') : PRes w err 0 [] 0 [] (.returned (.tuple #[.agg #[.int .i64 0, .slice none 0 0], .agg #[.int .i64 0, .slice none 0 0], .int .i64 err])) w' :=
  ⟨_, _, _, _, _, _, rfl, rfl, rfl, Own.nil _ _ _ _, Own.nil _ _ _ _, hb⟩
section
variable {ca cb t : Int} {La Lb : List Int}
theorem po_no {E : Int} (h : poE ca La cb Lb t = E) (h0 : ¬ E = 0) : poE ca La cb Lb t = E ∧ poA ca La cb Lb t = 0 ∧ poX ca La cb Lb t = [] ∧ poB ca La cb Lb t = 0 ∧ poY ca La cb Lb t = [] :=
  ⟨h, if_neg (by rw [h]; exact h0), if_neg (by rw [h]; exact h0), if_neg (by rw [h]; exact h0), if_neg (by rw [h]; exact h0)⟩
theorem po_yes (h : poE ca La cb Lb t = 0) : poE ca La cb Lb t = 0 ∧ poA ca La cb Lb t = ca ∧ poX ca La cb Lb t = lessL La (partsL t La) ∧ poB ca La cb Lb t = cb ∧ poY ca La cb Lb t = plusL Lb (partsL t La) :=
  ⟨h, if_pos h, if_pos h, if_pos h, if_pos h⟩
theorem poE_a (h : ¬ ckC ca La = 0) : poE ca La cb Lb t = ckC ca La := if_neg h
theorem poE_b (h : ckC ca La = 0) (h2 : ¬ ckC cb Lb = 0) : poE ca La cb Lb t = ckC cb Lb := by unfold poE; rw [if_pos h, if_neg h2]
theorem poE_len (h : ckC ca La = 0) (h2 : ckC cb Lb = 0) (h3 : ¬ La.length = Lb.length) : poE ca La cb Lb t = 17 := by unfold poE; rw [if_pos h, if_pos h2, if_neg h3]
theorem poE_dr (h : ckC ca La = 0) (h2 : ckC cb Lb = 0) (h3 : La.length = Lb.length) (h4 : ¬ drE ca La t = 0) : poE ca La cb Lb t = drE ca La t := by unfold poE; rw [if_pos h, if_pos h2, if_pos h3, if_neg h4]
theorem poE_end (h : ckC ca La = 0) (h2 : ckC cb Lb = 0) (h3 : La.length = Lb.length) (h4 : drE ca La t = 0) : poE ca La cb Lb t = if cb < sumZ Lb + t then 8 else 0 := by unfold poE; rw [if_pos h, if_pos h2, if_pos h3, if_pos h4]
end
theorem far2 {w : World} {g k : Nat} {us : List Value} (h : Rw.Cel w g us) (hne : k ≠ g) (x y : Value) : Rw.Cel ((w.setCell ⟨k, 0, none⟩ x).setCell ⟨k, 1, none⟩ y) g us :=
  (h.far (p := ⟨k, 0, none⟩) hne x).far (p := ⟨k, 1, none⟩) hne y
end Go.Proofs.Ytagjimdplmimoaa.Chest
/- Pour of the reference: the walk. -/
namespace Go.Proofs.Ytagjimdplmimoaa.Chest
open Go.ChangeShapes Go.WideShapes Go.RowKit Go.Lib
open Go.Proofs.Ytagjimdplmimoaa.Mem (Cl eI Own)
open Go.Proofs.Ytagjimdplmimoaa.Share (partsL partsL_len)
open Go.Proofs.Ytagjimdplmimoaa.Tank (MM cl_at)
open Go.Proofs.Ytagjimdplmimoaa.Rw (glt get_lt ret_bool ret_int bstep below_drewN below_drew drew_below below_alloc)
set_option linter.unusedVariables false
set_option maxRecDepth 100000

/-- The boxes of two chests and of two results. -/
structure Bxs (h : Nat) (ca : Int) (A : Option Addr) (n c : Nat) (cb : Int) (B : Option Addr) (m d : Nat) (w : World) : Prop where
  a : Rw.Cel w h [.int .i64 ca, .slice A n c]
  b : Rw.Cel w (h + 1) [.int .i64 cb, .slice B m d]
  x : Rw.Cel w (h + 2) [.int .i64 0, .slice none 0 0]
  y : Rw.Cel w (h + 3) [.int .i64 0, .slice none 0 0]
  size : h + 4 ≤ w.heap.size
theorem Bxs.on {h n c m d : Nat} {ca cb : Int} {A B : Option Addr} {w w' : World} (k : Bxs h ca A n c cb B m d w) (hb : Below w.heap.size w w') : Bxs h ca A n c cb B m d w' :=
  ⟨k.a.on hb, k.b.on hb, k.x.on hb, k.y.on hb, Nat.le_trans k.size hb.size⟩
theorem Bxs.new (w : World) (ca : Int) (A : Option Addr) (n c : Nat) (cb : Int) (B : Option Addr) (m d : Nat) :
    Bxs w.heap.size ca A n c cb B m d ((((w.alloc (.cells #[.int .i64 ca, .slice A n c] 24)).alloc (.cells #[.int .i64 cb, .slice B m d] 24)).alloc (.cells #[.int .i64 0, .slice none 0 0] 24)).alloc (.cells #[.int .i64 0, .slice none 0 0] 24)) := by
  refine ⟨(((Rw.Cel.new w [_, _] _).alloc _).alloc _).alloc _, ((Rw.Cel.new_at _ [_, _] _ (by simp)).alloc _).alloc _, (Rw.Cel.new_at _ [_, _] _ (by simp)).alloc _, Rw.Cel.new_at _ [_, _] _ (by simp), by simp⟩
/-- Nothing is returned: the end. -/
theorem Bxs.none_ {fn : Func} {p q u : Tmp} (h : fn.results = #[.cell p 24, .cell q 24, .tmp u]) {tmps : Array Value} {g n c m d : Nat} {ca cb : Int} {A B : Option Addr} {w : World}
    (k : Bxs g ca A n c cb B m d w) (hp : tmps.getD p undef = .pointer (some ⟨g + 2, 0, none⟩)) (hq : tmps.getD q undef = .pointer (some ⟨g + 3, 0, none⟩)) :
    (results fn tmps).run Try.prog ((((w.setCell ⟨g + 2, 0, none⟩ (.int .i64 0)).setCell ⟨g + 2, 1, none⟩ (.slice none 0 0)).setCell ⟨g + 3, 0, none⟩ (.int .i64 0)).setCell ⟨g + 3, 1, none⟩ (.slice none 0 0)) =
      .ok (.tuple #[.agg #[.int .i64 0, .slice none 0 0], .agg #[.int .i64 0, .slice none 0 0], tmps.getD u undef]) ((((w.setCell ⟨g + 2, 0, none⟩ (.int .i64 0)).setCell ⟨g + 2, 1, none⟩ (.slice none 0 0)).setCell ⟨g + 3, 0, none⟩ (.int .i64 0)).setCell ⟨g + 3, 1, none⟩ (.slice none 0 0)) :=
  res_chests h hp hq (far2 (k.x.put2 _ _) (by omega) _ _) ((far2 k.y (by omega) _ _).put2 _ _)
set_option maxHeartbeats 3200000 in
theorem cr_Pour (ca cb t : Int) (La Lb : List Int) (A B : Option Addr) (n c m d : Nat) (hn : La.length = n) (hm : Lb.length = m) (w : World) (ha : Cl eI w A La) (hb : Cl eI w B Lb) (h1 : n ≤ 9223372036854775807) (h2 : m ≤ 9223372036854775807) :
    Calls Try.prog 25 #[.agg #[.int .i64 ca, .slice A n c], .agg #[.int .i64 cb, .slice B m d], .int .i64 t] w (PRes w (poE ca La cb Lb t) (poA ca La cb Lb t) (poX ca La cb Lb t) (poB ca La cb Lb t) (poY ca La cb Lb t)) := by
  have HA := Lib.hid ha
  have HB := Lib.hid hb
  have HN := Lib.hid (And.intro hn hm)
  have KA := Lib.hid fun (W : World) (h : Cl eI W A La) => cr_Check ca La A n c hn.symm W h h1
  have KB := Lib.hid fun (W : World) (h : Cl eI W B Lb) => cr_Check cb Lb B m d hm.symm W h h2
  have KD := Lib.hid fun (W : World) (h : Cl eI W A La) => cr_Draw ca t La A n c hn W h h1
  obtain ⟨E, hE⟩ : ∃ E, ckC ca La = E := ⟨_, rfl⟩
  obtain ⟨F, hF⟩ : ∃ F, ckC cb Lb = F := ⟨_, rfl⟩
  rw [hE] at KA
  rw [hF] at KB
  have HE := Lib.hid (And.intro hE hF)
  clear ha hb hn hm h1 h2 hE hF
  go_enter Try.func25, Try.ntmps25
  go_upto_region 1 with fail
  have X1 := Lib.hid (Bxs.new w ca A n c cb B m d)
  have B1 : Hid (Below w.heap.size w ((((w.alloc (.cells #[.int .i64 ca, .slice A n c] 24)).alloc (.cells #[.int .i64 cb, .slice B m d] 24)).alloc (.cells #[.int .i64 0, .slice none 0 0] 24)).alloc (.cells #[.int .i64 0, .slice none 0 0] 24))) := Lib.hid (bstep (bstep (bstep (below_alloc _ _) (below_alloc _ _)) (below_alloc _ _)) (below_alloc _ _))
  obtain ⟨w1, hw1⟩ : ∃ W, (((w.alloc (.cells #[.int .i64 ca, .slice A n c] 24)).alloc (.cells #[.int .i64 cb, .slice B m d] 24)).alloc (.cells #[.int .i64 0, .slice none 0 0] 24)).alloc (.cells #[.int .i64 0, .slice none 0 0] 24) = W := ⟨_, rfl⟩
  rw [hw1] at X1 B1 ⊢
  clear hw1
  obtain ⟨x0, x1⟩ := X1.out.a.two
  go_wp2_with fail
  refine (KA.out _ (HA.out.on B1.out)).mono ?_
  rintro e w2 ⟨rfl, hb⟩
  have B2 := Lib.hid (bstep B1.out hb)
  have X2 := Lib.hid (X1.out.on hb)
  clear hb x0 x1 X1 B1
  by_cases hz : E = 0
  rotate_left
  · obtain ⟨z1, z2⟩ := ne_zero hz
    have HEE := Lib.hid (po_no (cb := cb) (t := t) (Lb := Lb) ((poE_a (by rw [HE.out.1]; exact hz)).trans HE.out.1) hz)
    clear hz
    obtain ⟨u0, u1⟩ := X2.out.x.two
    obtain ⟨v0, v1⟩ := X2.out.x.warm2
    obtain ⟨u2, u3⟩ := (far2 X2.out.y (k := w.heap.size + 2) (by omega) (.int .i64 0) (.slice none 0 0)).two
    obtain ⟨v2, v3⟩ := (far2 X2.out.y (k := w.heap.size + 2) (by omega) (.int .i64 0) (.slice none 0 0)).warm2
    go_wp2_with fail
    exact bodyPost_ret (X2.out.none_ Try.results25 rfl rfl) rfl (by rw [HEE.out.1, HEE.out.2.1, HEE.out.2.2.1, HEE.out.2.2.2.1, HEE.out.2.2.2.2]; exact PRes.none_ (Rw.below_put2 (Rw.below_put2 B2.out (by omega) _ _) (by omega) _ _))
  subst hz
  obtain ⟨x2, x3⟩ := X2.out.b.two
  go_wp2_with fail
  refine (KB.out _ (HB.out.on B2.out)).mono ?_
  rintro e w3 ⟨rfl, hb⟩
  have B3 := Lib.hid (bstep B2.out hb)
  have X3 := Lib.hid (X2.out.on hb)
  clear hb x2 x3 X2 B2
  by_cases hz : F = 0
  rotate_left
  · obtain ⟨z1, z2⟩ := ne_zero hz
    have HEE := Lib.hid (po_no (cb := cb) (t := t) (Lb := Lb) ((poE_b HE.out.1 (by rw [HE.out.2]; exact hz)).trans HE.out.2) hz)
    clear hz
    obtain ⟨u0, u1⟩ := X3.out.x.two
    obtain ⟨v0, v1⟩ := X3.out.x.warm2
    obtain ⟨u2, u3⟩ := (far2 X3.out.y (k := w.heap.size + 2) (by omega) (.int .i64 0) (.slice none 0 0)).two
    obtain ⟨v2, v3⟩ := (far2 X3.out.y (k := w.heap.size + 2) (by omega) (.int .i64 0) (.slice none 0 0)).warm2
    go_wp2_with fail
    exact bodyPost_ret (X3.out.none_ Try.results25 rfl rfl) rfl (by rw [HEE.out.1, HEE.out.2.1, HEE.out.2.2.1, HEE.out.2.2.2.1, HEE.out.2.2.2.2]; exact PRes.none_ (Rw.below_put2 (Rw.below_put2 B3.out (by omega) _ _) (by omega) _ _))
  subst hz
  obtain ⟨x0, x1⟩ := X3.out.a.two
  obtain ⟨x2, x3⟩ := X3.out.b.two
  by_cases hq : n = m
  rotate_left
  · have q1 : ((n : Int) == (m : Int)) = false := by simp; omega
    have q2 : ((n : Int) != (m : Int)) = true := by simp; omega
    have HEE := Lib.hid (po_no (cb := cb) (t := t) (Lb := Lb) (poE_len HE.out.1 HE.out.2 (by have := HN.out; omega)) (by decide))
    clear hq
    obtain ⟨u0, u1⟩ := X3.out.x.two
    obtain ⟨v0, v1⟩ := X3.out.x.warm2
    obtain ⟨u2, u3⟩ := (far2 X3.out.y (k := w.heap.size + 2) (by omega) (.int .i64 0) (.slice none 0 0)).two
    obtain ⟨v2, v3⟩ := (far2 X3.out.y (k := w.heap.size + 2) (by omega) (.int .i64 0) (.slice none 0 0)).warm2
    go_wp2_with fail
    exact bodyPost_ret (X3.out.none_ Try.results25 rfl rfl) rfl (by rw [HEE.out.1, HEE.out.2.1, HEE.out.2.2.1, HEE.out.2.2.2.1, HEE.out.2.2.2.2]; exact PRes.none_ (Rw.below_put2 (Rw.below_put2 B3.out (by omega) _ _) (by omega) _ _))
  subst hq
  have q1 : ((n : Int) == (n : Int)) = true := by simp
  have q2 : ((n : Int) != (n : Int)) = false := by simp
  obtain ⟨G, hG⟩ : ∃ G, drE ca La t = G := ⟨_, rfl⟩
  have HG := Lib.hid hG
  rw [hG] at KD
  have hlen : La.length = Lb.length := by have := HN.out; omega
  have HLN := Lib.hid hlen
  clear hG hlen
  go_wp2_with fail
  refine (KD.out _ (HA.out.on B3.out)).mono ?_
  rintro e w4 ⟨A4, n4, c4, A5, n5, c5, rfl, hl4, hl5, ho4, ho5, hb⟩
  have B4 := Lib.hid (bstep B3.out hb)
  have X4 := Lib.hid (X3.out.on hb)
  have O4 := Lib.hid (ho4.less (B' := w.heap.size + 4) X3.out.size)
  have O5 := Lib.hid (ho5.less (B' := w.heap.size + 4) X3.out.size)
  have HL := Lib.hid (And.intro hl4 hl5)
  clear hl4 hl5 ho4 ho5 hb x0 x1 x2 x3 X3 B3
  obtain ⟨Q, hQ⟩ : ∃ Q, drC ca La t = Q := ⟨_, rfl⟩
  rw [hQ]
  by_cases hz : G = 0
  rotate_left
  · obtain ⟨z1, z2⟩ := ne_zero hz
    have HEE := Lib.hid (po_no (cb := cb) (t := t) (Lb := Lb) ((poE_dr HE.out.1 HE.out.2 HLN.out (by rw [HG.out]; exact hz)).trans HG.out) hz)
    clear hz hQ
    have B5 : Hid (Below w.heap.size w (w4.alloc (.cells #[.int .i64 Q, .slice A4 n4 c4] 24))) := Lib.hid (bstep B4.out (below_alloc _ _))
    have X5 := Lib.hid (X4.out.on (below_alloc w4 (.cells #[.int .i64 Q, .slice A4 n4 c4] 24)))
    obtain ⟨u0, u1⟩ := X5.out.x.two
    obtain ⟨v0, v1⟩ := X5.out.x.warm2
    obtain ⟨u2, u3⟩ := (far2 X5.out.y (k := w.heap.size + 2) (by omega) (.int .i64 0) (.slice none 0 0)).two
    obtain ⟨v2, v3⟩ := (far2 X5.out.y (k := w.heap.size + 2) (by omega) (.int .i64 0) (.slice none 0 0)).warm2
    go_wp2_with fail
    exact bodyPost_ret (X5.out.none_ Try.results25 rfl rfl) rfl (by rw [HEE.out.1, HEE.out.2.1, HEE.out.2.2.1, HEE.out.2.2.2.1, HEE.out.2.2.2.2]; exact PRes.none_ (Rw.below_put2 (Rw.below_put2 B5.out (by omega) _ _) (by omega) _ _))
  subst hz
  obtain ⟨dC, dL, dM⟩ := dr_yes HG.out
  rw [dC] at hQ
  subst hQ
  rw [dL] at O4 HL
  rw [dM] at O5 HL
  obtain ⟨oka, t0, tle⟩ := drE_of HG.out
  have okb := ckC_ok HE.out.2
  have sok := dr_ok oka t0 tle
  have hMM : MM = 1099511627776 := rfl
  have hpm : ∀ z ∈ partsL t La, 0 ≤ z ∧ z ≤ MM := fun z hz => by
    obtain ⟨k, hk⟩ := List.mem_iff_getElem?.mp hz
    obtain ⟨y, hy⟩ := get_lt (L := La) (k := k) (by have := glt hk; rw [partsL_len] at this; exact this)
    have h1 := dr_part sok tle hk hy
    have h2 := oka.all y (List.mem_of_getElem? hy)
    omega
  have h8 : n ≤ 8 := by have := oka.len; have := HN.out; omega
  have h5n : n5 = n := by have := HL.out.2; rw [partsL_len] at this; have := HN.out; omega
  subst h5n
  have e0 := poE_end (t := t) HE.out.1 HE.out.2 HLN.out HG.out
  have B5 : Hid (Below w.heap.size w (w4.alloc (.cells #[.int .i64 ca, .slice A4 n4 c4] 24))) := Lib.hid (bstep B4.out (below_alloc _ _))
  have X5 := Lib.hid (X4.out.on (below_alloc w4 (.cells #[.int .i64 ca, .slice A4 n4 c4] 24)))
  have C5 := Lib.hid (Rw.Cel.new w4 [.int .i64 ca, .slice A4 n4 c4] 24)
  have P4 := Lib.hid (O4.out.alloc (.cells #[.int .i64 ca, .slice A4 n4 c4] 24))
  have P5 := Lib.hid (O5.out.alloc (.cells #[.int .i64 ca, .slice A4 n4 c4] 24))
  have Z5 := Lib.hid X4.out.size
  clear O4 O5 X4 B4
  go_wp2_with fail
  obtain ⟨w5, hw5⟩ : ∃ W, w4.alloc (.cells #[.int .i64 ca, .slice A4 n4 c4] 24) = W := ⟨_, rfl⟩
  rw [hw5] at B5 X5 C5 P4 P5 ⊢
  clear hw5
  have K2 := Lib.hid fun (W : World) (h : Below w5.heap.size w5 W) => cr_sum Lb B n5 d HN.out.2.symm W (HB.out.on (bstep B5.out h)) h8 okb.all
  have KQ := Lib.hid fun (W : World) (h : Below w5.heap.size w5 W) => cr_plus cb Lb (partsL t La) B A5 n5 d n5 c5 HN.out.2 HL.out.2 rfl h8 okb.all hpm W (HB.out.on (bstep B5.out h)) (Share.own_cl (P5.out.on h))
  have HX := Lib.hid fun (W : World) (h : Below w5.heap.size w5 W) => (X5.out.b.on h).two
  have HY := Lib.hid fun (W : World) (h : Below w5.heap.size w5 W) => And.intro (C5.out.on h).two (X5.out.b.on h).two
  obtain ⟨S, hS⟩ : ∃ S, sumZ Lb = S := ⟨_, rfl⟩
  have hpb := okb.pos
  have hpa := oka.pos
  rw [hS] at K2 e0 hpb
  obtain ⟨V, hV⟩ : ∃ V, S + t = V := ⟨_, rfl⟩
  rw [hV] at e0
  have hM2 : MM = 1099511627776 := rfl
  have wV : IntKind.i64.wrap V = V := Rw.wrap_id (by omega)
  clear oka okb sok hpm hS hpb hpa tle t0 hMM hM2 h8 dC dL dM
  rcases Int.lt_or_le cb V with hg | hg
  · have d0 : decide (cb < V) = true := decide_eq_true hg
    have HEE := Lib.hid (po_no (cb := cb) (t := t) (Lb := Lb) (e0.trans (if_pos hg)) (by decide))
    clear hg e0
    go_region_held3 (fun W => W.cell? ⟨w.heap.size + 1, 0, none⟩ = some (.int .i64 cb) ∧ W.cell? ⟨w.heap.size + 1, 1, none⟩ = some (.slice B n5 d))
      (first | exact HX.out _ (Below.refl _ _) | exact HX.out _ (drew_below _) | exact HX.out _ HBL.out)
      ((go_at_call 32; (with_reducible refine (K2.out _ (drew_below _)).mono ?_); rintro e wa ⟨rfl, hba⟩; (have HBL : Hid (Below w5.heap.size w5 wa) := Lib.hid (bstep (drew_below _) hba)); clear hba))
    all_goals
      have X6 := Lib.hid (X5.out.on HBL.out)
      have B6 := Lib.hid (bstep B5.out HBL.out)
      obtain ⟨u0, u1⟩ := X6.out.x.two
      obtain ⟨v0, v1⟩ := X6.out.x.warm2
      obtain ⟨u2, u3⟩ := (far2 X6.out.y (k := w.heap.size + 2) (by omega) (.int .i64 0) (.slice none 0 0)).two
      obtain ⟨v2, v3⟩ := (far2 X6.out.y (k := w.heap.size + 2) (by omega) (.int .i64 0) (.slice none 0 0)).warm2
      go_wp2_with fail
      exact bodyPost_ret (X6.out.none_ Try.results25 rfl rfl) rfl (by rw [HEE.out.1, HEE.out.2.1, HEE.out.2.2.1, HEE.out.2.2.2.1, HEE.out.2.2.2.2]; exact PRes.none_ (Rw.below_put2 (Rw.below_put2 B6.out (by omega) _ _) (by omega) _ _))
  · have d0 : decide (cb < V) = false := decide_eq_false (by omega)
    have HEE := Lib.hid (po_yes (e0.trans (if_neg (by omega))))
    clear hg e0
    go_region_held3 (fun W => W.cell? ⟨w.heap.size + 1, 0, none⟩ = some (.int .i64 cb) ∧ W.cell? ⟨w.heap.size + 1, 1, none⟩ = some (.slice B n5 d))
      (first | exact HX.out _ (Below.refl _ _) | exact HX.out _ (drew_below _) | exact HX.out _ HBL.out)
      ((go_at_call 32; (with_reducible refine (K2.out _ (drew_below _)).mono ?_); rintro e wa ⟨rfl, hba⟩; (have HBL : Hid (Below w5.heap.size w5 wa) := Lib.hid (bstep (drew_below _) hba)); clear hba))
    all_goals
      obtain ⟨⟨x0, x1⟩, x2, x3⟩ := HY.out _ HBL.out
      go_wp2_with fail
      have HBA := Lib.hid HBL.out
      clear HBL
      go_region_with ((go_at_call 36; (with_reducible refine (KQ.out _ (bstep HBA.out (drew_below _))).mono ?_); rintro e wz ⟨A6, n6, c6, rfl, hl6, ho6, hb6⟩; (have HBL : Hid (Below w5.heap.size w5 wz) := Lib.hid (bstep (bstep HBA.out (drew_below _)) hb6)); (have HO6 := Lib.hid (ho6.less (B' := w.heap.size + 4) (Nat.le_trans X5.out.size (bstep HBA.out (drew_below _)).size))); (have HL6 := Lib.hid hl6); clear hb6 ho6 hl6; (obtain ⟨⟨s0, s1⟩, s2, s3⟩ := HY.out _ HBL.out); (obtain ⟨u0, u1⟩ := (X5.out.x.on HBL.out).two); (obtain ⟨v0, v1⟩ := (X5.out.x.on HBL.out).warm2); (obtain ⟨u2, u3⟩ := (far2 (X5.out.y.on HBL.out) (k := w.heap.size + 2) (by omega) (.int .i64 ca) (.slice A4 n4 c4)).two); (obtain ⟨v2, v3⟩ := (far2 (X5.out.y.on HBL.out) (k := w.heap.size + 2) (by omega) (.int .i64 ca) (.slice A4 n4 c4)).warm2)))
      all_goals
        go_wp2_with fail
        exact bodyPost_ret (res_chests Try.results25 rfl rfl (far2 (k := w.heap.size + 3) ((X5.out.x.on HBL.out).put2 _ _) (by omega) _ _) ((far2 (k := w.heap.size + 2) (X5.out.y.on HBL.out) (by omega) _ _).put2 _ _)) rfl (by
          rw [HEE.out.1, HEE.out.2.1, HEE.out.2.2.1, HEE.out.2.2.2.1, HEE.out.2.2.2.2]
          have HP := P4.out.on HBL.out
          exact ⟨_, _, _, _, _, _, rfl, HL.out.1, HL6.out,
            own_far2 (own_far2 (HP.less (by omega)) (fun e => by have h1 := (HP.lt _ e).1; omega) _ _) (fun e => by have h1 := (HP.lt _ e).1; omega) _ _,
            own_far2 (own_far2 (HO6.out.less (by omega)) (fun e => by have h1 := (HO6.out.lt _ e).1; omega) _ _) (fun e => by have h1 := (HO6.out.lt _ e).1; omega) _ _,
            Rw.below_put2 (Rw.below_put2 (bstep B5.out HBL.out) (by omega) _ _) (by omega) _ _⟩)
end Go.Proofs.Ytagjimdplmimoaa.Chest
