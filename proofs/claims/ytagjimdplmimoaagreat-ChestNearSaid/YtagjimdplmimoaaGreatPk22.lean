/- Several texts in one: ChestQ, TankPB, TankPC, TankPD. -/
import Derived.Test.YtagjimdplmimoaaGreatPk21
import Derived.Test.YtagjimdplmimoaaGreatPk20
import Derived.Test.YtagjimdplmimoaaGreatPk19
/- The chapter's examples (gen18/q.py). -/
namespace Go.Proofs.YtagjimdplmimoaaGreat.Chest
open Go.ChangeShapes Go.WideShapes Go.RowKit Go.Lib
open Go.Proofs.YtagjimdplmimoaaGreat.Mem (Cl eI Own)
open Go.Proofs.YtagjimdplmimoaaGreat.Share (own_cl same_n)
open Go.Proofs.YtagjimdplmimoaaGreat.Rw (glt get_lt below_alloc bstep below_drewN below_drew drew_below)
set_option linter.unusedVariables false
set_option maxRecDepth 100000

theorem lit_two (w : World) (x y : Int) (T : TypeId) : Cl eI (w.alloc (.cells #[.int .i64 x, .int .i64 y] T)) (some ⟨w.heap.size, 0, none⟩) [x, y] := by
  have hc := Rw.Cel.new w [.int .i64 x, .int .i64 y] T
  intro i s hs
  match i, hs with
  | 0, hs => simp at hs; subst hs; exact ⟨_, 0, rfl, hc.lt, hc.at_ 0 _ rfl⟩
  | 1, hs => simp at hs; subst hs; exact ⟨_, 0, rfl, hc.lt, hc.at_ 1 _ rfl⟩
theorem aw_one : drE 100 [10, 5] 4 = 0 ∧ drC 100 [10, 5] 4 = 100 ∧ drL 100 [10, 5] 4 = [7, 4] ∧ drM 100 [10, 5] 4 = [3, 1] := by decide +kernel
theorem aw_two : drE 100 [7, 4] 4 = 0 ∧ drC 100 [7, 4] 4 = 100 ∧ drL 100 [7, 4] 4 = [4, 3] ∧ drM 100 [7, 4] 4 = [3, 1] := by decide +kernel
theorem aw_rate : ratE 100 [10, 5] 0 = 0 ∧ ratV 100 [10, 5] 0 = 666 := by decide +kernel
theorem aw_more : drE 100 [10, 5] 16 = 19 ∧ drC 100 [10, 5] 16 = 0 ∧ drL 100 [10, 5] 16 = [] ∧ drM 100 [10, 5] 16 = [] := by decide +kernel
theorem aw_full : filE 100 [10, 5] [80, 6] = 8 ∧ filC 100 [10, 5] [80, 6] = 0 ∧ filL 100 [10, 5] [80, 6] = [] := by decide +kernel
theorem aw_fill : filE 100 [10, 5] [80, 5] = 0 ∧ filC 100 [10, 5] [80, 5] = 100 ∧ filL 100 [10, 5] [80, 5] = [90, 10] := by decide +kernel
theorem aw_lev : ckC 100 [90, 10] = 0 ∧ levV 100 [90, 10] = 100 := by decide +kernel
set_option maxHeartbeats 6400000 in
theorem law_awake (w : World) :
    Calls Tryz.prog 4 #[] w fun e w' => e = .returned (.bool true) ∧ Below w.heap.size w w' := by
  have KD := Lib.hid fun A c (W : World) (h : Cl eI W A [10, 5]) => ch_Draw 100 4 [10, 5] A 2 c rfl W h (by decide)
  have KE := Lib.hid fun A c (W : World) (h : Cl eI W A [7, 4]) => ch_Draw 100 4 [7, 4] A 2 c rfl W h (by decide)
  have KR := Lib.hid fun A c (W : World) (h : Cl eI W A [10, 5]) => ch_Rate 100 0 [10, 5] A 2 c rfl W h (by decide)
  have KM := Lib.hid fun A c (W : World) (h : Cl eI W A [10, 5]) => ch_Draw 100 16 [10, 5] A 2 c rfl W h (by decide)
  have KF := Lib.hid fun A c B (W : World) (h : Cl eI W A [10, 5]) (k : Cl eI W B [80, 6]) => ch_Fill 100 [10, 5] [80, 6] A B 2 c 2 2 rfl rfl W h k (by decide) (by decide)
  have KG := Lib.hid fun A c B (W : World) (h : Cl eI W A [10, 5]) (k : Cl eI W B [80, 5]) => ch_Fill 100 [10, 5] [80, 5] A B 2 c 2 2 rfl rfl W h k (by decide) (by decide)
  have KL := Lib.hid fun A c (W : World) (h : Cl eI W A [90, 10]) => ch_Level 100 [90, 10] A 2 c rfl W h (by decide)
  have KS := Lib.hid fun (x y : Int) (A B : Option Addr) c d (W : World) (h : Cl eI W A [x, y]) (k : Cl eI W B [x, y]) => same_n [x, y] [x, y] 2 2 rfl rfl A B c d W h k (by decide) (by decide)
  rw [aw_one.1, aw_one.2.1, aw_one.2.2.1, aw_one.2.2.2] at KD
  rw [aw_two.1, aw_two.2.1, aw_two.2.2.1, aw_two.2.2.2] at KE
  rw [aw_rate.1, aw_rate.2] at KR
  rw [aw_more.1, aw_more.2.1, aw_more.2.2.1, aw_more.2.2.2] at KM
  rw [aw_full.1, aw_full.2.1, aw_full.2.2] at KF
  rw [aw_fill.1, aw_fill.2.1, aw_fill.2.2] at KG
  rw [aw_lev.1, aw_lev.2] at KL
  go_enter Tryz.func4, Tryz.ntmps4
  go_upto_region 2 with fail
  obtain ⟨g, hg⟩ : ∃ g, w.heap.size + 1 = g := ⟨_, rfl⟩
  obtain ⟨w1, hw⟩ : ∃ W, (w.alloc (.cells #[.int .i64 10, .int .i64 5] 3)).alloc (.cells #[.int .i64 100, .slice (some ⟨w.heap.size, 0, none⟩) 2 2] 26) = W := ⟨_, rfl⟩
  have R0 : Hid (Cl eI w1 (some ⟨w.heap.size, 0, none⟩) [10, 5]) := hw ▸ Cl.on (lit_two w 10 5 _) (below_alloc _ _)
  have HB : Hid (Below w.heap.size w w1) := hw ▸ bstep (below_alloc _ _) (below_alloc _ _)
  have C0 : Hid (Rw.Cel w1 g [.int .i64 100, .slice (some ⟨w.heap.size, 0, none⟩) 2 2]) := Lib.hid (by rw [← hw]; exact Rw.Cel.new_at _ [_, _] _ (by simp [← hg]))
  rw [hw, hg]
  clear hw hg
  obtain ⟨x0, x1⟩ := C0.out.two
  go_wp2_with fail
  refine (KD.out _ _ _ R0.out).mono ?_
  rintro e w2 ⟨A1, n1, c1, M1, m1, d1, rfl, hl, hm, ho, hp, hb⟩
  obtain rfl : 2 = n1 := hl
  obtain rfl : 2 = m1 := hm
  replace HB := Lib.hid (bstep HB.out hb)
  replace R0 := Lib.hid (R0.out.on hb)
  replace C0 := Lib.hid (C0.out.on hb)
  have R1 := Lib.hid (own_cl ho)
  have T1 := Lib.hid (own_cl hp)
  clear hb ho hp x0 x1
  go_upto_region 3 with fail
  obtain ⟨w3, hw⟩ : ∃ W, w2.alloc (.cells #[.int .i64 100, .slice A1 2 c1] 26) = W := ⟨_, rfl⟩
  obtain ⟨gC1, hg⟩ : ∃ g, w2.heap.size = g := ⟨_, rfl⟩
  have hb : Below w2.heap.size w2 w3 := hw ▸ below_alloc _ _
  have C1 : Hid (Rw.Cel w3 gC1 [.int .i64 100, .slice A1 2 c1]) := hw ▸ hg ▸ Rw.Cel.new w2 [_, _] _
  replace HB := Lib.hid (bstep HB.out hb)
  replace R0 := Lib.hid (R0.out.on hb)
  replace C0 := Lib.hid (C0.out.on hb)
  replace R1 := Lib.hid (R1.out.on hb)
  replace T1 := Lib.hid (T1.out.on hb)
  rw [hw, hg]
  clear hw hg hb
  obtain ⟨x0, x1⟩ := C1.out.two
  go_wp2_with fail
  refine (KE.out _ _ _ R1.out).mono ?_
  rintro e w4 ⟨A2, n2, c2, M2, m2, d2, rfl, hl, hm, ho, hp, hb⟩
  obtain rfl : 2 = n2 := hl
  obtain rfl : 2 = m2 := hm
  replace HB := Lib.hid (bstep HB.out hb)
  replace R0 := Lib.hid (R0.out.on hb)
  replace C0 := Lib.hid (C0.out.on hb)
  replace R1 := Lib.hid (R1.out.on hb)
  replace T1 := Lib.hid (T1.out.on hb)
  replace C1 := Lib.hid (C1.out.on hb)
  have R2 := Lib.hid (own_cl ho)
  have T2 := Lib.hid (own_cl hp)
  clear hb ho hp x0 x1
  go_upto_region 4 with fail
  obtain ⟨w5, hw⟩ : ∃ W, w4.alloc (.cells #[.int .i64 100, .slice A2 2 c2] 26) = W := ⟨_, rfl⟩
  obtain ⟨gC2, hg⟩ : ∃ g, w4.heap.size = g := ⟨_, rfl⟩
  have hb : Below w4.heap.size w4 w5 := hw ▸ below_alloc _ _
  have C2 : Hid (Rw.Cel w5 gC2 [.int .i64 100, .slice A2 2 c2]) := hw ▸ hg ▸ Rw.Cel.new w4 [_, _] _
  replace HB := Lib.hid (bstep HB.out hb)
  replace R0 := Lib.hid (R0.out.on hb)
  replace C0 := Lib.hid (C0.out.on hb)
  replace R1 := Lib.hid (R1.out.on hb)
  replace T1 := Lib.hid (T1.out.on hb)
  replace C1 := Lib.hid (C1.out.on hb)
  replace R2 := Lib.hid (R2.out.on hb)
  replace T2 := Lib.hid (T2.out.on hb)
  rw [hw, hg]
  clear hw hg hb
  obtain ⟨x0, x1⟩ := C0.out.two
  go_wp2_with fail
  refine (KR.out _ _ _ R0.out).mono ?_
  rintro e w6 ⟨rfl, hb⟩
  replace HB := Lib.hid (bstep HB.out hb)
  replace R0 := Lib.hid (R0.out.on hb)
  replace C0 := Lib.hid (C0.out.on hb)
  replace R1 := Lib.hid (R1.out.on hb)
  replace T1 := Lib.hid (T1.out.on hb)
  replace C1 := Lib.hid (C1.out.on hb)
  replace R2 := Lib.hid (R2.out.on hb)
  replace T2 := Lib.hid (T2.out.on hb)
  replace C2 := Lib.hid (C2.out.on hb)
  clear hb x0 x1
  obtain ⟨x0, x1⟩ := C0.out.two
  go_wp2_with fail
  refine (KM.out _ _ _ R0.out).mono ?_
  rintro e w7 ⟨A3, n3, c3, M3, m3, d3, rfl, hl, hm, ho, hp, hb⟩
  obtain rfl : 0 = n3 := hl
  obtain rfl : 0 = m3 := hm
  replace HB := Lib.hid (bstep HB.out hb)
  replace R0 := Lib.hid (R0.out.on hb)
  replace C0 := Lib.hid (C0.out.on hb)
  replace R1 := Lib.hid (R1.out.on hb)
  replace T1 := Lib.hid (T1.out.on hb)
  replace C1 := Lib.hid (C1.out.on hb)
  replace R2 := Lib.hid (R2.out.on hb)
  replace T2 := Lib.hid (T2.out.on hb)
  replace C2 := Lib.hid (C2.out.on hb)
  clear hb ho hp x0 x1
  go_upto_region 6 with fail
  obtain ⟨w8, hw⟩ : ∃ W, w7.alloc (.cells #[.int .i64 0, .slice A3 0 c3] 26) = W := ⟨_, rfl⟩
  obtain ⟨gC3, hg⟩ : ∃ g, w7.heap.size = g := ⟨_, rfl⟩
  have hb : Below w7.heap.size w7 w8 := hw ▸ below_alloc _ _
  have C3 : Hid (Rw.Cel w8 gC3 [.int .i64 0, .slice A3 0 c3]) := hw ▸ hg ▸ Rw.Cel.new w7 [_, _] _
  replace HB := Lib.hid (bstep HB.out hb)
  replace R0 := Lib.hid (R0.out.on hb)
  replace C0 := Lib.hid (C0.out.on hb)
  replace R1 := Lib.hid (R1.out.on hb)
  replace T1 := Lib.hid (T1.out.on hb)
  replace C1 := Lib.hid (C1.out.on hb)
  replace R2 := Lib.hid (R2.out.on hb)
  replace T2 := Lib.hid (T2.out.on hb)
  replace C2 := Lib.hid (C2.out.on hb)
  rw [hw, hg]
  clear hw hg hb
  obtain ⟨x0, x1⟩ := C0.out.two
  go_wp2_with fail
  refine (KF.out _ _ _ _ (R0.out.on (below_alloc _ _)) (lit_two w8 80 6 _)).mono ?_
  rintro e w9 ⟨A4, n4, c4, rfl, hl, ho, hb⟩
  obtain rfl : 0 = n4 := hl
  have hb := bstep (below_alloc _ _) hb
  replace HB := Lib.hid (bstep HB.out hb)
  replace R0 := Lib.hid (R0.out.on hb)
  replace C0 := Lib.hid (C0.out.on hb)
  replace R1 := Lib.hid (R1.out.on hb)
  replace T1 := Lib.hid (T1.out.on hb)
  replace C1 := Lib.hid (C1.out.on hb)
  replace R2 := Lib.hid (R2.out.on hb)
  replace T2 := Lib.hid (T2.out.on hb)
  replace C2 := Lib.hid (C2.out.on hb)
  replace C3 := Lib.hid (C3.out.on hb)
  clear hb ho x0 x1
  go_upto_region 7 with fail
  obtain ⟨w10, hw⟩ : ∃ W, w9.alloc (.cells #[.int .i64 0, .slice A4 0 c4] 26) = W := ⟨_, rfl⟩
  obtain ⟨gC4, hg⟩ : ∃ g, w9.heap.size = g := ⟨_, rfl⟩
  have hb : Below w9.heap.size w9 w10 := hw ▸ below_alloc _ _
  have C4 : Hid (Rw.Cel w10 gC4 [.int .i64 0, .slice A4 0 c4]) := hw ▸ hg ▸ Rw.Cel.new w9 [_, _] _
  replace HB := Lib.hid (bstep HB.out hb)
  replace R0 := Lib.hid (R0.out.on hb)
  replace C0 := Lib.hid (C0.out.on hb)
  replace R1 := Lib.hid (R1.out.on hb)
  replace T1 := Lib.hid (T1.out.on hb)
  replace C1 := Lib.hid (C1.out.on hb)
  replace R2 := Lib.hid (R2.out.on hb)
  replace T2 := Lib.hid (T2.out.on hb)
  replace C2 := Lib.hid (C2.out.on hb)
  replace C3 := Lib.hid (C3.out.on hb)
  rw [hw, hg]
  clear hw hg hb
  obtain ⟨x0, x1⟩ := C0.out.two
  go_wp2_with fail
  refine (KG.out _ _ _ _ (R0.out.on (below_alloc _ _)) (lit_two w10 80 5 _)).mono ?_
  rintro e w11 ⟨A5, n5, c5, rfl, hl, ho, hb⟩
  obtain rfl : 2 = n5 := hl
  have hb := bstep (below_alloc _ _) hb
  replace HB := Lib.hid (bstep HB.out hb)
  replace R0 := Lib.hid (R0.out.on hb)
  replace C0 := Lib.hid (C0.out.on hb)
  replace R1 := Lib.hid (R1.out.on hb)
  replace T1 := Lib.hid (T1.out.on hb)
  replace C1 := Lib.hid (C1.out.on hb)
  replace R2 := Lib.hid (R2.out.on hb)
  replace T2 := Lib.hid (T2.out.on hb)
  replace C2 := Lib.hid (C2.out.on hb)
  replace C3 := Lib.hid (C3.out.on hb)
  replace C4 := Lib.hid (C4.out.on hb)
  have R5 := Lib.hid (own_cl ho)
  clear hb ho x0 x1
  go_upto_region 8 with fail
  obtain ⟨w12, hw⟩ : ∃ W, w11.alloc (.cells #[.int .i64 100, .slice A5 2 c5] 26) = W := ⟨_, rfl⟩
  obtain ⟨gC5, hg⟩ : ∃ g, w11.heap.size = g := ⟨_, rfl⟩
  have hb : Below w11.heap.size w11 w12 := hw ▸ below_alloc _ _
  have C5 : Hid (Rw.Cel w12 gC5 [.int .i64 100, .slice A5 2 c5]) := hw ▸ hg ▸ Rw.Cel.new w11 [_, _] _
  replace HB := Lib.hid (bstep HB.out hb)
  replace R0 := Lib.hid (R0.out.on hb)
  replace C0 := Lib.hid (C0.out.on hb)
  replace R1 := Lib.hid (R1.out.on hb)
  replace T1 := Lib.hid (T1.out.on hb)
  replace C1 := Lib.hid (C1.out.on hb)
  replace R2 := Lib.hid (R2.out.on hb)
  replace T2 := Lib.hid (T2.out.on hb)
  replace C2 := Lib.hid (C2.out.on hb)
  replace C3 := Lib.hid (C3.out.on hb)
  replace C4 := Lib.hid (C4.out.on hb)
  replace R5 := Lib.hid (R5.out.on hb)
  rw [hw, hg]
  clear hw hg hb
  obtain ⟨x0, x1⟩ := C5.out.two
  go_wp2_with fail
  refine (KL.out _ _ _ R5.out).mono ?_
  rintro e w13 ⟨rfl, hb⟩
  replace HB := Lib.hid (bstep HB.out hb)
  replace R0 := Lib.hid (R0.out.on hb)
  replace C0 := Lib.hid (C0.out.on hb)
  replace R1 := Lib.hid (R1.out.on hb)
  replace T1 := Lib.hid (T1.out.on hb)
  replace C1 := Lib.hid (C1.out.on hb)
  replace R2 := Lib.hid (R2.out.on hb)
  replace T2 := Lib.hid (T2.out.on hb)
  replace C2 := Lib.hid (C2.out.on hb)
  replace C3 := Lib.hid (C3.out.on hb)
  replace C4 := Lib.hid (C4.out.on hb)
  replace R5 := Lib.hid (R5.out.on hb)
  replace C5 := Lib.hid (C5.out.on hb)
  clear hb x0 x1
  go_wp2_with fail
  refine (KS.out 3 1 _ _ _ _ _ (T1.out.on (below_alloc _ _)) (lit_two w13 3 1 _)).mono ?_
  rintro e w14 ⟨rfl, hb⟩
  have hb := bstep (below_alloc _ _) hb
  replace HB := Lib.hid (bstep HB.out hb)
  replace R0 := Lib.hid (R0.out.on hb)
  replace C0 := Lib.hid (C0.out.on hb)
  replace R1 := Lib.hid (R1.out.on hb)
  replace T1 := Lib.hid (T1.out.on hb)
  replace C1 := Lib.hid (C1.out.on hb)
  replace R2 := Lib.hid (R2.out.on hb)
  replace T2 := Lib.hid (T2.out.on hb)
  replace C2 := Lib.hid (C2.out.on hb)
  replace C3 := Lib.hid (C3.out.on hb)
  replace C4 := Lib.hid (C4.out.on hb)
  replace R5 := Lib.hid (R5.out.on hb)
  replace C5 := Lib.hid (C5.out.on hb)
  clear hb
  obtain ⟨x0, x1⟩ := C1.out.two
  go_wp2_with fail
  refine (KS.out 7 4 _ _ _ _ _ (R1.out.on (below_alloc _ _)) (lit_two w14 7 4 _)).mono ?_
  rintro e w15 ⟨rfl, hb⟩
  have hb := bstep (below_alloc _ _) hb
  replace HB := Lib.hid (bstep HB.out hb)
  replace R0 := Lib.hid (R0.out.on hb)
  replace C0 := Lib.hid (C0.out.on hb)
  replace R1 := Lib.hid (R1.out.on hb)
  replace T1 := Lib.hid (T1.out.on hb)
  replace C1 := Lib.hid (C1.out.on hb)
  replace R2 := Lib.hid (R2.out.on hb)
  replace T2 := Lib.hid (T2.out.on hb)
  replace C2 := Lib.hid (C2.out.on hb)
  replace C3 := Lib.hid (C3.out.on hb)
  replace C4 := Lib.hid (C4.out.on hb)
  replace R5 := Lib.hid (R5.out.on hb)
  replace C5 := Lib.hid (C5.out.on hb)
  clear hb x0 x1
  go_wp2_with fail
  refine (KS.out 3 1 _ _ _ _ _ (T2.out.on (below_alloc _ _)) (lit_two w15 3 1 _)).mono ?_
  rintro e w16 ⟨rfl, hb⟩
  have hb := bstep (below_alloc _ _) hb
  replace HB := Lib.hid (bstep HB.out hb)
  replace R0 := Lib.hid (R0.out.on hb)
  replace C0 := Lib.hid (C0.out.on hb)
  replace R1 := Lib.hid (R1.out.on hb)
  replace T1 := Lib.hid (T1.out.on hb)
  replace C1 := Lib.hid (C1.out.on hb)
  replace R2 := Lib.hid (R2.out.on hb)
  replace T2 := Lib.hid (T2.out.on hb)
  replace C2 := Lib.hid (C2.out.on hb)
  replace C3 := Lib.hid (C3.out.on hb)
  replace C4 := Lib.hid (C4.out.on hb)
  replace R5 := Lib.hid (R5.out.on hb)
  replace C5 := Lib.hid (C5.out.on hb)
  clear hb
  obtain ⟨x0, x1⟩ := C2.out.two
  go_wp2_with fail
  refine (KS.out 4 3 _ _ _ _ _ (R2.out.on (below_alloc _ _)) (lit_two w16 4 3 _)).mono ?_
  rintro e w17 ⟨rfl, hb⟩
  have hb := bstep (below_alloc _ _) hb
  replace HB := Lib.hid (bstep HB.out hb)
  replace R0 := Lib.hid (R0.out.on hb)
  replace C0 := Lib.hid (C0.out.on hb)
  replace R1 := Lib.hid (R1.out.on hb)
  replace T1 := Lib.hid (T1.out.on hb)
  replace C1 := Lib.hid (C1.out.on hb)
  replace R2 := Lib.hid (R2.out.on hb)
  replace T2 := Lib.hid (T2.out.on hb)
  replace C2 := Lib.hid (C2.out.on hb)
  replace C3 := Lib.hid (C3.out.on hb)
  replace C4 := Lib.hid (C4.out.on hb)
  replace R5 := Lib.hid (R5.out.on hb)
  replace C5 := Lib.hid (C5.out.on hb)
  clear hb x0 x1
  obtain ⟨x0, x1⟩ := C1.out.two
  go_wp2_with fail
  go_ret
  exact ⟨rfl, HB.out⟩
end Go.Proofs.YtagjimdplmimoaaGreat.Chest
/- The program: checkForm, Level, Check. -/
namespace Go.Proofs.YtagjimdplmimoaaGreat.Tank
open Go.ChangeShapes Go.WideShapes Go.RowKit Go.Lib
open Go.Proofs.YtagjimdplmimoaaGreat.Rw (Rd Row Kd glt get_lt below_alloc bstep wrap_id below_drewN below_drew drew_below)
set_option linter.unusedVariables false
set_option maxRecDepth 100000

def cnB (n : Int) : Bool := decide (1 ≤ n) && decide (n ≤ 8)
def cpB (n : Int) : Bool := decide (1 ≤ n) && decide (n ≤ MM)
theorem cnB_iff {n : Int} : cnB n = true ↔ 1 ≤ n ∧ n ≤ 8 := by unfold cnB; simp only [Bool.and_eq_true, decide_eq_true_iff]
theorem cpB_iff {n : Int} : cpB n = true ↔ 1 ≤ n ∧ n ≤ MM := by unfold cpB; simp only [Bool.and_eq_true, decide_eq_true_iff]
theorem p_isCount (n : Int) (w : World) : Calls Tryz.prog 16 #[.int .i64 n] w fun e w' => e = .returned (.bool (cnB n)) ∧ w = w' := by
  unfold cnB
  cases h1 : decide (1 ≤ n) with
  | false =>
    go_enter Tryz.func16, Tryz.ntmps16
    go_wp2_with fail
    go_ret
    exact ⟨rfl, rfl⟩
  | true =>
    cases h2 : decide (n ≤ 8) with
    | false =>
      go_enter Tryz.func16, Tryz.ntmps16
      go_wp2_with fail
      go_ret
      exact ⟨rfl, rfl⟩
    | true =>
      go_enter Tryz.func16, Tryz.ntmps16
      go_wp2_with fail
      go_ret
      exact ⟨rfl, rfl⟩
theorem p_isCapacity (n : Int) (w : World) : Calls Tryz.prog 17 #[.int .i64 n] w fun e w' => e = .returned (.bool (cpB n)) ∧ w = w' := by
  unfold cpB
  have hM : MM = 1099511627776 := rfl
  rw [hM]
  cases h1 : decide (1 ≤ n) with
  | false =>
    go_enter Tryz.func17, Tryz.ntmps17
    go_wp2_with fail
    go_ret
    exact ⟨rfl, rfl⟩
  | true =>
    cases h2 : decide (n ≤ 1099511627776) with
    | false =>
      go_enter Tryz.func17, Tryz.ntmps17
      go_wp2_with fail
      go_ret
      exact ⟨rfl, rfl⟩
    | true =>
      go_enter Tryz.func17, Tryz.ntmps17
      go_wp2_with fail
      go_ret
      exact ⟨rfl, rfl⟩
/-- The errors of Check that come before the sum. -/
def cfE (cap : Int) (L : List Trip) : Int := if 1 ≤ cap ∧ cap ≤ MM then (if 1 ≤ L.length ∧ L.length ≤ 8 then ckP L else 17) else 1
theorem ckT_cf (cap : Int) (L : List Trip) : ckT cap L = if cfE cap L = 0 then ckS cap L else cfE cap L := by
  unfold ckT cfE
  by_cases h1 : 1 ≤ cap ∧ cap ≤ MM
  · rw [if_pos h1, if_pos h1]
    unfold ckN
    by_cases h2 : 1 ≤ L.length ∧ L.length ≤ 8
    · rw [if_pos h2, if_pos h2]
    · rw [if_neg h2, if_neg h2]; rfl
  · rw [if_neg h1, if_neg h1]; rfl
theorem cfE_of {cap : Int} {L : List Trip} (h : cfE cap L = 0) : (1 ≤ cap ∧ cap ≤ MM) ∧ (1 ≤ L.length ∧ L.length ≤ 8) := by
  unfold cfE at h
  by_cases h1 : 1 ≤ cap ∧ cap ≤ MM
  · rw [if_pos h1] at h
    by_cases h2 : 1 ≤ L.length ∧ L.length ≤ 8
    · exact ⟨h1, h2⟩
    · rw [if_neg h2] at h; cases h
  · rw [if_neg h1] at h; cases h
set_option maxHeartbeats 3200000 in
theorem p_checkForm (cap : Int) (L : List Trip) (A : Option Addr) (n c : Nat) (hn : n = L.length) (w : World) (ha : Rats w A L) (hm : n ≤ 9223372036854775807) :
    Calls Tryz.prog 43 #[.agg #[.int .i64 cap, .slice A n c]] w fun e w' => e = .returned (.int .i64 (cfE cap L)) ∧ Below w.heap.size w w' := by
  obtain ⟨E, hE⟩ : ∃ E, cfE cap L = E := ⟨_, rfl⟩
  rw [hE]
  have K1 := Lib.hid fun W => p_isCapacity cap W
  have K2 := Lib.hid fun W => p_isCount n W
  have HA := Lib.hid ha
  have HN := Lib.hid hn
  cases h1 : cpB cap with
  | false =>
    rw [h1] at K1
    obtain rfl : E = 1 := by rw [← hE]; exact if_neg fun h => by rw [cpB_iff.mpr h] at h1; cases h1
    clear hE h1 ha hn hm K2
    go_enter Tryz.func43, Tryz.ntmps43
    go_wp2_with fail
    refine (K1.out _).mono ?_
    rintro e w1 ⟨rfl, rfl⟩
    go_wp2_with fail
    go_ret
    exact ⟨rfl, below_alloc _ _⟩
  | true =>
  rw [h1] at K1
  have hcap := cpB_iff.mp h1
  cases h2 : cnB n with
  | false =>
    rw [h2] at K2
    obtain rfl : E = 17 := by rw [← hE]; unfold cfE; rw [if_pos hcap]; exact if_neg fun h => by rw [cnB_iff.mpr ⟨by omega, by omega⟩] at h2; cases h2
    clear hE h1 h2 hcap ha hn hm
    go_enter Tryz.func43, Tryz.ntmps43
    go_wp2_with fail
    refine (K1.out _).mono ?_
    rintro e w1 ⟨rfl, rfl⟩
    go_wp2_with fail
    refine (K2.out _).mono ?_
    rintro e w1 ⟨rfl, rfl⟩
    go_wp2_with fail
    go_ret
    exact ⟨rfl, below_alloc _ _⟩
  | true =>
  rw [h2] at K2
  have hcnt := cnB_iff.mp h2
  have HE : Hid (ckP L = E) := Lib.hid (by rw [← hE]; unfold cfE; rw [if_pos hcap, if_pos (by omega)])
  have HL := Lib.hid (show n ≤ 8 by omega)
  clear hE h1 h2 hcap hcnt ha hn hm
  go_enter Tryz.func43, Tryz.ntmps43
  go_upto_region 1 with fail
  obtain ⟨w0, hw0⟩ : ∃ W, w.alloc (.cells #[.int .i64 cap, .slice A n c] 32) = W := ⟨_, rfl⟩
  have C0 : Hid (Rw.Cel w0 w.heap.size [.int .i64 cap, .slice A n c]) := hw0 ▸ Rw.Cel.new w [_, _] _
  have B0 : Hid (Below w.heap.size w w0) := hw0 ▸ below_alloc _ _
  rw [hw0]
  clear hw0
  obtain ⟨x0, x1⟩ := C0.out.two
  go_wp2_with fail
  refine (K1.out _).mono ?_
  rintro e w1 ⟨rfl, rfl⟩
  go_wp2_with fail
  refine (K2.out _).mono ?_
  rintro e w1 ⟨rfl, rfl⟩
  go_wp2_with fail
  go_loopw [17, 4] (fun i _ wr => ∃ k : Nat, k ≤ n ∧ i = .int .i64 k ∧ (∀ (j : Nat) (t : Trip), j < k → L[j]? = some t → vT t = true ∧ t.1 = false) ∧ Below w0.heap.size w0 wr) (fun i _ _ => n - (RowKit.intOf i).toNat)
  case atStart => exact ⟨0, Nat.zero_le _, rfl, fun j t h => absurd h (by omega), Below.refl _ _⟩
  case round =>
    obtain ⟨k, hk, rfl, hv, hbel⟩ := hrel
    have HV := Lib.hid hv
    have HW := Lib.hid hbel
    have BW := Lib.hid (bstep B0.out hbel)
    clear hv hbel x0 x1
    rcases Nat.lt_or_ge k n with hlt | hge
    · obtain ⟨t, ht⟩ := get_lt (L := L) (k := k) (by have := HN.out; omega)
      obtain ⟨b, off, A1, c1, A2, c2, rfl, hb, y0, y1, y2, hin⟩ := Rats.at_ (HA.out.on BW.out) ht
      have HT := Lib.hid ht
      have HI := Lib.hid hin
      have i1 : (k : Int) < (n : Int) := by omega
      have i2 : (0 : Int) ≤ (k : Int) := by omega
      have i3 : IntKind.i64.wrap ((k : Int) + 1) = (k : Int) + 1 := Rw.wrap_id (by have := HL.out; omega)
      obtain ⟨p1, hp1⟩ : ∃ x, t.2.1.length = x := ⟨_, rfl⟩
      obtain ⟨p2, hp2⟩ : ∃ x, t.2.2.length = x := ⟨_, rfl⟩
      rw [hp1] at y1 HI
      rw [hp2] at y2 HI
      clear hin hp1 hp2 ht
      go_upto_region 8 with fail
      obtain ⟨w2, hw2⟩ : ∃ W, wr.alloc (.cells #[.bool t.1, .slice A1 p1 c1, .slice A2 p2 c2] 46) = W := ⟨_, rfl⟩
      have b2 : Below wr.heap.size wr w2 := hw2 ▸ below_alloc _ _
      have C2 : Hid (Rw.Cel w2 wr.heap.size [.bool t.1, .slice A1 p1 c1, .slice A2 p2 c2]) := hw2 ▸ Rw.Cel.new wr [_, _, _] _
      have I2 := Lib.hid (HI.out.on b2)
      have HW2 := Lib.hid (bstep HW.out b2)
      rw [hw2]
      clear hw2 b2 y0 y1 y2
      have KV := Lib.hid (rat_Valid _ _ _ _ w2 I2.out)
      obtain ⟨p, hp⟩ : ∃ p, vT t = p := ⟨_, rfl⟩
      have hp2 : valR t.1 t.2.1 t.2.2 = p := hp
      rw [hp2] at KV
      have HP := Lib.hid hp
      clear hp hp2
      obtain ⟨z0, z1, z2⟩ := C2.out.three
      go_wp2_with fail
      refine KV.out.mono ?_
      rintro e w3 ⟨rfl, hb3⟩
      have C3 := Lib.hid (C2.out.on hb3)
      have HW3 := Lib.hid (bstep HW2.out hb3)
      clear hb3 z0 z1 z2
      cases p with
      | false =>
        obtain rfl : E = 3 := by
          have := (ckP_bad HT.out fun j u hj hu => HV.out j u hj hu).1 HP.out
          rw [← HE.out, this]
        go_wp2_with fail
        go_ret
        exact ⟨rfl, bstep B0.out HW3.out⟩
      | true =>
        obtain ⟨q, hq⟩ : ∃ q, t.1 = q := ⟨_, rfl⟩
        obtain ⟨z0, z1, z2⟩ := C3.out.three
        rw [hq] at z0
        have HQ := Lib.hid hq
        clear hq
        cases q with
        | true =>
          obtain rfl : E = 1 := by
            have := (ckP_bad HT.out fun j u hj hu => HV.out j u hj hu).2 HP.out HQ.out
            rw [← HE.out, this]
          go_wp2_with fail
          go_ret
          exact ⟨rfl, bstep B0.out HW3.out⟩
        | false =>
          go_wp2_with fail
          go_roundw
          case rel =>
            refine ⟨k + 1, by omega, by go_num, ?_, HW3.out⟩
            intro j u hj hu
            rcases Nat.lt_or_eq_of_le (Nat.le_of_lt_succ hj) with h | h
            · exact HV.out j u h hu
            · subst h
              have e := HT.out
              rw [hu] at e; cases e; exact ⟨HP.out, HQ.out⟩
          case measure => simp [RowKit.intOf]; omega
    · obtain rfl : k = n := by omega
      obtain rfl : E = 0 := by rw [← HE.out]; exact ckP_ok fun j u hu => HV.out j u (by have := glt hu; have := HN.out; omega) hu
      go_wp2_with fail
      go_ret
      exact ⟨rfl, BW.out⟩
set_option maxHeartbeats 3200000 in
theorem p_Level (cap : Int) (L : List Trip) (A : Option Addr) (n c : Nat) (hn : n = L.length) (w : World) (ha : Rats w A L) (hm : n ≤ 9223372036854775807) :
    Calls Tryz.prog 28 #[.agg #[.int .i64 cap, .slice A n c]] w (RRes w (ckT cap L) (sumV L)) := by
  have HA := Lib.hid ha
  have K1 := Lib.hid fun (W : World) (h : Rats W A L) => p_checkForm cap L A n c hn W h hm
  have KS := Lib.hid fun (W : World) (h : Rats W A L) => rat_Sum L A c W h (by omega)
  rw [← hn] at KS
  have hck := ckT_cf cap L
  obtain ⟨G, hG⟩ : ∃ G, ckT cap L = G := ⟨_, rfl⟩
  obtain ⟨E, hE⟩ : ∃ E, cfE cap L = E := ⟨_, rfl⟩
  obtain ⟨F, hF⟩ : ∃ F, sumE L = F := ⟨_, rfl⟩
  obtain ⟨V, hV⟩ : ∃ V, sumV L = V := ⟨_, rfl⟩
  have HS := Lib.hid (show ckS cap L = if F = 0 then (if crossOk V (qI cap) then (if 0 < cmpG V (qI cap) then 8 else 0) else 2) else F by unfold ckS; rw [hF, hV])
  have HFS := Lib.hid (fun h => sumE_fit (L := L) (hF.trans h))
  have HCP := Lib.hid (fun h : E = 0 => (cfE_of (hE.trans h)).1)
  rw [hG, hE] at hck
  rw [hG, hV]
  rw [hE] at K1
  rw [hF, hV] at KS
  rw [hV] at HFS
  have HG := Lib.hid hck
  clear ha hn hm hck hG hE hF hV
  go_enter Tryz.func28, Tryz.ntmps28
  go_upto_region 1 with fail
  obtain ⟨w0, hw0⟩ : ∃ W, (w.alloc (.cells #[.int .i64 cap, .slice A n c] 32)).alloc (.cells #[.bool false, .slice none 0 0, .slice none 0 0] 46) = W := ⟨_, rfl⟩
  have C0 : Hid (Rw.Cel w0 w.heap.size [.int .i64 cap, .slice A n c]) := hw0 ▸ (Rw.Cel.new w [_, _] _).alloc _
  have R0 : Hid (Rw.Cel w0 (w.heap.size + 1) [.bool false, .slice none 0 0, .slice none 0 0]) := hw0 ▸ Rw.Cel.new_at _ [_, _, _] _ (by simp)
  have B0 : Hid (Below w.heap.size w w0) := hw0 ▸ bstep (below_alloc _ _) (below_alloc _ _)
  first | rw [hw0] | skip
  clear hw0
  obtain ⟨x0, x1⟩ := C0.out.two
  go_wp2_with fail
  refine (K1.out w0 (HA.out.on B0.out)).mono ?_
  rintro e w1 ⟨rfl, hb⟩
  have B1 := Lib.hid (bstep B0.out hb)
  have C1 := Lib.hid (C0.out.on hb)
  have R1 := Lib.hid (R0.out.on hb)
  clear hb x0 x1
  by_cases hz : E = 0
  rotate_left
  · obtain ⟨z1, z2⟩ := ne_zero hz
    obtain rfl : G = E := by rw [HG.out, if_neg hz]
    obtain ⟨u0, u1, u2⟩ := R1.out.three
    obtain ⟨v0, v1, v2⟩ := R1.out.warm3
    go_wp2_with fail
    exact bodyPost_ret (res_rat2 Tryz.results28 rfl (R1.out.put3 _ _ _)) rfl ⟨_, rfl, OutR.no hz, Rw.below_put3 B1.out (by omega) _ _ _⟩
  subst hz
  have hcp := HCP.out rfl
  have hMM : MM = 1099511627776 := rfl
  have KO := Lib.hid fun W => yq_Of cap (by omega) (by omega) W
  have HQ := Lib.hid (qI_fit (n := cap) (by omega) (by omega))
  have HG2 : Hid (G = if F = 0 then (if crossOk V (qI cap) then (if 0 < cmpG V (qI cap) then 8 else 0) else 2) else F) := Lib.hid (by rw [HG.out, if_pos rfl]; exact HS.out)
  clear hcp hMM HCP HG HS
  obtain ⟨x0, x1⟩ := C1.out.two
  go_wp2_with fail
  refine (KS.out w1 (HA.out.on B1.out)).mono ?_
  rintro e w2 h
  obtain ⟨b1, A1, n1, c1, B1', m1, d1, rfl, ho, hb⟩ := h.open_
  have B2 := Lib.hid (bstep B1.out hb)
  have C2 := Lib.hid (C1.out.on hb)
  have R2 := Lib.hid (R1.out.on hb)
  have O2 := Lib.hid ho
  clear h ho hb x0 x1
  go_upto_region 5 with fail
  obtain ⟨w3, hw3⟩ : ∃ W, w2.alloc (.cells #[.bool b1, .slice A1 n1 c1, .slice B1' m1 d1] 46) = W := ⟨_, rfl⟩
  have b3 : Below w2.heap.size w2 w3 := hw3 ▸ below_alloc _ _
  have D3 : Hid (Rw.Cel w3 w2.heap.size [.bool b1, .slice A1 n1 c1, .slice B1' m1 d1]) := hw3 ▸ Rw.Cel.new w2 [_, _, _] _
  have B3 := Lib.hid (bstep B2.out b3)
  have C3 := Lib.hid (C2.out.on b3)
  have R3 := Lib.hid (R2.out.on b3)
  have O3 := Lib.hid (O2.out.on b3)
  rw [hw3]
  clear hw3 b3
  by_cases hz : F = 0
  rotate_left
  · obtain ⟨z1, z2⟩ := ne_zero hz
    obtain rfl : G = F := by rw [HG2.out, if_neg hz]
    obtain ⟨u0, u1, u2⟩ := R3.out.three
    obtain ⟨v0, v1, v2⟩ := R3.out.warm3
    go_wp2_with fail
    exact bodyPost_ret (res_rat2 Tryz.results28 rfl (R3.out.put3 _ _ _)) rfl ⟨_, rfl, OutR.no hz, Rw.below_put3 B3.out (by omega) _ _ _⟩
  subst hz
  have FV := Lib.hid (HFS.out rfl)
  have KC := Lib.hid fun v u W h k => yq_Cmp V (qI cap) FV.out HQ.out v u W h k
  have HG3 : Hid (G = if crossOk V (qI cap) then (if 0 < cmpG V (qI cap) then 8 else 0) else 2) := Lib.hid (by rw [HG2.out, if_pos rfl])
  obtain ⟨p, hp⟩ : ∃ p, crossOk V (qI cap) = p := ⟨_, rfl⟩
  obtain ⟨x, hx⟩ : ∃ x, cmpG V (qI cap) = x := ⟨_, rfl⟩
  rw [hp, hx] at KC HG3
  replace O3 := Lib.hid (O3.out.zero rfl)
  clear hp hx HFS HG2
  obtain ⟨x0, x1⟩ := C3.out.two
  go_wp2_with fail
  refine (KO.out w3).mono ?_
  rintro e w4 h
  obtain ⟨b4, A4, n4, c4, B4', m4, d4, rfl, ho, hb⟩ := h.open_
  have B4 := Lib.hid (bstep B3.out hb)
  have D4 := Lib.hid (D3.out.on hb)
  have R4 := Lib.hid (R3.out.on hb)
  have O4 := Lib.hid (O3.out.on hb)
  have P4 := Lib.hid (ho.zero rfl)
  clear h ho hb x0 x1
  go_upto_region 8 with fail
  obtain ⟨w5, hw5⟩ : ∃ W, w4.alloc (.cells #[.bool b4, .slice A4 n4 c4, .slice B4' m4 d4] 46) = W := ⟨_, rfl⟩
  have b5 : Below w4.heap.size w4 w5 := hw5 ▸ below_alloc _ _
  have E5 : Hid (Rw.Cel w5 w4.heap.size [.bool b4, .slice A4 n4 c4, .slice B4' m4 d4]) := hw5 ▸ Rw.Cel.new w4 [_, _, _] _
  have B5 := Lib.hid (bstep B4.out b5)
  have D5 := Lib.hid (D4.out.on b5)
  have R5 := Lib.hid (R4.out.on b5)
  have O5 := Lib.hid (O4.out.on b5)
  have P5 := Lib.hid (P4.out.on b5)
  rw [hw5]
  clear hw5 b5
  obtain ⟨x0, x1, x2⟩ := D5.out.three
  obtain ⟨y0, y1, y2⟩ := E5.out.three
  go_wp2_with fail
  refine (KC.out _ _ w5 O5.out P5.out).mono ?_
  rintro e w6 ⟨rfl, hb⟩
  have B6 := Lib.hid (bstep B5.out hb)
  have D6 := Lib.hid (D5.out.on hb)
  have R6 := Lib.hid (R5.out.on hb)
  have O6 := Lib.hid (O5.out.on hb)
  clear hb x0 x1 x2 y0 y1 y2
  obtain ⟨u0, u1, u2⟩ := R6.out.three
  obtain ⟨v0, v1, v2⟩ := R6.out.warm3
  cases p with
  | false =>
    obtain rfl : G = 2 := HG3.out
    have z : okE false = 2 := rfl
    rw [z]
    go_wp2_with fail
    exact bodyPost_ret (res_rat2 Tryz.results28 rfl (R6.out.put3 _ _ _)) rfl ⟨_, rfl, OutR.no (by decide), Rw.below_put3 B6.out (by omega) _ _ _⟩
  | true =>
    have z : okE true = 0 := rfl
    rw [z]
    by_cases hg : 0 < x
    · have t0 : decide (0 < x) = true := decide_eq_true hg
      obtain rfl : G = 8 := by rw [HG3.out, if_pos rfl, if_pos hg]
      clear hg
      go_wp2_with fail
      exact bodyPost_ret (res_rat2 Tryz.results28 rfl (R6.out.put3 _ _ _)) rfl ⟨_, rfl, OutR.no (by decide), Rw.below_put3 B6.out (by omega) _ _ _⟩
    · have t0 : decide (0 < x) = false := decide_eq_false hg
      obtain rfl : G = 0 := by rw [HG3.out, if_pos rfl, if_neg hg]
      clear hg
      obtain ⟨x0, x1, x2⟩ := D6.out.three
      go_wp2_with fail
      exact bodyPost_ret (res_rat2 Tryz.results28 rfl (R6.out.put3 _ _ _)) rfl ⟨_, rfl, OutR.ok (InR.put3 O6.out (cel_root R6.out) _ _ _), Rw.below_put3 B6.out (by omega) _ _ _⟩
set_option maxHeartbeats 800000 in
theorem p_Check (cap : Int) (L : List Trip) (A : Option Addr) (n c : Nat) (hn : n = L.length) (w : World) (ha : Rats w A L) (hm : n ≤ 9223372036854775807) :
    Calls Tryz.prog 24 #[.agg #[.int .i64 cap, .slice A n c]] w fun e w' => e = .returned (.int .i64 (ckT cap L)) ∧ Below w.heap.size w w' := by
  have HA := Lib.hid ha
  have KL := Lib.hid fun (W : World) (h : Rats W A L) => p_Level cap L A n c hn W h hm
  clear ha hn hm
  go_enter Tryz.func24, Tryz.ntmps24
  go_upto_region 1 with fail
  obtain ⟨w0, hw0⟩ : ∃ W, w.alloc (.cells #[.int .i64 cap, .slice A n c] 32) = W := ⟨_, rfl⟩
  have C0 : Hid (Rw.Cel w0 w.heap.size [.int .i64 cap, .slice A n c]) := hw0 ▸ Rw.Cel.new w [_, _] _
  have B0 : Hid (Below w.heap.size w w0) := hw0 ▸ below_alloc _ _
  rw [hw0]
  clear hw0
  obtain ⟨x0, x1⟩ := C0.out.two
  go_wp2_with fail
  refine (KL.out w0 (HA.out.on B0.out)).mono ?_
  rintro e w1 h
  obtain ⟨b1, A1, n1, c1, B1', m1, d1, rfl, ho, hb⟩ := h.open_
  have B1 := Lib.hid (bstep B0.out hb)
  clear h ho hb x0 x1
  go_wp2_with fail
  go_ret
  exact ⟨rfl, bstep B1.out (below_alloc _ _)⟩
end Go.Proofs.YtagjimdplmimoaaGreat.Tank
/- The program: changed, whatever the function that makes the parts. -/
namespace Go.Proofs.YtagjimdplmimoaaGreat.Tank
open Go.ChangeShapes Go.WideShapes Go.RowKit Go.Lib
open Go.Proofs.YtagjimdplmimoaaGreat.Rw (Rd Row Kd Off glt get_lt below_alloc bstep wrap_id below_drewN below_drew drew_below take_snoc_of)
set_option linter.unusedVariables false
set_option maxRecDepth 100000

/-- What the making of a part leaves: a number and an error; of what was there the blocks T alone have changed. -/
def StR (w : World) (T : Nat → Prop) (E : Int) (q : Rat) (I : World → Prop) (e : Ending) (w' : World) : Prop :=
  ∃ b A n c B m d, e = .returned (.tuple #[.agg #[.bool b, .slice A n c, .slice B m d], .int .i64 E]) ∧ OutR w' (.agg #[.bool b, .slice A n c, .slice B m d]) E q ∧ Off T w w' ∧ Kep w w' ∧ (E = 0 → I w')
/-- A function that makes parts out of parts: J k holds of the memory ahead of part k; T: the blocks that it may change, all below B. -/
structure Bcm (fn : Nat) (ba ca : Array Value) (L : List Trip) (V : List Rat) (er : Nat → Int) (B : Nat) (T : Nat → Prop) (A : Option Addr) (J : Nat → World → Prop) : Prop where
  eg : ∀ args w, (callFunc fn args).run Tryz.prog w = .ok (.enter fn args) w
  lt : ∀ y, T y → y < B
  rats : ∀ k W, J k W → Rats W A L
  stab : ∀ k W W', J k W → B ≤ W.heap.size → Below B W W' → Kep W W' → J k W'
  fit : ∀ k q, V[k]? = some q → er k = 0 → fitR q = true
  step : ∀ k t q W v, L[k]? = some t → V[k]? = some q → B ≤ W.heap.size → J k W → InR W v t.1 t.2.1 t.2.2 → Calls Tryz.prog fn (ba ++ (#[.int .i64 k, v] ++ ca)) W (StR W T (er k) q (J (k + 1)))
/-- What changed leaves. -/
def ChR (w : World) (T : Nat → Prop) (E cap : Int) (V : List Rat) (I : World → Prop) (e : Ending) (w' : World) : Prop :=
  ∃ x A n c, e = .returned (.tuple #[.agg #[.int .i64 x, .slice A n c], .int .i64 E]) ∧ Off T w w' ∧ w.heap.size ≤ w'.heap.size ∧ (¬ E = 0 → x = 0 ∧ A = none ∧ n = 0 ∧ c = 0) ∧ (E = 0 → InT w' (.agg #[.int .i64 x, .slice A n c]) cap (ts V) ∧ I w' ∧ (∀ q ∈ V, fitR q = true))
set_option maxHeartbeats 3200000 in
theorem p_changed {fn : Nat} {ba ca : Array Value} {L : List Trip} {V : List Rat} {er : Nat → Int} {T : Nat → Prop} {A : Option Addr} {J : Nat → World → Prop} {w : World}
    (hv : Bcm fn ba ca L V er w.heap.size T A J) (hV : V.length = L.length) (cap : Int) (n c : Nat) (hn : n = L.length) (hJ : J 0 w) (hm : n ≤ 8) :
    Calls Tryz.prog 18 #[.agg #[.int .i64 cap, .slice A n c], .func (.func fn) ba ca] w (ChR w T (fE er n) cap V (J n)) := by
  have HV := Lib.hid hv
  have eg := hv.eg
  have HN := Lib.hid (And.intro hn hV)
  have HJ0 := Lib.hid hJ
  have hmk := tk_make n (by omega)
  obtain ⟨E, hE⟩ : ∃ E, fE er n = E := ⟨_, rfl⟩
  rw [hE]
  have HE := Lib.hid hE
  have HM := Lib.hid hm
  clear hv hn hV hJ hE hm
  go_enter Tryz.func18, Tryz.ntmps18
  go_upto_region 1 with fail
  obtain ⟨w0, hw0⟩ : ∃ W, (w.alloc (.cells #[.int .i64 cap, .slice A n c] 32)).alloc (.cells #[.int .i64 0, .slice none 0 0] 32) = W := ⟨_, rfl⟩
  have C0 : Hid (Rw.Cel w0 w.heap.size [.int .i64 cap, .slice A n c]) := hw0 ▸ (Rw.Cel.new w [_, _] _).alloc _
  have R0 : Hid (Rw.Cel w0 (w.heap.size + 1) [.int .i64 0, .slice none 0 0]) := hw0 ▸ Rw.Cel.new_at _ [_, _] _ (by simp)
  have B0 : Hid (Below w.heap.size w w0) := hw0 ▸ bstep (below_alloc _ _) (below_alloc _ _)
  first | rw [hw0] | skip
  clear hw0
  obtain ⟨x0, x1⟩ := C0.out.two
  go_upto_region 2 with fail
  obtain ⟨w1, hw1⟩ : ∃ W, w0.alloc (.cells (madeCells #[.bool false, .slice none 0 0, .slice none 0 0] (n * 3)) 46) = W := ⟨_, rfl⟩
  obtain ⟨g, hg⟩ : ∃ g, w0.heap.size = g := ⟨_, rfl⟩
  have H1 : Hid (Rw.Row cR 3 TR g w1 (.slice (some ⟨g, 0, none⟩) n n) ([] ++ List.replicate (n - 0) zR)) := hw1 ▸ hg ▸ rowT_made w0 n (by have := HM.out; omega)
  have b1 : Below w0.heap.size w0 w1 := hw1 ▸ below_alloc _ _
  have B1 := Lib.hid (bstep B0.out b1)
  have C1 := Lib.hid (C0.out.on b1)
  have R1 := Lib.hid (R0.out.on b1)
  have G1 : Hid (w.heap.size + 2 ≤ g ∧ g + 1 ≤ w1.heap.size) := Lib.hid ⟨by have := R0.out.lt; omega, (H1.out.lt g rfl).2⟩
  have J1 := Lib.hid (HV.out.stab _ _ _ HJ0.out (Nat.le_refl _) B1.out (Kep.of B1.out))
  rw [hw1, hg]
  clear hw1 hg b1 hmk x0 x1
  obtain ⟨x0, x1⟩ := C1.out.two
  go_upto_region 3 with fail
  go_loopw [17, 7, 8, 9] (fun i _ _ _ wr => ∃ (k : Nat) (R : List Raw), k ≤ n ∧ i = .int .i64 k ∧ R.length = k ∧ Rw.Row cR 3 TR g wr (.slice (some ⟨g, 0, none⟩) n n) (R ++ List.replicate (n - k) zR) ∧ Ins wr R (ts (V.take k)) ∧ (∀ j, j < k → er j = 0) ∧ J k wr ∧ Rw.Cel wr w.heap.size [.int .i64 cap, .slice A n c] ∧ Rw.Cel wr (w.heap.size + 1) [.int .i64 0, .slice none 0 0] ∧ Off T w wr) (fun i _ _ _ _ => n - (RowKit.intOf i).toNat)
  case atStart => exact ⟨0, [], Nat.zero_le _, rfl, rfl, H1.out, Ins.nil _, fun j h => absurd h (by omega), J1.out, C1.out, R1.out, Off.of_below B1.out⟩
  case round =>
    obtain ⟨k, R, hk, rfl, hR, hrow, hins, her, hj, hbox, hres, hoff⟩ := hrel
    have HR := Lib.hid hR
    have HW := Lib.hid hrow
    have HI := Lib.hid hins
    have HEr := Lib.hid her
    have HJ := Lib.hid hj
    have HC := Lib.hid hbox
    have HZ := Lib.hid hres
    have HO := Lib.hid hoff
    clear hR hrow hins her hj hbox hres hoff x0 x1
    rcases Nat.lt_or_ge k n with hlt | hge
    · obtain ⟨t, ht⟩ := get_lt (L := L) (k := k) (by have := HN.out.1; omega)
      obtain ⟨q, hq⟩ := get_lt (L := V) (k := k) (by have := HN.out; omega)
      obtain ⟨b, off, A1, c1, A2, c2, hA0, hb, y0, y1, y2, hin⟩ := Rats.at_ (HV.out.rats _ _ HJ.out) ht
      subst hA0
      have HTQ := Lib.hid (And.intro ht hq)
      have HIn := Lib.hid hin
      have i1 : (k : Int) < (n : Int) := by omega
      have i2 : (0 : Int) ≤ (k : Int) := by omega
      have i3 : IntKind.i64.wrap ((k : Int) + 1) = (k : Int) + 1 := Rw.wrap_id (by have := HM.out; omega)
      obtain ⟨t0, ht0⟩ : ∃ x, t.1 = x := ⟨_, rfl⟩
      obtain ⟨p1, hp1⟩ : ∃ x, t.2.1.length = x := ⟨_, rfl⟩
      obtain ⟨p2, hp2⟩ : ∃ x, t.2.2.length = x := ⟨_, rfl⟩
      have hv1 : (Value.agg #[.bool t.1, .slice A1 t.2.1.length c1, .slice A2 t.2.2.length c2]) = .agg #[.bool t0, .slice A1 p1 c1, .slice A2 p2 c2] := by rw [ht0, hp1, hp2]
      rw [ht0] at y0
      rw [hp1] at y1
      rw [hp2] at y2
      rw [hv1] at HIn
      clear ht hq hin ht0 hp1 hp2 hv1
      obtain ⟨x0, x1⟩ := HC.out.two
      go_upto_region 5 with fail
      obtain ⟨w5, hw5⟩ : ∃ W, wr.alloc (.cells #[.bool t0, .slice A1 p1 c1, .slice A2 p2 c2] 46) = W := ⟨_, rfl⟩
      have b5 : Below wr.heap.size wr w5 := hw5 ▸ below_alloc _ _
      have D5 : Hid (Rw.Cel w5 wr.heap.size [.bool t0, .slice A1 p1 c1, .slice A2 p2 c2]) := hw5 ▸ Rw.Cel.new wr [_, _, _] _
      have C5 := Lib.hid (HC.out.on b5)
      have Z5 := Lib.hid (HZ.out.on b5)
      have W5 := Lib.hid (HW.out.on b5)
      have I5 := Lib.hid (HI.out.on b5)
      have S5 : Hid (w.heap.size ≤ wr.heap.size) := HO.out.size
      have S5' : Hid (w.heap.size ≤ w5.heap.size) := Nat.le_trans HO.out.size b5.size
      have J5 := Lib.hid (HV.out.stab _ _ _ HJ.out S5.out (b5.mono S5.out) (Kep.of b5))
      have O5 := Lib.hid (HO.out.then_below b5)
      have HIn5 := Lib.hid (HIn.out.on b5)
      have HST := Lib.hid (HV.out.step k t q w5 _ HTQ.out.1 HTQ.out.2 S5'.out J5.out HIn5.out)
      rw [hw5]
      clear hw5 b5 x0 x1 y0 y1 y2
      obtain ⟨F, hF⟩ : ∃ F, er k = F := ⟨_, rfl⟩
      rw [hF] at HST
      have HF := Lib.hid hF
      clear hF
      have HL5 : Hid ((R ++ List.replicate (n - k) zR).length = n) := fill_len HR.out (by omega)
      have HTl : Hid (∀ y, T y → y < w.heap.size) := HV.out.lt
      have HRB : Hid (∀ W, Off T w5 W → Rw.Row cR 3 TR g W (.slice (some ⟨g, 0, none⟩) n n) (R ++ List.replicate (n - k) zR) ∧ (W.cell? ⟨g, k * 3, none⟩ = some (.bool false) ∧ W.cell? ⟨g, k * 3 + 1, none⟩ = some (.slice none 0 0) ∧ W.cell? ⟨g, k * 3 + 2, none⟩ = some (.slice none 0 0)) ∧ (W.frozen? ⟨g, k * 3, none⟩ = false ∧ W.frozen? ⟨g, k * 3 + 1, none⟩ = false ∧ W.frozen? ⟨g, k * 3 + 2, none⟩ = false)) := fun W ho => by
        have hr : Rw.Row cR 3 TR g W (.slice (some ⟨g, 0, none⟩) n n) (R ++ List.replicate (n - k) zR) := W5.out.keep fun y hy => by
          cases hy
          exact ho.block g (W5.out.lt g rfl).2 fun e => by have := HTl.out _ e; have := G1.out.1; omega
        have hz : (R ++ List.replicate (n - k) zR)[k]? = some zR := by
          rw [List.getElem?_append_right (by rw [HR.out]; exact Nat.le_refl _), HR.out, Nat.sub_self, List.getElem?_replicate, if_pos (by omega)]
        exact ⟨hr, rowT_cells hr hz, rowT_frozen hr HL5.out.symm k⟩
      obtain ⟨z0, z1, z2⟩ := D5.out.three
      go_upto_region 7 with (go_at_fn fn; refine HST.out.mono ?_; rintro e w6 ⟨b6, A6, n6, c6, B6, m6, d6, rfl, ho6, hof6, hkp6, hj6⟩; have O6 := Lib.hid ho6; have X6 := Lib.hid hof6; have K6 := Lib.hid hkp6; have J6 := Lib.hid hj6; clear ho6 hof6 hkp6 hj6; obtain ⟨-, ⟨s0, s1, s2⟩, v0, v1, v2⟩ := HRB.out _ X6.out)
      obtain ⟨w7, hw7⟩ : ∃ W, ((w6.setCell ⟨g, k * 3, none⟩ (.bool b6)).setCell ⟨g, k * 3 + 1, none⟩ (.slice A6 n6 c6)).setCell ⟨g, k * 3 + 2, none⟩ (.slice B6 m6 d6) = W := ⟨_, rfl⟩
      have hrow6 := (HRB.out _ X6.out).1
      have hk6 : k < (R ++ List.replicate (n - k) zR).length := by rw [HL5.out]; exact hlt
      have W7 : Hid (Rw.Row cR 3 TR g w7 (.slice (some ⟨g, 0, none⟩) n n) ((R ++ [(b6, (A6, n6, c6), (B6, m6, d6))]) ++ List.replicate (n - (k + 1)) zR)) := Lib.hid (by
        have := rowT_put hrow6 HL5.out.symm k (b6, (A6, n6, c6), (B6, m6, d6)) hk6
        rw [fill_set _ HR.out hlt] at this
        exact hw7 ▸ this)
      have K7 : Hid (Kep w6 w7) := hw7 ▸ rowT_kep hrow6 hk6 (b6, (A6, n6, c6), (B6, m6, d6))
      have P7 : Hid (Off (fun y => y = g) w6 w7) := hw7 ▸ putT_off w6 g k (b6, (A6, n6, c6), (B6, m6, d6))
      have O7 : Hid (Off T w w7) := Lib.hid ((O5.out.trans X6.out fun y hy => Or.inl hy).trans P7.out fun y hy => Or.inr (by subst hy; have := G1.out.1; omega))
      have C7 : Hid (Rw.Cel w7 w.heap.size [.int .i64 cap, .slice (some ⟨b, off, none⟩) n c]) := Lib.hid ((C5.out.off X6.out fun e => by have := HTl.out _ e; omega).off P7.out (by have := G1.out.1; omega))
      have Z7 : Hid (Rw.Cel w7 (w.heap.size + 1) [.int .i64 0, .slice none 0 0]) := Lib.hid ((Z5.out.off X6.out fun e => by have := HTl.out _ e; omega).off P7.out (by have := G1.out.1; omega))
      rw [hw7]
      clear hrow6 hk6 hw7 s0 s1 s2 v0 v1 v2 z0 z1 z2
      by_cases hz : F = 0
      · subst hz
        have Q6 := Lib.hid (O6.out.zero rfl)
        obtain ⟨en, ip, iq⟩ := IsR.cells Q6.out
        have S6 : Hid (w.heap.size ≤ w6.heap.size) := Nat.le_trans S5'.out X6.out.size
        have J7 := Lib.hid (HV.out.stab _ _ _ (J6.out rfl) S6.out (P7.out.below S6.out fun y hy => by subst hy; have := G1.out.1; omega) K7.out)
        have FQ := Lib.hid (HV.out.fit k q HTQ.out.2 HF.out)
        have VZ : Hid (∀ u ∈ ts (V.take k), vZ u) := Lib.hid (ts_vZ fun x hx => by
          obtain ⟨j, hj⟩ := List.mem_iff_getElem?.mp hx
          rw [List.getElem?_take] at hj
          split at hj
          · exact HV.out.fit j x hj (HEr.out j (by assumption))
          · cases hj)
        have I7 : Hid (Ins w7 (R ++ [(b6, (A6, n6, c6), (B6, m6, d6))]) (ts (V.take (k + 1)))) := Lib.hid (by
          rw [ts_take_succ HTQ.out.2]
          have h1 := (I5.out.kep K6.out VZ.out).snoc (r := (b6, (A6, n6, c6), (B6, m6, d6))) (t := triR q) en ip iq
          refine h1.kep K7.out fun u hu => ?_
          rcases List.mem_append.mp hu with hu | hu
          · exact VZ.out u hu
          · simp at hu; subst hu; exact Or.inl (vT_tri FQ.out))
        have E7 : Hid (∀ j, j < k + 1 → er j = 0) := Lib.hid fun j hj => by
          rcases Nat.lt_or_eq_of_le (Nat.le_of_lt_succ hj) with h | h
          · exact HEr.out j h
          · subst h; exact HF.out
        clear en ip iq
        go_wp2_with fail
        go_roundw
        case rel => exact ⟨k + 1, _, by omega, by go_num, by rw [List.length_append, HR.out]; rfl, W7.out, I7.out, E7.out, J7.out, C7.out, Z7.out, O7.out⟩
        case measure => simp [RowKit.intOf]; omega
      · obtain ⟨z1, z2⟩ := ne_zero hz
        obtain rfl : E = F := by rw [← HE.out, ← HF.out]; exact fE_bad (by rw [HF.out]; exact hz) HEr.out hlt
        obtain ⟨u0, u1⟩ := Z7.out.two
        obtain ⟨f0, f1⟩ := Z7.out.warm2
        go_wp2_with fail
        exact bodyPost_ret (res_tank2 Tryz.results18 rfl (Z7.out.put2 _ _)) rfl ⟨0, none, 0, 0, rfl, O7.out.trans (Rw.off_put2 w7 _ _ _) fun y hy => Or.inr (by subst hy; omega), by have := O7.out.size; simpa using this, fun _ => ⟨rfl, rfl, rfl, rfl⟩, fun h => absurd h hz⟩
    · obtain rfl : k = n := by omega
      obtain rfl : E = 0 := by rw [← HE.out]; exact fE_ok HEr.out
      have FA : Hid (∀ q ∈ V, fitR q = true) := Lib.hid fun q hq => by
        obtain ⟨j, hj⟩ := List.mem_iff_getElem?.mp hq
        exact HV.out.fit j q hj (HEr.out j (by have := glt hj; have := HN.out; omega))
      obtain ⟨u0, u1⟩ := HZ.out.two
      obtain ⟨f0, f1⟩ := HZ.out.warm2
      obtain ⟨x0, x1⟩ := HC.out.two
      go_wp2_with fail
      have hI9 := HI.out
      rw [List.take_of_length_le (by have := HN.out; omega)] at hI9
      obtain ⟨hr9, hl9⟩ := fill_rats HW.out hI9 HR.out rfl
      have hz9 := ts_vZ FA.out
      have ht9 := Rats.tank hr9 hz9 HZ.out (.int .i64 cap) (.slice (some ⟨g, 0, none⟩) k k)
      have hj9 := HV.out.stab _ _ _ HJ.out HO.out.size (Rw.below_put2 (Below.refl _ _) (Nat.le_succ _) (.int .i64 cap) (.slice (some ⟨g, 0, none⟩) k k)) (Kep.tank HZ.out (.int .i64 cap) (.slice (some ⟨g, 0, none⟩) k k))
      have hT9 : InT ((wr.setCell ⟨w.heap.size + 1, 0, none⟩ (.int .i64 cap)).setCell ⟨w.heap.size + 1, 1, none⟩ (.slice (some ⟨g, 0, none⟩) k k)) (.agg #[.int .i64 cap, .slice (some ⟨g, 0, none⟩) k k]) cap (ts V) := ⟨_, k, by rw [← hl9], by have := HM.out; omega, ht9⟩
      exact bodyPost_ret (res_tank2 Tryz.results18 rfl (HZ.out.put2 _ _)) rfl ⟨cap, some ⟨g, 0, none⟩, k, k, rfl, HO.out.trans (Rw.off_put2 wr _ _ _) fun y hy => Or.inr (by subst hy; omega), by have := HO.out.size; simpa using this, fun h => absurd rfl h, fun _ => ⟨hT9, hj9, FA.out⟩⟩
end Go.Proofs.YtagjimdplmimoaaGreat.Tank
/- The program: New; filled, whatever the function that gives the amounts; Fill. -/
namespace Go.Proofs.YtagjimdplmimoaaGreat.Tank
open Go.ChangeShapes Go.WideShapes Go.RowKit Go.Lib
open Go.Proofs.YtagjimdplmimoaaGreat.Mem (Cl eI Own)
open Go.Proofs.YtagjimdplmimoaaGreat.Rw (Rd Row Kd Off glt get_lt below_alloc bstep wrap_id below_drewN below_drew drew_below take_snoc_of)
set_option linter.unusedVariables false
set_option maxRecDepth 100000

theorem StR.of {w w' : World} {T : Nat → Prop} {E : Int} {q : Rat} {I : World → Prop} {e : Ending} (h : RRes w E q e w') (hI : Below w.heap.size w w' → E = 0 → I w') : StR w T E q I e w' := by
  obtain ⟨b, A, n, c, B, m, d, rfl, ho, hb⟩ := RRes.op h
  exact ⟨b, A, n, c, B, m, d, rfl, ho, Off.of_below hb, Kep.of hb, hI hb⟩
set_option maxHeartbeats 800000 in
theorem p_New1 (k : Int) (t : Trip) (va : Value) (w : World) (ha : InR w va t.1 t.2.1 t.2.2) : Calls Tryz.prog 19 #[.int .i64 k, va] w (RRes w 0 0) := by
  obtain ⟨A1, a1, B1, b1, rfl, -, -⟩ := inR_open ha
  obtain ⟨t0, ht0⟩ : ∃ x, t.1 = x := ⟨_, rfl⟩
  obtain ⟨p1, hp1⟩ : ∃ x, t.2.1.length = x := ⟨_, rfl⟩
  obtain ⟨p2, hp2⟩ : ∃ x, t.2.2.length = x := ⟨_, rfl⟩
  rw [ht0, hp1, hp2]
  have KO := Lib.hid fun W => yq_Of 0 (by decide) (by decide) W
  rw [qI_zero] at KO
  clear ha ht0 hp1 hp2
  go_enter Tryz.func19, Tryz.ntmps19
  go_upto_region 1 with fail
  obtain ⟨w0, hw0⟩ : ∃ W, (w.alloc (.cells #[.bool t0, .slice A1 p1 a1, .slice B1 p2 b1] 46)).alloc (.cells #[.bool false, .slice none 0 0, .slice none 0 0] 46) = W := ⟨_, rfl⟩
  have R0 : Hid (Rw.Cel w0 (w.heap.size + 1) [.bool false, .slice none 0 0, .slice none 0 0]) := hw0 ▸ Rw.Cel.new_at _ [_, _, _] _ (by simp)
  have B0 : Hid (Below w.heap.size w w0) := hw0 ▸ bstep (below_alloc _ _) (below_alloc _ _)
  first | rw [hw0] | skip
  clear hw0
  go_wp2_with fail
  refine (KO.out w0).mono ?_
  rintro e w1 h
  obtain ⟨b, A, n, c, B, m, d, rfl, ho, hb⟩ := h.open_
  have O1 := Lib.hid (ho.zero rfl)
  have B1' := Lib.hid (bstep B0.out hb)
  have R1 := Lib.hid (R0.out.on hb)
  clear h ho hb
  obtain ⟨u0, u1, u2⟩ := R1.out.three
  obtain ⟨v0, v1, v2⟩ := R1.out.warm3
  go_wp2_with fail
  exact bodyPost_ret (res_rat2 Tryz.results19 rfl (R1.out.put3 _ _ _)) rfl ⟨_, rfl, OutR.ok (InR.put3 O1.out (cel_root R1.out) _ _ _), Rw.below_put3 B1'.out (Nat.le_succ _) _ _ _⟩
theorem ts_repl (n : Nat) : ts (List.replicate n 0) = List.replicate n (triR 0) := by unfold ts; rw [List.map_replicate]
theorem fE_zero (n : Nat) : fE (fun _ => 0) n = 0 := fE_ok fun _ _ => rfl
theorem repl_at {α : Type} {n k : Nat} {x y : α} (h : (List.replicate n x)[k]? = some y) : y = x := by
  rw [List.getElem?_replicate] at h
  split at h
  · cases h; rfl
  · cases h
theorem bcm_new {B : Nat} {A : Option Addr} {n : Nat} (hA : ∀ b off, A = some ⟨b, off, none⟩ → b < B) :
    Bcm 19 #[] #[] (List.replicate n zT) (List.replicate n 0) (fun _ => 0) B (fun _ => False) A (fun _ W => Rats W A (List.replicate n zT)) where
  eg := enters_of Tryz.func19 (by kernel_rfl) rfl
  lt := fun y h => h.elim
  rats := fun k W h => h
  stab := fun k W W' h _ hb hk => Rats.kep h hA (fun t ht => Or.inr (by obtain ⟨j, hj⟩ := List.mem_iff_getElem?.mp ht; exact repl_at hj)) hb hk
  fit := fun k q hq _ => by rw [repl_at hq]; exact fit_zero
  step := fun k t q W v ht hq _ hJ hi => by
    rw [repl_at hq]
    exact (p_New1 k t v W hi).mono fun e w' h => StR.of h fun hb _ => Rats.on hJ hb
theorem made_rats {w : World} {n g B : Nat} (h : Rw.Row cR 3 TR B w (.slice (some ⟨g, 0, none⟩) n n) (List.replicate n zR)) : Rats w (some ⟨g, 0, none⟩) (List.replicate n zT) := by
  refine (row_rats h ⟨by simp, fun k r t hr ht => ?_⟩ (by simp)).1
  rw [repl_at hr, repl_at ht]
  exact ⟨rfl, In.nil _, In.nil _⟩
set_option maxHeartbeats 1600000 in
theorem p_New (kinds cap : Int) (w : World) : Calls Tryz.prog 6 #[.int .i64 kinds, .int .i64 cap] w (TRes w (nwE kinds cap) (nwC kinds cap) (nwL kinds cap)) := by
  obtain ⟨E, hE⟩ : ∃ E, nwE kinds cap = E := ⟨_, rfl⟩
  have hno := fun h => nw_no (E := E) hE h
  have K1 := Lib.hid fun W => p_isCount kinds W
  have K2 := Lib.hid fun W => p_isCapacity cap W
  cases h1 : cnB kinds with
  | false =>
    rw [h1] at K1
    obtain rfl : E = 17 := by rw [← hE]; exact if_neg fun h => by rw [cnB_iff.mpr h] at h1; cases h1
    obtain ⟨e1, e2⟩ := hno (by decide)
    rw [hE, e1, e2]
    clear hE hno h1 e1 e2 K2
    go_enter Tryz.func6, Tryz.ntmps6
    go_wp2_with fail
    refine (K1.out _).mono ?_
    rintro e w1 ⟨rfl, rfl⟩
    go_wp2_with fail
    have hc := Rw.Cel.new w [.int .i64 0, .slice none 0 0] 32
    exact bodyPost_ret (res_tank2 Tryz.results6 rfl hc) rfl (TRes.none_ (below_alloc _ _))
  | true =>
  rw [h1] at K1
  cases h2 : cpB cap with
  | false =>
    rw [h2] at K2
    obtain rfl : E = 1 := by rw [← hE]; unfold nwE; rw [if_pos (cnB_iff.mp h1)]; exact if_neg fun h => by rw [cpB_iff.mpr h] at h2; cases h2
    obtain ⟨e1, e2⟩ := hno (by decide)
    rw [hE, e1, e2]
    clear hE hno h1 h2 e1 e2
    go_enter Tryz.func6, Tryz.ntmps6
    go_wp2_with fail
    refine (K1.out _).mono ?_
    rintro e w1 ⟨rfl, rfl⟩
    go_wp2_with fail
    refine (K2.out _).mono ?_
    rintro e w1 ⟨rfl, rfl⟩
    go_wp2_with fail
    have hc := Rw.Cel.new w [.int .i64 0, .slice none 0 0] 32
    exact bodyPost_ret (res_tank2 Tryz.results6 rfl hc) rfl (TRes.none_ (below_alloc _ _))
  | true =>
  rw [h2] at K2
  have hk := cnB_iff.mp h1
  have hc := cpB_iff.mp h2
  obtain ⟨n, hn⟩ : ∃ n : Nat, kinds = (n : Int) := ⟨kinds.toNat, by omega⟩
  subst hn
  obtain rfl : E = 0 := by rw [← hE]; unfold nwE; rw [if_pos hk, if_pos hc]
  have e1 : nwC (n : Int) cap = cap := if_pos hE
  have e2 : nwL (n : Int) cap = ts (List.replicate n 0) := by rw [ts_repl]; exact if_pos hE
  rw [hE, e1, e2]
  have hn8 : n ≤ 8 := by omega
  have hmk := tk_make n (by omega)
  clear hE hno h1 h2 e1 e2 hk hc
  go_enter Tryz.func6, Tryz.ntmps6
  go_upto_region 1 with fail
  obtain ⟨w0, hw0⟩ : ∃ W, w.alloc (.cells #[.int .i64 0, .slice none 0 0] 32) = W := ⟨_, rfl⟩
  have R0 : Hid (Rw.Cel w0 w.heap.size [.int .i64 0, .slice none 0 0]) := hw0 ▸ Rw.Cel.new w [_, _] _
  have B0 : Hid (Below w.heap.size w w0) := hw0 ▸ below_alloc _ _
  rw [hw0]
  clear hw0
  go_wp2_with fail
  refine (K1.out _).mono ?_
  rintro e w1 ⟨rfl, rfl⟩
  go_wp2_with fail
  refine (K2.out _).mono ?_
  rintro e w1 ⟨rfl, rfl⟩
  go_upto_region 6 with fail
  obtain ⟨w1, hw1⟩ : ∃ W, w0.alloc (.cells (madeCells #[.bool false, .slice none 0 0, .slice none 0 0] (n * 3)) 46) = W := ⟨_, rfl⟩
  obtain ⟨g, hg⟩ : ∃ g, w0.heap.size = g := ⟨_, rfl⟩
  have M1 : Hid (Rats w1 (some ⟨g, 0, none⟩) (List.replicate n zT)) := hw1 ▸ hg ▸ made_rats (rowT_made w0 n (by omega))
  have b1 : Below w0.heap.size w0 w1 := hw1 ▸ below_alloc _ _
  have G1 : Hid (w1.heap.size = g + 1) := Lib.hid (by rw [← hw1, ← hg]; simp)
  have R1 := Lib.hid (R0.out.on b1)
  have B1 := Lib.hid (bstep B0.out b1)
  rw [hw1, hg]
  clear hw1 hg b1 hmk
  obtain ⟨w2, hw2⟩ : ∃ W, w1.alloc (.cells #[.int .i64 cap, .slice (some ⟨g, 0, none⟩) n n] 32) = W := ⟨_, rfl⟩
  have b2 : Below w1.heap.size w1 w2 := hw2 ▸ below_alloc _ _
  have C2 : Hid (Rw.Cel w2 (g + 1) [.int .i64 cap, .slice (some ⟨g, 0, none⟩) n n]) := hw2 ▸ Rw.Cel.new_at w1 [_, _] _ G1.out
  have R2 := Lib.hid (R1.out.on b2)
  have B2 := Lib.hid (bstep B1.out b2)
  have M2 := Lib.hid (Rats.on M1.out b2)
  have G2 : Hid (g < w2.heap.size) := Lib.hid (by have := G1.out; have := b2.size; omega)
  have KC := Lib.hid (p_changed (w := w2) (bcm_new (B := w2.heap.size) (A := some ⟨g, 0, none⟩) (n := n) (fun b off e => by cases e; exact G2.out)) (by simp) cap n n (by simp) M2.out hn8)
  rw [fE_zero] at KC
  rw [hw2]
  clear hw2 b2
  obtain ⟨x0, x1⟩ := C2.out.two
  go_wp2_with fail
  refine KC.out.mono ?_
  rintro e w3 ⟨x, A3, n3, c3, rfl, ho, hs, -, h0⟩
  obtain ⟨hT, -, hf⟩ := h0 rfl
  have hb := Off.below ho (Nat.le_refl _) (fun _ h => h.elim)
  have R3 := Lib.hid (R2.out.on hb)
  have B3 := Lib.hid (bstep B2.out hb)
  have T3 := Lib.hid (InT.tank hT (ts_vZ hf) R3.out (.int .i64 x) (.slice A3 n3 c3))
  clear ho hs h0 hT hf hb x0 x1
  obtain ⟨u0, u1⟩ := R3.out.two
  obtain ⟨v0, v1⟩ := R3.out.warm2
  go_wp2_with fail
  exact bodyPost_ret (res_tank2 Tryz.results6 rfl (R3.out.put2 _ _)) rfl ⟨_, rfl, T3.out, Rw.below_put2 B3.out (Nat.le_refl _) _ _⟩
/-! ### filled -/
/-- A function that gives amounts as long as I holds of the memory. -/
structure Amt (fn : Nat) (ba ca : Array Value) (Q : List Rat) (B : Nat) (I : World → Prop) : Prop where
  eg : ∀ args w, (callFunc fn args).run Tryz.prog w = .ok (.enter fn args) w
  stab : ∀ W W', I W → B ≤ W.heap.size → Below B W W' → Kep W W' → I W'
  step : ∀ (k : Nat) q W, Q[k]? = some q → B ≤ W.heap.size → I W → Calls Tryz.prog fn (ba ++ (#[.int .i64 k] ++ ca)) W fun e W' => ∃ b A n c B' m d, e = .returned (.agg #[.bool b, .slice A n c, .slice B' m d]) ∧ IsR W' (.agg #[.bool b, .slice A n c, .slice B' m d]) q ∧ Below W.heap.size W W'
set_option maxHeartbeats 3200000 in
theorem p_filled1 {fn : Nat} {ba ca : Array Value} {Q : List Rat} {B : Nat} {I : World → Prop} (ham : Amt fn ba ca Q B I) (k : Nat) (p q : Rat) (fp : fitR p = true) (fq : fitR q = true) (hq : Q[k]? = some q) (va : Value) (w : World) (hB : B ≤ w.heap.size) (hI : I w) (ha : IsR w va p) (gb : Nat) (hgb : w.cell? ⟨gb, 0, none⟩ = some (.func (.func fn) ba ca)) :
    Calls Tryz.prog 38 #[.int .i64 k, va, .pointer (some ⟨gb, 0, none⟩)] w (RRes w (okE (sumOk p q)) (p + q)) := by
  obtain ⟨A1, a1, B1, b1, rfl, -, -⟩ := inR_open ha
  obtain ⟨t0, ht0⟩ : ∃ x, negR p = x := ⟨_, rfl⟩
  obtain ⟨p1, hp1⟩ : ∃ x, (topL p).length = x := ⟨_, rfl⟩
  obtain ⟨p2, hp2⟩ : ∃ x, (botL p).length = x := ⟨_, rfl⟩
  rw [ht0, hp1, hp2] at ha
  rw [ht0, hp1, hp2]
  have KA := Lib.hid fun v u W h k => yq_Add p q fp fq v u W h k
  obtain ⟨E, hE⟩ : ∃ E, okE (sumOk p q) = E := ⟨_, rfl⟩
  obtain ⟨X, hX⟩ : ∃ X, p + q = X := ⟨_, rfl⟩
  rw [hE, hX] at KA
  rw [hE, hX]
  have HAM := Lib.hid ham
  have eg := ham.eg
  have HA := Lib.hid ha
  have HI := Lib.hid hI
  have HQ := Lib.hid hq
  have HG := Lib.hid hgb
  have HBs := Lib.hid hB
  have hgl := World.block_lt_of_cell? w _ hgb
  clear ha hI hq hgb hB ht0 hp1 hp2 hE hX ham
  go_enter Tryz.func38, Tryz.ntmps38
  go_upto_region 1 with fail
  obtain ⟨w0, hw0⟩ : ∃ W, (w.alloc (.cells #[.bool t0, .slice A1 p1 a1, .slice B1 p2 b1] 46)).alloc (.cells #[.bool false, .slice none 0 0, .slice none 0 0] 46) = W := ⟨_, rfl⟩
  have P0 : Hid (Rw.Cel w0 w.heap.size [.bool t0, .slice A1 p1 a1, .slice B1 p2 b1]) := hw0 ▸ (Rw.Cel.new w [_, _, _] _).alloc _
  have R0 : Hid (Rw.Cel w0 (w.heap.size + 1) [.bool false, .slice none 0 0, .slice none 0 0]) := hw0 ▸ Rw.Cel.new_at _ [_, _, _] _ (by simp)
  have B0 : Hid (Below w.heap.size w w0) := hw0 ▸ bstep (below_alloc _ _) (below_alloc _ _)
  first | rw [hw0] | skip
  clear hw0
  have I0 := Lib.hid (HAM.out.stab _ _ HI.out HBs.out (B0.out.mono HBs.out) (Kep.of B0.out))
  have A0 := Lib.hid (HA.out.on B0.out)
  have S0 : Hid (B ≤ w0.heap.size) := Nat.le_trans HBs.out B0.out.size
  obtain ⟨x0, x1, x2⟩ := P0.out.three
  have y0 := (B0.out.cell (p := ⟨gb, 0, none⟩) hgl).trans HG.out
  have ID := Lib.hid (HAM.out.stab _ _ I0.out S0.out ((drew_below w0).mono S0.out) (Kep.of (drew_below w0)))
  have hst := HAM.out.step k q w0.drew HQ.out S0.out ID.out
  rw [show ba ++ (#[Value.int .i64 (k : Int)] ++ ca) = ba.push (.int .i64 k) ++ ca by simp] at hst
  have HST := Lib.hid hst
  clear hst
  clear hgl
  go_region_with ((first | (go_at_call 39; have hq2 := bstep (drew_below _) hb1; (refine (KA.out _ _ _ ?_ ?_).mono ?_); (exact A0.out.on hq2); (exact HI1.out); rintro e w2 h2; obtain ⟨b2, A2, n2, c2, B2, m2, d2, rfl, ho2, hb2⟩ := h2.open_; have HO2 := Lib.hid ho2; have HB2 := Lib.hid (bstep hq2 hb2); have hr2 := Lib.hid (R0.out.on HB2.out); obtain ⟨s0, s1, s2⟩ := hr2.out.three; obtain ⟨v0, v1, v2⟩ := hr2.out.warm3; clear h2 ho2 hb2 hq2) | (go_at_fn fn; refine HST.out.mono ?_; rintro e w1 ⟨b3, A3, n3, c3, B3, m3, d3, rfl, hi1, hb1⟩; have HI1 := Lib.hid hi1; clear hi1; obtain ⟨z0, z1, z2⟩ := (P0.out.on (bstep (drew_below _) hb1)).three)))
  all_goals
    go_wp2_with fail
    exact bodyPost_ret (res_rat2 Tryz.results38 rfl (hr2.out.put3 _ _ _)) rfl ⟨_, rfl, OutR.put3 HO2.out (cel_root hr2.out) _ _ _, Rw.below_put3 (bstep B0.out HB2.out) (Nat.le_succ _) _ _ _⟩
end Go.Proofs.YtagjimdplmimoaaGreat.Tank
