/- The chapter's examples. -/
import Derived.Test.YtccbnobpighckaaRectP
namespace Go.Proofs.Ytccbnobpighckaa.Rect
open Go.ChangeShapes Go.WideShapes Go.RowKit Go.Lib Go.Proofs.Ytccbnobpighckaa.Rw
open Go.Proofs.Ytccbnobpighckaa.Span (hasB hasB_iff IsNf Nrm Sps inS inS_iff)
set_option linter.unusedVariables false
set_option maxRecDepth 100000

abbrev xA : Rc := (0, 10, 0, 100)
abbrev xB : Rc := (5, 20, 50, 80)
abbrev xC : Rc := (10, 20, 0, 100)
abbrev xL : List Rc := [(0, 10, 0, 100), (3, 3, 500, 600), (5, 20, 100, 180)]
theorem lit_rects (w : World) (L : List Rc) : Rcs (w.alloc (.cells (L.flatMap cQ).toArray TQ)) (some ⟨w.heap.size, 0, none⟩) L := by
  intro k z hz
  refine ⟨w.heap.size, 0, rfl, by simp, fun j u hu => ?_⟩
  rw [cell_of_row _ _ _ _ _ _ (heap_alloc_new w _), Nat.zero_add]
  have := flat_at cQ_len hz hu
  simpa using this
theorem lit_spans (w : World) (L : List (Int × Int)) : Sps (w.alloc (.cells (L.flatMap cSq).toArray TSq)) (some ⟨w.heap.size, 0, none⟩) L := by
  refine sps_rd fun k z hz => ?_
  refine ⟨w.heap.size, 0, rfl, by simp, fun j u hu => ?_⟩
  rw [cell_of_row _ _ _ _ _ _ (heap_alloc_new w _), Nat.zero_add]
  have := flat_at cSq_len hz hu
  simpa using this
theorem ex_cov : cvV [xA, xB] = 1300 ∧ lsE [xA, xB] = 0 := by
  have h : lsE [xA, xB] = 0 := by decide
  refine ⟨?_, h⟩
  unfold cvV
  rw [if_pos h, cv_two (by decide) (by decide)]
  decide
theorem ex_rest : rsV xA [xB] = 850 ∧ rsE xA [xB] = 0 := by
  have h : rsE xA [xB] = 0 := by decide
  refine ⟨?_, h⟩
  have e : clp xA [xB] = [comR xB xA] := by decide
  unfold rsV
  rw [if_pos h, rs_is (by decide), e, cv_one (by decide)]
  decide
theorem ex_along (M : List (Int × Int)) (h : IsNf (setB true xL) M) : M = [(0, 180)] := by
  refine h.one ⟨⟨by decide, by simp⟩, fun x => ?_⟩
  rw [Bool.eq_iff_iff, hasB_iff, ← has_spL, hasB_iff]
  have e : spL true xL = [(0, 100), (100, 180)] := by decide
  rw [e]
  simp
  omega
theorem ex_across (M : List (Int × Int)) (h : IsNf (setB false xL) M) : M = [(0, 20)] := by
  refine h.one ⟨⟨by decide, by simp⟩, fun x => ?_⟩
  rw [Bool.eq_iff_iff, hasB_iff, ← has_spL, hasB_iff]
  have e : spL false xL = [(0, 10), (5, 20)] := by decide
  rw [e]
  simp
  omega
theorem sps_on {w w' : World} {A : Option Addr} {L : List (Int × Int)} (h : Sps w A L) (hb : Below w.heap.size w w') : Sps w' A L := by
  intro k s hs
  obtain ⟨b, off, e, hlt, h0, h1⟩ := h k s hs
  exact ⟨b, off, e, Nat.lt_of_lt_of_le hlt hb.size, (hb.cell (p := ⟨b, off + k * 2, none⟩) hlt).trans h0, (hb.cell (p := ⟨b, off + k * 2 + 1, none⟩) hlt).trans h1⟩
set_option maxHeartbeats 6400000 in
theorem law_awake (w : World) :
    Calls Try.prog 19 #[] w fun e w' => e = .returned (.bool true) ∧ Below w.heap.size w w' := by
  have K1 := Lib.hid fun (W : World) => rect_Common xA xB W
  have K2 := Lib.hid fun (A : Option Addr) (W : World) (h : Rcs W A [xA, xB]) => rect_Cover [xA, xB] A 2 W h (by decide)
  have K3 := Lib.hid fun (A : Option Addr) (W : World) (h : Rcs W A [xB]) => rect_Rest [xB] A 1 xA W h (by decide)
  have K4 := Lib.hid fun (W : World) => rect_Common xA xC W
  have K5 := Lib.hid fun (A : Option Addr) (W : World) (h : Rcs W A xL) => rect_Along xL A 3 W h (by decide)
  have K6 := Lib.hid fun (A : Option Addr) (W : World) (h : Rcs W A xL) => rect_Across xL A 3 W h (by decide)
  have K7 := Lib.hid fun (W : World) => rect_Within (7, 7, 0, 5) (0, 1, 0, 1) W
  have K8 := Lib.hid fun (W : World) => rect_Within xA xB W
  have K9 := Lib.hid fun (A : Option Addr) (W : World) (h : Rcs W A [xA, xC]) => rect_Disjoint [xA, xC] A 2 2 rfl W h (by decide)
  have KA := Lib.hid fun (A : Option Addr) (W : World) (h : Rcs W A [xA, xB]) => rect_Disjoint [xA, xB] A 2 2 rfl W h (by decide)
  unfold ComP at K1 K4
  rw [show comV xA xB = (5, 10, 50, 80) by decide, show comB xA xB = true by decide] at K1
  rw [show comV xA xC = (0, 0, 0, 0) by decide, show comB xA xC = false by decide] at K4
  rw [ex_cov.1, ex_cov.2] at K2
  rw [ex_rest.1, ex_rest.2] at K3
  rw [show lsE xL = 0 by decide] at K5 K6
  rw [show wiB (7, 7, 0, 5) (0, 1, 0, 1) = true by decide] at K7
  rw [show wiB xA xB = false by decide] at K8
  rw [show dis [xA, xC] = true by decide] at K9
  rw [show dis [xA, xB] = false by decide] at KA
  go_enter Try.func19, Try.ntmps19
  go_upto_region 2 with fail
  obtain ⟨w0, hw0⟩ : ∃ W, (w.alloc (.cells #[.int .i64 0, .int .i64 10, .int .i64 0, .int .i64 100] 23)).alloc (.cells #[.int .i64 5, .int .i64 20, .int .i64 50, .int .i64 80] 23) = W := ⟨_, rfl⟩
  have CA : Hid (Cel w0 w.heap.size (cQ xA)) := hw0 ▸ (Cel.new w (cQ xA) _).alloc _
  have CB : Hid (Cel w0 (w.heap.size + 1) (cQ xB)) := hw0 ▸ Cel.new_at _ (cQ xB) _ (by simp)
  have B0 : Hid (Below w.heap.size w w0) := hw0 ▸ bstep (below_alloc _ _) (below_alloc _ _)
  rw [hw0]
  clear hw0
  obtain ⟨a0, a1, a2, a3⟩ := cel4 CA.out
  obtain ⟨b0, b1, b2, b3⟩ := cel4 CB.out
  go_wp2_with fail
  refine (K1.out w0).mono ?_
  rintro e w1 ⟨rfl, hb⟩
  have B1 := Lib.hid (bstep B0.out hb)
  replace CA := Lib.hid (CA.out.on hb)
  replace CB := Lib.hid (CB.out.on hb)
  clear hb
  clear a0 a1 a2 a3 b0 b1 b2 b3
  obtain ⟨a0, a1, a2, a3⟩ := cel4 CA.out
  obtain ⟨b0, b1, b2, b3⟩ := cel4 CB.out
  go_upto_region 3 with fail
  generalize hw : w1.alloc (.cells #[.int .i64 5, .int .i64 10, .int .i64 50, .int .i64 80] 23) = w2
  have hb : Below w1.heap.size w1 w2 := hw ▸ below_alloc _ _
  have B2 := Lib.hid (bstep B1.out hb)
  replace CA := Lib.hid (CA.out.on hb)
  replace CB := Lib.hid (CB.out.on hb)
  have CC : Hid (Cel w2 w1.heap.size (cQ (5, 10, 50, 80))) := hw ▸ Cel.new w1 (cQ (5, 10, 50, 80)) _
  clear hb hw
  clear a0 a1 a2 a3 b0 b1 b2 b3
  obtain ⟨a0, a1, a2, a3⟩ := cel4 CA.out
  obtain ⟨b0, b1, b2, b3⟩ := cel4 CB.out
  obtain ⟨c0, c1, c2, c3⟩ := cel4 CC.out
  go_wp2_with fail
  refine (K2.out _ _ (lit_rects w2 [xA, xB])).mono ?_
  rintro e w3 ⟨rfl, hb⟩
  have hb' := bstep (below_alloc w2 (.cells ([xA, xB].flatMap cQ).toArray TQ)) hb
  have B3 := Lib.hid (bstep B2.out hb')
  replace CA := Lib.hid (CA.out.on hb')
  replace CB := Lib.hid (CB.out.on hb')
  replace CC := Lib.hid (CC.out.on hb')
  clear hb'
  clear hb
  clear a0 a1 a2 a3 b0 b1 b2 b3 c0 c1 c2 c3
  obtain ⟨a0, a1, a2, a3⟩ := cel4 CA.out
  obtain ⟨b0, b1, b2, b3⟩ := cel4 CB.out
  obtain ⟨c0, c1, c2, c3⟩ := cel4 CC.out
  go_wp2_with fail
  refine (K3.out _ _ (lit_rects w3 [xB])).mono ?_
  rintro e w4 ⟨rfl, hb⟩
  have hb' := bstep (below_alloc w3 (.cells ([xB].flatMap cQ).toArray TQ)) hb
  have B4 := Lib.hid (bstep B3.out hb')
  replace CA := Lib.hid (CA.out.on hb')
  replace CB := Lib.hid (CB.out.on hb')
  replace CC := Lib.hid (CC.out.on hb')
  clear hb'
  clear hb
  clear a0 a1 a2 a3 b0 b1 b2 b3 c0 c1 c2 c3
  obtain ⟨a0, a1, a2, a3⟩ := cel4 CA.out
  obtain ⟨b0, b1, b2, b3⟩ := cel4 CB.out
  obtain ⟨c0, c1, c2, c3⟩ := cel4 CC.out
  go_wp2_with fail
  refine (K4.out w4).mono ?_
  rintro e w5 ⟨rfl, hb⟩
  have B5 := Lib.hid (bstep B4.out hb)
  replace CA := Lib.hid (CA.out.on hb)
  replace CB := Lib.hid (CB.out.on hb)
  replace CC := Lib.hid (CC.out.on hb)
  clear hb
  clear a0 a1 a2 a3 b0 b1 b2 b3 c0 c1 c2 c3
  obtain ⟨a0, a1, a2, a3⟩ := cel4 CA.out
  obtain ⟨b0, b1, b2, b3⟩ := cel4 CB.out
  obtain ⟨c0, c1, c2, c3⟩ := cel4 CC.out
  go_upto_region 6 with fail
  generalize hw : w5.alloc (.cells #[.int .i64 0, .int .i64 0, .int .i64 0, .int .i64 0] 23) = w6
  have hb : Below w5.heap.size w5 w6 := hw ▸ below_alloc _ _
  have B6 := Lib.hid (bstep B5.out hb)
  replace CA := Lib.hid (CA.out.on hb)
  replace CB := Lib.hid (CB.out.on hb)
  replace CC := Lib.hid (CC.out.on hb)
  have CD : Hid (Cel w6 w5.heap.size (cQ (0, 0, 0, 0))) := hw ▸ Cel.new w5 (cQ (0, 0, 0, 0)) _
  clear hb hw
  clear a0 a1 a2 a3 b0 b1 b2 b3 c0 c1 c2 c3
  obtain ⟨a0, a1, a2, a3⟩ := cel4 CA.out
  obtain ⟨b0, b1, b2, b3⟩ := cel4 CB.out
  obtain ⟨c0, c1, c2, c3⟩ := cel4 CC.out
  obtain ⟨d0, d1, d2, d3⟩ := cel4 CD.out
  go_wp2_with fail
  refine (K5.out _ _ (lit_rects w6 xL)).mono ?_
  rintro e w7 ⟨M5, V5, p5, rfl, -, hs, hn, -, hb⟩
  obtain rfl := ex_along M5 (hn rfl)
  have LX := Lib.hid ((lit_rects w6 xL).on hb)
  have hb' := bstep (below_alloc w6 (.cells (xL.flatMap cQ).toArray TQ)) hb
  have B7 := Lib.hid (bstep B6.out hb')
  replace CA := Lib.hid (CA.out.on hb')
  replace CB := Lib.hid (CB.out.on hb')
  replace CC := Lib.hid (CC.out.on hb')
  replace CD := Lib.hid (CD.out.on hb')
  clear hb'
  have S5 := Lib.hid hs
  clear hb hs hn
  clear a0 a1 a2 a3 b0 b1 b2 b3 c0 c1 c2 c3 d0 d1 d2 d3
  obtain ⟨a0, a1, a2, a3⟩ := cel4 CA.out
  obtain ⟨b0, b1, b2, b3⟩ := cel4 CB.out
  obtain ⟨c0, c1, c2, c3⟩ := cel4 CC.out
  obtain ⟨d0, d1, d2, d3⟩ := cel4 CD.out
  go_wp2_with fail
  refine (K6.out _ _ LX.out).mono ?_
  rintro e w8 ⟨M6, V6, p6, rfl, -, hs, hn, -, hb⟩
  obtain rfl := ex_across M6 (hn rfl)
  have B8 := Lib.hid (bstep B7.out hb)
  replace CA := Lib.hid (CA.out.on hb)
  replace CB := Lib.hid (CB.out.on hb)
  replace CC := Lib.hid (CC.out.on hb)
  replace CD := Lib.hid (CD.out.on hb)
  replace S5 := Lib.hid (sps_on S5.out hb)
  have S6 := Lib.hid hs
  clear hb hs hn
  clear a0 a1 a2 a3 b0 b1 b2 b3 c0 c1 c2 c3 d0 d1 d2 d3
  obtain ⟨a0, a1, a2, a3⟩ := cel4 CA.out
  obtain ⟨b0, b1, b2, b3⟩ := cel4 CB.out
  obtain ⟨c0, c1, c2, c3⟩ := cel4 CC.out
  obtain ⟨d0, d1, d2, d3⟩ := cel4 CD.out
  have hq1 : ∀ W, (binOp .neq 23 (agQ (5, 10, 50, 80)) (agQ (5, 10, 50, 80))).run Try.prog W = .ok (.bool false) W := fun W => by rw [eq_run .neq (Or.inr rfl)]; rfl
  have hq2 : ∀ W, (binOp .neq 23 (agQ (0, 0, 0, 0)) (agQ (0, 0, 0, 0))).run Try.prog W = .ok (.bool false) W := fun W => by rw [eq_run .neq (Or.inr rfl)]; rfl
  go_wp2_with fail
  refine (K7.out w8).mono ?_
  rintro e w9 ⟨rfl, hb⟩
  have B9 := Lib.hid (bstep B8.out hb)
  replace CA := Lib.hid (CA.out.on hb)
  replace CB := Lib.hid (CB.out.on hb)
  replace CC := Lib.hid (CC.out.on hb)
  replace CD := Lib.hid (CD.out.on hb)
  replace S5 := Lib.hid (sps_on S5.out hb)
  replace S6 := Lib.hid (sps_on S6.out hb)
  clear hb
  clear a0 a1 a2 a3 b0 b1 b2 b3 c0 c1 c2 c3 d0 d1 d2 d3
  obtain ⟨a0, a1, a2, a3⟩ := cel4 CA.out
  obtain ⟨b0, b1, b2, b3⟩ := cel4 CB.out
  obtain ⟨c0, c1, c2, c3⟩ := cel4 CC.out
  obtain ⟨d0, d1, d2, d3⟩ := cel4 CD.out
  go_wp2_with fail
  refine (K8.out w9).mono ?_
  rintro e w10 ⟨rfl, hb⟩
  have B10 := Lib.hid (bstep B9.out hb)
  replace CA := Lib.hid (CA.out.on hb)
  replace CB := Lib.hid (CB.out.on hb)
  replace CC := Lib.hid (CC.out.on hb)
  replace CD := Lib.hid (CD.out.on hb)
  replace S5 := Lib.hid (sps_on S5.out hb)
  replace S6 := Lib.hid (sps_on S6.out hb)
  clear hb
  clear a0 a1 a2 a3 b0 b1 b2 b3 c0 c1 c2 c3 d0 d1 d2 d3
  obtain ⟨a0, a1, a2, a3⟩ := cel4 CA.out
  obtain ⟨b0, b1, b2, b3⟩ := cel4 CB.out
  obtain ⟨c0, c1, c2, c3⟩ := cel4 CC.out
  obtain ⟨d0, d1, d2, d3⟩ := cel4 CD.out
  go_wp2_with fail
  refine (rr_Spans [(0, 180)] [(0, 180)] V5 _ p5 _ 1 1 rfl rfl _ (sps_on S5.out (below_alloc _ _)) (lit_spans w10 [(0, 180)]) (by decide) (by decide)).mono ?_
  rintro e w11 ⟨rfl, hb⟩
  have hb' := bstep (below_alloc w10 (.cells ([((0 : Int), (180 : Int))].flatMap cSq).toArray TSq)) hb
  have B11 := Lib.hid (bstep B10.out hb')
  replace CA := Lib.hid (CA.out.on hb')
  replace CB := Lib.hid (CB.out.on hb')
  replace CC := Lib.hid (CC.out.on hb')
  replace CD := Lib.hid (CD.out.on hb')
  replace S5 := Lib.hid (sps_on S5.out hb')
  replace S6 := Lib.hid (sps_on S6.out hb')
  clear hb'
  rw [decide_eq_true (rfl : [((0 : Int), (180 : Int))] = [(0, 180)])]
  clear hb
  clear a0 a1 a2 a3 b0 b1 b2 b3 c0 c1 c2 c3 d0 d1 d2 d3
  obtain ⟨a0, a1, a2, a3⟩ := cel4 CA.out
  obtain ⟨b0, b1, b2, b3⟩ := cel4 CB.out
  obtain ⟨c0, c1, c2, c3⟩ := cel4 CC.out
  obtain ⟨d0, d1, d2, d3⟩ := cel4 CD.out
  go_wp2_with fail
  refine (rr_Spans [(0, 20)] [(0, 20)] V6 _ p6 _ 1 1 rfl rfl _ (sps_on S6.out (below_alloc _ _)) (lit_spans w11 [(0, 20)]) (by decide) (by decide)).mono ?_
  rintro e w12 ⟨rfl, hb⟩
  have hb' := bstep (below_alloc w11 (.cells ([((0 : Int), (20 : Int))].flatMap cSq).toArray TSq)) hb
  have B12 := Lib.hid (bstep B11.out hb')
  replace CA := Lib.hid (CA.out.on hb')
  replace CB := Lib.hid (CB.out.on hb')
  replace CC := Lib.hid (CC.out.on hb')
  replace CD := Lib.hid (CD.out.on hb')
  replace S5 := Lib.hid (sps_on S5.out hb')
  replace S6 := Lib.hid (sps_on S6.out hb')
  clear hb'
  rw [decide_eq_true (rfl : [((0 : Int), (20 : Int))] = [(0, 20)])]
  clear hb
  clear a0 a1 a2 a3 b0 b1 b2 b3 c0 c1 c2 c3 d0 d1 d2 d3
  obtain ⟨a0, a1, a2, a3⟩ := cel4 CA.out
  obtain ⟨b0, b1, b2, b3⟩ := cel4 CB.out
  obtain ⟨c0, c1, c2, c3⟩ := cel4 CC.out
  obtain ⟨d0, d1, d2, d3⟩ := cel4 CD.out
  go_wp2_with fail
  refine (K9.out _ _ (lit_rects w12 [xA, xC])).mono ?_
  rintro e w13 ⟨rfl, hb⟩
  have hb' := bstep (below_alloc w12 (.cells ([xA, xC].flatMap cQ).toArray TQ)) hb
  have B13 := Lib.hid (bstep B12.out hb')
  replace CA := Lib.hid (CA.out.on hb')
  replace CB := Lib.hid (CB.out.on hb')
  replace CC := Lib.hid (CC.out.on hb')
  replace CD := Lib.hid (CD.out.on hb')
  replace S5 := Lib.hid (sps_on S5.out hb')
  replace S6 := Lib.hid (sps_on S6.out hb')
  clear hb'
  clear hb
  clear a0 a1 a2 a3 b0 b1 b2 b3 c0 c1 c2 c3 d0 d1 d2 d3
  obtain ⟨a0, a1, a2, a3⟩ := cel4 CA.out
  obtain ⟨b0, b1, b2, b3⟩ := cel4 CB.out
  obtain ⟨c0, c1, c2, c3⟩ := cel4 CC.out
  obtain ⟨d0, d1, d2, d3⟩ := cel4 CD.out
  go_wp2_with fail
  refine (KA.out _ _ (lit_rects w13 [xA, xB])).mono ?_
  rintro e w14 ⟨rfl, hb⟩
  have hb' := bstep (below_alloc w13 (.cells ([xA, xB].flatMap cQ).toArray TQ)) hb
  have B14 := Lib.hid (bstep B13.out hb')
  replace CA := Lib.hid (CA.out.on hb')
  replace CB := Lib.hid (CB.out.on hb')
  replace CC := Lib.hid (CC.out.on hb')
  replace CD := Lib.hid (CD.out.on hb')
  replace S5 := Lib.hid (sps_on S5.out hb')
  replace S6 := Lib.hid (sps_on S6.out hb')
  clear hb'
  clear hb
  clear a0 a1 a2 a3 b0 b1 b2 b3 c0 c1 c2 c3 d0 d1 d2 d3
  obtain ⟨a0, a1, a2, a3⟩ := cel4 CA.out
  obtain ⟨b0, b1, b2, b3⟩ := cel4 CB.out
  obtain ⟨c0, c1, c2, c3⟩ := cel4 CC.out
  obtain ⟨d0, d1, d2, d3⟩ := cel4 CD.out
  go_wp2_with fail
  go_ret
  exact ⟨rfl, B14.out⟩
#print axioms law_awake
end Go.Proofs.Ytccbnobpighckaa.Rect
