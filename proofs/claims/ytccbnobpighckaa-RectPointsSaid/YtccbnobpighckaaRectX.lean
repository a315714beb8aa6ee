/- RectTwo -/
import Derived.Test.YtccbnobpighckaaRectQ
import Derived.Test.YtccbnobpighckaaRectV
namespace Go.Proofs.Ytccbnobpighckaa.Rect
open Go.ChangeShapes Go.WideShapes Go.RowKit Go.Lib Go.Proofs.Ytccbnobpighckaa.Rw
open Go.Proofs.Ytccbnobpighckaa.Span (hasB hasB_iff IsNf Nrm Sps inS inS_iff)
set_option linter.unusedVariables false
set_option maxRecDepth 100000

theorem dis_two (a b : Rc) : dis [a, b] = !comB a b := by simp [dis]
theorem siz_le {r : Rc} (h : ckB r = true) : siz r ≤ 206158430208000 := by
  have := cv_le [r]
  rw [cv_one h] at this
  exact this
theorem zero_ck : ckB (0, 0, 0, 0) = true := by decide
theorem comV_ck {a b : Rc} (ha : ckB a = true) (hb : ckB b = true) : ckB (comV a b) = true := by
  unfold comV
  split
  · exact com_ck ha hb (by assumption)
  · exact zero_ck
/-- What the walk of RectTwo asks. -/
theorem two_fact (a b : Rc) (he : ckE a = 0) (hf : ckE b = 0) : cvV [a, b] = arV a + arV b - arV (comV a b) ∧ lsE [a, b] = 0 ∧ ckE (comV a b) = 0 ∧ comB a b = decide (0 < arV (comV a b)) ∧
    (0 ≤ arV a ∧ arV a ≤ 206158430208000) ∧ (0 ≤ arV b ∧ arV b ≤ 206158430208000) ∧ 0 ≤ arV (comV a b) ∧ arV (comV a b) ≤ 206158430208000 := by
  have ha := ckE_iff.mp he
  have hb := ckE_iff.mp hf
  have hc := comV_ck ha hb
  have hl : lsE [a, b] = 0 := lsE_ok (by simp) fun k r hr => by
    have := List.mem_of_getElem? hr
    simp at this
    rcases this with rfl | rfl
    · exact ha
    · exact hb
  have hv : cvV [a, b] = cv [a, b] := by unfold cvV; rw [if_pos hl]
  have va : arV a = siz a := by unfold arV; rw [if_pos he]
  have vb : arV b = siz b := by unfold arV; rw [if_pos hf]
  have vc : arV (comV a b) = siz (comV a b) := by unfold arV; rw [if_pos (ckE_iff.mpr hc)]
  rw [hv, va, vb, vc]
  exact ⟨cv_two ha hb, hl, ckE_iff.mpr hc, comV_pos ha hb, ⟨siz_pos ha, siz_le ha⟩, ⟨siz_pos hb, siz_le hb⟩, siz_pos hc, siz_le hc⟩
theorem ck_zo (r : Rc) : ckE r = 0 ∨ ckE r = 1 := by unfold ckE; cases ckB r <;> simp

set_option maxHeartbeats 6400000 in
theorem walk_RectTwo (w : World) (a b : Rc) :
    Calls Try.prog 8 #[agQ a, agQ b] w fun e w' => e = .returned (.bool true) ∧ Below w.heap.size w w' := by
  have HW := Lib.hid fun (h : comB a b = true) => show wiB (comV a b) a = true ∧ wiB (comV a b) b = true by
    unfold comV
    rw [if_pos h]
    exact wi_com h
  have HT := Lib.hid (two_fact a b)
  have HE := Lib.hid (ck_zo a)
  have HF := Lib.hid (ck_zo b)
  have K1 := Lib.hid fun W => rect_Area a W
  have K2 := Lib.hid fun W => rect_Area b W
  have K3 := Lib.hid fun W => rect_Common a b W
  have K4 := Lib.hid fun W => rect_Common b a W
  have K5 := Lib.hid fun (A : Option Addr) (W : World) (h : Rcs W A [a, b]) => rect_Disjoint [a, b] A 2 2 rfl W h (by decide)
  have K6 := Lib.hid fun W => rect_Within (comV a b) a W
  have K7 := Lib.hid fun W => rect_Within (comV a b) b W
  have K8 := Lib.hid fun (A : Option Addr) (W : World) (h : Rcs W A [a, b]) => rect_Cover [a, b] A 2 W h (by simp)
  have K9 := Lib.hid fun W => rect_Area (comV a b) W
  unfold ComP at K3 K4
  rw [comV_sym b a, comB_sym b a] at K4
  rw [dis_two] at K5
  obtain ⟨X, hX⟩ : ∃ x, arV a = x := ⟨_, rfl⟩
  obtain ⟨Y, hY⟩ : ∃ x, arV b = x := ⟨_, rfl⟩
  obtain ⟨M, hM⟩ : ∃ x, arV (comV a b) = x := ⟨_, rfl⟩
  obtain ⟨E, hE⟩ : ∃ x, ckE a = x := ⟨_, rfl⟩
  obtain ⟨F, hF⟩ : ∃ x, ckE b = x := ⟨_, rfl⟩
  obtain ⟨G, hG⟩ : ∃ x, ckE (comV a b) = x := ⟨_, rfl⟩
  obtain ⟨C, hC⟩ : ∃ x, cvV [a, b] = x := ⟨_, rfl⟩
  obtain ⟨O, hO⟩ : ∃ x, lsE [a, b] = x := ⟨_, rfl⟩
  obtain ⟨CV, hCV⟩ : ∃ x, comV a b = x := ⟨_, rfl⟩
  obtain ⟨CB, hCB⟩ : ∃ x, comB a b = x := ⟨_, rfl⟩
  obtain ⟨W1, hW1⟩ : ∃ x, wiB (comV a b) a = x := ⟨_, rfl⟩
  obtain ⟨W2, hW2⟩ : ∃ x, wiB (comV a b) b = x := ⟨_, rfl⟩
  rw [hC, hX, hY, hM, hO, hG, hCB, hE, hF] at HT
  rw [hW1, hW2, hCB] at HW
  rw [hE] at HE
  rw [hF] at HF
  rw [hX, hE] at K1
  rw [hY, hF] at K2
  rw [hCV, hCB] at K3 K4
  rw [hCB] at K5
  rw [hW1, hCV] at K6
  rw [hW2, hCV] at K7
  rw [hC, hO] at K8
  rw [hM, hG, hCV] at K9
  clear hX hY hM hE hF hG hC hO hCV hCB hW1 hW2
  go_enter Try.func8, Try.ntmps8
  go_upto_region 1 with fail
  obtain ⟨w1_, hw0⟩ : ∃ W, ((w.alloc (.cells #[.int .i64 a.1, .int .i64 a.2.1, .int .i64 a.2.2.1, .int .i64 a.2.2.2] 23)).alloc (.cells #[.int .i64 b.1, .int .i64 b.2.1, .int .i64 b.2.2.1, .int .i64 b.2.2.2] 23)) = W := ⟨_, rfl⟩
  have CA : Hid (Cel w1_ w.heap.size (cQ a)) := hw0 ▸ (Cel.new w (cQ a) _).alloc _
  have CB' : Hid (Cel w1_ (w.heap.size + 1) (cQ b)) := hw0 ▸ Cel.new_at _ (cQ b) _ (by simp)
  have B1 : Hid (Below w.heap.size w w1_) := hw0 ▸ (bstep (below_alloc _ _) (below_alloc _ _))
  rw [hw0]
  clear hw0
  obtain ⟨a0, a1, a2, a3⟩ := cel4 CA.out
  obtain ⟨b0, b1, b2, b3⟩ := cel4 CB'.out
  go_wp2_with fail
  refine (K1.out w1_).mono ?_
  rintro e w2_ ⟨rfl, hb⟩
  have B2 := Lib.hid (bstep B1.out hb)
  replace CA := Lib.hid (CA.out.on hb)
  replace CB' := Lib.hid (CB'.out.on hb)
  clear hb
  clear a0 a1 a2 a3 b0 b1 b2 b3
  obtain ⟨a0, a1, a2, a3⟩ := cel4 CA.out
  obtain ⟨b0, b1, b2, b3⟩ := cel4 CB'.out
  go_wp2_with fail
  refine (K2.out w2_).mono ?_
  rintro e w3_ ⟨rfl, hb⟩
  have B3 := Lib.hid (bstep B2.out hb)
  replace CA := Lib.hid (CA.out.on hb)
  replace CB' := Lib.hid (CB'.out.on hb)
  clear hb
  clear a0 a1 a2 a3 b0 b1 b2 b3
  obtain ⟨a0, a1, a2, a3⟩ := cel4 CA.out
  obtain ⟨b0, b1, b2, b3⟩ := cel4 CB'.out
  go_wp2_with fail
  refine (K3.out w3_).mono ?_
  rintro e w4_ ⟨rfl, hb⟩
  have B4 := Lib.hid (bstep B3.out hb)
  replace CA := Lib.hid (CA.out.on hb)
  replace CB' := Lib.hid (CB'.out.on hb)
  clear hb
  clear a0 a1 a2 a3 b0 b1 b2 b3
  obtain ⟨a0, a1, a2, a3⟩ := cel4 CA.out
  obtain ⟨b0, b1, b2, b3⟩ := cel4 CB'.out
  go_upto_region 4 with fail
  obtain ⟨w5_, hw0⟩ : ∃ W, w4_.alloc (.cells #[.int .i64 CV.1, .int .i64 CV.2.1, .int .i64 CV.2.2.1, .int .i64 CV.2.2.2] 23) = W := ⟨_, rfl⟩
  have hb : Below w4_.heap.size w4_ w5_ := hw0 ▸ below_alloc _ _
  have CC : Hid (Cel w5_ w4_.heap.size (cQ CV)) := hw0 ▸ Cel.new w4_ (cQ CV) _
  rw [hw0]
  have B5 := Lib.hid (bstep B4.out hb)
  replace CA := Lib.hid (CA.out.on hb)
  replace CB' := Lib.hid (CB'.out.on hb)
  clear hb hw0
  clear a0 a1 a2 a3 b0 b1 b2 b3
  obtain ⟨a0, a1, a2, a3⟩ := cel4 CA.out
  obtain ⟨b0, b1, b2, b3⟩ := cel4 CB'.out
  obtain ⟨c0, c1, c2, c3⟩ := cel4 CC.out
  go_wp2_with fail
  refine (K4.out w5_).mono ?_
  rintro e w6_ ⟨rfl, hb⟩
  have B6 := Lib.hid (bstep B5.out hb)
  replace CA := Lib.hid (CA.out.on hb)
  replace CB' := Lib.hid (CB'.out.on hb)
  replace CC := Lib.hid (CC.out.on hb)
  clear hb
  clear a0 a1 a2 a3 b0 b1 b2 b3 c0 c1 c2 c3
  obtain ⟨a0, a1, a2, a3⟩ := cel4 CA.out
  obtain ⟨b0, b1, b2, b3⟩ := cel4 CB'.out
  obtain ⟨c0, c1, c2, c3⟩ := cel4 CC.out
  go_upto_region 5 with fail
  obtain ⟨w7_, hw0⟩ : ∃ W, w6_.alloc (.cells #[.int .i64 CV.1, .int .i64 CV.2.1, .int .i64 CV.2.2.1, .int .i64 CV.2.2.2] 23) = W := ⟨_, rfl⟩
  have hb : Below w6_.heap.size w6_ w7_ := hw0 ▸ below_alloc _ _
  have CD : Hid (Cel w7_ w6_.heap.size (cQ CV)) := hw0 ▸ Cel.new w6_ (cQ CV) _
  rw [hw0]
  have B7 := Lib.hid (bstep B6.out hb)
  replace CA := Lib.hid (CA.out.on hb)
  replace CB' := Lib.hid (CB'.out.on hb)
  replace CC := Lib.hid (CC.out.on hb)
  clear hb hw0
  clear a0 a1 a2 a3 b0 b1 b2 b3 c0 c1 c2 c3
  obtain ⟨a0, a1, a2, a3⟩ := cel4 CA.out
  obtain ⟨b0, b1, b2, b3⟩ := cel4 CB'.out
  obtain ⟨c0, c1, c2, c3⟩ := cel4 CC.out
  obtain ⟨d0, d1, d2, d3⟩ := cel4 CD.out
  have hq : ∀ W, (binOp .neq 23 (agQ CV) (agQ CV)).run Try.prog W = .ok (.bool false) W := fun W => by rw [eq_run .neq (Or.inr rfl)]; simp
  cases CB with
  | false =>
    go_wp2_with fail
    refine (K5.out _ _ (lit_rects w7_ [a, b])).mono ?_
    rintro e w8_ ⟨rfl, hb⟩
    have hb' := bstep (below_alloc w7_ (.cells ([a, b].flatMap cQ).toArray TQ)) hb
    have B8 := Lib.hid (bstep B7.out hb')
    replace CA := Lib.hid (CA.out.on hb')
    replace CB' := Lib.hid (CB'.out.on hb')
    replace CC := Lib.hid (CC.out.on hb')
    replace CD := Lib.hid (CD.out.on hb')
    clear hb hb'
    clear a0 a1 a2 a3 b0 b1 b2 b3 c0 c1 c2 c3 d0 d1 d2 d3
    obtain ⟨a0, a1, a2, a3⟩ := cel4 CA.out
    obtain ⟨b0, b1, b2, b3⟩ := cel4 CB'.out
    obtain ⟨c0, c1, c2, c3⟩ := cel4 CC.out
    obtain ⟨d0, d1, d2, d3⟩ := cel4 CD.out
    go_upto_region 7 with fail
    rcases HE.out with rfl | rfl
    · rcases HF.out with rfl | rfl
      · skip
        obtain ⟨rfl, rfl, rfl, hp, ⟨x0, x1⟩, ⟨y0, y1⟩, m0, m1⟩ := HT.out rfl rfl
        have hM0 : M ≤ 0 := by simpa using hp
        have hM : decide (0 < M) = false := decide_eq_false (by omega)
        clear hp
        go_wp2_with fail
        refine (K8.out _ _ (lit_rects w8_ [a, b])).mono ?_
        rintro e w9_ ⟨rfl, hb⟩
        have hb' := bstep (below_alloc w8_ (.cells ([a, b].flatMap cQ).toArray TQ)) hb
        have B9 := Lib.hid (bstep B8.out hb')
        replace CA := Lib.hid (CA.out.on hb')
        replace CB' := Lib.hid (CB'.out.on hb')
        replace CC := Lib.hid (CC.out.on hb')
        replace CD := Lib.hid (CD.out.on hb')
        clear hb hb'
        clear a0 a1 a2 a3 b0 b1 b2 b3 c0 c1 c2 c3 d0 d1 d2 d3
        obtain ⟨a0, a1, a2, a3⟩ := cel4 CA.out
        obtain ⟨b0, b1, b2, b3⟩ := cel4 CB'.out
        obtain ⟨c0, c1, c2, c3⟩ := cel4 CC.out
        obtain ⟨d0, d1, d2, d3⟩ := cel4 CD.out
        go_wp2_with fail
        refine (K9.out w9_).mono ?_
        rintro e w10_ ⟨rfl, hb⟩
        have B10 := Lib.hid (bstep B9.out hb)
        replace CA := Lib.hid (CA.out.on hb)
        replace CB' := Lib.hid (CB'.out.on hb)
        replace CC := Lib.hid (CC.out.on hb)
        replace CD := Lib.hid (CD.out.on hb)
        clear hb
        clear a0 a1 a2 a3 b0 b1 b2 b3 c0 c1 c2 c3 d0 d1 d2 d3
        obtain ⟨a0, a1, a2, a3⟩ := cel4 CA.out
        obtain ⟨b0, b1, b2, b3⟩ := cel4 CB'.out
        obtain ⟨c0, c1, c2, c3⟩ := cel4 CC.out
        obtain ⟨d0, d1, d2, d3⟩ := cel4 CD.out
        go_wp2_with fail
        refine (law_awake w10_).mono ?_
        rintro e w11_ ⟨rfl, hb⟩
        have B11 := Lib.hid (bstep B10.out hb)
        replace CA := Lib.hid (CA.out.on hb)
        replace CB' := Lib.hid (CB'.out.on hb)
        replace CC := Lib.hid (CC.out.on hb)
        replace CD := Lib.hid (CD.out.on hb)
        clear hb
        clear a0 a1 a2 a3 b0 b1 b2 b3 c0 c1 c2 c3 d0 d1 d2 d3
        obtain ⟨a0, a1, a2, a3⟩ := cel4 CA.out
        obtain ⟨b0, b1, b2, b3⟩ := cel4 CB'.out
        obtain ⟨c0, c1, c2, c3⟩ := cel4 CC.out
        obtain ⟨d0, d1, d2, d3⟩ := cel4 CD.out
        go_wp2_with fail
        go_ret
        exact ⟨rfl, B11.out⟩
      · skip
        go_wp2_with fail
        refine (law_awake w8_).mono ?_
        rintro e w9_ ⟨rfl, hb⟩
        have B9 := Lib.hid (bstep B8.out hb)
        replace CA := Lib.hid (CA.out.on hb)
        replace CB' := Lib.hid (CB'.out.on hb)
        replace CC := Lib.hid (CC.out.on hb)
        replace CD := Lib.hid (CD.out.on hb)
        clear hb
        clear a0 a1 a2 a3 b0 b1 b2 b3 c0 c1 c2 c3 d0 d1 d2 d3
        obtain ⟨a0, a1, a2, a3⟩ := cel4 CA.out
        obtain ⟨b0, b1, b2, b3⟩ := cel4 CB'.out
        obtain ⟨c0, c1, c2, c3⟩ := cel4 CC.out
        obtain ⟨d0, d1, d2, d3⟩ := cel4 CD.out
        go_wp2_with fail
        go_ret
        exact ⟨rfl, B9.out⟩
    · rcases HF.out with rfl | rfl
      · skip
        go_wp2_with fail
        refine (law_awake w8_).mono ?_
        rintro e w9_ ⟨rfl, hb⟩
        have B9 := Lib.hid (bstep B8.out hb)
        replace CA := Lib.hid (CA.out.on hb)
        replace CB' := Lib.hid (CB'.out.on hb)
        replace CC := Lib.hid (CC.out.on hb)
        replace CD := Lib.hid (CD.out.on hb)
        clear hb
        clear a0 a1 a2 a3 b0 b1 b2 b3 c0 c1 c2 c3 d0 d1 d2 d3
        obtain ⟨a0, a1, a2, a3⟩ := cel4 CA.out
        obtain ⟨b0, b1, b2, b3⟩ := cel4 CB'.out
        obtain ⟨c0, c1, c2, c3⟩ := cel4 CC.out
        obtain ⟨d0, d1, d2, d3⟩ := cel4 CD.out
        go_wp2_with fail
        go_ret
        exact ⟨rfl, B9.out⟩
      · skip
        go_wp2_with fail
        refine (law_awake w8_).mono ?_
        rintro e w9_ ⟨rfl, hb⟩
        have B9 := Lib.hid (bstep B8.out hb)
        replace CA := Lib.hid (CA.out.on hb)
        replace CB' := Lib.hid (CB'.out.on hb)
        replace CC := Lib.hid (CC.out.on hb)
        replace CD := Lib.hid (CD.out.on hb)
        clear hb
        clear a0 a1 a2 a3 b0 b1 b2 b3 c0 c1 c2 c3 d0 d1 d2 d3
        obtain ⟨a0, a1, a2, a3⟩ := cel4 CA.out
        obtain ⟨b0, b1, b2, b3⟩ := cel4 CB'.out
        obtain ⟨c0, c1, c2, c3⟩ := cel4 CC.out
        obtain ⟨d0, d1, d2, d3⟩ := cel4 CD.out
        go_wp2_with fail
        go_ret
        exact ⟨rfl, B9.out⟩
  | true =>
    obtain ⟨rfl, rfl⟩ := HW.out rfl
    go_wp2_with fail
    refine (K5.out _ _ (lit_rects w7_ [a, b])).mono ?_
    rintro e w8_ ⟨rfl, hb⟩
    have hb' := bstep (below_alloc w7_ (.cells ([a, b].flatMap cQ).toArray TQ)) hb
    have B8 := Lib.hid (bstep B7.out hb')
    replace CA := Lib.hid (CA.out.on hb')
    replace CB' := Lib.hid (CB'.out.on hb')
    replace CC := Lib.hid (CC.out.on hb')
    replace CD := Lib.hid (CD.out.on hb')
    clear hb hb'
    clear a0 a1 a2 a3 b0 b1 b2 b3 c0 c1 c2 c3 d0 d1 d2 d3
    obtain ⟨a0, a1, a2, a3⟩ := cel4 CA.out
    obtain ⟨b0, b1, b2, b3⟩ := cel4 CB'.out
    obtain ⟨c0, c1, c2, c3⟩ := cel4 CC.out
    obtain ⟨d0, d1, d2, d3⟩ := cel4 CD.out
    go_wp2_with fail
    refine (K6.out w8_).mono ?_
    rintro e w9_ ⟨rfl, hb⟩
    have B9 := Lib.hid (bstep B8.out hb)
    replace CA := Lib.hid (CA.out.on hb)
    replace CB' := Lib.hid (CB'.out.on hb)
    replace CC := Lib.hid (CC.out.on hb)
    replace CD := Lib.hid (CD.out.on hb)
    clear hb
    clear a0 a1 a2 a3 b0 b1 b2 b3 c0 c1 c2 c3 d0 d1 d2 d3
    obtain ⟨a0, a1, a2, a3⟩ := cel4 CA.out
    obtain ⟨b0, b1, b2, b3⟩ := cel4 CB'.out
    obtain ⟨c0, c1, c2, c3⟩ := cel4 CC.out
    obtain ⟨d0, d1, d2, d3⟩ := cel4 CD.out
    go_wp2_with fail
    refine (K7.out w9_).mono ?_
    rintro e w10_ ⟨rfl, hb⟩
    have B10 := Lib.hid (bstep B9.out hb)
    replace CA := Lib.hid (CA.out.on hb)
    replace CB' := Lib.hid (CB'.out.on hb)
    replace CC := Lib.hid (CC.out.on hb)
    replace CD := Lib.hid (CD.out.on hb)
    clear hb
    clear a0 a1 a2 a3 b0 b1 b2 b3 c0 c1 c2 c3 d0 d1 d2 d3
    obtain ⟨a0, a1, a2, a3⟩ := cel4 CA.out
    obtain ⟨b0, b1, b2, b3⟩ := cel4 CB'.out
    obtain ⟨c0, c1, c2, c3⟩ := cel4 CC.out
    obtain ⟨d0, d1, d2, d3⟩ := cel4 CD.out
    go_upto_region 7 with fail
    rcases HE.out with rfl | rfl
    · rcases HF.out with rfl | rfl
      · skip
        obtain ⟨rfl, rfl, rfl, hp, ⟨x0, x1⟩, ⟨y0, y1⟩, m0, m1⟩ := HT.out rfl rfl
        have hM : 0 < M := by simpa using hp
        clear hp
        go_wp2_with fail
        refine (K8.out _ _ (lit_rects w10_ [a, b])).mono ?_
        rintro e w11_ ⟨rfl, hb⟩
        have hb' := bstep (below_alloc w10_ (.cells ([a, b].flatMap cQ).toArray TQ)) hb
        have B11 := Lib.hid (bstep B10.out hb')
        replace CA := Lib.hid (CA.out.on hb')
        replace CB' := Lib.hid (CB'.out.on hb')
        replace CC := Lib.hid (CC.out.on hb')
        replace CD := Lib.hid (CD.out.on hb')
        clear hb hb'
        clear a0 a1 a2 a3 b0 b1 b2 b3 c0 c1 c2 c3 d0 d1 d2 d3
        obtain ⟨a0, a1, a2, a3⟩ := cel4 CA.out
        obtain ⟨b0, b1, b2, b3⟩ := cel4 CB'.out
        obtain ⟨c0, c1, c2, c3⟩ := cel4 CC.out
        obtain ⟨d0, d1, d2, d3⟩ := cel4 CD.out
        go_wp2_with fail
        refine (K9.out w11_).mono ?_
        rintro e w12_ ⟨rfl, hb⟩
        have B12 := Lib.hid (bstep B11.out hb)
        replace CA := Lib.hid (CA.out.on hb)
        replace CB' := Lib.hid (CB'.out.on hb)
        replace CC := Lib.hid (CC.out.on hb)
        replace CD := Lib.hid (CD.out.on hb)
        clear hb
        clear a0 a1 a2 a3 b0 b1 b2 b3 c0 c1 c2 c3 d0 d1 d2 d3
        obtain ⟨a0, a1, a2, a3⟩ := cel4 CA.out
        obtain ⟨b0, b1, b2, b3⟩ := cel4 CB'.out
        obtain ⟨c0, c1, c2, c3⟩ := cel4 CC.out
        obtain ⟨d0, d1, d2, d3⟩ := cel4 CD.out
        go_wp2_with fail
        refine (law_awake w12_).mono ?_
        rintro e w13_ ⟨rfl, hb⟩
        have B13 := Lib.hid (bstep B12.out hb)
        replace CA := Lib.hid (CA.out.on hb)
        replace CB' := Lib.hid (CB'.out.on hb)
        replace CC := Lib.hid (CC.out.on hb)
        replace CD := Lib.hid (CD.out.on hb)
        clear hb
        clear a0 a1 a2 a3 b0 b1 b2 b3 c0 c1 c2 c3 d0 d1 d2 d3
        obtain ⟨a0, a1, a2, a3⟩ := cel4 CA.out
        obtain ⟨b0, b1, b2, b3⟩ := cel4 CB'.out
        obtain ⟨c0, c1, c2, c3⟩ := cel4 CC.out
        obtain ⟨d0, d1, d2, d3⟩ := cel4 CD.out
        go_wp2_with fail
        go_ret
        exact ⟨rfl, B13.out⟩
      · skip
        go_wp2_with fail
        refine (law_awake w10_).mono ?_
        rintro e w11_ ⟨rfl, hb⟩
        have B11 := Lib.hid (bstep B10.out hb)
        replace CA := Lib.hid (CA.out.on hb)
        replace CB' := Lib.hid (CB'.out.on hb)
        replace CC := Lib.hid (CC.out.on hb)
        replace CD := Lib.hid (CD.out.on hb)
        clear hb
        clear a0 a1 a2 a3 b0 b1 b2 b3 c0 c1 c2 c3 d0 d1 d2 d3
        obtain ⟨a0, a1, a2, a3⟩ := cel4 CA.out
        obtain ⟨b0, b1, b2, b3⟩ := cel4 CB'.out
        obtain ⟨c0, c1, c2, c3⟩ := cel4 CC.out
        obtain ⟨d0, d1, d2, d3⟩ := cel4 CD.out
        go_wp2_with fail
        go_ret
        exact ⟨rfl, B11.out⟩
    · rcases HF.out with rfl | rfl
      · skip
        go_wp2_with fail
        refine (law_awake w10_).mono ?_
        rintro e w11_ ⟨rfl, hb⟩
        have B11 := Lib.hid (bstep B10.out hb)
        replace CA := Lib.hid (CA.out.on hb)
        replace CB' := Lib.hid (CB'.out.on hb)
        replace CC := Lib.hid (CC.out.on hb)
        replace CD := Lib.hid (CD.out.on hb)
        clear hb
        clear a0 a1 a2 a3 b0 b1 b2 b3 c0 c1 c2 c3 d0 d1 d2 d3
        obtain ⟨a0, a1, a2, a3⟩ := cel4 CA.out
        obtain ⟨b0, b1, b2, b3⟩ := cel4 CB'.out
        obtain ⟨c0, c1, c2, c3⟩ := cel4 CC.out
        obtain ⟨d0, d1, d2, d3⟩ := cel4 CD.out
        go_wp2_with fail
        go_ret
        exact ⟨rfl, B11.out⟩
      · skip
        go_wp2_with fail
        refine (law_awake w10_).mono ?_
        rintro e w11_ ⟨rfl, hb⟩
        have B11 := Lib.hid (bstep B10.out hb)
        replace CA := Lib.hid (CA.out.on hb)
        replace CB' := Lib.hid (CB'.out.on hb)
        replace CC := Lib.hid (CC.out.on hb)
        replace CD := Lib.hid (CD.out.on hb)
        clear hb
        clear a0 a1 a2 a3 b0 b1 b2 b3 c0 c1 c2 c3 d0 d1 d2 d3
        obtain ⟨a0, a1, a2, a3⟩ := cel4 CA.out
        obtain ⟨b0, b1, b2, b3⟩ := cel4 CB'.out
        obtain ⟨c0, c1, c2, c3⟩ := cel4 CC.out
        obtain ⟨d0, d1, d2, d3⟩ := cel4 CD.out
        go_wp2_with fail
        go_ret
        exact ⟨rfl, B11.out⟩
#print axioms walk_RectTwo
end Go.Proofs.Ytccbnobpighckaa.Rect
