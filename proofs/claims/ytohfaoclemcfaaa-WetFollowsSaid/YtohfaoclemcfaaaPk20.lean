/- Several texts in one: WetO, WetV. -/
import Derived.Test.YtohfaoclemcfaaaPk17
import Derived.Test.YtohfaoclemcfaaaPk19
/- The law Balance over WeKit (gen20/o.py). -/
namespace Go.Proofs.Ytohfaoclemcfaaa.Wet
open Go.ChangeShapes Go.WideShapes Go.RowKit Go.Lib
open Go.Proofs.Ytohfaoclemcfaaa.Rw (ret_bool ret_int bstep below_drewN below_drew drew_below below_alloc)
set_option linter.unusedVariables false
set_option maxRecDepth 100000

theorem out_len {w : World} {E : Int} {b : Bool} {A B : Option Addr} {n c m d : Nat} {q : Rat} (hE : ¬ E = 0) (h : OutR w (.agg #[.bool b, .slice A n c, .slice B m d]) E q) : m = 0 := by
  unfold OutR at h
  rw [if_neg hE] at h
  obtain ⟨vp, vq, e, ha, hb⟩ := h
  obtain ⟨B', d', rfl, -⟩ := in_open hb
  injection e with e
  have e1 := congrArg (fun x => x[2]?) e
  simp at e1
  exact e1.2.1
theorem isR_neg {w : World} {b : Bool} {u v : Value} {q : Rat} (h : IsR w (.agg #[.bool b, u, v]) q) (h0 : 0 ≤ q) : b = false := by
  obtain ⟨vp, vq, e, ha, hb⟩ := h
  injection e with e
  have e1 := congrArg (fun x => x[0]?) e
  simp at e1
  rw [e1]
  unfold negR
  rw [decide_eq_false_iff_not]
  have := Rat.num_nonneg.mpr h0
  omega
theorem y_Valid {q : Rat} (hq : fitR q = true) (v : Value) (w : World) (h : IsR w v q) : Calls Try.prog 23 #[v] w fun e w' => e = .returned (.bool true) ∧ Below w.heap.size w w' := by
  have k := ref_Valid3 v _ _ _ w h
  rw [(form_val hq).1] at k
  exact k
set_option maxHeartbeats 6400000 in
theorem walk_WetBalance (KK : WeKit) (w : World) (f r c : Int) (v : Value) (b : Bool) (xs ys : List Int) (hv : InR w v b xs ys) :
    Calls Try.prog 8 #[.agg #[.int .i64 f, .int .i64 r, .int .i64 c], v] w fun e w' => e = .returned (.bool true) ∧ Below w.heap.size w w' := by
  have KQ := Lib.hid KK.awake
  have KL := Lib.hid fun (v : Value) (W : World) (h : InR W v b xs ys) => law_light v b xs ys W h
  obtain ⟨g, hg⟩ : ∃ x, ligB xs ys = x := ⟨_, rfl⟩
  rw [hg] at KL
  clear hg
  have K1 := Lib.hid fun (v : Value) (W : World) (h : InR W v b xs ys) => KK.step f r c v b xs ys W h
  by_cases hE : stE f r c b xs ys = 0
  rotate_left
  · have R0 := Lib.hid hv
    obtain ⟨vp, vq, rfl, ha, hb⟩ := hv
    obtain ⟨A0, c0, rfl, -⟩ := in_open ha
    obtain ⟨B0, d0, rfl, -⟩ := in_open hb
    obtain ⟨n0, hn0⟩ : ∃ n, xs.length = n := ⟨_, rfl⟩
    obtain ⟨m0, hm0⟩ : ∃ n, ys.length = n := ⟨_, rfl⟩
    rw [hn0, hm0] at R0 ⊢
    have HB := Lib.hid (Below.refl w.heap.size w)
    clear ha hb hn0 hm0
    go_enter Try.func8, Try.ntmps8
    go_upto_region 1 with fail
    obtain ⟨w1, gx, hw, hgx, cw, cx, hb⟩ := two_in w (.int .i64 f) (.int .i64 r) (.int .i64 c) (.bool b) (.slice A0 n0 c0) (.slice B0 m0 d0)
    have CW := Lib.hid cw
    have CX := Lib.hid cx
    replace HB := Lib.hid (bstep HB.out hb)
    replace R0 := Lib.hid (R0.out.on hb)
    rw [hgx]
    rw [hw]
    clear hw hb hgx cw cx
    obtain ⟨x00, x01, x02⟩ := CX.out.three
    go_wp2_with fail
    refine (KL.out _ _ R0.out).mono ?_
    rintro e w2 ⟨rfl, hb⟩
    replace HB := Lib.hid (bstep HB.out hb)
    replace R0 := Lib.hid (R0.out.on hb)
    replace CW := Lib.hid (CW.out.on hb)
    replace CX := Lib.hid (CX.out.on hb)
    clear hb
    clear x00 x01 x02
    cases g with
    | false =>
      go_wp2_with fail
      refine (KQ.out _).mono ?_
      rintro e wq ⟨rfl, hb⟩
      have HF := Lib.hid (bstep HB.out hb)
      clear hb
      go_wp2_with fail
      go_ret
      exact ⟨rfl, HF.out⟩
    | true =>
    obtain ⟨E, hE2⟩ : ∃ x, stE f r c b xs ys = x := ⟨_, rfl⟩
    rw [hE2] at K1 hE
    clear hE2
    have nE : decide (E = 0) = false := decide_eq_false hE
    obtain ⟨x00, x01, x02⟩ := CW.out.three
    obtain ⟨x10, x11, x12⟩ := CX.out.three
    go_wp2_with fail
    refine (K1.out _ _ R0.out).mono ?_
    rintro e w3 ⟨b1, A1, n1, c1, B1, m1, d1, b2, A2, n2, c2, B2, m2, d2, b3, A3, n3, c3, B3, m3, d3, rfl, hp, hq, hr, hb⟩
    replace HB := Lib.hid (bstep HB.out hb)
    replace R0 := Lib.hid (R0.out.on hb)
    replace CW := Lib.hid (CW.out.on hb)
    replace CX := Lib.hid (CX.out.on hb)
    obtain rfl : m1 = 0 := out_len hE hp
    obtain rfl : m2 = 0 := out_len hE hq
    obtain rfl : m3 = 0 := out_len hE hr
    clear hp hq hr hb
    clear x00 x01 x02 x10 x11 x12
    go_upto_region 4 with fail
    obtain ⟨w4, g1, g2, g3, hw, hg1, hg2, hg3, h1, h2, h3, hb⟩ := trio w3 (.bool b1) (.slice A1 n1 c1) (.slice B1 0 d1) (.bool b2) (.slice A2 n2 c2) (.slice B2 0 d2) (.bool b3) (.slice A3 n3 c3) (.slice B3 0 d3)
    first | rw [hg1, hg2, hg3] | rw [hg1, hg2] | rw [hg1] | skip
    rw [hw]
    replace HB := Lib.hid (bstep HB.out hb)
    replace R0 := Lib.hid (R0.out.on hb)
    replace CW := Lib.hid (CW.out.on hb)
    replace CX := Lib.hid (CX.out.on hb)
    have G1 := Lib.hid h1
    have G2 := Lib.hid h2
    have G3 := Lib.hid h3
    clear hw hg1 hg2 hg3 h1 h2 h3 hb
    obtain ⟨x00, x01, x02⟩ := G1.out.three
    obtain ⟨x10, x11, x12⟩ := G2.out.three
    obtain ⟨x20, x21, x22⟩ := G3.out.three
    go_wp2_with fail
    refine (KQ.out _).mono ?_
    rintro e wq ⟨rfl, hb⟩
    have HF := Lib.hid (bstep HB.out hb)
    clear hb
    go_wp2_with fail
    go_ret
    exact ⟨rfl, HF.out⟩
  obtain ⟨hk, hw2⟩ := stE_of hE
  obtain ⟨q, fq, rfl, rfl, rfl, q0, q1, q2⟩ := wh_fr hw2
  rw [hE, (form_val fq).2] at K1
  obtain ⟨hf, hr, hc⟩ := ckW_of hk
  have q0' : (0 : Rat) ≤ q := Rat.num_nonneg.mp q0
  obtain ⟨nn1, nn2, nn3⟩ := step_nn (f := f) (r := r) (c := c) hf.1 hr hc q0'
  have BL := Lib.hid (Bal.mk' (f := f) (r := r) (c := c) q1 q2 hk)
  have ST := Lib.hid ((Wn.start q1 q2).stp hk)
  have HE := Lib.hid (balance (f := f) (r := r) (c := c) (W := q))
  have fF := Lib.hid hf
  clear hE hw2 hk hf hr hc q0 q0' q1 q2
  have R0 := Lib.hid hv
  obtain ⟨vp, vq, rfl, ha, hb⟩ := hv
  obtain ⟨A0, c0, rfl, -⟩ := in_open ha
  obtain ⟨B0, d0, rfl, -⟩ := in_open hb
  obtain ⟨n0, hn0⟩ : ∃ n, (topL q).length = n := ⟨_, rfl⟩
  obtain ⟨m0, hm0⟩ : ∃ n, (botL q).length = n := ⟨_, rfl⟩
  rw [hn0, hm0] at R0 ⊢
  have HB := Lib.hid (Below.refl w.heap.size w)
  clear ha hb hn0 hm0
  go_enter Try.func8, Try.ntmps8
  go_upto_region 1 with fail
  obtain ⟨w1, gx, hw, hgx, cw, cx, hb⟩ := two_in w (.int .i64 f) (.int .i64 r) (.int .i64 c) (.bool (negR q)) (.slice A0 n0 c0) (.slice B0 m0 d0)
  have CW := Lib.hid cw
  have CX := Lib.hid cx
  replace HB := Lib.hid (bstep HB.out hb)
  replace R0 := Lib.hid (R0.out.on hb)
  rw [hgx]
  rw [hw]
  clear hw hb hgx cw cx
  obtain ⟨x00, x01, x02⟩ := CX.out.three
  go_wp2_with fail
  refine (KL.out _ _ R0.out).mono ?_
  rintro e w2 ⟨rfl, hb⟩
  replace HB := Lib.hid (bstep HB.out hb)
  replace R0 := Lib.hid (R0.out.on hb)
  replace CW := Lib.hid (CW.out.on hb)
  replace CX := Lib.hid (CX.out.on hb)
  clear hb
  clear x00 x01 x02
  cases g with
  | false =>
    go_wp2_with fail
    refine (KQ.out _).mono ?_
    rintro e wq ⟨rfl, hb⟩
    have HF := Lib.hid (bstep HB.out hb)
    clear hb
    go_wp2_with fail
    go_ret
    exact ⟨rfl, HF.out⟩
  | true =>
  obtain ⟨x00, x01, x02⟩ := CW.out.three
  obtain ⟨x10, x11, x12⟩ := CX.out.three
  go_wp2_with fail
  refine (K1.out _ _ R0.out).mono ?_
  rintro e w3 ⟨b1, A1, n1, c1, B1, m1, d1, b2, A2, n2, c2, B2, m2, d2, b3, A3, n3, c3, B3, m3, d3, rfl, hp, hq, hr, hb⟩
  replace HB := Lib.hid (bstep HB.out hb)
  replace R0 := Lib.hid (R0.out.on hb)
  replace CW := Lib.hid (CW.out.on hb)
  replace CX := Lib.hid (CX.out.on hb)
  have R1 := Lib.hid (out_zero hp)
  have R2 := Lib.hid (out_zero hq)
  have R3 := Lib.hid (out_zero hr)
  obtain rfl : b1 = false := isR_neg R1.out nn1
  obtain rfl : b2 = false := isR_neg R2.out nn2
  obtain rfl : b3 = false := isR_neg R3.out nn3
  clear hp hq hr hb nn1 nn2 nn3
  clear x00 x01 x02 x10 x11 x12
  go_upto_region 4 with fail
  obtain ⟨w4, g1, g2, g3, hw, hg1, hg2, hg3, h1, h2, h3, hb⟩ := trio w3 (.bool false) (.slice A1 n1 c1) (.slice B1 m1 d1) (.bool false) (.slice A2 n2 c2) (.slice B2 m2 d2) (.bool false) (.slice A3 n3 c3) (.slice B3 m3 d3)
  first | rw [hg1, hg2, hg3] | rw [hg1, hg2] | rw [hg1] | skip
  rw [hw]
  replace HB := Lib.hid (bstep HB.out hb)
  replace R0 := Lib.hid (R0.out.on hb)
  replace CW := Lib.hid (CW.out.on hb)
  replace CX := Lib.hid (CX.out.on hb)
  replace R1 := Lib.hid (R1.out.on hb)
  replace R2 := Lib.hid (R2.out.on hb)
  replace R3 := Lib.hid (R3.out.on hb)
  have G1 := Lib.hid h1
  have G2 := Lib.hid h2
  have G3 := Lib.hid h3
  clear hw hg1 hg2 hg3 h1 h2 h3 hb
  obtain ⟨x00, x01, x02⟩ := G1.out.three
  obtain ⟨x10, x11, x12⟩ := G2.out.three
  obtain ⟨x20, x21, x22⟩ := G3.out.three
  go_wp2_with fail
  refine (y_Valid BL.out.fp _ _ R1.out).mono ?_
  rintro e w5 ⟨rfl, hb⟩
  replace HB := Lib.hid (bstep HB.out hb)
  replace R0 := Lib.hid (R0.out.on hb)
  replace CW := Lib.hid (CW.out.on hb)
  replace CX := Lib.hid (CX.out.on hb)
  replace R1 := Lib.hid (R1.out.on hb)
  replace R2 := Lib.hid (R2.out.on hb)
  replace R3 := Lib.hid (R3.out.on hb)
  replace G1 := Lib.hid (G1.out.on hb)
  replace G2 := Lib.hid (G2.out.on hb)
  replace G3 := Lib.hid (G3.out.on hb)
  clear hb
  clear x00 x01 x02 x10 x11 x12 x20 x21 x22
  obtain ⟨x00, x01, x02⟩ := G1.out.three
  obtain ⟨x10, x11, x12⟩ := G2.out.three
  obtain ⟨x20, x21, x22⟩ := G3.out.three
  go_wp2_with fail
  refine (y_Valid BL.out.fs _ _ R2.out).mono ?_
  rintro e w6 ⟨rfl, hb⟩
  replace HB := Lib.hid (bstep HB.out hb)
  replace R0 := Lib.hid (R0.out.on hb)
  replace CW := Lib.hid (CW.out.on hb)
  replace CX := Lib.hid (CX.out.on hb)
  replace R1 := Lib.hid (R1.out.on hb)
  replace R2 := Lib.hid (R2.out.on hb)
  replace R3 := Lib.hid (R3.out.on hb)
  replace G1 := Lib.hid (G1.out.on hb)
  replace G2 := Lib.hid (G2.out.on hb)
  replace G3 := Lib.hid (G3.out.on hb)
  clear hb
  clear x00 x01 x02 x10 x11 x12 x20 x21 x22
  obtain ⟨x00, x01, x02⟩ := G1.out.three
  obtain ⟨x10, x11, x12⟩ := G2.out.three
  obtain ⟨x20, x21, x22⟩ := G3.out.three
  go_wp2_with fail
  refine (y_Valid BL.out.fa _ _ R3.out).mono ?_
  rintro e w7 ⟨rfl, hb⟩
  replace HB := Lib.hid (bstep HB.out hb)
  replace R0 := Lib.hid (R0.out.on hb)
  replace CW := Lib.hid (CW.out.on hb)
  replace CX := Lib.hid (CX.out.on hb)
  replace R1 := Lib.hid (R1.out.on hb)
  replace R2 := Lib.hid (R2.out.on hb)
  replace R3 := Lib.hid (R3.out.on hb)
  replace G1 := Lib.hid (G1.out.on hb)
  replace G2 := Lib.hid (G2.out.on hb)
  replace G3 := Lib.hid (G3.out.on hb)
  clear hb
  clear x00 x01 x02 x10 x11 x12 x20 x21 x22
  obtain ⟨x00, x01, x02⟩ := G1.out.three
  obtain ⟨x10, x11, x12⟩ := G2.out.three
  obtain ⟨x20, x21, x22⟩ := G3.out.three
  go_wp2_with fail
  refine (y_Add BL.out.fp BL.out.fs BL.out.s1 _ _ _ R1.out R2.out).mono ?_
  rintro e w8 h
  obtain ⟨b4, A4, n4, c4, B4, m4, d4, rfl, ho, hb⟩ := h.open_
  replace HB := Lib.hid (bstep HB.out hb)
  replace R0 := Lib.hid (R0.out.on hb)
  replace CW := Lib.hid (CW.out.on hb)
  replace CX := Lib.hid (CX.out.on hb)
  replace R1 := Lib.hid (R1.out.on hb)
  replace R2 := Lib.hid (R2.out.on hb)
  replace R3 := Lib.hid (R3.out.on hb)
  replace G1 := Lib.hid (G1.out.on hb)
  replace G2 := Lib.hid (G2.out.on hb)
  replace G3 := Lib.hid (G3.out.on hb)
  have R4 := Lib.hid (out_zero ho)
  clear h ho hb
  clear x00 x01 x02 x10 x11 x12 x20 x21 x22
  go_upto_region 9 with fail
  obtain ⟨w9, g4, hw, hg1, h1, hb⟩ := solo w8 (.bool b4) (.slice A4 n4 c4) (.slice B4 m4 d4)
  first | rw [hg1] | skip
  rw [hw]
  replace HB := Lib.hid (bstep HB.out hb)
  replace R0 := Lib.hid (R0.out.on hb)
  replace CW := Lib.hid (CW.out.on hb)
  replace CX := Lib.hid (CX.out.on hb)
  replace R1 := Lib.hid (R1.out.on hb)
  replace R2 := Lib.hid (R2.out.on hb)
  replace R3 := Lib.hid (R3.out.on hb)
  replace G1 := Lib.hid (G1.out.on hb)
  replace G2 := Lib.hid (G2.out.on hb)
  replace G3 := Lib.hid (G3.out.on hb)
  replace R4 := Lib.hid (R4.out.on hb)
  have G4 := Lib.hid h1
  clear hw hg1 h1 hb
  obtain ⟨x00, x01, x02⟩ := G4.out.three
  obtain ⟨x10, x11, x12⟩ := G3.out.three
  go_wp2_with fail
  refine (y_Add BL.out.fx BL.out.fa BL.out.s2 _ _ _ R4.out R3.out).mono ?_
  rintro e w10 h
  obtain ⟨b5, A5, n5, c5, B5, m5, d5, rfl, ho, hb⟩ := h.open_
  replace HB := Lib.hid (bstep HB.out hb)
  replace R0 := Lib.hid (R0.out.on hb)
  replace CW := Lib.hid (CW.out.on hb)
  replace CX := Lib.hid (CX.out.on hb)
  replace R1 := Lib.hid (R1.out.on hb)
  replace R2 := Lib.hid (R2.out.on hb)
  replace R3 := Lib.hid (R3.out.on hb)
  replace G1 := Lib.hid (G1.out.on hb)
  replace G2 := Lib.hid (G2.out.on hb)
  replace G3 := Lib.hid (G3.out.on hb)
  replace R4 := Lib.hid (R4.out.on hb)
  replace G4 := Lib.hid (G4.out.on hb)
  have R5 := Lib.hid (out_zero ho)
  clear h ho hb
  clear x00 x01 x02 x10 x11 x12
  go_upto_region 10 with fail
  obtain ⟨w11, g5, hw, hg1, h1, hb⟩ := solo w10 (.bool b5) (.slice A5 n5 c5) (.slice B5 m5 d5)
  first | rw [hg1] | skip
  rw [hw]
  replace HB := Lib.hid (bstep HB.out hb)
  replace R0 := Lib.hid (R0.out.on hb)
  replace CW := Lib.hid (CW.out.on hb)
  replace CX := Lib.hid (CX.out.on hb)
  replace R1 := Lib.hid (R1.out.on hb)
  replace R2 := Lib.hid (R2.out.on hb)
  replace R3 := Lib.hid (R3.out.on hb)
  replace G1 := Lib.hid (G1.out.on hb)
  replace G2 := Lib.hid (G2.out.on hb)
  replace G3 := Lib.hid (G3.out.on hb)
  replace R4 := Lib.hid (R4.out.on hb)
  replace G4 := Lib.hid (G4.out.on hb)
  replace R5 := Lib.hid (R5.out.on hb)
  have G5 := Lib.hid h1
  clear hw hg1 h1 hb
  have KW := Lib.hid fun (W : World) => law_whole fF.out.1 fF.out.2 W
  have KA := Lib.hid fun (v u : Value) (W : World) (h : IsR W v (mkV f 1)) (h2 : IsR W u q) => y_Add ST.out.ff ST.out.fq ST.out.so v u W h h2
  have RZ : Hid (IsR w11 (.agg #[.bool (negR q), .slice A0 n0 c0, .slice B0 m0 d0]) q) := Lib.hid R0.out
  go_cut [13, 14] from 81 to 89 (fun x y wz => ∃ g b A n c B m d, x = .pointer (some ⟨g, 0, none⟩) ∧ y = .int .i64 0 ∧ Rw.Cel wz g [.bool b, .slice A n c, .slice B m d] ∧ IsR wz (.agg #[.bool b, .slice A n c, .slice B m d]) (mkV f 1 + q) ∧ w11.heap.size ≤ g ∧ Below w11.heap.size w11 wz)
  case first =>
    obtain ⟨x00, x01, x02⟩ := (CW.out.on (Below.refl w11.heap.size w11)).three
    obtain ⟨x10, x11, x12⟩ := (CX.out.on (Below.refl w11.heap.size w11)).three
    have HS : Hid (∀ W, Below w11.heap.size w11 W → W.cell? ⟨w.heap.size, 0, none⟩ = some (.int .i64 f) ∧ W.cell? ⟨gx, 0, none⟩ = some (.bool (negR q)) ∧ W.cell? ⟨gx, 1, none⟩ = some (.slice A0 n0 c0) ∧ W.cell? ⟨gx, 2, none⟩ = some (.slice B0 m0 d0)) := Lib.hid fun W h => by
        obtain ⟨x00, x01, x02⟩ := (CW.out.on h).three
        obtain ⟨x10, x11, x12⟩ := (CX.out.on h).three
        exact ⟨x00, x10, x11, x12⟩
    go_region_held3 (fun W => W.cell? ⟨w.heap.size, 0, none⟩ = some (.int .i64 f) ∧ W.cell? ⟨gx, 0, none⟩ = some (.bool (negR q)) ∧ W.cell? ⟨gx, 1, none⟩ = some (.slice A0 n0 c0) ∧ W.cell? ⟨gx, 2, none⟩ = some (.slice B0 m0 d0))
      (first | with_reducible exact HS.out _ (drew_below w11) | with_reducible exact HS.out _ (below_drew (below_alloc _ _)) | with_reducible exact HS.out _ H2.out | with_reducible exact HS.out _ (bstep H2.out (below_alloc _ _)) | with_reducible exact HS.out _ H3.out | with_reducible exact HS.out _ (bstep H3.out (below_alloc _ _)) | exact HS.out _ (Rw.below_put3 H3.out (by first | exact Nat.le_refl _ | exact H2.out.size) _ _ _))
      (first
      | (go_at_call 26; (with_reducible refine (KW.out w11.drew).mono ?_); rintro e wa ⟨b6, A6, n6, c6, B6, m6, d6, rfl, hW, hba⟩; (have H2 := Lib.hid (bstep (drew_below w11) hba)); obtain ⟨y00, y01, y02⟩ := (CW.out.on H2.out).three; obtain ⟨y10, y11, y12⟩ := (CX.out.on H2.out).three; (have H1 := Lib.hid hW); clear hba)
      | (go_at_call 26; (with_reducible refine (KW.out (w11.alloc (.cells #[.bool false, .slice none 0 0, .slice none 0 0] 27)).drew).mono ?_); rintro e wa ⟨b6, A6, n6, c6, B6, m6, d6, rfl, hW, hba⟩; (have HZ1 := Lib.hid (after_zerod hba).1); (have H2 := Lib.hid (after_zerod hba).2); obtain ⟨y00, y01, y02⟩ := (CW.out.on H2.out).three; obtain ⟨y10, y11, y12⟩ := (CX.out.on H2.out).three; (have H1 := Lib.hid hW); clear hba)
      | (go_at_call 25; (have HZ0 := HZ1); (with_reducible refine (KA.out _ _ _ H1.out (RZ.out.on H2.out)).mono ?_); rintro e wb hx; (obtain ⟨b7, A7, n7, c7, B7, m7, d7, rfl, ho, hbb⟩ := hx.open_); (have RX := Lib.hid (out_zero ho)); (have H3 := Lib.hid (bstep H2.out hbb)); (have HZ2 := Lib.hid (HZ1.out.on hbb)); (obtain ⟨z0, z1, z2⟩ := HZ2.out.three); (obtain ⟨v0, v1, v2⟩ := HZ2.out.warm3); clear ho hbb)
      | (go_at_call 25; (with_reducible refine (KA.out _ _ _ H1.out (RZ.out.on H2.out)).mono ?_); rintro e wb hx; (obtain ⟨b7, A7, n7, c7, B7, m7, d7, rfl, ho, hbb⟩ := hx.open_); (have RX := Lib.hid (out_zero ho)); (have H3 := Lib.hid (bstep H2.out hbb)); clear ho hbb)
      | (go_at_call 25; (with_reducible refine (KA.out _ _ _ (H1.out.on (below_alloc wa (.cells #[.bool false, .slice none 0 0, .slice none 0 0] 27))) (RZ.out.on (bstep H2.out (below_alloc wa (.cells #[.bool false, .slice none 0 0, .slice none 0 0] 27))))).mono ?_); rintro e wb hx; (obtain ⟨b7, A7, n7, c7, B7, m7, d7, rfl, ho, hbb⟩ := hx.open_); (have RX := Lib.hid (out_zero ho)); (have HZ2 := Lib.hid (after_zero hbb).1); (have H3 := Lib.hid (bstep H2.out (after_zero hbb).2)); (obtain ⟨z0, z1, z2⟩ := HZ2.out.three); (obtain ⟨v0, v1, v2⟩ := HZ2.out.warm3); clear ho hbb))
    all_goals
      go_wp2_with fail
      go_meet
      case rel => first
        | exact ⟨_, _, _, _, _, _, _, _, rfl, rfl, Rw.Cel.new wb [_, _, _] _, RX.out.on (below_alloc _ _), H3.out.size, bstep H3.out (below_alloc _ _)⟩
        | exact ⟨_, _, _, _, _, _, _, _, rfl, rfl, HZ2.out.put3 _ _ _, InR.put3 RX.out (cel_root HZ2.out) _ _ _, Nat.le_refl _, Rw.below_put3 H3.out (Nat.le_refl _) _ _ _⟩
        | exact ⟨_, _, _, _, _, _, _, _, rfl, rfl, HZ2.out.put3 _ _ _, InR.put3 RX.out (cel_root HZ2.out) _ _ _, H2.out.size, Rw.below_put3 H3.out H2.out.size _ _ _⟩
  obtain ⟨g7, b7, A7, n7, c7, B7, m7, d7, rfl, rfl, hcx, hrx, hgx, hbc⟩ := hcut
  obtain ⟨w12, rfl⟩ : ∃ W, W = wc := ⟨wc, rfl⟩
  have hb := hbc
  replace HB := Lib.hid (bstep HB.out hb)
  replace R5 := Lib.hid (R5.out.on hb)
  replace G5 := Lib.hid (G5.out.on hb)
  have G7 := Lib.hid hcx
  have R7 := Lib.hid hrx
  clear hb hbc hcx hrx KW KA RZ
  rw [← HE.out] at R7
  obtain ⟨x00, x01, x02⟩ := G5.out.three
  obtain ⟨x10, x11, x12⟩ := G7.out.three
  go_wp2_with fail
  refine (same_is R5.out R7.out).mono ?_
  rintro e w13 ⟨rfl, hb⟩
  replace HB := Lib.hid (bstep HB.out hb)
  clear hb x00 x01 x02 x10 x11 x12
  go_wp2_with fail
  refine (KQ.out _).mono ?_
  rintro e w14 ⟨rfl, hb⟩
  have HF := Lib.hid (bstep HB.out hb)
  clear hb
  go_wp2_with fail
  go_ret
  exact ⟨rfl, HF.out⟩
end Go.Proofs.Ytohfaoclemcfaaa.Wet
/- The law Steady (gen20/v.py). -/
namespace Go.Proofs.Ytohfaoclemcfaaa.Wet
open Go.ChangeShapes Go.WideShapes Go.RowKit Go.Lib
open Go.Proofs.Ytohfaoclemcfaaa.Rw (ret_bool ret_int bstep below_drewN below_drew drew_below below_alloc)
set_option linter.unusedVariables false
set_option maxRecDepth 100000

theorem out_lens {w : World} {E : Int} {b : Bool} {A B : Option Addr} {n c m d : Nat} {q : Rat} (hE : ¬ E = 0) (h : OutR w (.agg #[.bool b, .slice A n c, .slice B m d]) E q) : n = 0 ∧ m = 0 := by
  unfold OutR at h
  rw [if_neg hE] at h
  obtain ⟨vp, vq, e, ha, hb⟩ := h
  obtain ⟨A', c', rfl, -⟩ := in_open ha
  obtain ⟨B', d', rfl, -⟩ := in_open hb
  injection e with e
  have e1 := congrArg (fun x => x[1]?) e
  have e2 := congrArg (fun x => x[2]?) e
  simp at e1 e2
  exact ⟨e1.2.1, e2.2.1⟩
/-! ### The numbers -/
def sdM : Nat := 1099511627776 * 998001
theorem sd_fr {f r c : Int} (hk : ckW f r c = 0) : Fr (1 * (1000000 - kI r c).toNat) sdM (sdV f r c) ∧ 1 * (1000000 - kI r c).toNat ≤ 1000000 := by
  obtain ⟨hf, hr, hc⟩ := ckW_of hk
  have hl := kI_lim hr hc
  have hM : MM = 1099511627776 := rfl
  have F1 := (mkV_fr (p := f) (q := 1) hf.1 (by decide)).le (N := 1099511627776) (by have h9 := hf.2; omega)
  have F2 := (mkV_fr (p := kI r c) (q := 1000000 - kI r c) hl.1 (by omega)).le (N := 998001) (by omega)
  exact ⟨F1.mul F2, by omega⟩
theorem sd_lims : sdM < lim8 ∧ 1000000 < lim8 ∧ lim8 < big48 := by decide +kernel
theorem sd_small {f r c : Int} (hk : ckW f r c = 0) : fitR (sdV f r c) = true ∧ 0 ≤ (sdV f r c).num ∧ (sdV f r c).den < lim8 ∧ (sdV f r c).num.natAbs < lim8 := by
  obtain ⟨hf, hr, hc⟩ := ckW_of hk
  have hl := kI_lim hr hc
  obtain ⟨h1, h2⟩ := sd_fr hk
  obtain ⟨l1, l2, l3⟩ := sd_lims
  have h3 := h1.den
  have h4 : (0 : Rat) ≤ sdV f r c := Rat.mul_nonneg (mkV_nn hf.1 (by decide)) (mkV_nn hl.1 (by omega))
  refine ⟨fitR_iff.mpr ⟨?_, ?_⟩, Rat.num_nonneg.mpr h4, ?_, ?_⟩ <;> omega
theorem sub_fr {B C M N : Nat} {q r : Rat} (h : Fr B M q) (k : Fr C N r) : Fr (B * C) (M * C + N * B) (subOp q r) := by
  have h1 := h.up k.pos
  have h2 := k.up h.pos
  rw [Nat.mul_comm C B] at h2
  exact h1.add h2.neg
/-- What the law of rest reckons fits. -/
structure Sdy (f r c : Int) (q : Rat) : Prop where
  s1 : subOk q (sdV f r c) = true
  fd : fitR (subOp q (sdV f r c)) = true
  fk : fitR (mkV (kI r c) 1000000) = true
  mo : mulOk (subOp q (sdV f r c)) (mkV (kI r c) 1000000) = true
  fx : fitR (afV f r c q) = true
  s2 : subOk (afV f r c q) (sdV f r c) = true
theorem sdy_mx : ∀ B M C N, B ≤ lim8 → M ≤ lim8 → C ≤ 1000000 → N ≤ sdM → ((M * C + N * B) * 998001 < big48 ∧ B * C * 1000000 < big48) ∧ ((1099511627776 * B + M) * 1000 * 1000 * C + N * (B * 1000 * 1000) < big48 ∧ B * 1000 * 1000 * C < big48) := by
  intro B M C N h1 h2 h3 h4
  have a1 : M * C ≤ lim8 * 1000000 := Nat.mul_le_mul h2 h3
  have a2 : N * B ≤ sdM * lim8 := Nat.mul_le_mul h4 h1
  have a3 : B * C ≤ lim8 * 1000000 := Nat.mul_le_mul h1 h3
  have a4 : (1099511627776 * B + M) * 1000 * 1000 ≤ 1099511627777 * lim8 * 1000 * 1000 := by omega
  have a5 : (1099511627776 * B + M) * 1000 * 1000 * C ≤ 1099511627777 * lim8 * 1000 * 1000 * 1000000 := Nat.mul_le_mul a4 h3
  have a6 : N * (B * 1000 * 1000) ≤ sdM * (lim8 * 1000 * 1000) := Nat.mul_le_mul h4 (by omega)
  have a7 : B * 1000 * 1000 * C ≤ lim8 * 1000 * 1000 * 1000000 := Nat.mul_le_mul (by omega) h3
  have k1 : (lim8 * 1000000 + sdM * lim8) * 998001 < big48 := by decide +kernel
  have k2 : lim8 * 1000000 * 1000000 < big48 := by decide +kernel
  have k3 : 1099511627777 * lim8 * 1000 * 1000 * 1000000 + sdM * (lim8 * 1000 * 1000) < big48 := by decide +kernel
  have k4 : lim8 * 1000 * 1000 * 1000000 < big48 := by decide +kernel
  exact ⟨⟨Nat.lt_of_le_of_lt (Nat.mul_le_mul_right _ (Nat.add_le_add a1 a2)) k1, Nat.lt_of_le_of_lt (Nat.mul_le_mul_right _ a3) k2⟩, Nat.lt_of_le_of_lt (Nat.add_le_add a5 a6) k3, Nat.lt_of_le_of_lt a7 k4⟩
theorem Sdy.mk' {f r c : Int} {q : Rat} (h1 : q.den < lim8) (h2 : q.num.natAbs < lim8) (hk : ckW f r c = 0) : Sdy f r c q := by
  obtain ⟨hf, hr, hc⟩ := ckW_of hk
  have hl := kI_lim hr hc
  have hq := fr_self q
  obtain ⟨hs, hC⟩ := sd_fr hk
  obtain ⟨C, hCC⟩ : ∃ C, 1 * (1000000 - kI r c).toNat = C := ⟨_, rfl⟩
  rw [hCC] at hs hC
  obtain ⟨⟨b1, b2⟩, b3, b4⟩ := sdy_mx q.den q.num.natAbs C sdM (by omega) (by omega) hC (Nat.le_refl _)
  have HD := sub_fr hq hs
  have HK := (mkV_fr (p := kI r c) (q := 1000000) hl.1 (by decide)).le (N := 998001) (by omega)
  have HK' : Fr 1000000 998001 (mkV (kI r c) 1000000) := HK
  have HA := (re_fr (hd_fr hq hf) (r := r) (by omega)).mul (k_fr (k := c) (by omega))
  have l3 := sd_lims.2.2
  have l4 : (998001 : Nat) < big48 ∧ 1000000 < big48 := by decide +kernel
  have c1 : (q.num.natAbs * C + sdM * q.den) * 1 ≤ (q.num.natAbs * C + sdM * q.den) * 998001 := Nat.mul_le_mul_left _ (by decide)
  have c2 : q.den * C * 1 ≤ q.den * C * 1000000 := Nat.mul_le_mul_left _ (by decide)
  have c3 : q.den * 1000 * 1000 * 1 ≤ q.den * 1000 * 1000 * C := Nat.mul_le_mul_left _ hs.pos
  have c4 : (1099511627776 * q.den + q.num.natAbs) * 1000 * 1000 * 1 ≤ (1099511627776 * q.den + q.num.natAbs) * 1000 * 1000 * C := Nat.mul_le_mul_left _ hs.pos
  refine ⟨hq.sub_ok hs (by omega) (by omega), HD.fit (by omega) (by omega), HK'.fit l4.2 l4.1, HD.mul_ok HK' b1 b2, HA.fit (by omega) (by omega), HA.sub_ok hs (by omega) b4⟩
/-! ### What is called -/
theorem steady_calls (KK : WeKit) {f r c : Int} (hk : ckW f r c = 0) : ∃ pa se vf,
    (∀ W : World, Calls Try.prog 13 #[.agg #[.int .i64 f, .int .i64 r, .int .i64 c]] W fun e w' => e = .returned (.int .i64 0) ∧ Below W.heap.size W w') ∧
    (∀ (v : Value) (W : World), IsR W v (sdV f r c) → Calls Try.prog 23 #[v] W fun e w' => e = .returned (.bool true) ∧ Below W.heap.size W w') ∧
    (∀ (v : Value) (W : World), IsR W v (sdV f r c) → Calls Try.prog 24 #[v] W fun e w' => e = .returned (.int .i64 0) ∧ Below W.heap.size W w') ∧
    (∀ (v : Value) (W : World), IsR W v (sdV f r c) → Calls Try.prog 17 #[.agg #[.int .i64 f, .int .i64 r, .int .i64 c], v] W (RRet4 W 0 pa se (sdV f r c))) ∧
    (∀ (v : Value) (W : World), IsR W v pa → Calls Try.prog 23 #[v] W fun e w' => e = .returned (.bool true) ∧ Below W.heap.size W w') ∧
    (∀ (v : Value) (W : World), IsR W v se → Calls Try.prog 23 #[v] W fun e w' => e = .returned (.bool true) ∧ Below W.heap.size W w') ∧
    (∀ (v u : Value) (W : World), IsR W v pa → IsR W u se → Calls Try.prog 25 #[v, u] W (RRes W 0 vf)) ∧
    (∀ W : World, Calls Try.prog 26 #[.int .i64 f] W (RRet W vf)) := by
  obtain ⟨hf, hr, hc⟩ := ckW_of hk
  obtain ⟨h1, h2, h3, h4⟩ := sd_small hk
  have hB := Bal.mk' (f := f) (r := r) (c := c) h3 h4 hk
  obtain ⟨e1, e2⟩ := steady (f := f) hr hc
  refine ⟨paV f r (sdV f r c), seV f r c (sdV f r c), mkV f 1, fun W => ?_, fun v W h => y_Valid h1 v W h, fun v W h => ?_, fun v W h => ?_, fun v W h => y_Valid hB.fp v W h, fun v W h => y_Valid hB.fs v W h, fun v u W h k => ?_, fun W => law_whole hf.1 hf.2 W⟩
  · have k := wr_Check f r c W
    rw [hk] at k
    exact k
  · have k := wr_White v _ _ _ W h
    rw [whE_fit h1 h2 h3 h4] at k
    exact k
  · have k := KK.step f r c v _ _ _ W h
    rw [stE_wh hk, whE_fit h1 h2 h3 h4, (form_val h1).2, e1] at k
    exact k
  · have k' := y_Add hB.fp hB.fs hB.s1 v u W h k
    rw [e2] at k'
    exact k'
theorem distance_calls (KK : WeKit) {f r c : Int} {b : Bool} {xs ys : List Int} (hk : ckW f r c = 0) (hw : whE b xs ys = 0) : ∃ q pa se x k d p, b = negR q ∧ xs = topL q ∧ ys = botL q ∧
    (∀ (v : Value) (W : World), IsR W v q → Calls Try.prog 17 #[.agg #[.int .i64 f, .int .i64 r, .int .i64 c], v] W (RRet4 W 0 pa se x)) ∧
    (∀ (v : Value) (W : World), IsR W v x → Calls Try.prog 23 #[v] W fun e w' => e = .returned (.bool true) ∧ Below W.heap.size W w') ∧
    (∀ W : World, Calls Try.prog 27 #[.int .i64 (kI r c), .int .i64 1000000] W (RRes W 0 k)) ∧
    (∀ (v u : Value) (W : World), IsR W v q → IsR W u (sdV f r c) → Calls Try.prog 28 #[v, u] W (RRes W 0 d)) ∧
    (∀ (v u : Value) (W : World), IsR W v d → IsR W u k → Calls Try.prog 29 #[v, u] W (RRes W 0 p)) ∧
    (∀ (v u : Value) (W : World), IsR W v x → IsR W u (sdV f r c) → Calls Try.prog 28 #[v, u] W (RRes W 0 p)) := by
  obtain ⟨hf, hr, hc⟩ := ckW_of hk
  obtain ⟨h1, h2, h3, h4⟩ := sd_small hk
  have hl := kI_lim hr hc
  obtain ⟨q, fq, rfl, rfl, rfl, q0, q1, q2⟩ := wh_fr hw
  have hS := Sdy.mk' (f := f) (r := r) (c := c) q1 q2 hk
  refine ⟨q, paV f r q, seV f r c q, afV f r c q, mkV (kI r c) 1000000, subOp q (sdV f r c), subOp q (sdV f r c) * mkV (kI r c) 1000000, rfl, rfl, rfl, fun v W h => ?_, fun v W h => y_Valid hS.fx v W h, fun W => y_Make hl.1 (by omega) (by decide) (by decide) W, fun v u W h k => y_Sub fq h1 hS.s1 v u W h k, fun v u W h k => y_Mul hS.fd hS.fk hS.mo v u W h k, fun v u W h k => ?_⟩
  · have k := KK.step f r c v _ _ _ W h
    rw [stE_wh hk, hw, (form_val fq).2] at k
    exact k
  · have k' := y_Sub hS.fx h1 hS.s2 v u W h k
    rw [← distance (f := f) (W := q) hr hc] at k'
    exact k'
set_option maxHeartbeats 6400000 in
theorem walk_WetSteady (KK : WeKit) (w : World) (f r c : Int) (v : Value) (b : Bool) (xs ys : List Int) (hv : InR w v b xs ys) :
    Calls Try.prog 7 #[.agg #[.int .i64 f, .int .i64 r, .int .i64 c], v] w fun e w' => e = .returned (.bool true) ∧ Below w.heap.size w w' := by
  have KQ := Lib.hid KK.awake
  have KL := Lib.hid fun (v : Value) (W : World) (h : InR W v b xs ys) => law_light v b xs ys W h
  have KV := Lib.hid fun (v : Value) (W : World) (h : InR W v b xs ys) => wr_White v b xs ys W h
  have K0 := Lib.hid fun (W : World) => KK.steady f r c W
  have K2 := Lib.hid fun (hk : ckW f r c = 0) (hw : whE b xs ys = 0) => distance_calls KK hk hw
  obtain ⟨g, hg⟩ : ∃ x, ligB xs ys = x := ⟨_, rfl⟩
  obtain ⟨G, hG⟩ : ∃ x, whE b xs ys = x := ⟨_, rfl⟩
  rw [hg] at KL
  rw [hG] at KV K2
  clear hg hG
  have R0 := Lib.hid hv
  obtain ⟨vp, vq, rfl, ha, hb⟩ := hv
  obtain ⟨A0, c0, rfl, -⟩ := in_open ha
  obtain ⟨B0, d0, rfl, -⟩ := in_open hb
  obtain ⟨n0, hn0⟩ : ∃ n, xs.length = n := ⟨_, rfl⟩
  obtain ⟨m0, hm0⟩ : ∃ n, ys.length = n := ⟨_, rfl⟩
  rw [hn0, hm0] at R0 ⊢
  have HB := Lib.hid (Below.refl w.heap.size w)
  clear ha hb hn0 hm0
  by_cases hk : ckW f r c = 0
  rotate_left
  · obtain ⟨E, hE⟩ : ∃ x, ckW f r c = x := ⟨_, rfl⟩
    rw [hE] at K0 hk
    obtain ⟨y1, y2⟩ := ne_zero hk
    clear hE K2
    go_enter Try.func7, Try.ntmps7
    go_upto_region 1 with fail
    obtain ⟨w1, gx, hw, hgx, cw, cx, hb⟩ := two_in w (.int .i64 f) (.int .i64 r) (.int .i64 c) (.bool b) (.slice A0 n0 c0) (.slice B0 m0 d0)
    have CW := Lib.hid cw
    have CX := Lib.hid cx
    replace HB := Lib.hid (bstep HB.out hb)
    replace R0 := Lib.hid (R0.out.on hb)
    rw [hgx]
    rw [hw]
    clear hw hb hgx cw cx
    obtain ⟨x00, x01, x02⟩ := CW.out.three
    go_wp2_with fail
    refine (K0.out _).mono ?_
    rintro e w2 h
    obtain ⟨b1, A1, n1, c1, B1, m1, d1, rfl, ho, hb⟩ := h.open_
    replace HB := Lib.hid (bstep HB.out hb)
    replace R0 := Lib.hid (R0.out.on hb)
    replace CW := Lib.hid (CW.out.on hb)
    replace CX := Lib.hid (CX.out.on hb)
    obtain ⟨rfl, rfl⟩ := out_lens hk ho
    clear h ho hb
    clear x00 x01 x02
    go_upto_region 2 with fail
    obtain ⟨w3, g1, hw, hg1, h1, hb⟩ := solo w2 (.bool b1) (.slice A1 0 c1) (.slice B1 0 d1)
    first | rw [hg1] | skip
    rw [hw]
    replace HB := Lib.hid (bstep HB.out hb)
    replace R0 := Lib.hid (R0.out.on hb)
    replace CW := Lib.hid (CW.out.on hb)
    replace CX := Lib.hid (CX.out.on hb)
    have G1 := Lib.hid h1
    clear hw hg1 h1 hb
    obtain ⟨x00, x01, x02⟩ := G1.out.three
    go_wp2_with fail
    refine (KQ.out _).mono ?_
    rintro e wq ⟨rfl, hb⟩
    have HF := Lib.hid (bstep HB.out hb)
    clear hb
    go_wp2_with fail
    go_ret
    exact ⟨rfl, HF.out⟩
  rw [hk] at K0
  replace K2 := Lib.hid (K2.out hk)
  obtain ⟨pa, se, vf, kc, kv, kw, ks, kpa, kse, ka, kf⟩ := steady_calls KK hk
  have KC := Lib.hid kc
  have KV0 := Lib.hid kv
  have KW0 := Lib.hid kw
  have KS := Lib.hid ks
  have KPA := Lib.hid kpa
  have KSE := Lib.hid kse
  have KA := Lib.hid ka
  have KF := Lib.hid kf
  have HK := Lib.hid hk
  clear kc kv kw ks kpa kse ka kf hk
  obtain ⟨s, hs⟩ : ∃ x, sdV f r c = x := ⟨_, rfl⟩
  rw [hs] at K0 KV0 KW0 KS K2
  clear hs
  go_enter Try.func7, Try.ntmps7
  go_upto_region 1 with fail
  obtain ⟨w1, gx, hw, hgx, cw, cx, hb⟩ := two_in w (.int .i64 f) (.int .i64 r) (.int .i64 c) (.bool b) (.slice A0 n0 c0) (.slice B0 m0 d0)
  have CW := Lib.hid cw
  have CX := Lib.hid cx
  replace HB := Lib.hid (bstep HB.out hb)
  replace R0 := Lib.hid (R0.out.on hb)
  rw [hgx]
  rw [hw]
  clear hw hb hgx cw cx
  obtain ⟨x00, x01, x02⟩ := CW.out.three
  go_wp2_with fail
  refine (K0.out _).mono ?_
  rintro e w2 h
  obtain ⟨b1, A1, n1, c1, B1, m1, d1, rfl, ho, hb⟩ := h.open_
  replace HB := Lib.hid (bstep HB.out hb)
  replace R0 := Lib.hid (R0.out.on hb)
  replace CW := Lib.hid (CW.out.on hb)
  replace CX := Lib.hid (CX.out.on hb)
  have R1 := Lib.hid (out_zero ho)
  clear h ho hb
  clear x00 x01 x02
  go_upto_region 2 with fail
  obtain ⟨w3, g1, hw, hg1, h1, hb⟩ := solo w2 (.bool b1) (.slice A1 n1 c1) (.slice B1 m1 d1)
  first | rw [hg1] | skip
  rw [hw]
  replace HB := Lib.hid (bstep HB.out hb)
  replace R0 := Lib.hid (R0.out.on hb)
  replace CW := Lib.hid (CW.out.on hb)
  replace CX := Lib.hid (CX.out.on hb)
  replace R1 := Lib.hid (R1.out.on hb)
  have G1 := Lib.hid h1
  clear hw hg1 h1 hb
  obtain ⟨x00, x01, x02⟩ := CW.out.three
  obtain ⟨x10, x11, x12⟩ := G1.out.three
  go_wp2_with fail
  refine (KC.out _).mono ?_
  rintro e w4 ⟨rfl, hb⟩
  replace HB := Lib.hid (bstep HB.out hb)
  replace R0 := Lib.hid (R0.out.on hb)
  replace CW := Lib.hid (CW.out.on hb)
  replace CX := Lib.hid (CX.out.on hb)
  replace R1 := Lib.hid (R1.out.on hb)
  replace G1 := Lib.hid (G1.out.on hb)
  clear hb
  clear x00 x01 x02 x10 x11 x12
  obtain ⟨x00, x01, x02⟩ := CW.out.three
  obtain ⟨x10, x11, x12⟩ := G1.out.three
  go_wp2_with fail
  refine (KV0.out _ _ R1.out).mono ?_
  rintro e w5 ⟨rfl, hb⟩
  replace HB := Lib.hid (bstep HB.out hb)
  replace R0 := Lib.hid (R0.out.on hb)
  replace CW := Lib.hid (CW.out.on hb)
  replace CX := Lib.hid (CX.out.on hb)
  replace R1 := Lib.hid (R1.out.on hb)
  replace G1 := Lib.hid (G1.out.on hb)
  clear hb
  clear x00 x01 x02 x10 x11 x12
  obtain ⟨x00, x01, x02⟩ := CW.out.three
  obtain ⟨x10, x11, x12⟩ := G1.out.three
  go_wp2_with fail
  refine (KW0.out _ _ R1.out).mono ?_
  rintro e w6 ⟨rfl, hb⟩
  replace HB := Lib.hid (bstep HB.out hb)
  replace R0 := Lib.hid (R0.out.on hb)
  replace CW := Lib.hid (CW.out.on hb)
  replace CX := Lib.hid (CX.out.on hb)
  replace R1 := Lib.hid (R1.out.on hb)
  replace G1 := Lib.hid (G1.out.on hb)
  clear hb
  clear x00 x01 x02 x10 x11 x12
  obtain ⟨x00, x01, x02⟩ := CW.out.three
  obtain ⟨x10, x11, x12⟩ := G1.out.three
  go_wp2_with fail
  refine (KS.out _ _ R1.out).mono ?_
  rintro e w7 ⟨b2, A2, n2, c2, B2, m2, d2, b3, A3, n3, c3, B3, m3, d3, b4, A4, n4, c4, B4, m4, d4, rfl, hp, hq, hr, hb⟩
  replace HB := Lib.hid (bstep HB.out hb)
  replace R0 := Lib.hid (R0.out.on hb)
  replace CW := Lib.hid (CW.out.on hb)
  replace CX := Lib.hid (CX.out.on hb)
  replace R1 := Lib.hid (R1.out.on hb)
  replace G1 := Lib.hid (G1.out.on hb)
  have R2 := Lib.hid (out_zero hp)
  have R3 := Lib.hid (out_zero hq)
  have R4 := Lib.hid (out_zero hr)
  clear hp hq hr hb
  clear x00 x01 x02 x10 x11 x12
  go_upto_region 7 with fail
  obtain ⟨w8, g2, g3, g4, hw, hg1, hg2, hg3, h1, h2, h3, hb⟩ := trio w7 (.bool b2) (.slice A2 n2 c2) (.slice B2 m2 d2) (.bool b3) (.slice A3 n3 c3) (.slice B3 m3 d3) (.bool b4) (.slice A4 n4 c4) (.slice B4 m4 d4)
  first | rw [hg1, hg2, hg3] | rw [hg1, hg2] | rw [hg1] | skip
  rw [hw]
  replace HB := Lib.hid (bstep HB.out hb)
  replace R0 := Lib.hid (R0.out.on hb)
  replace CW := Lib.hid (CW.out.on hb)
  replace CX := Lib.hid (CX.out.on hb)
  replace R1 := Lib.hid (R1.out.on hb)
  replace G1 := Lib.hid (G1.out.on hb)
  replace R2 := Lib.hid (R2.out.on hb)
  replace R3 := Lib.hid (R3.out.on hb)
  replace R4 := Lib.hid (R4.out.on hb)
  have G2 := Lib.hid h1
  have G3 := Lib.hid h2
  have G4 := Lib.hid h3
  clear hw hg1 hg2 hg3 h1 h2 h3 hb
  obtain ⟨x00, x01, x02⟩ := G2.out.three
  obtain ⟨x10, x11, x12⟩ := G3.out.three
  go_wp2_with fail
  refine (KPA.out _ _ R2.out).mono ?_
  rintro e w9 ⟨rfl, hb⟩
  replace HB := Lib.hid (bstep HB.out hb)
  replace R0 := Lib.hid (R0.out.on hb)
  replace CW := Lib.hid (CW.out.on hb)
  replace CX := Lib.hid (CX.out.on hb)
  replace R1 := Lib.hid (R1.out.on hb)
  replace G1 := Lib.hid (G1.out.on hb)
  replace R2 := Lib.hid (R2.out.on hb)
  replace R3 := Lib.hid (R3.out.on hb)
  replace R4 := Lib.hid (R4.out.on hb)
  replace G2 := Lib.hid (G2.out.on hb)
  replace G3 := Lib.hid (G3.out.on hb)
  replace G4 := Lib.hid (G4.out.on hb)
  clear hb
  clear x00 x01 x02 x10 x11 x12
  obtain ⟨x00, x01, x02⟩ := G2.out.three
  obtain ⟨x10, x11, x12⟩ := G3.out.three
  go_wp2_with fail
  refine (KSE.out _ _ R3.out).mono ?_
  rintro e w10 ⟨rfl, hb⟩
  replace HB := Lib.hid (bstep HB.out hb)
  replace R0 := Lib.hid (R0.out.on hb)
  replace CW := Lib.hid (CW.out.on hb)
  replace CX := Lib.hid (CX.out.on hb)
  replace R1 := Lib.hid (R1.out.on hb)
  replace G1 := Lib.hid (G1.out.on hb)
  replace R2 := Lib.hid (R2.out.on hb)
  replace R3 := Lib.hid (R3.out.on hb)
  replace R4 := Lib.hid (R4.out.on hb)
  replace G2 := Lib.hid (G2.out.on hb)
  replace G3 := Lib.hid (G3.out.on hb)
  replace G4 := Lib.hid (G4.out.on hb)
  clear hb
  clear x00 x01 x02 x10 x11 x12
  obtain ⟨x00, x01, x02⟩ := G2.out.three
  obtain ⟨x10, x11, x12⟩ := G3.out.three
  go_wp2_with fail
  refine (KA.out _ _ _ R2.out R3.out).mono ?_
  rintro e w11 h
  obtain ⟨b5, A5, n5, c5, B5, m5, d5, rfl, ho, hb⟩ := h.open_
  replace HB := Lib.hid (bstep HB.out hb)
  replace R0 := Lib.hid (R0.out.on hb)
  replace CW := Lib.hid (CW.out.on hb)
  replace CX := Lib.hid (CX.out.on hb)
  replace R1 := Lib.hid (R1.out.on hb)
  replace G1 := Lib.hid (G1.out.on hb)
  replace R2 := Lib.hid (R2.out.on hb)
  replace R3 := Lib.hid (R3.out.on hb)
  replace R4 := Lib.hid (R4.out.on hb)
  replace G2 := Lib.hid (G2.out.on hb)
  replace G3 := Lib.hid (G3.out.on hb)
  replace G4 := Lib.hid (G4.out.on hb)
  have R5 := Lib.hid (out_zero ho)
  clear h ho hb
  clear x00 x01 x02 x10 x11 x12
  go_upto_region 10 with fail
  obtain ⟨w12, g5, hw, hg1, h1, hb⟩ := solo w11 (.bool b5) (.slice A5 n5 c5) (.slice B5 m5 d5)
  first | rw [hg1] | skip
  rw [hw]
  replace HB := Lib.hid (bstep HB.out hb)
  replace R0 := Lib.hid (R0.out.on hb)
  replace CW := Lib.hid (CW.out.on hb)
  replace CX := Lib.hid (CX.out.on hb)
  replace R1 := Lib.hid (R1.out.on hb)
  replace G1 := Lib.hid (G1.out.on hb)
  replace R2 := Lib.hid (R2.out.on hb)
  replace R3 := Lib.hid (R3.out.on hb)
  replace R4 := Lib.hid (R4.out.on hb)
  replace G2 := Lib.hid (G2.out.on hb)
  replace G3 := Lib.hid (G3.out.on hb)
  replace G4 := Lib.hid (G4.out.on hb)
  replace R5 := Lib.hid (R5.out.on hb)
  have G5 := Lib.hid h1
  clear hw hg1 h1 hb
  have E1 := Lib.hid fun (W : World) (h : Below w12.heap.size w12 W) => same_is (R4.out.on h) (R1.out.on h)
  have E2 := Lib.hid fun (u : Value) (W : World) (h : Below w12.heap.size w12 W) (h2 : IsR W u vf) => same_is (R5.out.on h) h2
  have HC : Hid (∀ W, Below w12.heap.size w12 W → W.cell? ⟨w.heap.size, 0, none⟩ = some (.int .i64 f) ∧ W.cell? ⟨g4, 0, none⟩ = some (.bool b4) ∧ W.cell? ⟨g4, 1, none⟩ = some (.slice A4 n4 c4) ∧ W.cell? ⟨g4, 2, none⟩ = some (.slice B4 m4 d4) ∧ W.cell? ⟨g1, 0, none⟩ = some (.bool b1) ∧ W.cell? ⟨g1, 1, none⟩ = some (.slice A1 n1 c1) ∧ W.cell? ⟨g1, 2, none⟩ = some (.slice B1 m1 d1) ∧ W.cell? ⟨g5, 0, none⟩ = some (.bool b5) ∧ W.cell? ⟨g5, 1, none⟩ = some (.slice A5 n5 c5) ∧ W.cell? ⟨g5, 2, none⟩ = some (.slice B5 m5 d5)) := Lib.hid fun W h => by
    obtain ⟨y00, y01, y02⟩ := (CW.out.on h).three
    obtain ⟨y10, y11, y12⟩ := (G4.out.on h).three
    obtain ⟨y20, y21, y22⟩ := (G1.out.on h).three
    obtain ⟨y30, y31, y32⟩ := (G5.out.on h).three
    exact ⟨y00, y10, y11, y12, y20, y21, y22, y30, y31, y32⟩
  have HBL := Lib.hid (Below.refl w12.heap.size w12)
  have RW : Hid True := Lib.hid trivial
  obtain ⟨y00, y10, y11, y12, y20, y21, y22, y30, y31, y32⟩ := HC.out w12 HBL.out
  go_region_held3 (fun W => W.cell? ⟨w.heap.size, 0, none⟩ = some (.int .i64 f) ∧ W.cell? ⟨g4, 0, none⟩ = some (.bool b4) ∧ W.cell? ⟨g4, 1, none⟩ = some (.slice A4 n4 c4) ∧ W.cell? ⟨g4, 2, none⟩ = some (.slice B4 m4 d4) ∧ W.cell? ⟨g1, 0, none⟩ = some (.bool b1) ∧ W.cell? ⟨g1, 1, none⟩ = some (.slice A1 n1 c1) ∧ W.cell? ⟨g1, 2, none⟩ = some (.slice B1 m1 d1) ∧ W.cell? ⟨g5, 0, none⟩ = some (.bool b5) ∧ W.cell? ⟨g5, 1, none⟩ = some (.slice A5 n5 c5) ∧ W.cell? ⟨g5, 2, none⟩ = some (.slice B5 m5 d5))
    (first | with_reducible exact HC.out _ HBL.out | with_reducible exact HC.out _ (bstep HBL.out (drew_below _)))
    (first
      | (go_at_call 14; (with_reducible refine (E1.out _ (bstep HBL.out (drew_below w12))).mono ?_); rintro e wa ⟨rfl, hba⟩; (replace HBL := Lib.hid (bstep (bstep HBL.out (drew_below _)) hba)); clear hba)
      | (go_at_call 26; (with_reducible refine (KF.out _).mono ?_); rintro e wa ⟨b6, A6, n6, c6, B6, m6, d6, rfl, hW, hba⟩; (replace RW := Lib.hid hW); (replace HBL := Lib.hid (bstep HBL.out hba)); clear hba hW)
      | (go_at_call 14; (with_reducible refine (E2.out _ _ HBL.out RW.out).mono ?_); rintro e wa ⟨rfl, hba⟩; (replace HBL := Lib.hid (bstep HBL.out hba)); clear hba))
  clear y00 y10 y11 y12 y20 y21 y22 y30 y31 y32 E1 E2 HC RW
  obtain ⟨wz, rfl⟩ : ∃ W, W = wa := ⟨wa, rfl⟩
  have hb := HBL.out
  clear HBL
  replace HB := Lib.hid (bstep HB.out hb)
  replace R0 := Lib.hid (R0.out.on hb)
  replace CW := Lib.hid (CW.out.on hb)
  replace CX := Lib.hid (CX.out.on hb)
  replace R1 := Lib.hid (R1.out.on hb)
  replace G1 := Lib.hid (G1.out.on hb)
  clear hb
  obtain ⟨x00, x01, x02⟩ := CX.out.three
  go_wp2_with fail
  refine (KL.out _ _ R0.out).mono ?_
  rintro e w13 ⟨rfl, hb⟩
  replace HB := Lib.hid (bstep HB.out hb)
  replace R0 := Lib.hid (R0.out.on hb)
  replace CW := Lib.hid (CW.out.on hb)
  replace CX := Lib.hid (CX.out.on hb)
  replace R1 := Lib.hid (R1.out.on hb)
  replace G1 := Lib.hid (G1.out.on hb)
  clear hb
  clear x00 x01 x02
  cases g with
  | false =>
    go_wp2_with fail
    refine (KQ.out _).mono ?_
    rintro e wq ⟨rfl, hb⟩
    have HF := Lib.hid (bstep HB.out hb)
    clear hb
    go_wp2_with fail
    go_ret
    exact ⟨rfl, HF.out⟩
  | true =>
  obtain ⟨x00, x01, x02⟩ := CX.out.three
  go_wp2_with fail
  refine (KV.out _ _ R0.out).mono ?_
  rintro e w14 ⟨rfl, hb⟩
  replace HB := Lib.hid (bstep HB.out hb)
  replace R0 := Lib.hid (R0.out.on hb)
  replace CW := Lib.hid (CW.out.on hb)
  replace CX := Lib.hid (CX.out.on hb)
  replace R1 := Lib.hid (R1.out.on hb)
  replace G1 := Lib.hid (G1.out.on hb)
  clear hb
  clear x00 x01 x02
  by_cases hz : G = 0
  rotate_left
  · obtain ⟨y1, y2⟩ := ne_zero hz
    go_wp2_with fail
    refine (KQ.out _).mono ?_
    rintro e wq ⟨rfl, hb⟩
    have HF := Lib.hid (bstep HB.out hb)
    clear hb
    go_wp2_with fail
    go_ret
    exact ⟨rfl, HF.out⟩
  subst hz
  obtain ⟨q, pa2, se2, x, k, d, p, rfl, rfl, rfl, k1, kx, km, kd, kp, kr⟩ := K2.out rfl
  have K1 := Lib.hid k1
  have KX := Lib.hid kx
  have KM := Lib.hid km
  have KD := Lib.hid kd
  have KP := Lib.hid kp
  have KR := Lib.hid kr
  clear k1 kx km kd kp kr K2 KV KL
  replace R0 : Hid (IsR w14 (.agg #[.bool (negR q), .slice A0 n0 c0, .slice B0 m0 d0]) q) := Lib.hid R0.out
  obtain ⟨x00, x01, x02⟩ := CW.out.three
  obtain ⟨x10, x11, x12⟩ := CX.out.three
  go_wp2_with fail
  refine (K1.out _ _ R0.out).mono ?_
  rintro e w15 ⟨b7, A7, n7, c7, B7, m7, d7, b8, A8, n8, c8, B8, m8, d8, b9, A9, n9, c9, B9, m9, d9, rfl, hp, hq, hr, hb⟩
  replace HB := Lib.hid (bstep HB.out hb)
  replace R0 := Lib.hid (R0.out.on hb)
  replace CW := Lib.hid (CW.out.on hb)
  replace CX := Lib.hid (CX.out.on hb)
  replace R1 := Lib.hid (R1.out.on hb)
  replace G1 := Lib.hid (G1.out.on hb)
  have R9 := Lib.hid (out_zero hr)
  clear hp hq hr hb
  clear x00 x01 x02 x10 x11 x12
  go_upto_region 15 with fail
  obtain ⟨w16, g7, g8, g9, hw, hg1, hg2, hg3, h1, h2, h3, hb⟩ := trio w15 (.bool b7) (.slice A7 n7 c7) (.slice B7 m7 d7) (.bool b8) (.slice A8 n8 c8) (.slice B8 m8 d8) (.bool b9) (.slice A9 n9 c9) (.slice B9 m9 d9)
  first | rw [hg1, hg2, hg3] | rw [hg1, hg2] | rw [hg1] | skip
  rw [hw]
  replace HB := Lib.hid (bstep HB.out hb)
  replace R0 := Lib.hid (R0.out.on hb)
  replace CW := Lib.hid (CW.out.on hb)
  replace CX := Lib.hid (CX.out.on hb)
  replace R1 := Lib.hid (R1.out.on hb)
  replace G1 := Lib.hid (G1.out.on hb)
  replace R9 := Lib.hid (R9.out.on hb)
  have G7 := Lib.hid h1
  have G8 := Lib.hid h2
  have G9 := Lib.hid h3
  clear hw hg1 hg2 hg3 h1 h2 h3 hb
  obtain ⟨x00, x01, x02⟩ := G9.out.three
  go_wp2_with fail
  refine (KX.out _ _ R9.out).mono ?_
  rintro e w17 ⟨rfl, hb⟩
  replace HB := Lib.hid (bstep HB.out hb)
  replace R0 := Lib.hid (R0.out.on hb)
  replace CW := Lib.hid (CW.out.on hb)
  replace CX := Lib.hid (CX.out.on hb)
  replace R1 := Lib.hid (R1.out.on hb)
  replace G1 := Lib.hid (G1.out.on hb)
  replace R9 := Lib.hid (R9.out.on hb)
  replace G7 := Lib.hid (G7.out.on hb)
  replace G8 := Lib.hid (G8.out.on hb)
  replace G9 := Lib.hid (G9.out.on hb)
  clear hb
  clear x00 x01 x02
  obtain ⟨hf, hr, hc⟩ := ckW_of HK.out
  have hl := kI_lim hr hc
  obtain ⟨t, ht⟩ : ∃ t, 1000 - r = t := ⟨_, rfl⟩
  obtain ⟨kk, hkk⟩ : ∃ k, t * c = k := ⟨_, rfl⟩
  have hki : kI r c = kk := by unfold kI; rw [ht, hkk]
  rw [hki] at hl KM
  have wt : IntKind.i64.wrap t = t := Rw.wrap_id (by omega)
  have wk : IntKind.i64.wrap kk = kk := Rw.wrap_id (by omega)
  clear hf hr hc hl hki
  obtain ⟨x00, x01, x02⟩ := CW.out.three
  obtain ⟨x10, x11, x12⟩ := G9.out.three
  go_wp2_with fail
  refine (KM.out _).mono ?_
  rintro e w18 h
  obtain ⟨b10, A10, n10, c10, B10, m10, d10, rfl, ho, hb⟩ := h.open_
  replace HB := Lib.hid (bstep HB.out hb)
  replace R0 := Lib.hid (R0.out.on hb)
  replace CW := Lib.hid (CW.out.on hb)
  replace CX := Lib.hid (CX.out.on hb)
  replace R1 := Lib.hid (R1.out.on hb)
  replace G1 := Lib.hid (G1.out.on hb)
  replace R9 := Lib.hid (R9.out.on hb)
  replace G7 := Lib.hid (G7.out.on hb)
  replace G8 := Lib.hid (G8.out.on hb)
  replace G9 := Lib.hid (G9.out.on hb)
  have R10 := Lib.hid (out_zero ho)
  clear h ho hb
  clear x00 x01 x02 x10 x11 x12
  clear ht hkk wt wk
  go_upto_region 18 with fail
  obtain ⟨w19, g10, hw, hg1, h1, hb⟩ := solo w18 (.bool b10) (.slice A10 n10 c10) (.slice B10 m10 d10)
  first | rw [hg1] | skip
  rw [hw]
  replace HB := Lib.hid (bstep HB.out hb)
  replace R0 := Lib.hid (R0.out.on hb)
  replace CW := Lib.hid (CW.out.on hb)
  replace CX := Lib.hid (CX.out.on hb)
  replace R1 := Lib.hid (R1.out.on hb)
  replace G1 := Lib.hid (G1.out.on hb)
  replace R9 := Lib.hid (R9.out.on hb)
  replace G7 := Lib.hid (G7.out.on hb)
  replace G8 := Lib.hid (G8.out.on hb)
  replace G9 := Lib.hid (G9.out.on hb)
  replace R10 := Lib.hid (R10.out.on hb)
  have G10 := Lib.hid h1
  clear hw hg1 h1 hb
  obtain ⟨x00, x01, x02⟩ := CX.out.three
  obtain ⟨x10, x11, x12⟩ := G1.out.three
  go_wp2_with fail
  refine (KD.out _ _ _ R0.out R1.out).mono ?_
  rintro e w20 h
  obtain ⟨b11, A11, n11, c11, B11, m11, d11, rfl, ho, hb⟩ := h.open_
  replace HB := Lib.hid (bstep HB.out hb)
  replace R0 := Lib.hid (R0.out.on hb)
  replace CW := Lib.hid (CW.out.on hb)
  replace CX := Lib.hid (CX.out.on hb)
  replace R1 := Lib.hid (R1.out.on hb)
  replace G1 := Lib.hid (G1.out.on hb)
  replace R9 := Lib.hid (R9.out.on hb)
  replace G7 := Lib.hid (G7.out.on hb)
  replace G8 := Lib.hid (G8.out.on hb)
  replace G9 := Lib.hid (G9.out.on hb)
  replace R10 := Lib.hid (R10.out.on hb)
  replace G10 := Lib.hid (G10.out.on hb)
  have R11 := Lib.hid (out_zero ho)
  clear h ho hb
  clear x00 x01 x02 x10 x11 x12
  go_upto_region 19 with fail
  obtain ⟨w21, g11, hw, hg1, h1, hb⟩ := solo w20 (.bool b11) (.slice A11 n11 c11) (.slice B11 m11 d11)
  first | rw [hg1] | skip
  rw [hw]
  replace HB := Lib.hid (bstep HB.out hb)
  replace R0 := Lib.hid (R0.out.on hb)
  replace CW := Lib.hid (CW.out.on hb)
  replace CX := Lib.hid (CX.out.on hb)
  replace R1 := Lib.hid (R1.out.on hb)
  replace G1 := Lib.hid (G1.out.on hb)
  replace R9 := Lib.hid (R9.out.on hb)
  replace G7 := Lib.hid (G7.out.on hb)
  replace G8 := Lib.hid (G8.out.on hb)
  replace G9 := Lib.hid (G9.out.on hb)
  replace R10 := Lib.hid (R10.out.on hb)
  replace G10 := Lib.hid (G10.out.on hb)
  replace R11 := Lib.hid (R11.out.on hb)
  have G11 := Lib.hid h1
  clear hw hg1 h1 hb
  obtain ⟨x00, x01, x02⟩ := G11.out.three
  obtain ⟨x10, x11, x12⟩ := G10.out.three
  go_wp2_with fail
  refine (KP.out _ _ _ R11.out R10.out).mono ?_
  rintro e w22 h
  obtain ⟨b12, A12, n12, c12, B12, m12, d12, rfl, ho, hb⟩ := h.open_
  replace HB := Lib.hid (bstep HB.out hb)
  replace R0 := Lib.hid (R0.out.on hb)
  replace CW := Lib.hid (CW.out.on hb)
  replace CX := Lib.hid (CX.out.on hb)
  replace R1 := Lib.hid (R1.out.on hb)
  replace G1 := Lib.hid (G1.out.on hb)
  replace R9 := Lib.hid (R9.out.on hb)
  replace G7 := Lib.hid (G7.out.on hb)
  replace G8 := Lib.hid (G8.out.on hb)
  replace G9 := Lib.hid (G9.out.on hb)
  replace R10 := Lib.hid (R10.out.on hb)
  replace G10 := Lib.hid (G10.out.on hb)
  replace R11 := Lib.hid (R11.out.on hb)
  replace G11 := Lib.hid (G11.out.on hb)
  have R12 := Lib.hid (out_zero ho)
  clear h ho hb
  clear x00 x01 x02 x10 x11 x12
  go_upto_region 20 with fail
  obtain ⟨w23, g12, hw, hg1, h1, hb⟩ := solo w22 (.bool b12) (.slice A12 n12 c12) (.slice B12 m12 d12)
  first | rw [hg1] | skip
  rw [hw]
  replace HB := Lib.hid (bstep HB.out hb)
  replace R0 := Lib.hid (R0.out.on hb)
  replace CW := Lib.hid (CW.out.on hb)
  replace CX := Lib.hid (CX.out.on hb)
  replace R1 := Lib.hid (R1.out.on hb)
  replace G1 := Lib.hid (G1.out.on hb)
  replace R9 := Lib.hid (R9.out.on hb)
  replace G7 := Lib.hid (G7.out.on hb)
  replace G8 := Lib.hid (G8.out.on hb)
  replace G9 := Lib.hid (G9.out.on hb)
  replace R10 := Lib.hid (R10.out.on hb)
  replace G10 := Lib.hid (G10.out.on hb)
  replace R11 := Lib.hid (R11.out.on hb)
  replace G11 := Lib.hid (G11.out.on hb)
  replace R12 := Lib.hid (R12.out.on hb)
  have G12 := Lib.hid h1
  clear hw hg1 h1 hb
  obtain ⟨x00, x01, x02⟩ := G9.out.three
  obtain ⟨x10, x11, x12⟩ := G1.out.three
  go_wp2_with fail
  refine (KR.out _ _ _ R9.out R1.out).mono ?_
  rintro e w24 h
  obtain ⟨b13, A13, n13, c13, B13, m13, d13, rfl, ho, hb⟩ := h.open_
  replace HB := Lib.hid (bstep HB.out hb)
  replace R0 := Lib.hid (R0.out.on hb)
  replace CW := Lib.hid (CW.out.on hb)
  replace CX := Lib.hid (CX.out.on hb)
  replace R1 := Lib.hid (R1.out.on hb)
  replace G1 := Lib.hid (G1.out.on hb)
  replace R9 := Lib.hid (R9.out.on hb)
  replace G7 := Lib.hid (G7.out.on hb)
  replace G8 := Lib.hid (G8.out.on hb)
  replace G9 := Lib.hid (G9.out.on hb)
  replace R10 := Lib.hid (R10.out.on hb)
  replace G10 := Lib.hid (G10.out.on hb)
  replace R11 := Lib.hid (R11.out.on hb)
  replace G11 := Lib.hid (G11.out.on hb)
  replace R12 := Lib.hid (R12.out.on hb)
  replace G12 := Lib.hid (G12.out.on hb)
  have R13 := Lib.hid (out_zero ho)
  clear h ho hb
  clear x00 x01 x02 x10 x11 x12
  go_upto_region 21 with fail
  obtain ⟨w25, g13, hw, hg1, h1, hb⟩ := solo w24 (.bool b13) (.slice A13 n13 c13) (.slice B13 m13 d13)
  first | rw [hg1] | skip
  rw [hw]
  replace HB := Lib.hid (bstep HB.out hb)
  replace R0 := Lib.hid (R0.out.on hb)
  replace CW := Lib.hid (CW.out.on hb)
  replace CX := Lib.hid (CX.out.on hb)
  replace R1 := Lib.hid (R1.out.on hb)
  replace G1 := Lib.hid (G1.out.on hb)
  replace R9 := Lib.hid (R9.out.on hb)
  replace G7 := Lib.hid (G7.out.on hb)
  replace G8 := Lib.hid (G8.out.on hb)
  replace G9 := Lib.hid (G9.out.on hb)
  replace R10 := Lib.hid (R10.out.on hb)
  replace G10 := Lib.hid (G10.out.on hb)
  replace R11 := Lib.hid (R11.out.on hb)
  replace G11 := Lib.hid (G11.out.on hb)
  replace R12 := Lib.hid (R12.out.on hb)
  replace G12 := Lib.hid (G12.out.on hb)
  replace R13 := Lib.hid (R13.out.on hb)
  have G13 := Lib.hid h1
  clear hw hg1 h1 hb
  obtain ⟨x00, x01, x02⟩ := G12.out.three
  obtain ⟨x10, x11, x12⟩ := G13.out.three
  go_wp2_with fail
  refine (same_is R12.out R13.out).mono ?_
  rintro e w26 ⟨rfl, hb⟩
  replace HB := Lib.hid (bstep HB.out hb)
  clear hb x00 x01 x02 x10 x11 x12
  go_wp2_with fail
  refine (KQ.out _).mono ?_
  rintro e wq ⟨rfl, hb⟩
  have HF := Lib.hid (bstep HB.out hb)
  clear hb
  go_wp2_with fail
  go_ret
  exact ⟨rfl, HF.out⟩
end Go.Proofs.Ytohfaoclemcfaaa.Wet
