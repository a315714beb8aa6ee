/- Several texts in one: WetW, WetX, WetY. -/
import Derived.Test.YtohfaoclemcfaaaPk20
import Derived.Test.YtohfaoclemcfaaaPk12
import Derived.Test.YtohfaoclemcfaaaPk1
import Derived.OpenShut
import Derived.Deep.Slices
/- The law Follows (gen20/w.py). -/
namespace Go.Proofs.Ytohfaoclemcfaaa.Wet
open Go.ChangeShapes Go.WideShapes Go.RowKit Go.Lib
open Go.Proofs.Ytohfaoclemcfaaa.Rw (ret_bool ret_int bstep below_drewN below_drew drew_below below_alloc)
set_option linter.unusedVariables false
set_option maxRecDepth 100000

theorem afE_in {f r c : Int} {b : Bool} {xs ys : List Int} {n : Int} (h : 0 ≤ n ∧ n ≤ 16) : afE f r c b xs ys n = stE f r c b xs ys := by
  unfold afE
  by_cases h1 : stE f r c b xs ys = 0
  · rw [if_pos h1, if_pos h, h1]
  · rw [if_neg h1]
theorem afN_nn {f r c : Int} {q : Rat} (hk : ckW f r c = 0) (h : 0 ≤ q) : ∀ n, 0 ≤ afN f r c q n
  | 0 => h
  | n + 1 => by
    obtain ⟨hf, hr, hc⟩ := ckW_of hk
    exact (step_nn hf.1 hr hc (afN_nn hk h n)).2.2
theorem wh_two {q : Rat} (hq : fitR q = true) (h0 : 0 ≤ q) : whE (negR q) (topL q) (botL q) = 0 ∨ whE (negR q) (topL q) (botL q) = 32 := by
  have hn : negR q = false := by
    unfold negR
    rw [decide_eq_false_iff_not]
    have := Rat.num_nonneg.mpr h0
    omega
  have hv := (form_val hq).1
  rw [hn] at hv ⊢
  by_cases h : 8 < (topL q).length ∨ 8 < (botL q).length
  · exact Or.inr (whE_l hv h)
  · exact Or.inl (whE_ok hv h)
theorem follows_calls (KK : WeKit) {f r c : Int} {b : Bool} {xs ys : List Int} {n : Int} (hst : stE f r c b xs ys = 0) (hn : 0 ≤ n ∧ n ≤ 4) : ∃ E a se, (E = 0 ∨ E = 32) ∧
    (∀ (v : Value) (W : World), IsR W v (afN f r c (ratV b xs ys) n.toNat) → Calls Try.prog 17 #[.agg #[.int .i64 f, .int .i64 r, .int .i64 c], v] W (RRet4 W E a se (afN f r c (ratV b xs ys) (n + 1).toNat))) ∧
    (∀ (v : Value) (W : World), IsR W v (paN f r c (ratV b xs ys) n.toNat) → Calls Try.prog 23 #[v] W fun e w' => e = .returned (.bool true) ∧ Below W.heap.size W w') ∧
    (∀ (v : Value) (W : World), IsR W v a → Calls Try.prog 23 #[v] W fun e w' => e = .returned (.bool true) ∧ Below W.heap.size W w') ∧
    (∀ (v u : Value) (W : World), IsR W v (paN f r c (ratV b xs ys) n.toNat) → IsR W u a → Calls Try.prog 25 #[v, u] W (RRes W 0 (paN f r c (ratV b xs ys) (n + 1).toNat))) := by
  obtain ⟨hk, hw⟩ := stE_of hst
  obtain ⟨q, fq, rfl, rfl, rfl, q0, q1, q2⟩ := wh_fr hw
  rw [(form_val fq).2]
  obtain ⟨N, rfl⟩ : ∃ N : Nat, n = N := ⟨n.toNat, by omega⟩
  have e1 : ((N : Int) + 1).toNat = N + 1 := by omega
  rw [e1, Int.toNat_natCast]
  have hW := Wn.all (f := f) (r := r) (c := c) q1 q2 hk N (by omega)
  have hs := hW.stp hk
  have hm := hW.sum hk
  have hx := afN_nn (f := f) (r := r) (c := c) hk (Rat.num_nonneg.mp q0) N
  refine ⟨_, paV f r (afN f r c q N), seV f r c (afN f r c q N), wh_two hs.fq hx, fun v W h => ?_, fun v W h => y_Valid hm.2 v W h, fun v W h => y_Valid hs.fp v W h, fun v u W h k => y_Add hm.2 hs.fp hm.1 v u W h k⟩
  have k := KK.step f r c v _ _ _ W h
  rw [stE_wh hk, (form_val hs.fq).2] at k
  exact k
set_option maxHeartbeats 6400000 in
theorem walk_WetFollows (KK : WeKit) (w : World) (f r c : Int) (v : Value) (b : Bool) (xs ys : List Int) (hv : InR w v b xs ys) (n : Int) :
    Calls Try.prog 9 #[.agg #[.int .i64 f, .int .i64 r, .int .i64 c], v, .int .i64 n] w fun e w' => e = .returned (.bool true) ∧ Below w.heap.size w w' := by
  have KQ := Lib.hid KK.awake
  have KL := Lib.hid fun (v : Value) (W : World) (h : InR W v b xs ys) => law_light v b xs ys W h
  have KX := Lib.hid fun (v : Value) (W : World) (h : InR W v b xs ys) => KK.after f r c v b xs ys n W h
  have KP := Lib.hid fun (v : Value) (W : World) (h : InR W v b xs ys) => KK.paper f r c v b xs ys n W h
  have KY := Lib.hid fun (v : Value) (W : World) (h : InR W v b xs ys) => KK.after f r c v b xs ys (n + 1) W h
  have KZ := Lib.hid fun (v : Value) (W : World) (h : InR W v b xs ys) => KK.paper f r c v b xs ys (n + 1) W h
  have K2 := Lib.hid fun (h1 : stE f r c b xs ys = 0) (h2 : 0 ≤ n ∧ n ≤ 4) => follows_calls KK h1 h2
  obtain ⟨g, hg⟩ : ∃ x, ligB xs ys = x := ⟨_, rfl⟩
  rw [hg] at KL
  clear hg
  have R0 := Lib.hid hv
  obtain ⟨vp, vq, rfl, ha, hb⟩ := hv
  obtain ⟨A0, c0, rfl, -⟩ := in_open ha
  obtain ⟨B0, d0, rfl, -⟩ := in_open hb
  obtain ⟨n0, hn0⟩ : ∃ n, xs.length = n := ⟨_, rfl⟩
  obtain ⟨m0, hm0⟩ : ∃ n, ys.length = n := ⟨_, rfl⟩
  rw [hn0, hm0] at R0 ⊢
  have HB := Lib.hid (Below.refl w.heap.size w)
  clear ha hb hn0 hm0
  have hd : (decide (n < 0) = true ∨ (decide (n < 0) = false ∧ decide (4 < n) = true)) ∨ (decide (n < 0) = false ∧ decide (4 < n) = false) := by
    by_cases h1 : n < 0
    · exact Or.inl (Or.inl (decide_eq_true h1))
    · by_cases h2 : 4 < n
      · exact Or.inl (Or.inr ⟨decide_eq_false h1, decide_eq_true h2⟩)
      · exact Or.inr ⟨decide_eq_false h1, decide_eq_false h2⟩
  rcases hd with hd | ⟨nd1, nd2⟩
  · clear K2 KX KP KY KZ
    rcases hd with nd1 | ⟨nd1, nd2⟩
    all_goals
      go_enter Try.func9, Try.ntmps9
      go_upto_region 1 with fail
      obtain ⟨w1, gx, hw, hgx, cw, cx, hb⟩ := two_in w (.int .i64 f) (.int .i64 r) (.int .i64 c) (.bool b) (.slice A0 n0 c0) (.slice B0 m0 d0)
      have CW := Lib.hid cw
      have CX := Lib.hid cx
      replace HB := Lib.hid (bstep HB.out hb)
      replace R0 := Lib.hid (R0.out.on hb)
      rw [hgx]
      rw [hw]
      clear hw hb hgx cw cx
      obtain ⟨x00, x01, x02⟩ := CX.out.three
      go_wp2_with fail
      refine (KL.out _ _ R0.out).mono ?_
      rintro e w2 ⟨rfl, hb⟩
      replace HB := Lib.hid (bstep HB.out hb)
      replace R0 := Lib.hid (R0.out.on hb)
      replace CW := Lib.hid (CW.out.on hb)
      replace CX := Lib.hid (CX.out.on hb)
      clear hb
      clear x00 x01 x02
      cases g with
      | false =>
        go_wp2_with fail
        refine (KQ.out _).mono ?_
        rintro e wq ⟨rfl, hb⟩
        have HF := Lib.hid (bstep HB.out hb)
        clear hb
        go_wp2_with fail
        go_ret
        exact ⟨rfl, HF.out⟩
      | true =>
      go_wp2_with fail
      refine (KQ.out _).mono ?_
      rintro e wq ⟨rfl, hb⟩
      have HF := Lib.hid (bstep HB.out hb)
      clear hb
      go_wp2_with fail
      go_ret
      exact ⟨rfl, HF.out⟩
  have hn1 := of_decide_eq_false nd1
  have hn2 := of_decide_eq_false nd2
  have hn : 0 ≤ n ∧ n ≤ 4 := by omega
  have hi1 : afE f r c b xs ys n = stE f r c b xs ys := afE_in (by omega)
  have hi2 : afE f r c b xs ys (n + 1) = stE f r c b xs ys := afE_in (by omega)
  rw [hi1] at KX KP
  rw [hi2] at KY KZ
  replace K2 := Lib.hid fun h1 => K2.out h1 hn
  obtain ⟨E, hE⟩ : ∃ x, stE f r c b xs ys = x := ⟨_, rfl⟩
  obtain ⟨x, hx⟩ : ∃ x, afN f r c (ratV b xs ys) n.toNat = x := ⟨_, rfl⟩
  obtain ⟨p, hp⟩ : ∃ x, paN f r c (ratV b xs ys) n.toNat = x := ⟨_, rfl⟩
  obtain ⟨y, hy⟩ : ∃ x, afN f r c (ratV b xs ys) (n + 1).toNat = x := ⟨_, rfl⟩
  obtain ⟨u, hu⟩ : ∃ x, paN f r c (ratV b xs ys) (n + 1).toNat = x := ⟨_, rfl⟩
  rw [hE, hx] at KX
  rw [hE, hp] at KP
  rw [hE, hy] at KY
  rw [hE, hu] at KZ
  rw [hE, hx, hp, hy, hu] at K2
  obtain ⟨k1, hk1⟩ : ∃ k, n + 1 = k := ⟨_, rfl⟩
  rw [hk1] at KY KZ
  have wk : IntKind.i64.wrap k1 = k1 := Rw.wrap_id (by omega)
  have hK := Lib.hid (And.intro hk1 wk)
  clear hn1 hn2 hn hi1 hi2 hE hx hp hy hu wk hk1
  go_enter Try.func9, Try.ntmps9
  go_upto_region 1 with fail
  obtain ⟨w1, gx, hw, hgx, cw, cx, hb⟩ := two_in w (.int .i64 f) (.int .i64 r) (.int .i64 c) (.bool b) (.slice A0 n0 c0) (.slice B0 m0 d0)
  have CW := Lib.hid cw
  have CX := Lib.hid cx
  replace HB := Lib.hid (bstep HB.out hb)
  replace R0 := Lib.hid (R0.out.on hb)
  rw [hgx]
  rw [hw]
  clear hw hb hgx cw cx
  obtain ⟨x00, x01, x02⟩ := CX.out.three
  go_wp2_with fail
  refine (KL.out _ _ R0.out).mono ?_
  rintro e w2 ⟨rfl, hb⟩
  replace HB := Lib.hid (bstep HB.out hb)
  replace R0 := Lib.hid (R0.out.on hb)
  replace CW := Lib.hid (CW.out.on hb)
  replace CX := Lib.hid (CX.out.on hb)
  clear hb
  clear x00 x01 x02
  cases g with
  | false =>
    go_wp2_with fail
    refine (KQ.out _).mono ?_
    rintro e wq ⟨rfl, hb⟩
    have HF := Lib.hid (bstep HB.out hb)
    clear hb
    go_wp2_with fail
    go_ret
    exact ⟨rfl, HF.out⟩
  | true =>
  obtain ⟨x00, x01, x02⟩ := CW.out.three
  obtain ⟨x10, x11, x12⟩ := CX.out.three
  go_wp2_with fail
  refine (KX.out _ _ R0.out).mono ?_
  rintro e w3 h
  obtain ⟨b1, A1, n1, c1, B1, m1, d1, rfl, ho, hb⟩ := h.open_
  replace HB := Lib.hid (bstep HB.out hb)
  replace R0 := Lib.hid (R0.out.on hb)
  replace CW := Lib.hid (CW.out.on hb)
  replace CX := Lib.hid (CX.out.on hb)
  have R1 := Lib.hid ho
  clear h ho hb
  clear x00 x01 x02 x10 x11 x12
  clear nd1 nd2
  go_upto_region 4 with fail
  obtain ⟨w4, g1, hw, hg1, h1, hb⟩ := solo w3 (.bool b1) (.slice A1 n1 c1) (.slice B1 m1 d1)
  first | rw [hg1] | skip
  rw [hw]
  replace HB := Lib.hid (bstep HB.out hb)
  replace R0 := Lib.hid (R0.out.on hb)
  replace CW := Lib.hid (CW.out.on hb)
  replace CX := Lib.hid (CX.out.on hb)
  replace R1 := Lib.hid (R1.out.on hb)
  have G1 := Lib.hid h1
  clear hw hg1 h1 hb
  obtain ⟨x00, x01, x02⟩ := CW.out.three
  obtain ⟨x10, x11, x12⟩ := CX.out.three
  go_wp2_with fail
  refine (KP.out _ _ R0.out).mono ?_
  rintro e w5 h
  obtain ⟨b2, A2, n2, c2, B2, m2, d2, rfl, ho, hb⟩ := h.open_
  replace HB := Lib.hid (bstep HB.out hb)
  replace R0 := Lib.hid (R0.out.on hb)
  replace CW := Lib.hid (CW.out.on hb)
  replace CX := Lib.hid (CX.out.on hb)
  replace R1 := Lib.hid (R1.out.on hb)
  replace G1 := Lib.hid (G1.out.on hb)
  have R2 := Lib.hid ho
  clear h ho hb
  clear x00 x01 x02 x10 x11 x12
  go_upto_region 5 with fail
  obtain ⟨w6, g2, hw, hg1, h1, hb⟩ := solo w5 (.bool b2) (.slice A2 n2 c2) (.slice B2 m2 d2)
  first | rw [hg1] | skip
  rw [hw]
  replace HB := Lib.hid (bstep HB.out hb)
  replace R0 := Lib.hid (R0.out.on hb)
  replace CW := Lib.hid (CW.out.on hb)
  replace CX := Lib.hid (CX.out.on hb)
  replace R1 := Lib.hid (R1.out.on hb)
  replace G1 := Lib.hid (G1.out.on hb)
  replace R2 := Lib.hid (R2.out.on hb)
  have G2 := Lib.hid h1
  clear hw hg1 h1 hb
  obtain ⟨x00, x01, x02⟩ := CW.out.three
  obtain ⟨x10, x11, x12⟩ := CX.out.three
  have hk1 := hK.out.1
  have wk := hK.out.2
  go_wp2_with fail
  refine (KY.out _ _ R0.out).mono ?_
  rintro e w7 h
  obtain ⟨b3, A3, n3, c3, B3, m3, d3, rfl, ho, hb⟩ := h.open_
  replace HB := Lib.hid (bstep HB.out hb)
  replace R0 := Lib.hid (R0.out.on hb)
  replace CW := Lib.hid (CW.out.on hb)
  replace CX := Lib.hid (CX.out.on hb)
  replace R1 := Lib.hid (R1.out.on hb)
  replace G1 := Lib.hid (G1.out.on hb)
  replace R2 := Lib.hid (R2.out.on hb)
  replace G2 := Lib.hid (G2.out.on hb)
  have R3 := Lib.hid ho
  clear h ho hb
  clear x00 x01 x02 x10 x11 x12
  clear hk1 wk
  go_upto_region 6 with fail
  obtain ⟨w8, g3, hw, hg1, h1, hb⟩ := solo w7 (.bool b3) (.slice A3 n3 c3) (.slice B3 m3 d3)
  first | rw [hg1] | skip
  rw [hw]
  replace HB := Lib.hid (bstep HB.out hb)
  replace R0 := Lib.hid (R0.out.on hb)
  replace CW := Lib.hid (CW.out.on hb)
  replace CX := Lib.hid (CX.out.on hb)
  replace R1 := Lib.hid (R1.out.on hb)
  replace G1 := Lib.hid (G1.out.on hb)
  replace R2 := Lib.hid (R2.out.on hb)
  replace G2 := Lib.hid (G2.out.on hb)
  replace R3 := Lib.hid (R3.out.on hb)
  have G3 := Lib.hid h1
  clear hw hg1 h1 hb
  obtain ⟨x00, x01, x02⟩ := CW.out.three
  obtain ⟨x10, x11, x12⟩ := CX.out.three
  have hk1 := hK.out.1
  have wk := hK.out.2
  go_wp2_with fail
  refine (KZ.out _ _ R0.out).mono ?_
  rintro e w9 h
  obtain ⟨b4, A4, n4, c4, B4, m4, d4, rfl, ho, hb⟩ := h.open_
  replace HB := Lib.hid (bstep HB.out hb)
  replace R0 := Lib.hid (R0.out.on hb)
  replace CW := Lib.hid (CW.out.on hb)
  replace CX := Lib.hid (CX.out.on hb)
  replace R1 := Lib.hid (R1.out.on hb)
  replace G1 := Lib.hid (G1.out.on hb)
  replace R2 := Lib.hid (R2.out.on hb)
  replace G2 := Lib.hid (G2.out.on hb)
  replace R3 := Lib.hid (R3.out.on hb)
  replace G3 := Lib.hid (G3.out.on hb)
  have R4 := Lib.hid ho
  clear h ho hb
  clear x00 x01 x02 x10 x11 x12
  clear hk1 wk
  go_upto_region 7 with fail
  obtain ⟨w10, g4, hw, hg1, h1, hb⟩ := solo w9 (.bool b4) (.slice A4 n4 c4) (.slice B4 m4 d4)
  first | rw [hg1] | skip
  rw [hw]
  replace HB := Lib.hid (bstep HB.out hb)
  replace R0 := Lib.hid (R0.out.on hb)
  replace CW := Lib.hid (CW.out.on hb)
  replace CX := Lib.hid (CX.out.on hb)
  replace R1 := Lib.hid (R1.out.on hb)
  replace G1 := Lib.hid (G1.out.on hb)
  replace R2 := Lib.hid (R2.out.on hb)
  replace G2 := Lib.hid (G2.out.on hb)
  replace R3 := Lib.hid (R3.out.on hb)
  replace G3 := Lib.hid (G3.out.on hb)
  replace R4 := Lib.hid (R4.out.on hb)
  have G4 := Lib.hid h1
  clear hw hg1 h1 hb
  by_cases hz : E = 0
  rotate_left
  · obtain ⟨y1, y2⟩ := ne_zero hz
    go_wp2_with fail
    refine (KQ.out _).mono ?_
    rintro e wq ⟨rfl, hb⟩
    have HF := Lib.hid (bstep HB.out hb)
    clear hb
    go_wp2_with fail
    go_ret
    exact ⟨rfl, HF.out⟩
  subst hz
  obtain ⟨E2, a, se, hE2, ks, kvp, kva, ka⟩ := K2.out rfl
  have KS := Lib.hid ks
  have KVP := Lib.hid kvp
  have KVA := Lib.hid kva
  have KA := Lib.hid ka
  clear ks kvp kva ka K2 KX KP KY KZ KL
  replace R1 := Lib.hid (out_zero R1.out)
  replace R2 := Lib.hid (out_zero R2.out)
  replace R3 := Lib.hid (out_zero R3.out)
  replace R4 := Lib.hid (out_zero R4.out)
  obtain ⟨x00, x01, x02⟩ := CW.out.three
  obtain ⟨x10, x11, x12⟩ := G1.out.three
  go_wp2_with fail
  refine (KS.out _ _ R1.out).mono ?_
  rintro e w11 ⟨b5, A5, n5, c5, B5, m5, d5, b6, A6, n6, c6, B6, m6, d6, b7, A7, n7, c7, B7, m7, d7, rfl, hp, hq, hr, hb⟩
  replace HB := Lib.hid (bstep HB.out hb)
  replace R0 := Lib.hid (R0.out.on hb)
  replace CW := Lib.hid (CW.out.on hb)
  replace CX := Lib.hid (CX.out.on hb)
  replace R1 := Lib.hid (R1.out.on hb)
  replace G1 := Lib.hid (G1.out.on hb)
  replace R2 := Lib.hid (R2.out.on hb)
  replace G2 := Lib.hid (G2.out.on hb)
  replace R3 := Lib.hid (R3.out.on hb)
  replace G3 := Lib.hid (G3.out.on hb)
  replace R4 := Lib.hid (R4.out.on hb)
  replace G4 := Lib.hid (G4.out.on hb)
  have R5 := Lib.hid hp
  have R7 := Lib.hid hr
  clear hp hq hr hb
  clear x00 x01 x02 x10 x11 x12
  go_upto_region 10 with fail
  obtain ⟨w12, g5, g6, g7, hw, hg1, hg2, hg3, h1, h2, h3, hb⟩ := trio w11 (.bool b5) (.slice A5 n5 c5) (.slice B5 m5 d5) (.bool b6) (.slice A6 n6 c6) (.slice B6 m6 d6) (.bool b7) (.slice A7 n7 c7) (.slice B7 m7 d7)
  first | rw [hg1, hg2, hg3] | rw [hg1, hg2] | rw [hg1] | skip
  rw [hw]
  replace HB := Lib.hid (bstep HB.out hb)
  replace R0 := Lib.hid (R0.out.on hb)
  replace CW := Lib.hid (CW.out.on hb)
  replace CX := Lib.hid (CX.out.on hb)
  replace R1 := Lib.hid (R1.out.on hb)
  replace G1 := Lib.hid (G1.out.on hb)
  replace R2 := Lib.hid (R2.out.on hb)
  replace G2 := Lib.hid (G2.out.on hb)
  replace R3 := Lib.hid (R3.out.on hb)
  replace G3 := Lib.hid (G3.out.on hb)
  replace R4 := Lib.hid (R4.out.on hb)
  replace G4 := Lib.hid (G4.out.on hb)
  replace R5 := Lib.hid (R5.out.on hb)
  replace R7 := Lib.hid (R7.out.on hb)
  have G5 := Lib.hid h1
  have G7 := Lib.hid h3
  clear hw hg1 hg2 hg3 h1 h2 h3 hb
  rcases hE2 with rfl | rfl
  rotate_left
  · go_wp2_with fail
    refine (KQ.out _).mono ?_
    rintro e wq ⟨rfl, hb⟩
    have HF := Lib.hid (bstep HB.out hb)
    clear hb
    go_wp2_with fail
    go_ret
    exact ⟨rfl, HF.out⟩
  replace R5 := Lib.hid (out_zero R5.out)
  replace R7 := Lib.hid (out_zero R7.out)
  obtain ⟨x00, x01, x02⟩ := G2.out.three
  obtain ⟨x10, x11, x12⟩ := G5.out.three
  go_wp2_with fail
  refine (KVP.out _ _ R2.out).mono ?_
  rintro e w13 ⟨rfl, hb⟩
  replace HB := Lib.hid (bstep HB.out hb)
  replace R0 := Lib.hid (R0.out.on hb)
  replace CW := Lib.hid (CW.out.on hb)
  replace CX := Lib.hid (CX.out.on hb)
  replace R1 := Lib.hid (R1.out.on hb)
  replace G1 := Lib.hid (G1.out.on hb)
  replace R2 := Lib.hid (R2.out.on hb)
  replace G2 := Lib.hid (G2.out.on hb)
  replace R3 := Lib.hid (R3.out.on hb)
  replace G3 := Lib.hid (G3.out.on hb)
  replace R4 := Lib.hid (R4.out.on hb)
  replace G4 := Lib.hid (G4.out.on hb)
  replace R5 := Lib.hid (R5.out.on hb)
  replace R7 := Lib.hid (R7.out.on hb)
  replace G5 := Lib.hid (G5.out.on hb)
  replace G7 := Lib.hid (G7.out.on hb)
  clear hb
  clear x00 x01 x02 x10 x11 x12
  obtain ⟨x00, x01, x02⟩ := G2.out.three
  obtain ⟨x10, x11, x12⟩ := G5.out.three
  go_wp2_with fail
  refine (KVA.out _ _ R5.out).mono ?_
  rintro e w14 ⟨rfl, hb⟩
  replace HB := Lib.hid (bstep HB.out hb)
  replace R0 := Lib.hid (R0.out.on hb)
  replace CW := Lib.hid (CW.out.on hb)
  replace CX := Lib.hid (CX.out.on hb)
  replace R1 := Lib.hid (R1.out.on hb)
  replace G1 := Lib.hid (G1.out.on hb)
  replace R2 := Lib.hid (R2.out.on hb)
  replace G2 := Lib.hid (G2.out.on hb)
  replace R3 := Lib.hid (R3.out.on hb)
  replace G3 := Lib.hid (G3.out.on hb)
  replace R4 := Lib.hid (R4.out.on hb)
  replace G4 := Lib.hid (G4.out.on hb)
  replace R5 := Lib.hid (R5.out.on hb)
  replace R7 := Lib.hid (R7.out.on hb)
  replace G5 := Lib.hid (G5.out.on hb)
  replace G7 := Lib.hid (G7.out.on hb)
  clear hb
  clear x00 x01 x02 x10 x11 x12
  obtain ⟨x00, x01, x02⟩ := G2.out.three
  obtain ⟨x10, x11, x12⟩ := G5.out.three
  go_wp2_with fail
  refine (KA.out _ _ _ R2.out R5.out).mono ?_
  rintro e w15 h
  obtain ⟨b8, A8, n8, c8, B8, m8, d8, rfl, ho, hb⟩ := h.open_
  replace HB := Lib.hid (bstep HB.out hb)
  replace R0 := Lib.hid (R0.out.on hb)
  replace CW := Lib.hid (CW.out.on hb)
  replace CX := Lib.hid (CX.out.on hb)
  replace R1 := Lib.hid (R1.out.on hb)
  replace G1 := Lib.hid (G1.out.on hb)
  replace R2 := Lib.hid (R2.out.on hb)
  replace G2 := Lib.hid (G2.out.on hb)
  replace R3 := Lib.hid (R3.out.on hb)
  replace G3 := Lib.hid (G3.out.on hb)
  replace R4 := Lib.hid (R4.out.on hb)
  replace G4 := Lib.hid (G4.out.on hb)
  replace R5 := Lib.hid (R5.out.on hb)
  replace R7 := Lib.hid (R7.out.on hb)
  replace G5 := Lib.hid (G5.out.on hb)
  replace G7 := Lib.hid (G7.out.on hb)
  have R8 := Lib.hid (out_zero ho)
  clear h ho hb
  clear x00 x01 x02 x10 x11 x12
  go_upto_region 15 with fail
  obtain ⟨w16, g8, hw, hg1, h1, hb⟩ := solo w15 (.bool b8) (.slice A8 n8 c8) (.slice B8 m8 d8)
  first | rw [hg1] | skip
  rw [hw]
  replace HB := Lib.hid (bstep HB.out hb)
  replace R0 := Lib.hid (R0.out.on hb)
  replace CW := Lib.hid (CW.out.on hb)
  replace CX := Lib.hid (CX.out.on hb)
  replace R1 := Lib.hid (R1.out.on hb)
  replace G1 := Lib.hid (G1.out.on hb)
  replace R2 := Lib.hid (R2.out.on hb)
  replace G2 := Lib.hid (G2.out.on hb)
  replace R3 := Lib.hid (R3.out.on hb)
  replace G3 := Lib.hid (G3.out.on hb)
  replace R4 := Lib.hid (R4.out.on hb)
  replace G4 := Lib.hid (G4.out.on hb)
  replace R5 := Lib.hid (R5.out.on hb)
  replace R7 := Lib.hid (R7.out.on hb)
  replace G5 := Lib.hid (G5.out.on hb)
  replace G7 := Lib.hid (G7.out.on hb)
  replace R8 := Lib.hid (R8.out.on hb)
  have G8 := Lib.hid h1
  clear hw hg1 h1 hb
  obtain ⟨x00, x01, x02⟩ := G7.out.three
  obtain ⟨x10, x11, x12⟩ := G3.out.three
  go_wp2_with fail
  refine (same_is R7.out R3.out).mono ?_
  rintro e w17 ⟨rfl, hb⟩
  replace HB := Lib.hid (bstep HB.out hb)
  replace R0 := Lib.hid (R0.out.on hb)
  replace CW := Lib.hid (CW.out.on hb)
  replace CX := Lib.hid (CX.out.on hb)
  replace R1 := Lib.hid (R1.out.on hb)
  replace G1 := Lib.hid (G1.out.on hb)
  replace R2 := Lib.hid (R2.out.on hb)
  replace G2 := Lib.hid (G2.out.on hb)
  replace R3 := Lib.hid (R3.out.on hb)
  replace G3 := Lib.hid (G3.out.on hb)
  replace R4 := Lib.hid (R4.out.on hb)
  replace G4 := Lib.hid (G4.out.on hb)
  replace R5 := Lib.hid (R5.out.on hb)
  replace R7 := Lib.hid (R7.out.on hb)
  replace G5 := Lib.hid (G5.out.on hb)
  replace G7 := Lib.hid (G7.out.on hb)
  replace R8 := Lib.hid (R8.out.on hb)
  replace G8 := Lib.hid (G8.out.on hb)
  clear hb
  clear x00 x01 x02 x10 x11 x12
  obtain ⟨x00, x01, x02⟩ := G8.out.three
  obtain ⟨x10, x11, x12⟩ := G4.out.three
  go_wp2_with fail
  refine (same_is R8.out R4.out).mono ?_
  rintro e w18 ⟨rfl, hb⟩
  replace HB := Lib.hid (bstep HB.out hb)
  clear hb
  clear x00 x01 x02 x10 x11 x12
  go_wp2_with fail
  refine (KQ.out _).mono ?_
  rintro e wq ⟨rfl, hb⟩
  have HF := Lib.hid (bstep HB.out hb)
  clear hb
  go_wp2_with fail
  go_ret
  exact ⟨rfl, HF.out⟩
end Go.Proofs.Ytohfaoclemcfaaa.Wet
/- A wet end and a number that come in (out of TankV, CardKitR). -/
namespace Go.Proofs.Ytohfaoclemcfaaa.Wet
open Go Go.ChangeShapes Go.WideShapes Go.RowKit Go.Joins
set_option linter.unusedVariables false
set_option maxRecDepth 100000

section
variable {H : Type} {enc : TypeId × Value → H} {P : Program} {w : World} {held : Bool} {t e : TypeId} {n : Nat}
/-- The limbs in a field that came in. -/
theorem in_trod {v : Value} {y : DataW H × List MemPlace} (ht : P.underlying t = some (.slice e)) (he : P.underlying e = some (.int .i64)) (hce : P.cellsOf e = 1)
    (hf : DataW.trod enc P w 0 (fun _ => true) held n t [v] = some y) : ∃ zs, In w v zs := by
  rcases open_ints ht he hce hf with ⟨hcs, _⟩ | ⟨x, l, c, zs, hcs, _, hl, hm, hz, _, hcell, hwz⟩
  · simp at hcs
    exact ⟨[], none, 0, hcs, Nat.le_refl _, by unfold maxLen; omega, fun k z hz => by simp at hz⟩
  · simp at hcs
    subst hcs
    have hz' : zs.length = c := by simpa using hz
    have hlen : (zs.take l).length = l := by rw [List.length_take]; omega
    refine ⟨zs.take l, some x, c, by rw [hlen], by omega, hm, fun i z hi => ?_⟩
    have hin : i < l := by
      rcases Nat.lt_or_ge i l with h1 | h1
      · exact h1
      · rw [List.getElem?_take, if_neg (by omega)] at hi; cases hi
    rw [List.getElem?_take, if_pos hin] at hi
    obtain ⟨b, off, rfl, hc⟩ := ints_at hcell (by omega)
    have hci := hc i (by omega)
    have ez : zs.getD i 0 = z := by rw [List.getD_eq_getElem?_getD, hi]; rfl
    rw [ez] at hci
    exact ⟨b, off, rfl, ⟨Nat.zero_le _, Or.inl rfl⟩, World.block_lt_of_cell? w _ hci, hci⟩
end

section
variable {H : Type} {enc : TypeId × Value → H} {w : World} {held : Bool}
/-- A number by value. -/
theorem open_rat {r : Reach} {b0 : Nat} {v : Value} {d : DataW H} {p : List MemPlace} (hv : Value.okWide Try.prog w r b0 27 v) (h : DataW.Trod enc Try.prog w 0 (fun _ => true) held 27 v d p) :
    ∃ b xs ys, InR w v b xs ys := by
  obtain ⟨v0, v1, v2, y0, y1, y2, n, rfl, _, _, h0, h1, h2⟩ := open_agg3 Try.underlying27 (by kernel_rfl) (by kernel_rfl) hv h
  obtain ⟨b, hb, _⟩ := DataW.trod_bool Try.underlying4 h0
  obtain ⟨xs, hx⟩ := in_trod Try.underlying25 Try.underlying3 (by kernel_rfl) h1
  obtain ⟨ys, hy⟩ := in_trod Try.underlying25 Try.underlying3 (by kernel_rfl) h2
  simp at hb
  subst hb
  exact ⟨b, xs, ys, v1, v2, rfl, hx, hy⟩
/-- A wet end by value. -/
theorem open_wet {r : Reach} {b0 : Nat} {v : Value} {d : DataW H} {p : List MemPlace} (hv : Value.okWide Try.prog w r b0 23 v) (h : DataW.Trod enc Try.prog w 0 (fun _ => true) held 23 v d p) :
    ∃ a b c : Int, v = .agg #[.int .i64 a, .int .i64 b, .int .i64 c] := by
  obtain ⟨v0, v1, v2, y0, y1, y2, n, rfl, _, _, h0, h1, h2⟩ := open_agg3 Try.underlying23 (by kernel_rfl) (by kernel_rfl) hv h
  obtain ⟨x0, f0, _, wf0⟩ := DataW.trod_int Try.underlying3 h0
  obtain ⟨x1, f1, _, wf1⟩ := DataW.trod_int Try.underlying3 h1
  obtain ⟨x2, f2, _, wf2⟩ := DataW.trod_int Try.underlying3 h2
  simp at f0 f1 f2
  subst f0 f1 f2
  exact ⟨x0, x1, x2, rfl⟩
end
end Go.Proofs.Ytohfaoclemcfaaa.Wet
/- The seven laws, in the frames' words. -/
namespace Go.Proofs.Ytohfaoclemcfaaa.Wet.Law
open Go.ChangeShapes Go.WideShapes Go.RowKit Go.Lib Go.Joins
set_option linter.unusedVariables false
theorem walk_WetChecks (w : World) (f r c : Int) :
    Calls Try.prog 3 #[.agg #[.int .i64 f, .int .i64 r, .int .i64 c]] w fun e w' => e = .returned (.bool true) ∧ Below w.heap.size w w' :=
  Wet.walk_WetChecks kit w f r c
theorem walk_WetSteps (w : World) (f r c : Int) (v : Value) (b : Bool) (xs ys : List Int) (hv : InR w v b xs ys) :
    Calls Try.prog 4 #[.agg #[.int .i64 f, .int .i64 r, .int .i64 c], v] w fun e w' => e = .returned (.bool true) ∧ Below w.heap.size w w' :=
  Wet.walk_WetSteps kit w f r c v b xs ys hv
theorem walk_WetAfters (w : World) (f r c : Int) (v : Value) (b : Bool) (xs ys : List Int) (hv : InR w v b xs ys) (n : Int) :
    Calls Try.prog 5 #[.agg #[.int .i64 f, .int .i64 r, .int .i64 c], v, .int .i64 n] w fun e w' => e = .returned (.bool true) ∧ Below w.heap.size w w' :=
  Wet.walk_WetAfters kit w f r c v b xs ys hv n
theorem walk_WetPapers (w : World) (f r c : Int) (v : Value) (b : Bool) (xs ys : List Int) (hv : InR w v b xs ys) (n : Int) :
    Calls Try.prog 6 #[.agg #[.int .i64 f, .int .i64 r, .int .i64 c], v, .int .i64 n] w fun e w' => e = .returned (.bool true) ∧ Below w.heap.size w w' :=
  Wet.walk_WetPapers kit w f r c v b xs ys hv n
theorem walk_WetSteady (w : World) (f r c : Int) (v : Value) (b : Bool) (xs ys : List Int) (hv : InR w v b xs ys) :
    Calls Try.prog 7 #[.agg #[.int .i64 f, .int .i64 r, .int .i64 c], v] w fun e w' => e = .returned (.bool true) ∧ Below w.heap.size w w' :=
  Wet.walk_WetSteady kit w f r c v b xs ys hv
theorem walk_WetBalance (w : World) (f r c : Int) (v : Value) (b : Bool) (xs ys : List Int) (hv : InR w v b xs ys) :
    Calls Try.prog 8 #[.agg #[.int .i64 f, .int .i64 r, .int .i64 c], v] w fun e w' => e = .returned (.bool true) ∧ Below w.heap.size w w' :=
  Wet.walk_WetBalance kit w f r c v b xs ys hv
theorem walk_WetFollows (w : World) (f r c : Int) (v : Value) (b : Bool) (xs ys : List Int) (hv : InR w v b xs ys) (n : Int) :
    Calls Try.prog 9 #[.agg #[.int .i64 f, .int .i64 r, .int .i64 c], v, .int .i64 n] w fun e w' => e = .returned (.bool true) ∧ Below w.heap.size w w' :=
  Wet.walk_WetFollows kit w f r c v b xs ys hv n
end Go.Proofs.Ytohfaoclemcfaaa.Wet.Law
