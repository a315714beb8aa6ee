/- Several texts in one: WetF, WetG, WetH, RatU, RatV, RatW, RatX, RatY, RatZ. -/
import Derived.Test.YtohfaoclemcfaaaPk14
import Derived.Test.YtohfaoclemcfaaaPk12
import Derived.Lib.SliceRun
import Derived.Test.YtohfaoclemcfaaaPk4
/- The reference: Steady (gen20/f.py). -/
namespace Go.Proofs.Ytohfaoclemcfaaa.Wet
open Go.ChangeShapes Go.WideShapes Go.RowKit Go.Lib
open Go.Proofs.Ytohfaoclemcfaaa.Rw (ret_bool ret_int bstep below_drewN below_drew drew_below below_alloc)
set_option linter.unusedVariables false
set_option maxRecDepth 100000

theorem two_box (w : World) (x0 x1 x2 : Value) : ∃ w1 z, (w.alloc (.cells #[x0, x1, x2] 23)).alloc (.cells #[.bool false, .slice none 0 0, .slice none 0 0] 27) = w1 ∧
    w.heap.size + 1 = z ∧ Rw.Cel w1 w.heap.size [x0, x1, x2] ∧ Rw.Cel w1 z [.bool false, .slice none 0 0, .slice none 0 0] ∧ Below w.heap.size w w1 :=
  ⟨_, _, rfl, rfl, (Rw.Cel.new w [_, _, _] _).alloc _, Rw.Cel.new_at _ [_, _, _] _ (by simp), bstep (below_alloc _ _) (below_alloc _ _)⟩
theorem big_sd : 1099511627776 * 998001 < big48 ∧ 1 * 1000000 < big48 ∧ 998001 < big48 ∧ 1000000 < big48 ∧ 1099511627776 < big48 ∧ 1 < big48 := by decide +kernel
theorem sd_ok {f r c : Int} (hk : ckW f r c = 0) : fitR (mkV f 1) = true ∧ fitR (mkV (kI r c) (1000000 - kI r c)) = true ∧ mulOk (mkV f 1) (mkV (kI r c) (1000000 - kI r c)) = true := by
  obtain ⟨hf, hr, hc⟩ := ckW_of hk
  have hl := kI_lim hr hc
  have hM : MM = 1099511627776 := rfl
  have F1 := (mkV_fr (p := f) (q := 1) hf.1 (by decide)).le (N := 1099511627776) (by have h9 := hf.2; omega)
  have F2 := (mkV_fr (p := kI r c) (q := 1000000 - kI r c) hl.1 (by omega)).le (N := 998001) (by omega)
  have hB : (1000000 - kI r c).toNat ≤ 1000000 := by omega
  refine ⟨F1.fit big_sd.2.2.2.2.2 big_sd.2.2.2.2.1, F2.fit (Nat.lt_of_le_of_lt hB big_sd.2.2.2.1) big_sd.2.2.1, F1.mul_ok F2 big_sd.1 (Nat.lt_of_le_of_lt (Nat.mul_le_mul_left _ hB) big_sd.2.1)⟩
set_option maxHeartbeats 6400000 in
theorem wr_Steady (f r c : Int) (w : World) : Calls Try.prog 11 #[.agg #[.int .i64 f, .int .i64 r, .int .i64 c]] w (RRes w (ckW f r c) (sdV f r c)) := by
  have KC := Lib.hid fun (W : World) => wr_Check f r c W
  obtain ⟨E, hE⟩ : ∃ E, ckW f r c = E := ⟨_, rfl⟩
  rw [hE] at KC ⊢
  have HE := Lib.hid hE
  have HB := Lib.hid (Below.refl w.heap.size w)
  clear hE
  go_enter Try.func11, Try.ntmps11
  go_upto_region 1 with fail
  obtain ⟨w1, z, hw, hz, cw, cz, hb⟩ := two_box w (.int .i64 f) (.int .i64 r) (.int .i64 c)
  have CW := Lib.hid cw
  have ZC := Lib.hid cz
  have HZ : Hid (w.heap.size ≤ z) := Lib.hid (by omega)
  replace HB := Lib.hid (bstep HB.out hb)
  rw [hz]
  rw [hw]
  clear hw hz cw cz hb
  obtain ⟨x00, x01, x02⟩ := CW.out.three
  go_wp2_with fail
  refine (KC.out _).mono ?_
  rintro e w2 ⟨rfl, hb⟩
  replace HB := Lib.hid (bstep HB.out hb)
  replace CW := Lib.hid (CW.out.on hb)
  replace ZC := Lib.hid (ZC.out.on hb)
  clear hb
  clear x00 x01 x02
  by_cases hz : E = 0
  rotate_left
  · obtain ⟨y1, y2⟩ := ne_zero hz
    obtain ⟨x00, x01, x02⟩ := ZC.out.three
    obtain ⟨v0, v1, v2⟩ := ZC.out.warm3
    go_wp2_with fail
    exact bodyPost_ret (res_r2 Try.results11 rfl (ZC.out.put3 _ _ _)) rfl ⟨_, rfl, OutR.no hz, Rw.below_put3 HB.out HZ.out _ _ _⟩
  subst hz
  obtain ⟨hf, hr, hc⟩ := ckW_of HE.out
  have hl := kI_lim hr hc
  obtain ⟨s1, s2, s3⟩ := sd_ok HE.out
  have KO := Lib.hid fun (W : World) => y_Of hf.1 hf.2 W
  have KM := Lib.hid fun (W : World) => y_Make hl.1 (show kI r c ≤ 1000000 by omega) (show 1 ≤ 1000000 - kI r c by omega) (by omega) W
  have KU := Lib.hid fun (v u : Value) (W : World) (h : IsR W v (mkV f 1)) (h2 : IsR W u (mkV (kI r c) (1000000 - kI r c))) => y_Mul s1 s2 s3 v u W h h2
  obtain ⟨t, ht⟩ : ∃ t, 1000 - r = t := ⟨_, rfl⟩
  obtain ⟨kk, hkk⟩ : ∃ k, t * c = k := ⟨_, rfl⟩
  have hki : kI r c = kk := by unfold kI; rw [ht, hkk]
  obtain ⟨ll, hll⟩ : ∃ k, 1000000 - kk = k := ⟨_, rfl⟩
  rw [hki] at hl KM KU
  rw [hll] at KM KU
  have wt : IntKind.i64.wrap t = t := Rw.wrap_id (by omega)
  have wk : IntKind.i64.wrap kk = kk := Rw.wrap_id (by omega)
  have wl : IntKind.i64.wrap ll = ll := Rw.wrap_id (by omega)
  have hsd : sdV f r c = mkV f 1 * mkV kk ll := by unfold sdV; rw [hki, hll]
  rw [← hsd] at KU
  obtain ⟨vF, hF⟩ : ∃ x, mkV f 1 = x := ⟨_, rfl⟩
  obtain ⟨vK, hK⟩ : ∃ x, mkV kk ll = x := ⟨_, rfl⟩
  rw [hF] at KO KU
  rw [hK] at KM KU
  clear hf hr hc hl s1 s2 s3 hki hsd hF hK
  obtain ⟨x00, x01, x02⟩ := CW.out.three
  go_wp2_with fail
  refine (KM.out _).mono ?_
  rintro e w3 h
  obtain ⟨b1, A1, n1, c1, B1, m1, d1, rfl, ho, hb⟩ := h.open_
  replace HB := Lib.hid (bstep HB.out hb)
  replace CW := Lib.hid (CW.out.on hb)
  replace ZC := Lib.hid (ZC.out.on hb)
  have R1 := Lib.hid (out_zero ho)
  clear h ho hb
  clear x00 x01 x02
  clear ht hkk hll wt wk wl
  go_upto_region 6 with fail
  obtain ⟨w4, hw⟩ : ∃ W, w3.alloc (.cells #[.bool b1, .slice A1 n1 c1, .slice B1 m1 d1] 27) = W := ⟨_, rfl⟩
  obtain ⟨gC1, hg⟩ : ∃ g, w3.heap.size = g := ⟨_, rfl⟩
  have hb : Below w3.heap.size w3 w4 := hw ▸ below_alloc _ _
  have C1 : Hid (Rw.Cel w4 gC1 [.bool b1, .slice A1 n1 c1, .slice B1 m1 d1]) := hw ▸ hg ▸ Rw.Cel.new w3 [_, _, _] _
  replace HB := Lib.hid (bstep HB.out hb)
  replace CW := Lib.hid (CW.out.on hb)
  replace ZC := Lib.hid (ZC.out.on hb)
  replace R1 := Lib.hid (R1.out.on hb)
  first | rw [hw, hg] | rw [hw]
  clear hw hg hb
  obtain ⟨x00, x01, x02⟩ := CW.out.three
  go_wp2_with fail
  refine (KO.out _).mono ?_
  rintro e w5 h
  obtain ⟨b2, A2, n2, c2, B2, m2, d2, rfl, ho, hb⟩ := h.open_
  replace HB := Lib.hid (bstep HB.out hb)
  replace CW := Lib.hid (CW.out.on hb)
  replace ZC := Lib.hid (ZC.out.on hb)
  replace R1 := Lib.hid (R1.out.on hb)
  replace C1 := Lib.hid (C1.out.on hb)
  have R2 := Lib.hid (out_zero ho)
  clear h ho hb
  clear x00 x01 x02
  go_upto_region 7 with fail
  obtain ⟨w6, hw⟩ : ∃ W, w5.alloc (.cells #[.bool b2, .slice A2 n2 c2, .slice B2 m2 d2] 27) = W := ⟨_, rfl⟩
  obtain ⟨gC2, hg⟩ : ∃ g, w5.heap.size = g := ⟨_, rfl⟩
  have hb : Below w5.heap.size w5 w6 := hw ▸ below_alloc _ _
  have C2 : Hid (Rw.Cel w6 gC2 [.bool b2, .slice A2 n2 c2, .slice B2 m2 d2]) := hw ▸ hg ▸ Rw.Cel.new w5 [_, _, _] _
  replace HB := Lib.hid (bstep HB.out hb)
  replace CW := Lib.hid (CW.out.on hb)
  replace ZC := Lib.hid (ZC.out.on hb)
  replace R1 := Lib.hid (R1.out.on hb)
  replace C1 := Lib.hid (C1.out.on hb)
  replace R2 := Lib.hid (R2.out.on hb)
  first | rw [hw, hg] | rw [hw]
  clear hw hg hb
  obtain ⟨x00, x01, x02⟩ := C2.out.three
  obtain ⟨x10, x11, x12⟩ := C1.out.three
  go_wp2_with fail
  refine (KU.out _ _ _ R2.out R1.out).mono ?_
  rintro e w7 h
  obtain ⟨b3, A3, n3, c3, B3, m3, d3, rfl, ho, hb⟩ := h.open_
  replace HB := Lib.hid (bstep HB.out hb)
  replace CW := Lib.hid (CW.out.on hb)
  replace ZC := Lib.hid (ZC.out.on hb)
  replace R1 := Lib.hid (R1.out.on hb)
  replace C1 := Lib.hid (C1.out.on hb)
  replace R2 := Lib.hid (R2.out.on hb)
  replace C2 := Lib.hid (C2.out.on hb)
  have R3 := Lib.hid (out_zero ho)
  clear h ho hb
  clear x00 x01 x02 x10 x11 x12
  go_upto_region 8 with fail
  obtain ⟨w8, hw⟩ : ∃ W, w7.alloc (.cells #[.bool b3, .slice A3 n3 c3, .slice B3 m3 d3] 27) = W := ⟨_, rfl⟩
  obtain ⟨gC3, hg⟩ : ∃ g, w7.heap.size = g := ⟨_, rfl⟩
  have hb : Below w7.heap.size w7 w8 := hw ▸ below_alloc _ _
  have C3 : Hid (Rw.Cel w8 gC3 [.bool b3, .slice A3 n3 c3, .slice B3 m3 d3]) := hw ▸ hg ▸ Rw.Cel.new w7 [_, _, _] _
  replace HB := Lib.hid (bstep HB.out hb)
  replace CW := Lib.hid (CW.out.on hb)
  replace ZC := Lib.hid (ZC.out.on hb)
  replace R1 := Lib.hid (R1.out.on hb)
  replace C1 := Lib.hid (C1.out.on hb)
  replace R2 := Lib.hid (R2.out.on hb)
  replace C2 := Lib.hid (C2.out.on hb)
  replace R3 := Lib.hid (R3.out.on hb)
  first | rw [hw, hg] | rw [hw]
  clear hw hg hb
  obtain ⟨x00, x01, x02⟩ := C3.out.three
  obtain ⟨x10, x11, x12⟩ := ZC.out.three
  obtain ⟨v0, v1, v2⟩ := ZC.out.warm3
  go_wp2_with fail
  exact bodyPost_ret (res_r2 Try.results11 rfl (ZC.out.put3 _ _ _)) rfl ⟨_, rfl, OutR.ok (InR.put3 R3.out (cel_root ZC.out) _ _ _), Rw.below_put3 HB.out HZ.out _ _ _⟩
end Go.Proofs.Ytohfaoclemcfaaa.Wet
/- The reference: steps, After, Paper (gen20/g.py). -/
namespace Go.Proofs.Ytohfaoclemcfaaa.Wet
open Go.ChangeShapes Go.WideShapes Go.RowKit Go.Lib
open Go.Proofs.Ytohfaoclemcfaaa.Rw (ret_bool ret_int bstep below_drewN below_drew drew_below below_alloc)
set_option linter.unusedVariables false
set_option maxRecDepth 100000

/-- Two numbers and an error. -/
def RRet2 (w : World) (E : Int) (p q : Rat) (e : Ending) (w' : World) : Prop :=
  ∃ b1 A1 n1 c1 B1 m1 d1 b2 A2 n2 c2 B2 m2 d2, e = .returned (.tuple #[.agg #[.bool b1, .slice A1 n1 c1, .slice B1 m1 d1], .agg #[.bool b2, .slice A2 n2 c2, .slice B2 m2 d2], .int .i64 E]) ∧
    OutR w' (.agg #[.bool b1, .slice A1 n1 c1, .slice B1 m1 d1]) E p ∧ OutR w' (.agg #[.bool b2, .slice A2 n2 c2, .slice B2 m2 d2]) E q ∧ Below w.heap.size w w'
theorem res_r5 {fn : Func} {p q u : Tmp} (h : fn.results = #[.cell p 27, .cell q 27, .tmp u]) {tmps : Array Value} {w : World} {g g' : Nat} {u0 u1 u2 v0 v1 v2 : Value} (hp : tmps.getD p undef = .pointer (some ⟨g, 0, none⟩)) (hq : tmps.getD q undef = .pointer (some ⟨g', 0, none⟩))
    (hc : Rw.Cel w g [u0, u1, u2]) (hd : Rw.Cel w g' [v0, v1, v2]) : (results fn tmps).run Try.prog w = .ok (.tuple #[.agg #[u0, u1, u2], .agg #[v0, v1, v2], tmps.getD u undef]) w := by
  have hp' : tmps[p]?.getD undef = .pointer (some ⟨g, 0, none⟩) := by simpa using hp
  have hq' : tmps[q]?.getD undef = .pointer (some ⟨g', 0, none⟩) := by simpa using hq
  obtain ⟨h0, h1, h2⟩ := hc.three
  obtain ⟨k0, k1, k2⟩ := hd.three
  simp [results, h, hp', hq', go_sem, h0, h1, h2, k0, k1, k2]
theorem four (w : World) (x0 x1 x2 y0 y1 y2 : Value) : ∃ w1 gx z1 z2, (((w.alloc (.cells #[x0, x1, x2] 23)).alloc (.cells #[y0, y1, y2] 27)).alloc (.cells #[.bool false, .slice none 0 0, .slice none 0 0] 27)).alloc (.cells #[.bool false, .slice none 0 0, .slice none 0 0] 27) = w1 ∧
    w.heap.size + 1 = gx ∧ gx + 1 = z1 ∧ z1 + 1 = z2 ∧ Rw.Cel w1 w.heap.size [x0, x1, x2] ∧ Rw.Cel w1 gx [y0, y1, y2] ∧ Rw.Cel w1 z1 [.bool false, .slice none 0 0, .slice none 0 0] ∧ Rw.Cel w1 z2 [.bool false, .slice none 0 0, .slice none 0 0] ∧ Below w.heap.size w w1 ∧ w.heap.size + 4 ≤ w1.heap.size :=
  ⟨_, _, _, _, rfl, rfl, rfl, rfl, (((Rw.Cel.new w [_, _, _] _).alloc _).alloc _).alloc _, ((Rw.Cel.new_at _ [_, _, _] _ (by simp)).alloc _).alloc _, (Rw.Cel.new_at _ [_, _, _] _ (by simp)).alloc _, Rw.Cel.new_at _ [_, _, _] _ (by simp), bstep (bstep (bstep (below_alloc _ _) (below_alloc _ _)) (below_alloc _ _)) (below_alloc _ _), by simp⟩
/-- Two numbers stored into two boxes. -/
theorem put6 {w : World} {z1 z2 : Nat} {u1 u2 : Bool} {A1 A2 B1 B2 : Option Addr} {n1 n2 c1 c2 m1 m2 d1 d2 : Nat} (h1 : Rw.Cel w z1 [.bool u1, .slice A1 n1 c1, .slice B1 m1 d1]) (h2 : Rw.Cel w z2 [.bool u2, .slice A2 n2 c2, .slice B2 m2 d2])
    (o12 : z1 ≠ z2) (x0 x1 x2 y0 y1 y2 : Value) : ∃ W, (((((w.setCell ⟨z1, 0, none⟩ x0).setCell ⟨z1, 1, none⟩ x1).setCell ⟨z1, 2, none⟩ x2).setCell ⟨z2, 0, none⟩ y0).setCell ⟨z2, 1, none⟩ y1).setCell ⟨z2, 2, none⟩ y2 = W ∧
    Rw.Cel W z1 [x0, x1, x2] ∧ Rw.Cel W z2 [y0, y1, y2] ∧ (∀ v b xs ys, InR w v b xs ys → InR W v b xs ys) ∧ (∀ B w0, Below B w0 w → B ≤ z1 → B ≤ z2 → Below B w0 W) := by
  have a2 := far3 h2 o12 x0 x1 x2
  refine ⟨_, rfl, far3 (h1.put3 x0 x1 x2) o12.symm y0 y1 y2, a2.put3 y0 y1 y2, fun v b xs ys h => InR.put3 (InR.put3 h (cel_root h1) x0 x1 x2) (cel_root a2) y0 y1 y2, fun B w0 h k1 k2 => Rw.below_put3 (Rw.below_put3 h k1 x0 x1 x2) k2 y0 y1 y2⟩
/-- One number stored into a box. -/
theorem put3_ {w : World} {z : Nat} {u : Bool} {A B : Option Addr} {n c m d : Nat} (h : Rw.Cel w z [.bool u, .slice A n c, .slice B m d]) (x0 x1 x2 : Value) : ∃ W, ((w.setCell ⟨z, 0, none⟩ x0).setCell ⟨z, 1, none⟩ x1).setCell ⟨z, 2, none⟩ x2 = W ∧
    Rw.Cel W z [x0, x1, x2] ∧ (∀ g us, z ≠ g → Rw.Cel w g us → Rw.Cel W g us) ∧ (∀ v b xs ys, InR w v b xs ys → InR W v b xs ys) ∧ (∀ B w0, Below B w0 w → B ≤ z → Below B w0 W) ∧ W.heap.size = w.heap.size :=
  ⟨_, rfl, h.put3 x0 x1 x2, fun g us hne hc => far3 hc hne x0 x1 x2, fun v b xs ys hi => InR.put3 hi (cel_root h) x0 x1 x2, fun B w0 hb k => Rw.below_put3 hb k x0 x1 x2, by simp⟩
theorem afE_st {f r c : Int} {b : Bool} {xs ys : List Int} {n : Int} (h : ¬ stE f r c b xs ys = 0) : afE f r c b xs ys n = stE f r c b xs ys := if_neg h
theorem afE_n {f r c : Int} {b : Bool} {xs ys : List Int} {n : Int} (h : stE f r c b xs ys = 0) (h2 : ¬ (0 ≤ n ∧ n ≤ 16)) : afE f r c b xs ys n = 1 := by unfold afE; rw [if_pos h, if_neg h2]
theorem afE_ok {f r c : Int} {b : Bool} {xs ys : List Int} {n : Int} (h : stE f r c b xs ys = 0) (h2 : 0 ≤ n ∧ n ≤ 16) : afE f r c b xs ys n = 0 := by unfold afE; rw [if_pos h, if_pos h2]
set_option maxHeartbeats 6400000 in
theorem wr_steps (f r c : Int) (v : Value) (b : Bool) (xs ys : List Int) (n : Int) (w : World) (hv : InR w v b xs ys) :
    Calls Try.prog 43 #[.agg #[.int .i64 f, .int .i64 r, .int .i64 c], v, .int .i64 n] w (RRet2 w (afE f r c b xs ys n) (afN f r c (ratV b xs ys) n.toNat) (paN f r c (ratV b xs ys) n.toNat)) := by
  have KC := Lib.hid fun (W : World) => wr_Check f r c W
  have KW := Lib.hid fun (v : Value) (W : World) (h : InR W v b xs ys) => wr_White v b xs ys W h
  obtain ⟨E, hE⟩ : ∃ E, ckW f r c = E := ⟨_, rfl⟩
  obtain ⟨G, hG⟩ : ∃ G, whE b xs ys = G := ⟨_, rfl⟩
  obtain ⟨T, hT⟩ : ∃ T, afE f r c b xs ys n = T := ⟨_, rfl⟩
  rw [hE] at KC
  rw [hG] at KW
  rw [hT]
  have HE := Lib.hid (And.intro hE (And.intro hG hT))
  have HQ := Lib.hid fun (h0 : ckW f r c = 0) (h1 : whE b xs ys = 0) => (by
    obtain ⟨q, hq, rfl, rfl, rfl, h4, h5, h6⟩ := wh_fr h1
    rw [(form_val hq).2]
    exact ⟨fun n hn => Wn.all h5 h6 h0 n hn, rfl, rfl, rfl⟩ : (∀ n, n ≤ 16 → Wn n (afN f r c (ratV b xs ys) n) (paN f r c (ratV b xs ys) n)) ∧ b = negR (ratV b xs ys) ∧ xs = topL (ratV b xs ys) ∧ ys = botL (ratV b xs ys))
  obtain ⟨Q, hQ⟩ : ∃ q, ratV b xs ys = q := ⟨_, rfl⟩
  rw [hQ] at HQ ⊢
  have R0 := Lib.hid hv
  obtain ⟨vp, vq, rfl, ha, hb⟩ := hv
  obtain ⟨A0, c0, rfl, -⟩ := in_open ha
  obtain ⟨B0, d0, rfl, -⟩ := in_open hb
  obtain ⟨n0, hn0⟩ : ∃ n, xs.length = n := ⟨_, rfl⟩
  obtain ⟨m0, hm0⟩ : ∃ n, ys.length = n := ⟨_, rfl⟩
  rw [hn0, hm0] at R0 ⊢
  have HB := Lib.hid (Below.refl w.heap.size w)
  clear hE hG hT hQ ha hb hn0 hm0
  go_enter Try.func43, Try.ntmps43
  go_upto_region 1 with fail
  obtain ⟨w1, gx, z1, z2, hw, hgx, hz1, hz2, cw, cx, cz1, cz2, hb, hsz⟩ := four w (.int .i64 f) (.int .i64 r) (.int .i64 c) (.bool b) (.slice A0 n0 c0) (.slice B0 m0 d0)
  have CW := Lib.hid cw
  have CX := Lib.hid cx
  have Z1 := Lib.hid cz1
  have Z2 := Lib.hid cz2
  have SZ := Lib.hid hsz
  have HZ : Hid (gx = w.heap.size + 1 ∧ z1 = w.heap.size + 2 ∧ z2 = w.heap.size + 3) := Lib.hid (by omega)
  replace HB := Lib.hid (bstep HB.out hb)
  replace R0 := Lib.hid (R0.out.on hb)
  rw [hgx, hz1, hz2]
  rw [hw]
  clear hw hb hgx hz1 hz2 cw cx cz1 cz2 hsz
  obtain ⟨x00, x01, x02⟩ := CW.out.three
  go_wp2_with fail
  refine (KC.out _).mono ?_
  rintro e w2 ⟨rfl, hb⟩
  replace HB := Lib.hid (bstep HB.out hb)
  replace SZ := Lib.hid (Nat.le_trans SZ.out hb.size)
  replace R0 := Lib.hid (R0.out.on hb)
  replace CW := Lib.hid (CW.out.on hb)
  replace CX := Lib.hid (CX.out.on hb)
  replace Z1 := Lib.hid (Z1.out.on hb)
  replace Z2 := Lib.hid (Z2.out.on hb)
  clear hb
  clear x00 x01 x02
  by_cases hz : E = 0
  rotate_left
  · obtain ⟨y1, y2⟩ := ne_zero hz
    obtain rfl : T = E := by rw [← HE.out.2.2, ← HE.out.1, afE_st (by rw [stE_ck (by rw [HE.out.1]; exact hz), HE.out.1]; exact hz)]; exact stE_ck (by rw [HE.out.1]; exact hz)
    have o12 : ¬ z1 = z2 := by have := HZ.out; omega
    have o21 : ¬ z2 = z1 := by have := HZ.out; omega
    obtain ⟨x00, x01, x02⟩ := Z1.out.three
    obtain ⟨x10, x11, x12⟩ := Z2.out.three
    obtain ⟨v10, v11, v12⟩ := Z1.out.warm3
    obtain ⟨v20, v21, v22⟩ := Z2.out.warm3
    go_wp2_with fail
    clear o12 o21 x00 x01 x02 x10 x11 x12 v10 v11 v12 v20 v21 v22
    obtain ⟨wF, hF, F1, F2, FR, FB⟩ := put6 (w := w2) Z1.out Z2.out (by have := HZ.out; omega) (.bool false) (.slice none 0 0) (.slice none 0 0) (.bool false) (.slice none 0 0) (.slice none 0 0)
    rw [hF]
    have G1 := Lib.hid F1
    have G2 := Lib.hid F2
    have GB := Lib.hid (FB _ _ HB.out (by have := HZ.out; omega) (by have := HZ.out; omega))
    clear hF F1 F2 FR FB
    exact bodyPost_ret (res_r5 Try.results43 rfl rfl G1.out G2.out) rfl ⟨_, _, _, _, _, _, _, _, _, _, _, _, _, _, rfl, OutR.no hz, OutR.no hz, GB.out⟩
  subst hz
  obtain ⟨x00, x01, x02⟩ := CX.out.three
  go_wp2_with fail
  refine (KW.out _ _ R0.out).mono ?_
  rintro e w3 ⟨rfl, hb⟩
  replace HB := Lib.hid (bstep HB.out hb)
  replace SZ := Lib.hid (Nat.le_trans SZ.out hb.size)
  replace R0 := Lib.hid (R0.out.on hb)
  replace CW := Lib.hid (CW.out.on hb)
  replace CX := Lib.hid (CX.out.on hb)
  replace Z1 := Lib.hid (Z1.out.on hb)
  replace Z2 := Lib.hid (Z2.out.on hb)
  clear hb
  clear x00 x01 x02
  by_cases hz : G = 0
  rotate_left
  · obtain ⟨y1, y2⟩ := ne_zero hz
    obtain rfl : T = G := by rw [← HE.out.2.2, ← HE.out.2.1, afE_st (by rw [stE_wh HE.out.1, HE.out.2.1]; exact hz)]; exact stE_wh HE.out.1
    have o12 : ¬ z1 = z2 := by have := HZ.out; omega
    have o21 : ¬ z2 = z1 := by have := HZ.out; omega
    obtain ⟨x00, x01, x02⟩ := Z1.out.three
    obtain ⟨x10, x11, x12⟩ := Z2.out.three
    obtain ⟨v10, v11, v12⟩ := Z1.out.warm3
    obtain ⟨v20, v21, v22⟩ := Z2.out.warm3
    go_wp2_with fail
    clear o12 o21 x00 x01 x02 x10 x11 x12 v10 v11 v12 v20 v21 v22
    obtain ⟨wF, hF, F1, F2, FR, FB⟩ := put6 (w := w3) Z1.out Z2.out (by have := HZ.out; omega) (.bool false) (.slice none 0 0) (.slice none 0 0) (.bool false) (.slice none 0 0) (.slice none 0 0)
    rw [hF]
    have G1 := Lib.hid F1
    have G2 := Lib.hid F2
    have GB := Lib.hid (FB _ _ HB.out (by have := HZ.out; omega) (by have := HZ.out; omega))
    clear hF F1 F2 FR FB
    exact bodyPost_ret (res_r5 Try.results43 rfl rfl G1.out G2.out) rfl ⟨_, _, _, _, _, _, _, _, _, _, _, _, _, _, rfl, OutR.no hz, OutR.no hz, GB.out⟩
  subst hz
  have hst : stE f r c b xs ys = 0 := (stE_wh HE.out.1).trans HE.out.2.1
  have hd : (decide (n < 0) = true ∨ (decide (n < 0) = false ∧ decide (16 < n) = true)) ∨ (decide (n < 0) = false ∧ decide (16 < n) = false) := by
    by_cases h1 : n < 0
    · exact Or.inl (Or.inl (decide_eq_true h1))
    · by_cases h2 : 16 < n
      · exact Or.inl (Or.inr ⟨decide_eq_false h1, decide_eq_true h2⟩)
      · exact Or.inr ⟨decide_eq_false h1, decide_eq_false h2⟩
  rcases hd with hd | ⟨nd1, nd2⟩
  · obtain rfl : T = 1 := by
      rw [← HE.out.2.2]
      refine afE_n hst fun h => ?_
      rcases hd with h1 | ⟨-, h1⟩
      · have := of_decide_eq_true h1; omega
      · have := of_decide_eq_true h1; omega
    rcases hd with nd1 | ⟨nd1, nd2⟩
    all_goals
      have o12 : ¬ z1 = z2 := by have := HZ.out; omega
      have o21 : ¬ z2 = z1 := by have := HZ.out; omega
      obtain ⟨x00, x01, x02⟩ := Z1.out.three
      obtain ⟨x10, x11, x12⟩ := Z2.out.three
      obtain ⟨v10, v11, v12⟩ := Z1.out.warm3
      obtain ⟨v20, v21, v22⟩ := Z2.out.warm3
      go_wp2_with fail
      clear o12 o21 x00 x01 x02 x10 x11 x12 v10 v11 v12 v20 v21 v22
      obtain ⟨wF, hF, F1, F2, FR, FB⟩ := put6 (w := w3) Z1.out Z2.out (by have := HZ.out; omega) (.bool false) (.slice none 0 0) (.slice none 0 0) (.bool false) (.slice none 0 0) (.slice none 0 0)
      rw [hF]
      have G1 := Lib.hid F1
      have G2 := Lib.hid F2
      have GB := Lib.hid (FB _ _ HB.out (by have := HZ.out; omega) (by have := HZ.out; omega))
      clear hF F1 F2 FR FB
      exact bodyPost_ret (res_r5 Try.results43 rfl rfl G1.out G2.out) rfl ⟨_, _, _, _, _, _, _, _, _, _, _, _, _, _, rfl, OutR.no (by decide), OutR.no (by decide), GB.out⟩
  have hn1 := of_decide_eq_false nd1
  have hn2 := of_decide_eq_false nd2
  obtain rfl : T = 0 := by rw [← HE.out.2.2]; exact afE_ok hst (by omega)
  obtain ⟨N, rfl⟩ : ∃ N : Nat, n = N := ⟨n.toNat, by omega⟩
  have H16 := Lib.hid (show N ≤ 16 by omega)
  rw [Int.toNat_natCast]
  obtain ⟨hw0, hb0, hx0, hy0⟩ := HQ.out HE.out.1 HE.out.2.1
  have HW := Lib.hid hw0
  replace R0 : Hid (IsR w3 (.agg #[.bool b, .slice A0 n0 c0, .slice B0 m0 d0]) Q) := Lib.hid (by
    have h := R0.out
    unfold IsR
    rw [← hb0, ← hx0, ← hy0]
    exact h)
  have KO := Lib.hid fun (W : World) => y_Of (n := 0) (by decide) (by decide) W
  clear hn1 hn2 hst hw0 hb0 hx0 hy0
  go_wp2_with fail
  refine (KO.out _).mono ?_
  rintro e w4 h
  obtain ⟨b1, A1, n1, c1, B1, m1, d1, rfl, ho, hb⟩ := h.open_
  replace HB := Lib.hid (bstep HB.out hb)
  replace SZ := Lib.hid (Nat.le_trans SZ.out hb.size)
  replace R0 := Lib.hid (R0.out.on hb)
  replace CW := Lib.hid (CW.out.on hb)
  replace CX := Lib.hid (CX.out.on hb)
  replace Z1 := Lib.hid (Z1.out.on hb)
  replace Z2 := Lib.hid (Z2.out.on hb)
  have R1 := Lib.hid (out_zero ho)
  clear h ho hb nd1 nd2
  go_upto_region 9 with fail
  obtain ⟨w5, hw⟩ : ∃ W, w4.alloc (.cells #[.bool b1, .slice A1 n1 c1, .slice B1 m1 d1] 27) = W := ⟨_, rfl⟩
  obtain ⟨gS0, hg⟩ : ∃ g, w4.heap.size = g := ⟨_, rfl⟩
  have hb : Below w4.heap.size w4 w5 := hw ▸ below_alloc _ _
  have S0 : Hid (Rw.Cel w5 gS0 [.bool b1, .slice A1 n1 c1, .slice B1 m1 d1]) := hw ▸ hg ▸ Rw.Cel.new w4 [_, _, _] _
  have SS0 : Hid (w.heap.size + 4 ≤ gS0) := Lib.hid (by have := SZ.out; omega)
  replace HB := Lib.hid (bstep HB.out hb)
  replace SZ := Lib.hid (Nat.le_trans SZ.out hb.size)
  replace R0 := Lib.hid (R0.out.on hb)
  replace CW := Lib.hid (CW.out.on hb)
  replace CX := Lib.hid (CX.out.on hb)
  replace Z1 := Lib.hid (Z1.out.on hb)
  replace Z2 := Lib.hid (Z2.out.on hb)
  replace R1 := Lib.hid (R1.out.on hb)
  first | rw [hw, hg] | rw [hw]
  clear hw hg hb
  have HN := Lib.hid (show 0 ≤ N by omega)
  go_wp2_with fail
  go_loopw [12, 13, 14, 15] (fun iv _ _ _ wr => ∃ (k : Nat) (bx : Bool) (Ax : Option Addr) (nx cx : Nat) (Bx : Option Addr) (mx dx : Nat) (bs : Bool) (As : Option Addr) (ns cs : Nat) (Bs : Option Addr) (ms ds : Nat), k ≤ N ∧ iv = .int .i64 k ∧ Rw.Cel wr w.heap.size [.int .i64 f, .int .i64 r, .int .i64 c] ∧ Rw.Cel wr gx [.bool bx, .slice Ax nx cx, .slice Bx mx dx] ∧ IsR wr (.agg #[.bool bx, .slice Ax nx cx, .slice Bx mx dx]) (afN f r c Q k) ∧ Rw.Cel wr gS0 [.bool bs, .slice As ns cs, .slice Bs ms ds] ∧ IsR wr (.agg #[.bool bs, .slice As ns cs, .slice Bs ms ds]) (paN f r c Q k) ∧ Rw.Cel wr z1 [.bool false, .slice none 0 0, .slice none 0 0] ∧ Rw.Cel wr z2 [.bool false, .slice none 0 0, .slice none 0 0] ∧ Below w.heap.size w wr) (fun iv _ _ _ _ => N - (RowKit.intOf iv).toNat)
  case atStart => exact ⟨0, _, _, _, _, _, _, _, _, _, _, _, _, _, _, Nat.zero_le _, rfl, CW.out, CX.out, R0.out, S0.out, R1.out, Z1.out, Z2.out, HB.out⟩
  case round =>
    clear HB R0 R1 CW CX S0 Z1 Z2 SZ
    obtain ⟨k, bx, Ax, nx, cx, Bx, mx, dx, bs, As, ns, cs, Bs, ms, ds, hk, rfl, cw, cxx, hq, css, hs, cz1, cz2, hbel⟩ := hrel
    have CW := Lib.hid cw
    have CX := Lib.hid cxx
    have RQ := Lib.hid hq
    have CS := Lib.hid css
    have RS := Lib.hid hs
    have Z1 := Lib.hid cz1
    have Z2 := Lib.hid cz2
    have HB := Lib.hid hbel
    have HWk := Lib.hid (HW.out k (by have := H16.out; omega))
    clear cw cxx hq css hs cz1 cz2 hbel
    rcases Nat.lt_or_ge k N with hlt | hge
    · have hstp := HWk.out.stp HE.out.1
      have hsum := HWk.out.sum HE.out.1
      obtain ⟨qk, hqk⟩ : ∃ x, afN f r c Q k = x := ⟨_, rfl⟩
      obtain ⟨sk, hsk⟩ : ∃ x, paN f r c Q k = x := ⟨_, rfl⟩
      rw [hqk] at hstp hsum RQ
      rw [hsk] at hsum RS
      have e1 : afN f r c Q (k + 1) = afV f r c qk := by rw [← hqk]; rfl
      have e2 : paN f r c Q (k + 1) = sk + paV f r qk := by rw [← hqk, ← hsk]; rfl
      have KS := Lib.hid fun (v : Value) (W : World) (h : IsR W v qk) => wr_step hstp HE.out.1 v W h
      have KA := Lib.hid fun (v u : Value) (W : World) (h : IsR W v sk) (h2 : IsR W u (paV f r qk)) => y_Add hsum.2 hstp.fp hsum.1 v u W h h2
      rw [← e1] at KS
      rw [← e2] at KA
      obtain ⟨pk, hpk⟩ : ∃ x, paV f r qk = x := ⟨_, rfl⟩
      obtain ⟨vk, hvk⟩ : ∃ x, seV f r c qk = x := ⟨_, rfl⟩
      obtain ⟨q2, hq2⟩ : ∃ x, afN f r c Q (k + 1) = x := ⟨_, rfl⟩
      obtain ⟨s2, hs2⟩ : ∃ x, paN f r c Q (k + 1) = x := ⟨_, rfl⟩
      rw [hpk, hvk, hq2] at KS
      rw [hpk, hs2] at KA
      have HNX := Lib.hid (And.intro hq2 hs2)
      have i1 : (k : Int) < (N : Int) := by omega
      have hk1 : IntKind.i64.wrap ((k : Int) + 1) = ((k + 1 : Nat) : Int) := Rw.wrap_id (by have := H16.out; omega)
      have HLT := Lib.hid hlt
      clear hstp hsum hqk hsk e1 e2 hpk hvk hq2 hs2
      obtain ⟨x00, x01, x02⟩ := CW.out.three
      obtain ⟨x10, x11, x12⟩ := CX.out.three
      go_wp2_with fail
      refine (KS.out _ _ RQ.out).mono ?_
      rintro e w6 ⟨b2, A2, n2, c2, B2, m2, d2, b3, A3, n3, c3, B3, m3, d3, b4, A4, n4, c4, B4, m4, d4, rfl, hp, hq, hr, hb⟩
      have R2 := Lib.hid hp
      have R4 := Lib.hid hr
      replace HB := Lib.hid (bstep HB.out hb)
      replace CW := Lib.hid (CW.out.on hb)
      replace CX := Lib.hid (CX.out.on hb)
      replace CS := Lib.hid (CS.out.on hb)
      replace RS := Lib.hid (RS.out.on hb)
      replace Z1 := Lib.hid (Z1.out.on hb)
      replace Z2 := Lib.hid (Z2.out.on hb)
      clear hp hq hr hb x00 x01 x02 x10 x11 x12 RQ
      go_upto_region 13 with fail
      obtain ⟨w7, g1, g2, g3, hw, hg1, hg2, hg3, h1, h2, h3, hb⟩ := trio w6 (.bool b2) (.slice A2 n2 c2) (.slice B2 m2 d2) (.bool b3) (.slice A3 n3 c3) (.slice B3 m3 d3) (.bool b4) (.slice A4 n4 c4) (.slice B4 m4 d4)
      have G1 := Lib.hid h1
      have G3 := Lib.hid h3
      have HG : Hid (gS0 < g1 ∧ gx < g1 ∧ g2 = g1 + 1 ∧ g3 = g1 + 2) := Lib.hid (by have h5 := CS.out.lt; have h6 := CX.out.lt; omega)
      first | rw [hg1, hg2, hg3] | rw [hg1, hg2] | rw [hg1] | skip
      rw [hw]
      replace HB := Lib.hid (bstep HB.out hb)
      replace CW := Lib.hid (CW.out.on hb)
      replace CX := Lib.hid (CX.out.on hb)
      replace CS := Lib.hid (CS.out.on hb)
      replace RS := Lib.hid (RS.out.on hb)
      replace Z1 := Lib.hid (Z1.out.on hb)
      replace Z2 := Lib.hid (Z2.out.on hb)
      replace R2 := Lib.hid (R2.out.on hb)
      replace R4 := Lib.hid (R4.out.on hb)
      clear hw hg1 hg2 hg3 h1 h2 h3 hb
      obtain ⟨x00, x01, x02⟩ := CS.out.three
      obtain ⟨x10, x11, x12⟩ := G1.out.three
      go_wp2_with fail
      refine (KA.out _ _ _ RS.out R2.out).mono ?_
      rintro e w8 h
      obtain ⟨b5, A5, n5, c5, B5, m5, d5, rfl, ho, hb⟩ := h.open_
      have R5 := Lib.hid (out_zero ho)
      replace HB := Lib.hid (bstep HB.out hb)
      replace CW := Lib.hid (CW.out.on hb)
      replace CX := Lib.hid (CX.out.on hb)
      replace CS := Lib.hid (CS.out.on hb)
      replace Z1 := Lib.hid (Z1.out.on hb)
      replace Z2 := Lib.hid (Z2.out.on hb)
      replace G3 := Lib.hid (G3.out.on hb)
      replace R4 := Lib.hid (R4.out.on hb)
      clear h ho hb x00 x01 x02 x10 x11 x12
      obtain ⟨x00, x01, x02⟩ := CS.out.three
      obtain ⟨v0, v1, v2⟩ := CS.out.warm3
      go_upto_region 14 with fail
      clear x00 x01 x02 v0 v1 v2
      obtain ⟨w9, hw, ho, hfar, hin, hbl, hsz⟩ := put3_ CS.out (.bool b5) (.slice A5 n5 c5) (.slice B5 m5 d5)
      rw [hw]
      replace CW := Lib.hid (hfar _ _ (by have := SS0.out; omega) CW.out)
      replace CX := Lib.hid (hfar _ _ (by have := SS0.out; have := HZ.out; omega) CX.out)
      replace Z1 := Lib.hid (hfar _ _ (by have := SS0.out; have := HZ.out; omega) Z1.out)
      replace Z2 := Lib.hid (hfar _ _ (by have := SS0.out; have := HZ.out; omega) Z2.out)
      replace G3 := Lib.hid (hfar _ _ (by have := HG.out; omega) G3.out)
      replace R4 : Hid (IsR w9 (.agg #[.bool b4, .slice A4 n4 c4, .slice B4 m4 d4]) q2) := Lib.hid (hin _ _ _ _ R4.out)
      replace R5 : Hid (IsR w9 (.agg #[.bool b5, .slice A5 n5 c5, .slice B5 m5 d5]) s2) := Lib.hid (hin _ _ _ _ R5.out)
      replace HB := Lib.hid (hbl _ _ HB.out (by have := SS0.out; omega))
      have C9 := Lib.hid ho
      clear hw ho hfar hin hbl hsz CS
      obtain ⟨x00, x01, x02⟩ := G3.out.three
      obtain ⟨x10, x11, x12⟩ := CX.out.three
      obtain ⟨v0, v1, v2⟩ := CX.out.warm3
      go_upto_region 11 with fail
      clear x00 x01 x02 x10 x11 x12 v0 v1 v2
      obtain ⟨wA, hw, ho, hfar, hin, hbl, hsz⟩ := put3_ CX.out (.bool b4) (.slice A4 n4 c4) (.slice B4 m4 d4)
      rw [hw]
      replace CW := Lib.hid (hfar _ _ (by have := HZ.out; omega) CW.out)
      replace C9 := Lib.hid (hfar _ _ (by have := SS0.out; have := HZ.out; omega) C9.out)
      replace Z1 := Lib.hid (hfar _ _ (by have := HZ.out; omega) Z1.out)
      replace Z2 := Lib.hid (hfar _ _ (by have := HZ.out; omega) Z2.out)
      replace R4 : Hid (IsR wA (.agg #[.bool b4, .slice A4 n4 c4, .slice B4 m4 d4]) q2) := Lib.hid (hin _ _ _ _ R4.out)
      replace R5 : Hid (IsR wA (.agg #[.bool b5, .slice A5 n5 c5, .slice B5 m5 d5]) s2) := Lib.hid (hin _ _ _ _ R5.out)
      replace HB := Lib.hid (hbl _ _ HB.out (by have := HZ.out; omega))
      have CA := Lib.hid ho
      clear hw ho hfar hin hbl hsz CX
      go_wp2_with fail
      go_roundw
      case rel => exact ⟨k + 1, _, _, _, _, _, _, _, _, _, _, _, _, _, _, HLT.out, by go_num, CW.out, CA.out, by rw [HNX.out.1]; exact R4.out, C9.out, by rw [HNX.out.2]; exact R5.out, Z1.out, Z2.out, HB.out⟩
      case measure => have := HLT.out; simp [RowKit.intOf]; omega
    · obtain rfl : N = k := by omega
      have o12 : ¬ z1 = z2 := by have := HZ.out; omega
      have o21 : ¬ z2 = z1 := by have := HZ.out; omega
      have p11 : ¬ gx = z1 := by have := HZ.out; omega
      have p12 : ¬ gx = z2 := by have := HZ.out; omega
      have p21 : ¬ gS0 = z1 := by have := HZ.out; have := SS0.out; omega
      have p22 : ¬ gS0 = z2 := by have := HZ.out; have := SS0.out; omega
      have q11 : ¬ z1 = gx := by have := HZ.out; omega
      have q12 : ¬ z2 = gx := by have := HZ.out; omega
      have q21 : ¬ z1 = gS0 := by have := HZ.out; have := SS0.out; omega
      have q22 : ¬ z2 = gS0 := by have := HZ.out; have := SS0.out; omega
      obtain ⟨x00, x01, x02⟩ := Z1.out.three
      obtain ⟨x10, x11, x12⟩ := Z2.out.three
      obtain ⟨x20, x21, x22⟩ := CX.out.three
      obtain ⟨x30, x31, x32⟩ := CS.out.three
      obtain ⟨v10, v11, v12⟩ := Z1.out.warm3
      obtain ⟨v20, v21, v22⟩ := Z2.out.warm3
      go_wp2_with fail
      go_region
      all_goals
        clear o12 o21 p11 p12 p21 p22 q11 q12 q21 q22 x00 x01 x02 x10 x11 x12 x20 x21 x22 x30 x31 x32 v10 v11 v12 v20 v21 v22
        obtain ⟨wF, hF, F1, F2, FR, FB⟩ := put6 (w := wr) Z1.out Z2.out (by have := HZ.out; omega) (.bool bx) (.slice Ax nx cx) (.slice Bx mx dx) (.bool bs) (.slice As ns cs) (.slice Bs ms ds)
        rw [hF]
        have D1 : Hid (Rw.Cel wF.drew z1 [.bool bx, .slice Ax nx cx, .slice Bx mx dx]) := Lib.hid F1.drew
        have D2 : Hid (Rw.Cel wF.drew z2 [.bool bs, .slice As ns cs, .slice Bs ms ds]) := Lib.hid F2.drew
        have HF : Hid (RRet2 w 0 (afN f r c Q N) (paN f r c Q N) (.returned (.tuple #[.agg #[.bool bx, .slice Ax nx cx, .slice Bx mx dx], .agg #[.bool bs, .slice As ns cs, .slice Bs ms ds], .int .i64 0])) wF.drew) := Lib.hid ⟨_, _, _, _, _, _, _, _, _, _, _, _, _, _, rfl, OutR.ok (FR _ _ _ _ RQ.out), OutR.ok (FR _ _ _ _ RS.out), below_drew (FB _ _ HB.out (by have := HZ.out; omega) (by have := HZ.out; omega))⟩
        clear hF F1 F2 FR FB
        go_wp2_with fail
        exact bodyPost_ret (res_r5 Try.results43 rfl rfl D1.out D2.out) rfl HF.out
end Go.Proofs.Ytohfaoclemcfaaa.Wet
/- The reference: After, Paper; the laws' whole, end, light (gen20/h.py). -/
namespace Go.Proofs.Ytohfaoclemcfaaa.Wet
open Go.ChangeShapes Go.WideShapes Go.RowKit Go.Lib
open Go.Proofs.Ytohfaoclemcfaaa.Rw (ret_bool ret_int bstep below_drewN below_drew drew_below below_alloc)
set_option linter.unusedVariables false
set_option maxRecDepth 100000

theorem three_box (w : World) (x0 x1 x2 y0 y1 y2 : Value) : ∃ w1 gx z, ((w.alloc (.cells #[x0, x1, x2] 23)).alloc (.cells #[y0, y1, y2] 27)).alloc (.cells #[.bool false, .slice none 0 0, .slice none 0 0] 27) = w1 ∧
    w.heap.size + 1 = gx ∧ gx + 1 = z ∧ Rw.Cel w1 w.heap.size [x0, x1, x2] ∧ Rw.Cel w1 gx [y0, y1, y2] ∧ Rw.Cel w1 z [.bool false, .slice none 0 0, .slice none 0 0] ∧ Below w.heap.size w w1 :=
  ⟨_, _, _, rfl, rfl, rfl, ((Rw.Cel.new w [_, _, _] _).alloc _).alloc _, (Rw.Cel.new_at _ [_, _, _] _ (by simp)).alloc _, Rw.Cel.new_at _ [_, _, _] _ (by simp), bstep (bstep (below_alloc _ _) (below_alloc _ _)) (below_alloc _ _)⟩
theorem duo (w : World) (x0 x1 x2 y0 y1 y2 : Value) : ∃ W g1 g2, (w.alloc (.cells #[x0, x1, x2] 27)).alloc (.cells #[y0, y1, y2] 27) = W ∧
    w.heap.size = g1 ∧ g1 + 1 = g2 ∧ Rw.Cel W g1 [x0, x1, x2] ∧ Rw.Cel W g2 [y0, y1, y2] ∧ Below w.heap.size w W :=
  ⟨_, _, _, rfl, rfl, rfl, (Rw.Cel.new w [_, _, _] _).alloc _, Rw.Cel.new_at _ [_, _, _] _ (by simp), bstep (below_alloc _ _) (below_alloc _ _)⟩
theorem res_w1 {fn : Func} {p : Tmp} (h : fn.results = #[.cell p 23]) {tmps : Array Value} {w : World} {g : Nat} {u0 u1 u2 : Value} (hp : tmps.getD p undef = .pointer (some ⟨g, 0, none⟩))
    (hc : Rw.Cel w g [u0, u1, u2]) : (results fn tmps).run Try.prog w = .ok (.agg #[u0, u1, u2]) w := by
  have hp' : tmps[p]?.getD undef = .pointer (some ⟨g, 0, none⟩) := by simpa using hp
  obtain ⟨h0, h1, h2⟩ := hc.three
  simp [results, h, hp', go_sem, h0, h1, h2]
set_option maxHeartbeats 3200000 in
theorem wr_After (f r c : Int) (v : Value) (b : Bool) (xs ys : List Int) (n : Int) (w : World) (hv : InR w v b xs ys) :
    Calls Try.prog 20 #[.agg #[.int .i64 f, .int .i64 r, .int .i64 c], v, .int .i64 n] w (RRes w (afE f r c b xs ys n) (afN f r c (ratV b xs ys) n.toNat)) := by
  have KS := Lib.hid fun (v : Value) (W : World) (h : InR W v b xs ys) => wr_steps f r c v b xs ys n W h
  obtain ⟨E, hE⟩ : ∃ E, afE f r c b xs ys n = E := ⟨_, rfl⟩
  obtain ⟨vX, hX⟩ : ∃ x, afN f r c (ratV b xs ys) n.toNat = x := ⟨_, rfl⟩
  obtain ⟨vP, hP⟩ : ∃ x, paN f r c (ratV b xs ys) n.toNat = x := ⟨_, rfl⟩
  rw [hE, hX, hP] at KS
  rw [hE]
  first | rw [hX] | rw [hP]
  have R0 := Lib.hid hv
  obtain ⟨vp, vq, rfl, ha, hb⟩ := hv
  obtain ⟨A0, c0, rfl, -⟩ := in_open ha
  obtain ⟨B0, d0, rfl, -⟩ := in_open hb
  obtain ⟨n0, hn0⟩ : ∃ n, xs.length = n := ⟨_, rfl⟩
  obtain ⟨m0, hm0⟩ : ∃ n, ys.length = n := ⟨_, rfl⟩
  rw [hn0, hm0] at R0 ⊢
  clear hE hX hP ha hb hn0 hm0
  go_enter Try.func20, Try.ntmps20
  go_upto_region 1 with fail
  obtain ⟨w1, gx, z, hw, hgx, hz, cw, cx, cz, hb⟩ := three_box w (.int .i64 f) (.int .i64 r) (.int .i64 c) (.bool b) (.slice A0 n0 c0) (.slice B0 m0 d0)
  have HZ : Hid (w.heap.size ≤ z) := Lib.hid (by omega)
  have HB := Lib.hid hb
  have ZC := Lib.hid cz
  replace R0 := Lib.hid (R0.out.on hb)
  rw [hgx, hz]
  rw [hw]
  clear hw hb hgx hz cz
  obtain ⟨x00, x01, x02⟩ := cw.three
  obtain ⟨x10, x11, x12⟩ := cx.three
  clear cw cx
  go_wp2_with fail
  refine (KS.out _ _ R0.out).mono ?_
  rintro e w2 ⟨b1, A1, n1, c1, B1, m1, d1, b2, A2, n2, c2, B2, m2, d2, rfl, hp, hq, hb⟩
  have R1 := Lib.hid hp
  have R2 := Lib.hid hq
  replace HB := Lib.hid (bstep HB.out hb)
  replace ZC := Lib.hid (ZC.out.on hb)
  clear hp hq hb x00 x01 x02 x10 x11 x12
  go_upto_region 2 with fail
  obtain ⟨w3, g1, g2, hw, hg1, hg2, h1, h2, hb⟩ := duo w2 (.bool b1) (.slice A1 n1 c1) (.slice B1 m1 d1) (.bool b2) (.slice A2 n2 c2) (.slice B2 m2 d2)
  replace HB := Lib.hid (bstep HB.out hb)
  replace ZC := Lib.hid (ZC.out.on hb)
  replace R1 := Lib.hid (R1.out.on hb)
  replace R2 := Lib.hid (R2.out.on hb)
  first | rw [hg1, hg2] | rw [hg1] | skip
  rw [hw]
  clear hw hg1 hg2 hb
  obtain ⟨x00, x01, x02⟩ := h1.three
  obtain ⟨x10, x11, x12⟩ := ZC.out.three
  obtain ⟨v0, v1, v2⟩ := ZC.out.warm3
  clear h1 h2
  go_wp2_with fail
  exact bodyPost_ret (res_r2 Try.results20 rfl (ZC.out.put3 _ _ _)) rfl ⟨_, rfl, OutR.put3 R1.out (cel_root ZC.out) _ _ _, Rw.below_put3 HB.out HZ.out _ _ _⟩
set_option maxHeartbeats 3200000 in
theorem wr_Paper (f r c : Int) (v : Value) (b : Bool) (xs ys : List Int) (n : Int) (w : World) (hv : InR w v b xs ys) :
    Calls Try.prog 22 #[.agg #[.int .i64 f, .int .i64 r, .int .i64 c], v, .int .i64 n] w (RRes w (afE f r c b xs ys n) (paN f r c (ratV b xs ys) n.toNat)) := by
  have KS := Lib.hid fun (v : Value) (W : World) (h : InR W v b xs ys) => wr_steps f r c v b xs ys n W h
  obtain ⟨E, hE⟩ : ∃ E, afE f r c b xs ys n = E := ⟨_, rfl⟩
  obtain ⟨vX, hX⟩ : ∃ x, afN f r c (ratV b xs ys) n.toNat = x := ⟨_, rfl⟩
  obtain ⟨vP, hP⟩ : ∃ x, paN f r c (ratV b xs ys) n.toNat = x := ⟨_, rfl⟩
  rw [hE, hX, hP] at KS
  rw [hE]
  first | rw [hX] | rw [hP]
  have R0 := Lib.hid hv
  obtain ⟨vp, vq, rfl, ha, hb⟩ := hv
  obtain ⟨A0, c0, rfl, -⟩ := in_open ha
  obtain ⟨B0, d0, rfl, -⟩ := in_open hb
  obtain ⟨n0, hn0⟩ : ∃ n, xs.length = n := ⟨_, rfl⟩
  obtain ⟨m0, hm0⟩ : ∃ n, ys.length = n := ⟨_, rfl⟩
  rw [hn0, hm0] at R0 ⊢
  clear hE hX hP ha hb hn0 hm0
  go_enter Try.func22, Try.ntmps22
  go_upto_region 1 with fail
  obtain ⟨w1, gx, z, hw, hgx, hz, cw, cx, cz, hb⟩ := three_box w (.int .i64 f) (.int .i64 r) (.int .i64 c) (.bool b) (.slice A0 n0 c0) (.slice B0 m0 d0)
  have HZ : Hid (w.heap.size ≤ z) := Lib.hid (by omega)
  have HB := Lib.hid hb
  have ZC := Lib.hid cz
  replace R0 := Lib.hid (R0.out.on hb)
  rw [hgx, hz]
  rw [hw]
  clear hw hb hgx hz cz
  obtain ⟨x00, x01, x02⟩ := cw.three
  obtain ⟨x10, x11, x12⟩ := cx.three
  clear cw cx
  go_wp2_with fail
  refine (KS.out _ _ R0.out).mono ?_
  rintro e w2 ⟨b1, A1, n1, c1, B1, m1, d1, b2, A2, n2, c2, B2, m2, d2, rfl, hp, hq, hb⟩
  have R1 := Lib.hid hp
  have R2 := Lib.hid hq
  replace HB := Lib.hid (bstep HB.out hb)
  replace ZC := Lib.hid (ZC.out.on hb)
  clear hp hq hb x00 x01 x02 x10 x11 x12
  go_upto_region 2 with fail
  obtain ⟨w3, g1, g2, hw, hg1, hg2, h1, h2, hb⟩ := duo w2 (.bool b1) (.slice A1 n1 c1) (.slice B1 m1 d1) (.bool b2) (.slice A2 n2 c2) (.slice B2 m2 d2)
  replace HB := Lib.hid (bstep HB.out hb)
  replace ZC := Lib.hid (ZC.out.on hb)
  replace R1 := Lib.hid (R1.out.on hb)
  replace R2 := Lib.hid (R2.out.on hb)
  first | rw [hg1, hg2] | rw [hg1] | skip
  rw [hw]
  clear hw hg1 hg2 hb
  obtain ⟨x00, x01, x02⟩ := h2.three
  obtain ⟨x10, x11, x12⟩ := ZC.out.three
  obtain ⟨v0, v1, v2⟩ := ZC.out.warm3
  clear h1 h2
  go_wp2_with fail
  exact bodyPost_ret (res_r2 Try.results22 rfl (ZC.out.put3 _ _ _)) rfl ⟨_, rfl, OutR.put3 R2.out (cel_root ZC.out) _ _ _, Rw.below_put3 HB.out HZ.out _ _ _⟩
set_option maxHeartbeats 1600000 in
theorem law_whole {n : Int} (h0 : 0 ≤ n) (h1 : n ≤ 1099511627776) (w : World) : Calls Try.prog 26 #[.int .i64 n] w (RRet w (mkV n 1)) := by
  have KO := Lib.hid fun (W : World) => y_Of h0 h1 W
  obtain ⟨vF, hF⟩ : ∃ x, mkV n 1 = x := ⟨_, rfl⟩
  rw [hF] at KO ⊢
  clear hF h0 h1
  go_enter Try.func26, Try.ntmps26
  go_upto_region 1 with fail
  obtain ⟨w1, hw⟩ : ∃ W, w.alloc (.cells #[.bool false, .slice none 0 0, .slice none 0 0] 27) = W := ⟨_, rfl⟩
  have ZC : Hid (Rw.Cel w1 w.heap.size [.bool false, .slice none 0 0, .slice none 0 0]) := hw ▸ Rw.Cel.new w [_, _, _] _
  have HB : Hid (Below w.heap.size w w1) := hw ▸ below_alloc _ _
  rw [hw]
  clear hw
  go_wp2_with fail
  refine (KO.out _).mono ?_
  rintro e w2 h
  obtain ⟨b1, A1, n1, c1, B1, m1, d1, rfl, ho, hb⟩ := h.open_
  have R1 := Lib.hid (out_zero ho)
  replace HB := Lib.hid (bstep HB.out hb)
  replace ZC := Lib.hid (ZC.out.on hb)
  clear h ho hb
  go_upto_region 2 with fail
  obtain ⟨w3, hw⟩ : ∃ W, w2.alloc (.cells #[.bool b1, .slice A1 n1 c1, .slice B1 m1 d1] 27) = W := ⟨_, rfl⟩
  obtain ⟨g, hg⟩ : ∃ g, w2.heap.size = g := ⟨_, rfl⟩
  have hb : Below w2.heap.size w2 w3 := hw ▸ below_alloc _ _
  have C1 : Hid (Rw.Cel w3 g [.bool b1, .slice A1 n1 c1, .slice B1 m1 d1]) := hw ▸ hg ▸ Rw.Cel.new w2 [_, _, _] _
  replace HB := Lib.hid (bstep HB.out hb)
  replace ZC := Lib.hid (ZC.out.on hb)
  replace R1 := Lib.hid (R1.out.on hb)
  first | rw [hw, hg] | rw [hw]
  clear hw hg hb
  obtain ⟨x00, x01, x02⟩ := C1.out.three
  obtain ⟨x10, x11, x12⟩ := ZC.out.three
  obtain ⟨v0, v1, v2⟩ := ZC.out.warm3
  go_wp2_with fail
  exact bodyPost_ret (res_r1 Try.results26 rfl (ZC.out.put3 _ _ _)) rfl ⟨_, _, _, _, _, _, _, rfl, InR.put3 R1.out (cel_root ZC.out) _ _ _, Rw.below_put3 HB.out (Nat.le_refl _) _ _ _⟩
theorem law_end (w : World) : Calls Try.prog 35 #[] w fun e w' => e = .returned (.agg #[.int .i64 900, .int .i64 600, .int .i64 500]) ∧ Below w.heap.size w w' := by
  go_enter Try.func35, Try.ntmps35
  go_upto_region 1 with fail
  obtain ⟨w1, hw⟩ : ∃ W, w.alloc (.cells #[.int .i64 0, .int .i64 0, .int .i64 0] 23) = W := ⟨_, rfl⟩
  have ZC : Hid (Rw.Cel w1 w.heap.size [.int .i64 0, .int .i64 0, .int .i64 0]) := hw ▸ Rw.Cel.new w [_, _, _] _
  have HB : Hid (Below w.heap.size w w1) := hw ▸ below_alloc _ _
  rw [hw]
  clear hw
  obtain ⟨x10, x11, x12⟩ := ZC.out.three
  obtain ⟨v0, v1, v2⟩ := ZC.out.warm3
  go_wp2_with fail
  exact bodyPost_ret (res_w1 Try.results35 rfl (ZC.out.put3 _ _ _)) rfl ⟨rfl, Rw.below_put3 HB.out (Nat.le_refl _) _ _ _⟩
/-- Few limbs, or too many. -/
def ligB (xs ys : List Int) : Bool := decide (max xs.length ys.length ≤ 3) || (decide (8 < max xs.length ys.length) && decide (max xs.length ys.length ≤ 12))

end Go.Proofs.Ytohfaoclemcfaaa.Wet
/- Contracts of slices.Clone at api.Nat; Neg of rat and of its reference. -/
namespace Go.Proofs.Ytohfaoclemcfaaa
open Go.ChangeShapes Go.WideShapes Go.RowKit
set_option linter.unusedVariables false
set_option maxRecDepth 100000

theorem own_nothing (w : World) : (w.alloc (.cells #[] 3)).ownsRow w.heap.size 3 1 (.slice (some ⟨w.heap.size, 0, none⟩) 0 0) ([] : List Int).length (([] : List Int).map (Value.int .i64)) := own_empty w
set_option maxHeartbeats 800000 in
theorem nat_Clone (xs : List Int) (va : Value) (w : World) (ha : In w va xs) (hl : xs.length ≤ 1000) :
    Calls Try.prog 61 #[va] w fun e w' => ∃ v, e = .returned v ∧ In w' v xs ∧ Below w.heap.size w w' := by
  obtain ⟨A, c, rfl, hc, hm, hA⟩ := ha
  have HS := Lib.hid hA
  clear hA
  cases A with
  | none =>
    have hn : xs = [] := by
      cases xs with
      | nil => rfl
      | cons z zs => obtain ⟨b, off, h, _⟩ := HS.out 0 z rfl; cases h
    subst hn
    have heq : ∀ W : World, (binOp .eql 25 (.slice none 0 c) (.slice none 0 0)).run Try.prog W = .ok (.bool true) W := fun W => Lib.run_eql_slice_nil W _ 3 none 0 c 0 0 Try.underlying25
    go_enter Try.func61, Try.ntmps61
    go_wp2_with fail
    go_ret
    exact ⟨_, rfl, In.nil _, Below.refl _ _⟩
  | some ad =>
    have heq : ∀ W : World, (binOp .eql 25 (.slice (some ad) xs.length c) (.slice none 0 0)).run Try.prog W = .ok (.bool false) W := fun W => Lib.run_eql_slice_nil W _ 3 (some ad) xs.length c 0 0 Try.underlying25
    have HAL := Lib.hid (HS.out.below (below_alloc w (.cells #[] 3)) (Nat.le_refl _))
    have HOE := Lib.hid (own_nothing w)
    have HLEN := Lib.hid (show ([] : List Int).length + xs.length ≤ 1000000 by simp; omega)
    go_enter Try.func61, Try.ntmps61
    go_wp2_with (first
      | (at_builtin; refine append_holds rfl (.tmp 5) (.tmp 6) rfl w.heap.size _ [] rfl HOE.out 0 w.heap.size (some ad) c xs xs.length rfl rfl HAL.out HLEN.out (by simp) ?_; intro v' w5 hown hgrow; refine Hid.out ?_)
      | fail)
    refine Lib.hid ?_
    rw [List.nil_append] at hown
    have hb5 : Below w.heap.size w w5 := (below_alloc _ _).grown hgrow (by simp) (own_block_ge HOE.out)
    have HSL := Lib.hid (sl_of_owns hown)
    have HB5 := Lib.hid hb5
    clear hown hgrow hb5
    go_wp2_with fail
    go_ret
    exact ⟨v', rfl, HSL.out.toIn, HB5.out⟩

/-- A function of one number. -/
def opH (er : Rat → Int) (b : Bool) (xs ys : List Int) : Int := if valR b xs ys then er (ratV b xs ys) else 3
def opU (f : Rat → Rat) (b : Bool) (xs ys : List Int) : Rat := f (ratV b xs ys)
theorem opH_no {er : Rat → Int} {b : Bool} {xs ys : List Int} (h : valR b xs ys = false) : opH er b xs ys = 3 := by unfold opH; rw [h]; rfl
theorem opH_form {er : Rat → Int} {f : Rat → Rat} {r : Rat} (hr : fitR r = true) : opH er (negR r) (topL r) (botL r) = er r ∧ opU f (negR r) (topL r) (botL r) = f r := by
  unfold opH opU; rw [(form_val hr).1, (form_val hr).2]; exact ⟨rfl, rfl⟩
def noE (r : Rat) : Int := 0
def negOp (r : Rat) : Rat := -r

end Go.Proofs.Ytohfaoclemcfaaa
/- Contracts of rounded, Floor, Ceil of rat; Floor, Ceil of the reference. -/
namespace Go.Proofs.Ytohfaoclemcfaaa
open Go.ChangeShapes Go.WideShapes Go.RowKit
set_option linter.unusedVariables false
set_option maxRecDepth 100000

def rQ (r : Rat) : Nat := r.num.natAbs / r.den
def rM (r : Rat) : Nat := r.num.natAbs % r.den
def rmag (r : Rat) (away : Bool) : Nat := if away && decide (0 < rM r) then rQ r + 1 else rQ r
def rndV (r : Rat) (away : Bool) : Int := if rmag r away ≤ 1125899906842624 then sgI (negR r) (rmag r away) else 0
def rndE (r : Rat) (away : Bool) : Int := if rmag r away ≤ 1125899906842624 then 0 else 2
def rW (away : Bool) (b : Bool) (xs ys : List Int) : Int := if valR b xs ys then rndV (ratV b xs ys) away else 0
theorem rW_no {away b : Bool} {xs ys : List Int} (h : valR b xs ys = false) : rW away b xs ys = 0 := by unfold rW; rw [h]; rfl
theorem rW_form {away : Bool} {r : Rat} (hr : fitR r = true) : rW away (negR r) (topL r) (botL r) = rndV r away := by unfold rW; rw [(form_val hr).1, (form_val hr).2]; rfl
theorem rE_form {away : Bool} {r : Rat} (hr : fitR r = true) : opH (fun r => rndE r away) (negR r) (topL r) (botL r) = rndE r away := (opH_form (f := negOp) hr).1
theorem rnd_big {r : Rat} {away : Bool} (h : 1125899906842624 < rmag r away) : rndV r away = 0 ∧ rndE r away = 2 := ⟨if_neg (by omega), if_neg (by omega)⟩
theorem rnd_ok {r : Rat} {away : Bool} {n : Nat} (e : rmag r away = n) (h : n ≤ 1125899906842624) : rndV r away = sgI (negR r) n ∧ rndE r away = 0 := by
  subst e; exact ⟨if_pos h, if_pos h⟩
theorem rmag_away {r : Rat} (h : 0 < rM r) : rmag r true = rQ r + 1 := by unfold rmag; rw [decide_eq_true h]; rfl
theorem rmag_exact {r : Rat} {away : Bool} (h : rM r = 0) : rmag r away = rQ r := by unfold rmag; rw [h]; cases away <;> rfl
theorem rmag_down (r : Rat) : rmag r false = rQ r := rfl
theorem rmag_ge (r : Rat) (away : Bool) : rQ r ≤ rmag r away := by unfold rmag; split <;> omega
theorem intV_limbs {n : Nat} (h : n < big48) : intV (limbs n) = (if (n : Int) ≤ 1125899906842624 then (n : Int) else 0) ∧ intE (limbs n) = (if (n : Int) ≤ 1125899906842624 then 0 else 2) := by
  unfold intV intE; rw [valid48 h, if_pos rfl, if_pos rfl, nval_limbs]; exact ⟨rfl, rfl⟩
theorem rQ_lt {r : Rat} (hr : fitR r = true) : rQ r < big48 := Nat.lt_of_le_of_lt (Nat.div_le_self _ _) (fitR_iff.mp hr).1
theorem len_pos_dec (n : Nat) : decide (0 < (limbs n).length) = decide (0 < n) := by
  by_cases h : n = 0
  · subst h; rw [limbs_zero]; rfl
  · rw [decide_eq_true (limbs_len_pos.mpr h), decide_eq_true (Nat.pos_of_ne_zero h)]

end Go.Proofs.Ytohfaoclemcfaaa
/- Contracts of Floor, Ceil of rat and of its reference. -/
namespace Go.Proofs.Ytohfaoclemcfaaa
open Go.ChangeShapes Go.WideShapes Go.RowKit
set_option linter.unusedVariables false
set_option maxRecDepth 100000

def floorV (b : Bool) (xs ys : List Int) : Int := rW b b xs ys
def floorE (b : Bool) (xs ys : List Int) : Int := opH (fun r => rndE r b) b xs ys
def ceilV (b : Bool) (xs ys : List Int) : Int := rW (!b) b xs ys
def ceilE (b : Bool) (xs ys : List Int) : Int := opH (fun r => rndE r (!b)) b xs ys
theorem rmag_neg (r : Rat) (away : Bool) : rmag (-r) away = rmag r away := by
  unfold rmag rQ rM; rw [(neg_parts r).1, (neg_parts r).2, Int.natAbs_neg]
theorem rmag_zero {r : Rat} (h : r.num = 0) (away : Bool) : rmag r away = 0 := by unfold rmag rQ rM; rw [h]; cases away <;> simp
theorem negR_neg_zero {r : Rat} (h : r.num = 0) : negR (-r) = false ∧ negR r = false := by
  unfold negR; rw [(neg_parts r).1, h]; exact ⟨rfl, rfl⟩
theorem negR_neg {r : Rat} (h : r.num ≠ 0) : negR (-r) = !negR r := by
  rw [(neg_form r).1, decide_eq_true (show 0 < r.num.natAbs by omega), Bool.and_true]
/-- The least integer above is the negative of the greatest one below the negative. -/
theorem ceil_neg (r : Rat) : -(rndV (-r) (negR (-r))) = rndV r (!negR r) ∧ rndE (-r) (negR (-r)) = rndE r (!negR r) := by
  unfold rndV rndE
  rw [rmag_neg]
  by_cases h : r.num = 0
  · rw [rmag_zero h, rmag_zero h, (negR_neg_zero h).1, (negR_neg_zero h).2]; exact ⟨by decide, rfl⟩
  · rw [negR_neg h]
    refine ⟨?_, rfl⟩
    split
    · cases negR r <;> simp [sgI]
    · rfl
theorem rndV_bd (r : Rat) (away : Bool) : -1125899906842624 ≤ rndV r away ∧ rndV r away ≤ 1125899906842624 := by
  unfold rndV
  split
  · unfold sgI; split <;> omega
  · omega

end Go.Proofs.Ytohfaoclemcfaaa
/- Contracts of Text of rat and of its reference. -/
namespace Go.Proofs.Ytohfaoclemcfaaa
open Go.ChangeShapes Go.WideShapes Go.RowKit
set_option linter.unusedVariables false
set_option maxRecDepth 100000

/-- The text of a number. -/
def txtL (r : Rat) : List UInt8 := (if negR r then [45] else []) ++ (Lib.decDigits r.num.natAbs ++ (if r.den = 1 then [] else 47 :: Lib.decDigits r.den))
def txtS (r : Rat) : ByteArray := ⟨(txtL r).toArray⟩
def txtW (b : Bool) (xs ys : List Int) : ByteArray := if valR b xs ys then txtS (ratV b xs ys) else ⟨#[]⟩
theorem txtW_no {b : Bool} {xs ys : List Int} (h : valR b xs ys = false) : txtW b xs ys = ⟨#[]⟩ := by unfold txtW; rw [h]; rfl
theorem txtW_form {r : Rat} (hr : fitR r = true) : txtW (negR r) (topL r) (botL r) = txtS r := by unfold txtW; rw [(form_val hr).1, (form_val hr).2]; rfl
theorem textV_limbs {n : Nat} (h : n < big48) : (textV (limbs n)).data.toList = Lib.decDigits n := by rw [textV, valid48 h, nvt]; rfl
theorem oneE_limbs {n : Nat} (h : n < big48) : oneE (limbs n) = 0 := by rw [oneE, valid48 h]; rfl
theorem text_short {n : Nat} (h : n < big48) : (textV (limbs n)).size ≤ 432 := by
  have hlt : n < 10 ^ (431 + 1) := by unfold big48 at h; rw [pow9, show 9 * 48 = 431 + 1 from rfl] at h; exact h
  have hlen := dec_len (k := 431) hlt
  rw [← textV_limbs h, str_len] at hlen
  omega
theorem txt_ff {r : Rat} (hr : fitR r = true) (h1 : negR r = false) (h2 : r.den = 1) : textV (topL r) = txtS r := by
  refine bytes_inj ?_
  unfold topL txtS txtL
  rw [textV_limbs (fitR_iff.mp hr).1, h1, h2]; simp
theorem txt_tf {r : Rat} (hr : fitR r = true) (h1 : negR r = true) (h2 : r.den = 1) : (⟨#[45]⟩ : ByteArray) ++ textV (topL r) = txtS r := by
  refine bytes_inj ?_
  unfold topL txtS txtL
  rw [ByteArray.data_append, Array.toList_append, textV_limbs (fitR_iff.mp hr).1, h1, h2]; simp
theorem txt_ft {r : Rat} (hr : fitR r = true) (h1 : negR r = false) (h2 : r.den ≠ 1) : textV (topL r) ++ ((⟨#[47]⟩ : ByteArray) ++ textV (botL r)) = txtS r := by
  refine bytes_inj ?_
  unfold topL botL txtS txtL
  rw [ByteArray.data_append, ByteArray.data_append, Array.toList_append, Array.toList_append, textV_limbs (fitR_iff.mp hr).1, textV_limbs (fitR_iff.mp hr).2, h1, if_neg h2]; simp
theorem txt_tt {r : Rat} (hr : fitR r = true) (h1 : negR r = true) (h2 : r.den ≠ 1) : ((⟨#[45]⟩ : ByteArray) ++ textV (topL r)) ++ ((⟨#[47]⟩ : ByteArray) ++ textV (botL r)) = txtS r := by
  refine bytes_inj ?_
  unfold topL botL txtS txtL
  rw [ByteArray.data_append, ByteArray.data_append, ByteArray.data_append, Array.toList_append, Array.toList_append, Array.toList_append, textV_limbs (fitR_iff.mp hr).1, textV_limbs (fitR_iff.mp hr).2, h1, if_neg h2]; simp
theorem bot_one (r : Rat) : decide (botL r = [1]) = decide (r.den = 1) := limbs_is_one r.den

end Go.Proofs.Ytohfaoclemcfaaa
/- Lists of rational numbers in memory; their sums. The contract of rat.Sum. -/
namespace Go.Proofs.Ytohfaoclemcfaaa
open Go.ChangeShapes Go.WideShapes Go.RowKit
set_option linter.unusedVariables false
set_option maxRecDepth 100000

/-- A sign and two lists of limbs. -/
abbrev Trip := Bool × List Int × List Int
def vT (t : Trip) : Bool := valR t.1 t.2.1 t.2.2
def rT (t : Trip) : Rat := ratV t.1 t.2.1 t.2.2
/-- At the address lie the numbers L. -/
def Rats (w : World) (A : Option Addr) (L : List Trip) : Prop :=
  ∀ (k : Nat) (t : Trip), L[k]? = some t → ∃ b off A1 c1 A2 c2, A = some ⟨b, off, none⟩ ∧ b < w.heap.size ∧
    (w.cell? ⟨b, off + k * 3, none⟩ = some (.bool t.1) ∧ w.cell? ⟨b, off + k * 3 + 1, none⟩ = some (.slice A1 t.2.1.length c1) ∧ w.cell? ⟨b, off + k * 3 + 2, none⟩ = some (.slice A2 t.2.2.length c2)) ∧
    In w (.slice A1 t.2.1.length c1) t.2.1 ∧ In w (.slice A2 t.2.2.length c2) t.2.2
theorem Rats.on {w w' : World} {A : Option Addr} {L : List Trip} (h : Rats w A L) (hb : Below w.heap.size w w') : Rats w' A L := by
  intro k t hk
  obtain ⟨b, off, A1, c1, A2, c2, e, hlt, ⟨h0, h1, h2⟩, i1, i2⟩ := h k t hk
  exact ⟨b, off, A1, c1, A2, c2, e, Nat.lt_of_lt_of_le hlt hb.size, ⟨(hb.cell (p := ⟨b, off + k * 3, none⟩) hlt).trans h0, (hb.cell (p := ⟨b, off + k * 3 + 1, none⟩) hlt).trans h1, (hb.cell (p := ⟨b, off + k * 3 + 2, none⟩) hlt).trans h2⟩, i1.on hb, i2.on hb⟩

/-- The sum from s on, element by element; none where an addition does not fit. -/
def tot : List Rat → Rat → Option Rat
  | [], s => some s
  | a :: l, s => if sumOk s a then tot l (s + a) else none
def sumE (L : List Trip) : Int := if 4096 < L.length then 8 else if L.all vT then (if (tot (L.map rT) 0).isSome then 0 else 2) else 3
def sumV (L : List Trip) : Rat := (tot (L.map rT) 0).getD 0
theorem sumE_full {L : List Trip} (h : 4096 < L.length) : sumE L = 8 := if_pos h
theorem sumE_form {L : List Trip} (h : ¬ 4096 < L.length) (h2 : L.all vT = false) : sumE L = 3 := by unfold sumE; rw [if_neg h, h2]; rfl
theorem sumE_over {L : List Trip} (h : ¬ 4096 < L.length) (h2 : L.all vT = true) (h3 : tot (L.map rT) 0 = none) : sumE L = 2 := by unfold sumE; rw [if_neg h, h2, h3]; rfl
theorem sumE_ok {L : List Trip} {r : Rat} (h : ¬ 4096 < L.length) (h2 : L.all vT = true) (h3 : tot (L.map rT) 0 = some r) : sumE L = 0 ∧ sumV L = r := by unfold sumE sumV; rw [if_neg h, h2, h3]; exact ⟨rfl, rfl⟩
theorem all_false {L : List Trip} {k : Nat} {t : Trip} (h : L[k]? = some t) (hv : vT t = false) : L.all vT = false := by
  rw [List.all_eq_false]; exact ⟨t, List.mem_of_getElem? h, by simpa using hv⟩
theorem all_true {L : List Trip} (h : ∀ (k : Nat) (t : Trip), L[k]? = some t → vT t = true) : L.all vT = true := by
  rw [List.all_eq_true]
  intro t ht
  obtain ⟨k, hk⟩ := List.mem_iff_getElem?.mp ht
  exact h k t hk
theorem all_at {L : List Trip} (h : L.all vT = true) {k : Nat} {t : Trip} (hk : L[k]? = some t) : vT t = true := by
  rw [List.all_eq_true] at h; exact h t (List.mem_of_getElem? hk)
theorem tot_step {L : List Trip} {k : Nat} {t : Trip} {s : Rat} (hk : L[k]? = some t) : tot ((L.drop k).map rT) s = if sumOk s (rT t) then tot ((L.drop (k + 1)).map rT) (s + rT t) else none := by
  have hlt : k < L.length := by
    rcases Nat.lt_or_ge k L.length with h | h
    · exact h
    · rw [List.getElem?_eq_none h] at hk; cases hk
  have e : L[k] = t := by rw [List.getElem?_eq_getElem hlt] at hk; exact Option.some.inj hk
  rw [List.drop_eq_getElem_cons hlt, e]; rfl
theorem tot_end {L : List Trip} {s : Rat} : tot ((L.drop L.length).map rT) s = some s := by rw [List.drop_length]; rfl
theorem fit_sum {r s : Rat} (hr : fitR r = true) (hs : fitR s = true) (h : sumOk r s = true) : fitR (r + s) = true := by
  rw [sumOk_eq, Bool.and_eq_true, Bool.and_eq_true] at h
  obtain ⟨h1, h2, h3⟩ := h
  rw [← add_form]
  exact mk_fit (sMag_lt (prOk_parts h1).1 (prOk_parts h1).2 h3) (of_decide_eq_true h2) (Nat.mul_ne_zero r.den_nz s.den_nz)
theorem fit_zero : fitR 0 = true := by rw [fitR_iff]; exact ⟨big48_pos, small48 (by decide)⟩
theorem mkV_zero : mkV 0 1 = 0 := by decide +kernel
theorem mkE_zero : mkE 0 1 = 0 := by decide
/-- A valid number is the form of its value. -/
theorem trip_form {t : Trip} (h : vT t = true) : fitR (rT t) = true ∧ t.1 = negR (rT t) ∧ t.2.1 = topL (rT t) ∧ t.2.2 = botL (rT t) := by
  obtain ⟨b, xs, ys⟩ := t
  obtain ⟨r, hr, h1, h2, h3⟩ := val_form h
  have e : rT (b, xs, ys) = r := by unfold rT; rw [h1, h2, h3]; exact (form_val hr).2
  rw [e]; exact ⟨hr, h1, h2, h3⟩
theorem trip_is {w : World} {v : Value} {t : Trip} (h : vT t = true) (hi : InR w v t.1 t.2.1 t.2.2) : IsR w v (rT t) := by
  obtain ⟨_, h1, h2, h3⟩ := trip_form h
  unfold IsR; rw [← h1, ← h2, ← h3]; exact hi

/-- What holds at the head of the loop that adds. -/
def SumInv (w wr : World) (g gs : Nat) (r : Rat) : Prop :=
  (Below w.heap.size w wr ∧ w.heap.size ≤ gs ∧ g ≠ gs) ∧ Cel wr g (.bool false) (.slice none 0 0) (.slice none 0 0) ∧
  ∃ b A1 n1 d1 A2 n2 d2, Cel wr gs (.bool b) (.slice A1 n1 d1) (.slice A2 n2 d2) ∧ IsR wr (.agg #[.bool b, .slice A1 n1 d1, .slice A2 n2 d2]) r
theorem OutR.zero {w : World} {v : Value} {err : Int} {r : Rat} (h : err = 0) (ho : OutR w v err r) : IsR w v r := by unfold OutR at ho; rw [if_pos h] at ho; exact ho

end Go.Proofs.Ytohfaoclemcfaaa
/- The contract of Sum of the reference. -/
namespace Go.Proofs.Ytohfaoclemcfaaa
open Go.ChangeShapes Go.WideShapes Go.RowKit
set_option linter.unusedVariables false
set_option maxRecDepth 100000

theorem below_of_drew {w w' : World} (h : Below w.drew.heap.size w.drew w') : Below w.heap.size w w' := (Below.refl w.heap.size w).drew.trans h

end Go.Proofs.Ytohfaoclemcfaaa
