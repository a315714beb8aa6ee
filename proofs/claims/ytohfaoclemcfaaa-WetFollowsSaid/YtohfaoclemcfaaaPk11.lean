/- Several texts in one: RatN, RatO. -/
import Derived.Test.YtohfaoclemcfaaaPk10
import Derived.Deep.RegionHeld3
/- The contract of Add of the reference. -/
namespace Go.Proofs.Ytohfaoclemcfaaa
open Go.ChangeShapes Go.WideShapes Go.RowKit
set_option linter.unusedVariables false
set_option maxRecDepth 100000

set_option maxHeartbeats 1600000 in
theorem ref_Add3_no1 (b : Bool) (xs ys : List Int) (c : Bool) (zs ts : List Int) (v u : Value) (w : World) (hv : InR w v b xs ys) (hu : InR w u c zs ts) (hn1 : valR b xs ys = false) (hn : two b xs ys c zs ts = false) :
    Calls Try.prog 25 #[v, u] w (RRes w (opE sumOk b xs ys c zs ts) (opV addOp b xs ys c zs ts)) := by
  have HN1 := Lib.hid hn1
  have HN := Lib.hid hn
  clear hn1 hn
  obtain ⟨vp, vq, rfl, h1, h2⟩ := hv
  obtain ⟨up, uq, rfl, h3, h4⟩ := hu
  obtain ⟨A1, c1, rfl, h1'⟩ := in_open h1
  obtain ⟨A2, c2, rfl, h2'⟩ := in_open h2
  obtain ⟨A3, c3, rfl, h3'⟩ := in_open h3
  obtain ⟨A4, c4, rfl, h4'⟩ := in_open h4
  have HV := Lib.hid (show InR w (.agg #[.bool b, .slice A1 xs.length c1, .slice A2 ys.length c2]) b xs ys from ⟨_, _, rfl, h1', h2'⟩)
  have HU := Lib.hid (show InR w (.agg #[.bool c, .slice A3 zs.length c3, .slice A4 ts.length c4]) c zs ts from ⟨_, _, rfl, h3', h4'⟩)
  have HC := Lib.hid (Cel.new ((w.alloc (.cells #[.bool b, .slice A1 xs.length c1, .slice A2 ys.length c2] 27)).alloc (.cells #[.bool c, .slice A3 zs.length c3, .slice A4 ts.length c4] 27)) (.bool false) (.slice none 0 0) (.slice none 0 0) 27)
  have HCA := Lib.hid (((Cel.new w (.bool b) (.slice A1 xs.length c1) (.slice A2 ys.length c2) 27).alloc (.cells #[.bool c, .slice A3 zs.length c3, .slice A4 ts.length c4] 27)).alloc (.cells #[.bool false, .slice none 0 0, .slice none 0 0] 27))
  have HCB := Lib.hid ((Cel.new (w.alloc (.cells #[.bool b, .slice A1 xs.length c1, .slice A2 ys.length c2] 27)) (.bool c) (.slice A3 zs.length c3) (.slice A4 ts.length c4) 27).alloc (.cells #[.bool false, .slice none 0 0, .slice none 0 0] 27))
  simp only [World.size_alloc] at HC HCB
  have hb0 : ∀ o1 o2 o3, Below w.heap.size w (((w.alloc o1).alloc o2).alloc o3) := fun _ _ _ => balloc (balloc (below_alloc _ _) _) _
  have hz0 : ∀ o1 o2 o3, (((w.alloc o1).alloc o2).alloc o3).heap.size = w.heap.size + 3 := fun _ _ _ => by simp
  have HB0 := Lib.hid hb0
  have HZ0 := Lib.hid hz0
  clear h1 h2 h3 h4 h1' h2' h3' h4' hb0 hz0
  go_enter Try.func25, Try.ntmps25
  go_wp2_with fail
  refine (ref_Valid3 _ _ _ _ _ (HV.out.on (HB0.out _ _ _))).mono ?_
  rw [HN1.out]
  rintro e w1 ⟨rfl, hb1⟩
  have HZ1 : w.heap.size + 3 ≤ w1.heap.size := by have := hb1.size; rw [HZ0.out] at this; exact this
  have HB1 : Hid (Below w.heap.size w w1) := (HB0.out _ _ _).trans (hb1.mono (by rw [HZ0.out]; omega))
  have HC1 := Lib.hid (HC.out.on hb1)
  have HCA1 := Lib.hid (HCA.out.on hb1)
  have HCB1 := Lib.hid (HCB.out.on hb1)
  clear hb1
  obtain ⟨⟨r0, r1, r2⟩, s0, s1, s2⟩ : Cel w1 (w.heap.size + 1 + 1) (.bool false) (.slice none 0 0) (.slice none 0 0) := HC1.out
  go_wp2_with fail
  obtain ⟨⟨z0, z1, z2⟩, -⟩ := HC1.out.put3 (.bool false) (.slice none 0 0) (.slice none 0 0)
  simp only [put3] at z0 z1 z2
  refine bodyPost_ret (v := .tuple #[.agg #[.bool false, .slice none 0 0, .slice none 0 0], .int .i64 3]) (by simp [results, Try.results25, go_sem, z0, z1, z2]) rfl ?_
  rw [opE_no HN.out]
  exact ⟨_, rfl, OutR.no (by decide), below_put3 HB1.out (g := w.heap.size + 1 + 1) (by omega) _ _ _⟩

set_option maxHeartbeats 1600000 in
theorem ref_Add3_no2 (b : Bool) (xs ys : List Int) (c : Bool) (zs ts : List Int) (v u : Value) (w : World) (hv : InR w v b xs ys) (hu : InR w u c zs ts) (hn1 : valR b xs ys = true) (hn2 : valR c zs ts = false) (hn : two b xs ys c zs ts = false) :
    Calls Try.prog 25 #[v, u] w (RRes w (opE sumOk b xs ys c zs ts) (opV addOp b xs ys c zs ts)) := by
  have HN1 := Lib.hid hn1
  have HN2 := Lib.hid hn2
  have HN := Lib.hid hn
  clear hn1 hn2 hn
  obtain ⟨vp, vq, rfl, h1, h2⟩ := hv
  obtain ⟨up, uq, rfl, h3, h4⟩ := hu
  obtain ⟨A1, c1, rfl, h1'⟩ := in_open h1
  obtain ⟨A2, c2, rfl, h2'⟩ := in_open h2
  obtain ⟨A3, c3, rfl, h3'⟩ := in_open h3
  obtain ⟨A4, c4, rfl, h4'⟩ := in_open h4
  have HV := Lib.hid (show InR w (.agg #[.bool b, .slice A1 xs.length c1, .slice A2 ys.length c2]) b xs ys from ⟨_, _, rfl, h1', h2'⟩)
  have HU := Lib.hid (show InR w (.agg #[.bool c, .slice A3 zs.length c3, .slice A4 ts.length c4]) c zs ts from ⟨_, _, rfl, h3', h4'⟩)
  have HC := Lib.hid (Cel.new ((w.alloc (.cells #[.bool b, .slice A1 xs.length c1, .slice A2 ys.length c2] 27)).alloc (.cells #[.bool c, .slice A3 zs.length c3, .slice A4 ts.length c4] 27)) (.bool false) (.slice none 0 0) (.slice none 0 0) 27)
  have HCA := Lib.hid (((Cel.new w (.bool b) (.slice A1 xs.length c1) (.slice A2 ys.length c2) 27).alloc (.cells #[.bool c, .slice A3 zs.length c3, .slice A4 ts.length c4] 27)).alloc (.cells #[.bool false, .slice none 0 0, .slice none 0 0] 27))
  have HCB := Lib.hid ((Cel.new (w.alloc (.cells #[.bool b, .slice A1 xs.length c1, .slice A2 ys.length c2] 27)) (.bool c) (.slice A3 zs.length c3) (.slice A4 ts.length c4) 27).alloc (.cells #[.bool false, .slice none 0 0, .slice none 0 0] 27))
  simp only [World.size_alloc] at HC HCB
  have hb0 : ∀ o1 o2 o3, Below w.heap.size w (((w.alloc o1).alloc o2).alloc o3) := fun _ _ _ => balloc (balloc (below_alloc _ _) _) _
  have hz0 : ∀ o1 o2 o3, (((w.alloc o1).alloc o2).alloc o3).heap.size = w.heap.size + 3 := fun _ _ _ => by simp
  have HB0 := Lib.hid hb0
  have HZ0 := Lib.hid hz0
  clear h1 h2 h3 h4 h1' h2' h3' h4' hb0 hz0
  go_enter Try.func25, Try.ntmps25
  go_wp2_with fail
  refine (ref_Valid3 _ _ _ _ _ (HV.out.on (HB0.out _ _ _))).mono ?_
  rw [HN1.out]
  rintro e w1 ⟨rfl, hb1⟩
  have HZ1 : w.heap.size + 3 ≤ w1.heap.size := by have := hb1.size; rw [HZ0.out] at this; exact this
  have HB1 : Hid (Below w.heap.size w w1) := (HB0.out _ _ _).trans (hb1.mono (by rw [HZ0.out]; omega))
  have HC1 := Lib.hid (HC.out.on hb1)
  have HCA1 := Lib.hid (HCA.out.on hb1)
  have HCB1 := Lib.hid (HCB.out.on hb1)
  clear hb1
  obtain ⟨⟨b0, b1, b2⟩, -⟩ : Cel w1 (w.heap.size + 1) (.bool c) (.slice A3 zs.length c3) (.slice A4 ts.length c4) := HCB1.out
  go_wp2_with fail
  clear b0 b1 b2
  refine (ref_Valid3 _ _ _ _ _ (HU.out.on HB1.out)).mono ?_
  rw [HN2.out]
  rintro e w2 ⟨rfl, hb2⟩
  have HZ2 : w.heap.size + 3 ≤ w2.heap.size := by have := hb2.size; omega
  have HB2 : Hid (Below w.heap.size w w2) := HB1.out.trans (hb2.mono (by omega))
  have HC2 := Lib.hid (HC1.out.on hb2)
  have HCA2 := Lib.hid (HCA1.out.on hb2)
  have HCB2 := Lib.hid (HCB1.out.on hb2)
  clear hb2
  obtain ⟨⟨r0, r1, r2⟩, s0, s1, s2⟩ : Cel w2 (w.heap.size + 1 + 1) (.bool false) (.slice none 0 0) (.slice none 0 0) := HC2.out
  go_wp2_with fail
  obtain ⟨⟨z0, z1, z2⟩, -⟩ := HC2.out.put3 (.bool false) (.slice none 0 0) (.slice none 0 0)
  simp only [put3] at z0 z1 z2
  refine bodyPost_ret (v := .tuple #[.agg #[.bool false, .slice none 0 0, .slice none 0 0], .int .i64 3]) (by simp [results, Try.results25, go_sem, z0, z1, z2]) rfl ?_
  rw [opE_no HN.out]
  exact ⟨_, rfl, OutR.no (by decide), below_put3 HB2.out (g := w.heap.size + 1 + 1) (by omega) _ _ _⟩

set_option maxHeartbeats 1600000 in
theorem ref_Add3_f1 (r s : Rat) (hr : fitR r = true) (hs : fitR s = true) (v u : Value) (w : World) (hv : IsR w v r) (hu : IsR w u s) (ho1 : decide (r.num.natAbs * s.den < big48) = false) :
    Calls Try.prog 25 #[v, u] w (RRes w (opE sumOk (negR r) (topL r) (botL r) (negR s) (topL s) (botL s)) (opV addOp (negR r) (topL r) (botL r) (negR s) (topL s) (botL s))) := by
  have HF := Lib.hid (op_form (ok := sumOk) (f := addOp) hr hs)
  have HN : Hid (sumOk r s = false) := by rw [Hid, sumOk_eq, prOk, ho1]; rfl
  have HO1 := Lib.hid ho1
  have BR := Lib.hid (fitR_iff.mp hr)
  have BS := Lib.hid (fitR_iff.mp hs)
  have HR := Lib.hid hr
  have HS := Lib.hid hs
  have HN1 := Lib.hid (form_val hr).1
  have HN2 := Lib.hid (form_val hs).1
  clear hr hs
  clear ho1
  obtain ⟨vp, vq, rfl, h1, h2⟩ := hv
  obtain ⟨up, uq, rfl, h3, h4⟩ := hu
  obtain ⟨A1, c1, rfl, h1'⟩ := in_open h1
  obtain ⟨A2, c2, rfl, h2'⟩ := in_open h2
  obtain ⟨A3, c3, rfl, h3'⟩ := in_open h3
  obtain ⟨A4, c4, rfl, h4'⟩ := in_open h4
  have HV := Lib.hid (show InR w (.agg #[.bool (negR r), .slice A1 (topL r).length c1, .slice A2 (botL r).length c2]) (negR r) (topL r) (botL r) from ⟨_, _, rfl, h1', h2'⟩)
  have HU := Lib.hid (show InR w (.agg #[.bool (negR s), .slice A3 (topL s).length c3, .slice A4 (botL s).length c4]) (negR s) (topL s) (botL s) from ⟨_, _, rfl, h3', h4'⟩)
  have H1 := Lib.hid h1'
  have H2 := Lib.hid h2'
  have H3 := Lib.hid h3'
  have H4 := Lib.hid h4'
  have HC := Lib.hid (Cel.new ((w.alloc (.cells #[.bool (negR r), .slice A1 (topL r).length c1, .slice A2 (botL r).length c2] 27)).alloc (.cells #[.bool (negR s), .slice A3 (topL s).length c3, .slice A4 (botL s).length c4] 27)) (.bool false) (.slice none 0 0) (.slice none 0 0) 27)
  have HCA := Lib.hid (((Cel.new w (.bool (negR r)) (.slice A1 (topL r).length c1) (.slice A2 (botL r).length c2) 27).alloc (.cells #[.bool (negR s), .slice A3 (topL s).length c3, .slice A4 (botL s).length c4] 27)).alloc (.cells #[.bool false, .slice none 0 0, .slice none 0 0] 27))
  have HCB := Lib.hid ((Cel.new (w.alloc (.cells #[.bool (negR r), .slice A1 (topL r).length c1, .slice A2 (botL r).length c2] 27)) (.bool (negR s)) (.slice A3 (topL s).length c3) (.slice A4 (botL s).length c4) 27).alloc (.cells #[.bool false, .slice none 0 0, .slice none 0 0] 27))
  simp only [World.size_alloc] at HC HCB
  have hb0 : ∀ o1 o2 o3, Below w.heap.size w (((w.alloc o1).alloc o2).alloc o3) := fun _ _ _ => balloc (balloc (below_alloc _ _) _) _
  have hz0 : ∀ o1 o2 o3, (((w.alloc o1).alloc o2).alloc o3).heap.size = w.heap.size + 3 := fun _ _ _ => by simp
  have HB0 := Lib.hid hb0
  have HZ0 := Lib.hid hz0
  clear h1 h2 h3 h4 h1' h2' h3' h4' hb0 hz0
  go_enter Try.func25, Try.ntmps25
  go_wp2_with fail
  refine (ref_Valid3 _ _ _ _ _ (HV.out.on (HB0.out _ _ _))).mono ?_
  rw [HN1.out]
  rintro e w1 ⟨rfl, hb1⟩
  have HZ1 : w.heap.size + 3 ≤ w1.heap.size := by have := hb1.size; rw [HZ0.out] at this; exact this
  have HB1 : Hid (Below w.heap.size w w1) := (HB0.out _ _ _).trans (hb1.mono (by rw [HZ0.out]; omega))
  have HC1 := Lib.hid (HC.out.on hb1)
  have HCA1 := Lib.hid (HCA.out.on hb1)
  have HCB1 := Lib.hid (HCB.out.on hb1)
  clear hb1
  obtain ⟨⟨b0, b1, b2⟩, -⟩ : Cel w1 (w.heap.size + 1) (.bool (negR s)) (.slice A3 (topL s).length c3) (.slice A4 (botL s).length c4) := HCB1.out
  go_wp2_with fail
  clear b0 b1 b2
  refine (ref_Valid3 _ _ _ _ _ (HU.out.on HB1.out)).mono ?_
  rw [HN2.out]
  rintro e w2 ⟨rfl, hb2⟩
  have HZ2 : w.heap.size + 3 ≤ w2.heap.size := by have := hb2.size; omega
  have HB2 : Hid (Below w.heap.size w w2) := HB1.out.trans (hb2.mono (by omega))
  have HC2 := Lib.hid (HC1.out.on hb2)
  have HCA2 := Lib.hid (HCA1.out.on hb2)
  have HCB2 := Lib.hid (HCB1.out.on hb2)
  clear hb2
  obtain ⟨⟨a0, a1, a2⟩, -⟩ : Cel w2 w.heap.size (.bool (negR r)) (.slice A1 (topL r).length c1) (.slice A2 (botL r).length c2) := HCA2.out
  obtain ⟨⟨b0, b1, b2⟩, -⟩ : Cel w2 (w.heap.size + 1) (.bool (negR s)) (.slice A3 (topL s).length c3) (.slice A4 (botL s).length c4) := HCB2.out
  go_wp2_with fail
  clear a0 a1 a2 b0 b1 b2
  refine (ref_Mul_in r.num.natAbs s.den _ _ w2 (H1.out.on HB2.out) (H4.out.on HB2.out) BR.out.1 BS.out.2).mono ?_
  rw [HO1.out]
  rintro e w3 ⟨x, rfl, hv, hb⟩
  have xS3 := Lib.hid hv.toIn
  clear hv
  have HZ3 : w.heap.size + 3 ≤ w3.heap.size := by have := hb.size; omega
  have HB3 : Hid (Below w.heap.size w w3) := HB2.out.trans (hb.mono (by omega))
  have HC3 := Lib.hid (HC2.out.on hb)
  have HCA3 := Lib.hid (HCA2.out.on hb)
  have HCB3 := Lib.hid (HCB2.out.on hb)
  clear hb
  unfold okE
  obtain ⟨⟨a0, a1, a2⟩, -⟩ : Cel w3 w.heap.size (.bool (negR r)) (.slice A1 (topL r).length c1) (.slice A2 (botL r).length c2) := HCA3.out
  obtain ⟨⟨b0, b1, b2⟩, -⟩ : Cel w3 (w.heap.size + 1) (.bool (negR s)) (.slice A3 (topL s).length c3) (.slice A4 (botL s).length c4) := HCB3.out
  go_wp2_with fail
  clear a0 a1 a2 b0 b1 b2
  refine (ref_Mul_in s.num.natAbs r.den _ _ w3 (H3.out.on HB3.out) (H2.out.on HB3.out) BS.out.1 BR.out.2).mono ?_
  rintro e w4 ⟨y, rfl, hv, hb⟩
  have yS4 := Lib.hid hv.toIn
  clear hv
  have HZ4 : w.heap.size + 3 ≤ w4.heap.size := by have := hb.size; omega
  have HB4 : Hid (Below w.heap.size w w4) := HB3.out.trans (hb.mono (by omega))
  have HC4 := Lib.hid (HC3.out.on hb)
  have HCA4 := Lib.hid (HCA3.out.on hb)
  have HCB4 := Lib.hid (HCB3.out.on hb)
  have xS4 := Lib.hid (xS3.out.on hb)
  clear hb
  obtain ⟨⟨a0, a1, a2⟩, -⟩ : Cel w4 w.heap.size (.bool (negR r)) (.slice A1 (topL r).length c1) (.slice A2 (botL r).length c2) := HCA4.out
  obtain ⟨⟨b0, b1, b2⟩, -⟩ : Cel w4 (w.heap.size + 1) (.bool (negR s)) (.slice A3 (topL s).length c3) (.slice A4 (botL s).length c4) := HCB4.out
  go_wp2_with fail
  clear a0 a1 a2 b0 b1 b2
  refine (ref_Mul_in r.den s.den _ _ w4 (H2.out.on HB4.out) (H4.out.on HB4.out) BR.out.2 BS.out.2).mono ?_
  rintro e w5 ⟨q, rfl, hv, hb⟩
  have qS5 := Lib.hid hv.toIn
  clear hv
  have HZ5 : w.heap.size + 3 ≤ w5.heap.size := by have := hb.size; omega
  have HB5 : Hid (Below w.heap.size w w5) := HB4.out.trans (hb.mono (by omega))
  have HC5 := Lib.hid (HC4.out.on hb)
  have HCA5 := Lib.hid (HCA4.out.on hb)
  have HCB5 := Lib.hid (HCB4.out.on hb)
  have xS5 := Lib.hid (xS4.out.on hb)
  have yS5 := Lib.hid (yS4.out.on hb)
  clear hb
  obtain ⟨⟨r0, r1, r2⟩, s0, s1, s2⟩ : Cel w5 (w.heap.size + 1 + 1) (.bool false) (.slice none 0 0) (.slice none 0 0) := HC5.out
  go_wp2_with fail
  obtain ⟨⟨z0, z1, z2⟩, -⟩ := HC5.out.put3 (.bool false) (.slice none 0 0) (.slice none 0 0)
  simp only [put3] at z0 z1 z2
  refine bodyPost_ret (v := .tuple #[.agg #[.bool false, .slice none 0 0, .slice none 0 0], .int .i64 2]) (by simp [results, Try.results25, go_sem, z0, z1, z2]) rfl ?_
  rw [HF.out.1, HF.out.2, HN.out]
  exact ⟨_, rfl, OutR.no (by decide), below_put3 HB5.out (g := w.heap.size + 1 + 1) (by omega) _ _ _⟩

set_option maxHeartbeats 1600000 in
theorem ref_Add3_f2 (r s : Rat) (hr : fitR r = true) (hs : fitR s = true) (v u : Value) (w : World) (hv : IsR w v r) (hu : IsR w u s) (ho1 : decide (r.num.natAbs * s.den < big48) = true) (ho2 : decide (s.num.natAbs * r.den < big48) = false) :
    Calls Try.prog 25 #[v, u] w (RRes w (opE sumOk (negR r) (topL r) (botL r) (negR s) (topL s) (botL s)) (opV addOp (negR r) (topL r) (botL r) (negR s) (topL s) (botL s))) := by
  have HF := Lib.hid (op_form (ok := sumOk) (f := addOp) hr hs)
  have HN : Hid (sumOk r s = false) := by rw [Hid, sumOk_eq, prOk, ho1, ho2]; rfl
  have HO1 := Lib.hid ho1
  have HO2 := Lib.hid ho2
  have BR := Lib.hid (fitR_iff.mp hr)
  have BS := Lib.hid (fitR_iff.mp hs)
  have HR := Lib.hid hr
  have HS := Lib.hid hs
  have HN1 := Lib.hid (form_val hr).1
  have HN2 := Lib.hid (form_val hs).1
  clear hr hs
  clear ho1 ho2
  obtain ⟨vp, vq, rfl, h1, h2⟩ := hv
  obtain ⟨up, uq, rfl, h3, h4⟩ := hu
  obtain ⟨A1, c1, rfl, h1'⟩ := in_open h1
  obtain ⟨A2, c2, rfl, h2'⟩ := in_open h2
  obtain ⟨A3, c3, rfl, h3'⟩ := in_open h3
  obtain ⟨A4, c4, rfl, h4'⟩ := in_open h4
  have HV := Lib.hid (show InR w (.agg #[.bool (negR r), .slice A1 (topL r).length c1, .slice A2 (botL r).length c2]) (negR r) (topL r) (botL r) from ⟨_, _, rfl, h1', h2'⟩)
  have HU := Lib.hid (show InR w (.agg #[.bool (negR s), .slice A3 (topL s).length c3, .slice A4 (botL s).length c4]) (negR s) (topL s) (botL s) from ⟨_, _, rfl, h3', h4'⟩)
  have H1 := Lib.hid h1'
  have H2 := Lib.hid h2'
  have H3 := Lib.hid h3'
  have H4 := Lib.hid h4'
  have HC := Lib.hid (Cel.new ((w.alloc (.cells #[.bool (negR r), .slice A1 (topL r).length c1, .slice A2 (botL r).length c2] 27)).alloc (.cells #[.bool (negR s), .slice A3 (topL s).length c3, .slice A4 (botL s).length c4] 27)) (.bool false) (.slice none 0 0) (.slice none 0 0) 27)
  have HCA := Lib.hid (((Cel.new w (.bool (negR r)) (.slice A1 (topL r).length c1) (.slice A2 (botL r).length c2) 27).alloc (.cells #[.bool (negR s), .slice A3 (topL s).length c3, .slice A4 (botL s).length c4] 27)).alloc (.cells #[.bool false, .slice none 0 0, .slice none 0 0] 27))
  have HCB := Lib.hid ((Cel.new (w.alloc (.cells #[.bool (negR r), .slice A1 (topL r).length c1, .slice A2 (botL r).length c2] 27)) (.bool (negR s)) (.slice A3 (topL s).length c3) (.slice A4 (botL s).length c4) 27).alloc (.cells #[.bool false, .slice none 0 0, .slice none 0 0] 27))
  simp only [World.size_alloc] at HC HCB
  have hb0 : ∀ o1 o2 o3, Below w.heap.size w (((w.alloc o1).alloc o2).alloc o3) := fun _ _ _ => balloc (balloc (below_alloc _ _) _) _
  have hz0 : ∀ o1 o2 o3, (((w.alloc o1).alloc o2).alloc o3).heap.size = w.heap.size + 3 := fun _ _ _ => by simp
  have HB0 := Lib.hid hb0
  have HZ0 := Lib.hid hz0
  clear h1 h2 h3 h4 h1' h2' h3' h4' hb0 hz0
  go_enter Try.func25, Try.ntmps25
  go_wp2_with fail
  refine (ref_Valid3 _ _ _ _ _ (HV.out.on (HB0.out _ _ _))).mono ?_
  rw [HN1.out]
  rintro e w1 ⟨rfl, hb1⟩
  have HZ1 : w.heap.size + 3 ≤ w1.heap.size := by have := hb1.size; rw [HZ0.out] at this; exact this
  have HB1 : Hid (Below w.heap.size w w1) := (HB0.out _ _ _).trans (hb1.mono (by rw [HZ0.out]; omega))
  have HC1 := Lib.hid (HC.out.on hb1)
  have HCA1 := Lib.hid (HCA.out.on hb1)
  have HCB1 := Lib.hid (HCB.out.on hb1)
  clear hb1
  obtain ⟨⟨b0, b1, b2⟩, -⟩ : Cel w1 (w.heap.size + 1) (.bool (negR s)) (.slice A3 (topL s).length c3) (.slice A4 (botL s).length c4) := HCB1.out
  go_wp2_with fail
  clear b0 b1 b2
  refine (ref_Valid3 _ _ _ _ _ (HU.out.on HB1.out)).mono ?_
  rw [HN2.out]
  rintro e w2 ⟨rfl, hb2⟩
  have HZ2 : w.heap.size + 3 ≤ w2.heap.size := by have := hb2.size; omega
  have HB2 : Hid (Below w.heap.size w w2) := HB1.out.trans (hb2.mono (by omega))
  have HC2 := Lib.hid (HC1.out.on hb2)
  have HCA2 := Lib.hid (HCA1.out.on hb2)
  have HCB2 := Lib.hid (HCB1.out.on hb2)
  clear hb2
  obtain ⟨⟨a0, a1, a2⟩, -⟩ : Cel w2 w.heap.size (.bool (negR r)) (.slice A1 (topL r).length c1) (.slice A2 (botL r).length c2) := HCA2.out
  obtain ⟨⟨b0, b1, b2⟩, -⟩ : Cel w2 (w.heap.size + 1) (.bool (negR s)) (.slice A3 (topL s).length c3) (.slice A4 (botL s).length c4) := HCB2.out
  go_wp2_with fail
  clear a0 a1 a2 b0 b1 b2
  refine (ref_Mul_in r.num.natAbs s.den _ _ w2 (H1.out.on HB2.out) (H4.out.on HB2.out) BR.out.1 BS.out.2).mono ?_
  rw [HO1.out]
  rintro e w3 ⟨x, rfl, hv, hb⟩
  have xS3 := Lib.hid hv.toIn
  clear hv
  have HZ3 : w.heap.size + 3 ≤ w3.heap.size := by have := hb.size; omega
  have HB3 : Hid (Below w.heap.size w w3) := HB2.out.trans (hb.mono (by omega))
  have HC3 := Lib.hid (HC2.out.on hb)
  have HCA3 := Lib.hid (HCA2.out.on hb)
  have HCB3 := Lib.hid (HCB2.out.on hb)
  clear hb
  unfold okE
  obtain ⟨⟨a0, a1, a2⟩, -⟩ : Cel w3 w.heap.size (.bool (negR r)) (.slice A1 (topL r).length c1) (.slice A2 (botL r).length c2) := HCA3.out
  obtain ⟨⟨b0, b1, b2⟩, -⟩ : Cel w3 (w.heap.size + 1) (.bool (negR s)) (.slice A3 (topL s).length c3) (.slice A4 (botL s).length c4) := HCB3.out
  go_wp2_with fail
  clear a0 a1 a2 b0 b1 b2
  refine (ref_Mul_in s.num.natAbs r.den _ _ w3 (H3.out.on HB3.out) (H2.out.on HB3.out) BS.out.1 BR.out.2).mono ?_
  rw [HO2.out]
  rintro e w4 ⟨y, rfl, hv, hb⟩
  have yS4 := Lib.hid hv.toIn
  clear hv
  have HZ4 : w.heap.size + 3 ≤ w4.heap.size := by have := hb.size; omega
  have HB4 : Hid (Below w.heap.size w w4) := HB3.out.trans (hb.mono (by omega))
  have HC4 := Lib.hid (HC3.out.on hb)
  have HCA4 := Lib.hid (HCA3.out.on hb)
  have HCB4 := Lib.hid (HCB3.out.on hb)
  have xS4 := Lib.hid (xS3.out.on hb)
  clear hb
  unfold okE
  obtain ⟨⟨a0, a1, a2⟩, -⟩ : Cel w4 w.heap.size (.bool (negR r)) (.slice A1 (topL r).length c1) (.slice A2 (botL r).length c2) := HCA4.out
  obtain ⟨⟨b0, b1, b2⟩, -⟩ : Cel w4 (w.heap.size + 1) (.bool (negR s)) (.slice A3 (topL s).length c3) (.slice A4 (botL s).length c4) := HCB4.out
  go_wp2_with fail
  clear a0 a1 a2 b0 b1 b2
  refine (ref_Mul_in r.den s.den _ _ w4 (H2.out.on HB4.out) (H4.out.on HB4.out) BR.out.2 BS.out.2).mono ?_
  rintro e w5 ⟨q, rfl, hv, hb⟩
  have qS5 := Lib.hid hv.toIn
  clear hv
  have HZ5 : w.heap.size + 3 ≤ w5.heap.size := by have := hb.size; omega
  have HB5 : Hid (Below w.heap.size w w5) := HB4.out.trans (hb.mono (by omega))
  have HC5 := Lib.hid (HC4.out.on hb)
  have HCA5 := Lib.hid (HCA4.out.on hb)
  have HCB5 := Lib.hid (HCB4.out.on hb)
  have xS5 := Lib.hid (xS4.out.on hb)
  have yS5 := Lib.hid (yS4.out.on hb)
  clear hb
  obtain ⟨⟨r0, r1, r2⟩, s0, s1, s2⟩ : Cel w5 (w.heap.size + 1 + 1) (.bool false) (.slice none 0 0) (.slice none 0 0) := HC5.out
  go_wp2_with fail
  obtain ⟨⟨z0, z1, z2⟩, -⟩ := HC5.out.put3 (.bool false) (.slice none 0 0) (.slice none 0 0)
  simp only [put3] at z0 z1 z2
  refine bodyPost_ret (v := .tuple #[.agg #[.bool false, .slice none 0 0, .slice none 0 0], .int .i64 2]) (by simp [results, Try.results25, go_sem, z0, z1, z2]) rfl ?_
  rw [HF.out.1, HF.out.2, HN.out]
  exact ⟨_, rfl, OutR.no (by decide), below_put3 HB5.out (g := w.heap.size + 1 + 1) (by omega) _ _ _⟩

set_option maxHeartbeats 1600000 in
theorem ref_Add3_f3 (r s : Rat) (hr : fitR r = true) (hs : fitR s = true) (v u : Value) (w : World) (hv : IsR w v r) (hu : IsR w u s) (ho1 : decide (r.num.natAbs * s.den < big48) = true) (ho2 : decide (s.num.natAbs * r.den < big48) = true) (ho3 : decide (r.den * s.den < big48) = false) :
    Calls Try.prog 25 #[v, u] w (RRes w (opE sumOk (negR r) (topL r) (botL r) (negR s) (topL s) (botL s)) (opV addOp (negR r) (topL r) (botL r) (negR s) (topL s) (botL s))) := by
  have HF := Lib.hid (op_form (ok := sumOk) (f := addOp) hr hs)
  have HN : Hid (sumOk r s = false) := by rw [Hid, sumOk_eq, prOk, ho1, ho2, ho3]; rfl
  have HO1 := Lib.hid ho1
  have HO2 := Lib.hid ho2
  have HO3 := Lib.hid ho3
  have BR := Lib.hid (fitR_iff.mp hr)
  have BS := Lib.hid (fitR_iff.mp hs)
  have HR := Lib.hid hr
  have HS := Lib.hid hs
  have HN1 := Lib.hid (form_val hr).1
  have HN2 := Lib.hid (form_val hs).1
  clear hr hs
  clear ho1 ho2 ho3
  obtain ⟨vp, vq, rfl, h1, h2⟩ := hv
  obtain ⟨up, uq, rfl, h3, h4⟩ := hu
  obtain ⟨A1, c1, rfl, h1'⟩ := in_open h1
  obtain ⟨A2, c2, rfl, h2'⟩ := in_open h2
  obtain ⟨A3, c3, rfl, h3'⟩ := in_open h3
  obtain ⟨A4, c4, rfl, h4'⟩ := in_open h4
  have HV := Lib.hid (show InR w (.agg #[.bool (negR r), .slice A1 (topL r).length c1, .slice A2 (botL r).length c2]) (negR r) (topL r) (botL r) from ⟨_, _, rfl, h1', h2'⟩)
  have HU := Lib.hid (show InR w (.agg #[.bool (negR s), .slice A3 (topL s).length c3, .slice A4 (botL s).length c4]) (negR s) (topL s) (botL s) from ⟨_, _, rfl, h3', h4'⟩)
  have H1 := Lib.hid h1'
  have H2 := Lib.hid h2'
  have H3 := Lib.hid h3'
  have H4 := Lib.hid h4'
  have HC := Lib.hid (Cel.new ((w.alloc (.cells #[.bool (negR r), .slice A1 (topL r).length c1, .slice A2 (botL r).length c2] 27)).alloc (.cells #[.bool (negR s), .slice A3 (topL s).length c3, .slice A4 (botL s).length c4] 27)) (.bool false) (.slice none 0 0) (.slice none 0 0) 27)
  have HCA := Lib.hid (((Cel.new w (.bool (negR r)) (.slice A1 (topL r).length c1) (.slice A2 (botL r).length c2) 27).alloc (.cells #[.bool (negR s), .slice A3 (topL s).length c3, .slice A4 (botL s).length c4] 27)).alloc (.cells #[.bool false, .slice none 0 0, .slice none 0 0] 27))
  have HCB := Lib.hid ((Cel.new (w.alloc (.cells #[.bool (negR r), .slice A1 (topL r).length c1, .slice A2 (botL r).length c2] 27)) (.bool (negR s)) (.slice A3 (topL s).length c3) (.slice A4 (botL s).length c4) 27).alloc (.cells #[.bool false, .slice none 0 0, .slice none 0 0] 27))
  simp only [World.size_alloc] at HC HCB
  have hb0 : ∀ o1 o2 o3, Below w.heap.size w (((w.alloc o1).alloc o2).alloc o3) := fun _ _ _ => balloc (balloc (below_alloc _ _) _) _
  have hz0 : ∀ o1 o2 o3, (((w.alloc o1).alloc o2).alloc o3).heap.size = w.heap.size + 3 := fun _ _ _ => by simp
  have HB0 := Lib.hid hb0
  have HZ0 := Lib.hid hz0
  clear h1 h2 h3 h4 h1' h2' h3' h4' hb0 hz0
  go_enter Try.func25, Try.ntmps25
  go_wp2_with fail
  refine (ref_Valid3 _ _ _ _ _ (HV.out.on (HB0.out _ _ _))).mono ?_
  rw [HN1.out]
  rintro e w1 ⟨rfl, hb1⟩
  have HZ1 : w.heap.size + 3 ≤ w1.heap.size := by have := hb1.size; rw [HZ0.out] at this; exact this
  have HB1 : Hid (Below w.heap.size w w1) := (HB0.out _ _ _).trans (hb1.mono (by rw [HZ0.out]; omega))
  have HC1 := Lib.hid (HC.out.on hb1)
  have HCA1 := Lib.hid (HCA.out.on hb1)
  have HCB1 := Lib.hid (HCB.out.on hb1)
  clear hb1
  obtain ⟨⟨b0, b1, b2⟩, -⟩ : Cel w1 (w.heap.size + 1) (.bool (negR s)) (.slice A3 (topL s).length c3) (.slice A4 (botL s).length c4) := HCB1.out
  go_wp2_with fail
  clear b0 b1 b2
  refine (ref_Valid3 _ _ _ _ _ (HU.out.on HB1.out)).mono ?_
  rw [HN2.out]
  rintro e w2 ⟨rfl, hb2⟩
  have HZ2 : w.heap.size + 3 ≤ w2.heap.size := by have := hb2.size; omega
  have HB2 : Hid (Below w.heap.size w w2) := HB1.out.trans (hb2.mono (by omega))
  have HC2 := Lib.hid (HC1.out.on hb2)
  have HCA2 := Lib.hid (HCA1.out.on hb2)
  have HCB2 := Lib.hid (HCB1.out.on hb2)
  clear hb2
  obtain ⟨⟨a0, a1, a2⟩, -⟩ : Cel w2 w.heap.size (.bool (negR r)) (.slice A1 (topL r).length c1) (.slice A2 (botL r).length c2) := HCA2.out
  obtain ⟨⟨b0, b1, b2⟩, -⟩ : Cel w2 (w.heap.size + 1) (.bool (negR s)) (.slice A3 (topL s).length c3) (.slice A4 (botL s).length c4) := HCB2.out
  go_wp2_with fail
  clear a0 a1 a2 b0 b1 b2
  refine (ref_Mul_in r.num.natAbs s.den _ _ w2 (H1.out.on HB2.out) (H4.out.on HB2.out) BR.out.1 BS.out.2).mono ?_
  rw [HO1.out]
  rintro e w3 ⟨x, rfl, hv, hb⟩
  have xS3 := Lib.hid hv.toIn
  clear hv
  have HZ3 : w.heap.size + 3 ≤ w3.heap.size := by have := hb.size; omega
  have HB3 : Hid (Below w.heap.size w w3) := HB2.out.trans (hb.mono (by omega))
  have HC3 := Lib.hid (HC2.out.on hb)
  have HCA3 := Lib.hid (HCA2.out.on hb)
  have HCB3 := Lib.hid (HCB2.out.on hb)
  clear hb
  unfold okE
  obtain ⟨⟨a0, a1, a2⟩, -⟩ : Cel w3 w.heap.size (.bool (negR r)) (.slice A1 (topL r).length c1) (.slice A2 (botL r).length c2) := HCA3.out
  obtain ⟨⟨b0, b1, b2⟩, -⟩ : Cel w3 (w.heap.size + 1) (.bool (negR s)) (.slice A3 (topL s).length c3) (.slice A4 (botL s).length c4) := HCB3.out
  go_wp2_with fail
  clear a0 a1 a2 b0 b1 b2
  refine (ref_Mul_in s.num.natAbs r.den _ _ w3 (H3.out.on HB3.out) (H2.out.on HB3.out) BS.out.1 BR.out.2).mono ?_
  rw [HO2.out]
  rintro e w4 ⟨y, rfl, hv, hb⟩
  have yS4 := Lib.hid hv.toIn
  clear hv
  have HZ4 : w.heap.size + 3 ≤ w4.heap.size := by have := hb.size; omega
  have HB4 : Hid (Below w.heap.size w w4) := HB3.out.trans (hb.mono (by omega))
  have HC4 := Lib.hid (HC3.out.on hb)
  have HCA4 := Lib.hid (HCA3.out.on hb)
  have HCB4 := Lib.hid (HCB3.out.on hb)
  have xS4 := Lib.hid (xS3.out.on hb)
  clear hb
  unfold okE
  obtain ⟨⟨a0, a1, a2⟩, -⟩ : Cel w4 w.heap.size (.bool (negR r)) (.slice A1 (topL r).length c1) (.slice A2 (botL r).length c2) := HCA4.out
  obtain ⟨⟨b0, b1, b2⟩, -⟩ : Cel w4 (w.heap.size + 1) (.bool (negR s)) (.slice A3 (topL s).length c3) (.slice A4 (botL s).length c4) := HCB4.out
  go_wp2_with fail
  clear a0 a1 a2 b0 b1 b2
  refine (ref_Mul_in r.den s.den _ _ w4 (H2.out.on HB4.out) (H4.out.on HB4.out) BR.out.2 BS.out.2).mono ?_
  rw [HO3.out]
  rintro e w5 ⟨q, rfl, hv, hb⟩
  have qS5 := Lib.hid hv.toIn
  clear hv
  have HZ5 : w.heap.size + 3 ≤ w5.heap.size := by have := hb.size; omega
  have HB5 : Hid (Below w.heap.size w w5) := HB4.out.trans (hb.mono (by omega))
  have HC5 := Lib.hid (HC4.out.on hb)
  have HCA5 := Lib.hid (HCA4.out.on hb)
  have HCB5 := Lib.hid (HCB4.out.on hb)
  have xS5 := Lib.hid (xS4.out.on hb)
  have yS5 := Lib.hid (yS4.out.on hb)
  clear hb
  unfold okE
  obtain ⟨⟨r0, r1, r2⟩, s0, s1, s2⟩ : Cel w5 (w.heap.size + 1 + 1) (.bool false) (.slice none 0 0) (.slice none 0 0) := HC5.out
  go_wp2_with fail
  obtain ⟨⟨z0, z1, z2⟩, -⟩ := HC5.out.put3 (.bool false) (.slice none 0 0) (.slice none 0 0)
  simp only [put3] at z0 z1 z2
  refine bodyPost_ret (v := .tuple #[.agg #[.bool false, .slice none 0 0, .slice none 0 0], .int .i64 2]) (by simp [results, Try.results25, go_sem, z0, z1, z2]) rfl ?_
  rw [HF.out.1, HF.out.2, HN.out]
  exact ⟨_, rfl, OutR.no (by decide), below_put3 HB5.out (g := w.heap.size + 1 + 1) (by omega) _ _ _⟩

set_option maxHeartbeats 1600000 in
theorem ref_Add3_f4 (r s : Rat) (hr : fitR r = true) (hs : fitR s = true) (v u : Value) (w : World) (hv : IsR w v r) (hu : IsR w u s) (ho1 : decide (r.num.natAbs * s.den < big48) = true) (ho2 : decide (s.num.natAbs * r.den < big48) = true) (ho3 : decide (r.den * s.den < big48) = true) (ho4 : ssOk (negR r) (r.num.natAbs * s.den) (negR s) (s.num.natAbs * r.den) = false) :
    Calls Try.prog 25 #[v, u] w (RRes w (opE sumOk (negR r) (topL r) (botL r) (negR s) (topL s) (botL s)) (opV addOp (negR r) (topL r) (botL r) (negR s) (topL s) (botL s))) := by
  have HF := Lib.hid (op_form (ok := sumOk) (f := addOp) hr hs)
  have HN : Hid (sumOk r s = false) := by rw [Hid, sumOk_eq, prOk, ho1, ho2, ho3, ho4]; rfl
  have HO1 := Lib.hid ho1
  have HO2 := Lib.hid ho2
  have HO3 := Lib.hid ho3
  have HO4 := Lib.hid ho4
  have BR := Lib.hid (fitR_iff.mp hr)
  have BS := Lib.hid (fitR_iff.mp hs)
  have HR := Lib.hid hr
  have HS := Lib.hid hs
  have HN1 := Lib.hid (form_val hr).1
  have HN2 := Lib.hid (form_val hs).1
  clear hr hs
  clear ho1 ho2 ho3 ho4
  obtain ⟨vp, vq, rfl, h1, h2⟩ := hv
  obtain ⟨up, uq, rfl, h3, h4⟩ := hu
  obtain ⟨A1, c1, rfl, h1'⟩ := in_open h1
  obtain ⟨A2, c2, rfl, h2'⟩ := in_open h2
  obtain ⟨A3, c3, rfl, h3'⟩ := in_open h3
  obtain ⟨A4, c4, rfl, h4'⟩ := in_open h4
  have HV := Lib.hid (show InR w (.agg #[.bool (negR r), .slice A1 (topL r).length c1, .slice A2 (botL r).length c2]) (negR r) (topL r) (botL r) from ⟨_, _, rfl, h1', h2'⟩)
  have HU := Lib.hid (show InR w (.agg #[.bool (negR s), .slice A3 (topL s).length c3, .slice A4 (botL s).length c4]) (negR s) (topL s) (botL s) from ⟨_, _, rfl, h3', h4'⟩)
  have H1 := Lib.hid h1'
  have H2 := Lib.hid h2'
  have H3 := Lib.hid h3'
  have H4 := Lib.hid h4'
  have HC := Lib.hid (Cel.new ((w.alloc (.cells #[.bool (negR r), .slice A1 (topL r).length c1, .slice A2 (botL r).length c2] 27)).alloc (.cells #[.bool (negR s), .slice A3 (topL s).length c3, .slice A4 (botL s).length c4] 27)) (.bool false) (.slice none 0 0) (.slice none 0 0) 27)
  have HCA := Lib.hid (((Cel.new w (.bool (negR r)) (.slice A1 (topL r).length c1) (.slice A2 (botL r).length c2) 27).alloc (.cells #[.bool (negR s), .slice A3 (topL s).length c3, .slice A4 (botL s).length c4] 27)).alloc (.cells #[.bool false, .slice none 0 0, .slice none 0 0] 27))
  have HCB := Lib.hid ((Cel.new (w.alloc (.cells #[.bool (negR r), .slice A1 (topL r).length c1, .slice A2 (botL r).length c2] 27)) (.bool (negR s)) (.slice A3 (topL s).length c3) (.slice A4 (botL s).length c4) 27).alloc (.cells #[.bool false, .slice none 0 0, .slice none 0 0] 27))
  simp only [World.size_alloc] at HC HCB
  have hb0 : ∀ o1 o2 o3, Below w.heap.size w (((w.alloc o1).alloc o2).alloc o3) := fun _ _ _ => balloc (balloc (below_alloc _ _) _) _
  have hz0 : ∀ o1 o2 o3, (((w.alloc o1).alloc o2).alloc o3).heap.size = w.heap.size + 3 := fun _ _ _ => by simp
  have HB0 := Lib.hid hb0
  have HZ0 := Lib.hid hz0
  clear h1 h2 h3 h4 h1' h2' h3' h4' hb0 hz0
  go_enter Try.func25, Try.ntmps25
  go_wp2_with fail
  refine (ref_Valid3 _ _ _ _ _ (HV.out.on (HB0.out _ _ _))).mono ?_
  rw [HN1.out]
  rintro e w1 ⟨rfl, hb1⟩
  have HZ1 : w.heap.size + 3 ≤ w1.heap.size := by have := hb1.size; rw [HZ0.out] at this; exact this
  have HB1 : Hid (Below w.heap.size w w1) := (HB0.out _ _ _).trans (hb1.mono (by rw [HZ0.out]; omega))
  have HC1 := Lib.hid (HC.out.on hb1)
  have HCA1 := Lib.hid (HCA.out.on hb1)
  have HCB1 := Lib.hid (HCB.out.on hb1)
  clear hb1
  obtain ⟨⟨b0, b1, b2⟩, -⟩ : Cel w1 (w.heap.size + 1) (.bool (negR s)) (.slice A3 (topL s).length c3) (.slice A4 (botL s).length c4) := HCB1.out
  go_wp2_with fail
  clear b0 b1 b2
  refine (ref_Valid3 _ _ _ _ _ (HU.out.on HB1.out)).mono ?_
  rw [HN2.out]
  rintro e w2 ⟨rfl, hb2⟩
  have HZ2 : w.heap.size + 3 ≤ w2.heap.size := by have := hb2.size; omega
  have HB2 : Hid (Below w.heap.size w w2) := HB1.out.trans (hb2.mono (by omega))
  have HC2 := Lib.hid (HC1.out.on hb2)
  have HCA2 := Lib.hid (HCA1.out.on hb2)
  have HCB2 := Lib.hid (HCB1.out.on hb2)
  clear hb2
  obtain ⟨⟨a0, a1, a2⟩, -⟩ : Cel w2 w.heap.size (.bool (negR r)) (.slice A1 (topL r).length c1) (.slice A2 (botL r).length c2) := HCA2.out
  obtain ⟨⟨b0, b1, b2⟩, -⟩ : Cel w2 (w.heap.size + 1) (.bool (negR s)) (.slice A3 (topL s).length c3) (.slice A4 (botL s).length c4) := HCB2.out
  go_wp2_with fail
  clear a0 a1 a2 b0 b1 b2
  refine (ref_Mul_in r.num.natAbs s.den _ _ w2 (H1.out.on HB2.out) (H4.out.on HB2.out) BR.out.1 BS.out.2).mono ?_
  rw [HO1.out]
  rintro e w3 ⟨x, rfl, hv, hb⟩
  have xS3 := Lib.hid hv.toIn
  clear hv
  have HZ3 : w.heap.size + 3 ≤ w3.heap.size := by have := hb.size; omega
  have HB3 : Hid (Below w.heap.size w w3) := HB2.out.trans (hb.mono (by omega))
  have HC3 := Lib.hid (HC2.out.on hb)
  have HCA3 := Lib.hid (HCA2.out.on hb)
  have HCB3 := Lib.hid (HCB2.out.on hb)
  clear hb
  unfold okE
  obtain ⟨⟨a0, a1, a2⟩, -⟩ : Cel w3 w.heap.size (.bool (negR r)) (.slice A1 (topL r).length c1) (.slice A2 (botL r).length c2) := HCA3.out
  obtain ⟨⟨b0, b1, b2⟩, -⟩ : Cel w3 (w.heap.size + 1) (.bool (negR s)) (.slice A3 (topL s).length c3) (.slice A4 (botL s).length c4) := HCB3.out
  go_wp2_with fail
  clear a0 a1 a2 b0 b1 b2
  refine (ref_Mul_in s.num.natAbs r.den _ _ w3 (H3.out.on HB3.out) (H2.out.on HB3.out) BS.out.1 BR.out.2).mono ?_
  rw [HO2.out]
  rintro e w4 ⟨y, rfl, hv, hb⟩
  have yS4 := Lib.hid hv.toIn
  clear hv
  have HZ4 : w.heap.size + 3 ≤ w4.heap.size := by have := hb.size; omega
  have HB4 : Hid (Below w.heap.size w w4) := HB3.out.trans (hb.mono (by omega))
  have HC4 := Lib.hid (HC3.out.on hb)
  have HCA4 := Lib.hid (HCA3.out.on hb)
  have HCB4 := Lib.hid (HCB3.out.on hb)
  have xS4 := Lib.hid (xS3.out.on hb)
  clear hb
  unfold okE
  obtain ⟨⟨a0, a1, a2⟩, -⟩ : Cel w4 w.heap.size (.bool (negR r)) (.slice A1 (topL r).length c1) (.slice A2 (botL r).length c2) := HCA4.out
  obtain ⟨⟨b0, b1, b2⟩, -⟩ : Cel w4 (w.heap.size + 1) (.bool (negR s)) (.slice A3 (topL s).length c3) (.slice A4 (botL s).length c4) := HCB4.out
  go_wp2_with fail
  clear a0 a1 a2 b0 b1 b2
  refine (ref_Mul_in r.den s.den _ _ w4 (H2.out.on HB4.out) (H4.out.on HB4.out) BR.out.2 BS.out.2).mono ?_
  rw [HO3.out]
  rintro e w5 ⟨q, rfl, hv, hb⟩
  have qS5 := Lib.hid hv.toIn
  clear hv
  have HZ5 : w.heap.size + 3 ≤ w5.heap.size := by have := hb.size; omega
  have HB5 : Hid (Below w.heap.size w w5) := HB4.out.trans (hb.mono (by omega))
  have HC5 := Lib.hid (HC4.out.on hb)
  have HCA5 := Lib.hid (HCA4.out.on hb)
  have HCB5 := Lib.hid (HCB4.out.on hb)
  have xS5 := Lib.hid (xS4.out.on hb)
  have yS5 := Lib.hid (yS4.out.on hb)
  clear hb
  unfold okE
  obtain ⟨⟨a0, a1, a2⟩, -⟩ : Cel w5 w.heap.size (.bool (negR r)) (.slice A1 (topL r).length c1) (.slice A2 (botL r).length c2) := HCA5.out
  obtain ⟨⟨b0, b1, b2⟩, -⟩ : Cel w5 (w.heap.size + 1) (.bool (negR s)) (.slice A3 (topL s).length c3) (.slice A4 (botL s).length c4) := HCB5.out
  go_wp2_with fail
  clear a0 a1 a2 b0 b1 b2
  refine (ref_plus (negR r) (negR s) _ _ _ _ w5 xS5.out yS5.out (of_decide_eq_true HO1.out) (of_decide_eq_true HO2.out)).mono ?_
  rintro e w6 ⟨vp, h, hv, hb⟩
  rw [HO4.out] at h hv
  subst h
  have pS6 := Lib.hid hv.toIn
  clear hv
  have HZ6 : w.heap.size + 3 ≤ w6.heap.size := by have := hb.size; omega
  have HB6 : Hid (Below w.heap.size w w6) := HB5.out.trans (hb.mono (by omega))
  have HC6 := Lib.hid (HC5.out.on hb)
  have HCA6 := Lib.hid (HCA5.out.on hb)
  have HCB6 := Lib.hid (HCB5.out.on hb)
  have qS6 := Lib.hid (qS5.out.on hb)
  clear hb
  unfold okE
  obtain ⟨⟨r0, r1, r2⟩, s0, s1, s2⟩ : Cel w6 (w.heap.size + 1 + 1) (.bool false) (.slice none 0 0) (.slice none 0 0) := HC6.out
  go_wp2_with fail
  obtain ⟨⟨z0, z1, z2⟩, -⟩ := HC6.out.put3 (.bool false) (.slice none 0 0) (.slice none 0 0)
  simp only [put3] at z0 z1 z2
  refine bodyPost_ret (v := .tuple #[.agg #[.bool false, .slice none 0 0, .slice none 0 0], .int .i64 2]) (by simp [results, Try.results25, go_sem, z0, z1, z2]) rfl ?_
  rw [HF.out.1, HF.out.2, HN.out]
  exact ⟨_, rfl, OutR.no (by decide), below_put3 HB6.out (g := w.heap.size + 1 + 1) (by omega) _ _ _⟩

set_option maxHeartbeats 1600000 in
theorem ref_Add3_ok (r s : Rat) (hr : fitR r = true) (hs : fitR s = true) (v u : Value) (w : World) (hv : IsR w v r) (hu : IsR w u s) (ho1 : decide (r.num.natAbs * s.den < big48) = true) (ho2 : decide (s.num.natAbs * r.den < big48) = true) (ho3 : decide (r.den * s.den < big48) = true) (ho4 : ssOk (negR r) (r.num.natAbs * s.den) (negR s) (s.num.natAbs * r.den) = true) :
    Calls Try.prog 25 #[v, u] w (RRes w (opE sumOk (negR r) (topL r) (botL r) (negR s) (topL s) (botL s)) (opV addOp (negR r) (topL r) (botL r) (negR s) (topL s) (botL s))) := by
  have HF := Lib.hid (op_form (ok := sumOk) (f := addOp) hr hs)
  have HN : Hid (sumOk r s = true) := by rw [Hid, sumOk_eq, prOk, ho1, ho2, ho3, ho4]; rfl
  have HO1 := Lib.hid ho1
  have HO2 := Lib.hid ho2
  have HO3 := Lib.hid ho3
  have HO4 := Lib.hid ho4
  have BR := Lib.hid (fitR_iff.mp hr)
  have BS := Lib.hid (fitR_iff.mp hs)
  have HR := Lib.hid hr
  have HS := Lib.hid hs
  have HN1 := Lib.hid (form_val hr).1
  have HN2 := Lib.hid (form_val hs).1
  clear hr hs
  clear ho1 ho2 ho3 ho4
  obtain ⟨vp, vq, rfl, h1, h2⟩ := hv
  obtain ⟨up, uq, rfl, h3, h4⟩ := hu
  obtain ⟨A1, c1, rfl, h1'⟩ := in_open h1
  obtain ⟨A2, c2, rfl, h2'⟩ := in_open h2
  obtain ⟨A3, c3, rfl, h3'⟩ := in_open h3
  obtain ⟨A4, c4, rfl, h4'⟩ := in_open h4
  have HV := Lib.hid (show InR w (.agg #[.bool (negR r), .slice A1 (topL r).length c1, .slice A2 (botL r).length c2]) (negR r) (topL r) (botL r) from ⟨_, _, rfl, h1', h2'⟩)
  have HU := Lib.hid (show InR w (.agg #[.bool (negR s), .slice A3 (topL s).length c3, .slice A4 (botL s).length c4]) (negR s) (topL s) (botL s) from ⟨_, _, rfl, h3', h4'⟩)
  have H1 := Lib.hid h1'
  have H2 := Lib.hid h2'
  have H3 := Lib.hid h3'
  have H4 := Lib.hid h4'
  have HC := Lib.hid (Cel.new ((w.alloc (.cells #[.bool (negR r), .slice A1 (topL r).length c1, .slice A2 (botL r).length c2] 27)).alloc (.cells #[.bool (negR s), .slice A3 (topL s).length c3, .slice A4 (botL s).length c4] 27)) (.bool false) (.slice none 0 0) (.slice none 0 0) 27)
  have HCA := Lib.hid (((Cel.new w (.bool (negR r)) (.slice A1 (topL r).length c1) (.slice A2 (botL r).length c2) 27).alloc (.cells #[.bool (negR s), .slice A3 (topL s).length c3, .slice A4 (botL s).length c4] 27)).alloc (.cells #[.bool false, .slice none 0 0, .slice none 0 0] 27))
  have HCB := Lib.hid ((Cel.new (w.alloc (.cells #[.bool (negR r), .slice A1 (topL r).length c1, .slice A2 (botL r).length c2] 27)) (.bool (negR s)) (.slice A3 (topL s).length c3) (.slice A4 (botL s).length c4) 27).alloc (.cells #[.bool false, .slice none 0 0, .slice none 0 0] 27))
  simp only [World.size_alloc] at HC HCB
  have hb0 : ∀ o1 o2 o3, Below w.heap.size w (((w.alloc o1).alloc o2).alloc o3) := fun _ _ _ => balloc (balloc (below_alloc _ _) _) _
  have hz0 : ∀ o1 o2 o3, (((w.alloc o1).alloc o2).alloc o3).heap.size = w.heap.size + 3 := fun _ _ _ => by simp
  have HB0 := Lib.hid hb0
  have HZ0 := Lib.hid hz0
  clear h1 h2 h3 h4 h1' h2' h3' h4' hb0 hz0
  go_enter Try.func25, Try.ntmps25
  go_wp2_with fail
  refine (ref_Valid3 _ _ _ _ _ (HV.out.on (HB0.out _ _ _))).mono ?_
  rw [HN1.out]
  rintro e w1 ⟨rfl, hb1⟩
  have HZ1 : w.heap.size + 3 ≤ w1.heap.size := by have := hb1.size; rw [HZ0.out] at this; exact this
  have HB1 : Hid (Below w.heap.size w w1) := (HB0.out _ _ _).trans (hb1.mono (by rw [HZ0.out]; omega))
  have HC1 := Lib.hid (HC.out.on hb1)
  have HCA1 := Lib.hid (HCA.out.on hb1)
  have HCB1 := Lib.hid (HCB.out.on hb1)
  clear hb1
  obtain ⟨⟨b0, b1, b2⟩, -⟩ : Cel w1 (w.heap.size + 1) (.bool (negR s)) (.slice A3 (topL s).length c3) (.slice A4 (botL s).length c4) := HCB1.out
  go_wp2_with fail
  clear b0 b1 b2
  refine (ref_Valid3 _ _ _ _ _ (HU.out.on HB1.out)).mono ?_
  rw [HN2.out]
  rintro e w2 ⟨rfl, hb2⟩
  have HZ2 : w.heap.size + 3 ≤ w2.heap.size := by have := hb2.size; omega
  have HB2 : Hid (Below w.heap.size w w2) := HB1.out.trans (hb2.mono (by omega))
  have HC2 := Lib.hid (HC1.out.on hb2)
  have HCA2 := Lib.hid (HCA1.out.on hb2)
  have HCB2 := Lib.hid (HCB1.out.on hb2)
  clear hb2
  obtain ⟨⟨a0, a1, a2⟩, -⟩ : Cel w2 w.heap.size (.bool (negR r)) (.slice A1 (topL r).length c1) (.slice A2 (botL r).length c2) := HCA2.out
  obtain ⟨⟨b0, b1, b2⟩, -⟩ : Cel w2 (w.heap.size + 1) (.bool (negR s)) (.slice A3 (topL s).length c3) (.slice A4 (botL s).length c4) := HCB2.out
  go_wp2_with fail
  clear a0 a1 a2 b0 b1 b2
  refine (ref_Mul_in r.num.natAbs s.den _ _ w2 (H1.out.on HB2.out) (H4.out.on HB2.out) BR.out.1 BS.out.2).mono ?_
  rw [HO1.out]
  rintro e w3 ⟨x, rfl, hv, hb⟩
  have xS3 := Lib.hid hv.toIn
  clear hv
  have HZ3 : w.heap.size + 3 ≤ w3.heap.size := by have := hb.size; omega
  have HB3 : Hid (Below w.heap.size w w3) := HB2.out.trans (hb.mono (by omega))
  have HC3 := Lib.hid (HC2.out.on hb)
  have HCA3 := Lib.hid (HCA2.out.on hb)
  have HCB3 := Lib.hid (HCB2.out.on hb)
  clear hb
  unfold okE
  obtain ⟨⟨a0, a1, a2⟩, -⟩ : Cel w3 w.heap.size (.bool (negR r)) (.slice A1 (topL r).length c1) (.slice A2 (botL r).length c2) := HCA3.out
  obtain ⟨⟨b0, b1, b2⟩, -⟩ : Cel w3 (w.heap.size + 1) (.bool (negR s)) (.slice A3 (topL s).length c3) (.slice A4 (botL s).length c4) := HCB3.out
  go_wp2_with fail
  clear a0 a1 a2 b0 b1 b2
  refine (ref_Mul_in s.num.natAbs r.den _ _ w3 (H3.out.on HB3.out) (H2.out.on HB3.out) BS.out.1 BR.out.2).mono ?_
  rw [HO2.out]
  rintro e w4 ⟨y, rfl, hv, hb⟩
  have yS4 := Lib.hid hv.toIn
  clear hv
  have HZ4 : w.heap.size + 3 ≤ w4.heap.size := by have := hb.size; omega
  have HB4 : Hid (Below w.heap.size w w4) := HB3.out.trans (hb.mono (by omega))
  have HC4 := Lib.hid (HC3.out.on hb)
  have HCA4 := Lib.hid (HCA3.out.on hb)
  have HCB4 := Lib.hid (HCB3.out.on hb)
  have xS4 := Lib.hid (xS3.out.on hb)
  clear hb
  unfold okE
  obtain ⟨⟨a0, a1, a2⟩, -⟩ : Cel w4 w.heap.size (.bool (negR r)) (.slice A1 (topL r).length c1) (.slice A2 (botL r).length c2) := HCA4.out
  obtain ⟨⟨b0, b1, b2⟩, -⟩ : Cel w4 (w.heap.size + 1) (.bool (negR s)) (.slice A3 (topL s).length c3) (.slice A4 (botL s).length c4) := HCB4.out
  go_wp2_with fail
  clear a0 a1 a2 b0 b1 b2
  refine (ref_Mul_in r.den s.den _ _ w4 (H2.out.on HB4.out) (H4.out.on HB4.out) BR.out.2 BS.out.2).mono ?_
  rw [HO3.out]
  rintro e w5 ⟨q, rfl, hv, hb⟩
  have qS5 := Lib.hid hv.toIn
  clear hv
  have HZ5 : w.heap.size + 3 ≤ w5.heap.size := by have := hb.size; omega
  have HB5 : Hid (Below w.heap.size w w5) := HB4.out.trans (hb.mono (by omega))
  have HC5 := Lib.hid (HC4.out.on hb)
  have HCA5 := Lib.hid (HCA4.out.on hb)
  have HCB5 := Lib.hid (HCB4.out.on hb)
  have xS5 := Lib.hid (xS4.out.on hb)
  have yS5 := Lib.hid (yS4.out.on hb)
  clear hb
  unfold okE
  obtain ⟨⟨a0, a1, a2⟩, -⟩ : Cel w5 w.heap.size (.bool (negR r)) (.slice A1 (topL r).length c1) (.slice A2 (botL r).length c2) := HCA5.out
  obtain ⟨⟨b0, b1, b2⟩, -⟩ : Cel w5 (w.heap.size + 1) (.bool (negR s)) (.slice A3 (topL s).length c3) (.slice A4 (botL s).length c4) := HCB5.out
  go_wp2_with fail
  clear a0 a1 a2 b0 b1 b2
  refine (ref_plus (negR r) (negR s) _ _ _ _ w5 xS5.out yS5.out (of_decide_eq_true HO1.out) (of_decide_eq_true HO2.out)).mono ?_
  rintro e w6 ⟨vp, h, hv, hb⟩
  rw [HO4.out] at h hv
  subst h
  have pS6 := Lib.hid hv.toIn
  clear hv
  have HZ6 : w.heap.size + 3 ≤ w6.heap.size := by have := hb.size; omega
  have HB6 : Hid (Below w.heap.size w w6) := HB5.out.trans (hb.mono (by omega))
  have HC6 := Lib.hid (HC5.out.on hb)
  have HCA6 := Lib.hid (HCA5.out.on hb)
  have HCB6 := Lib.hid (HCB5.out.on hb)
  have qS6 := Lib.hid (qS5.out.on hb)
  clear hb
  unfold okE
  go_wp2_with fail
  refine (ref_Reduce _ _ _ _ _ w6 pS6.out qS6.out (sMag_lt (of_decide_eq_true HO1.out) (of_decide_eq_true HO2.out) HO4.out) (of_decide_eq_true HO3.out) (Nat.mul_ne_zero r.den_nz s.den_nz)).mono ?_
  rw [add_form]
  rintro e w7 ⟨v4, rfl, h4, hb⟩
  obtain ⟨vp4, vq4, rfl, h4p, h4q⟩ := h4
  obtain ⟨P4, x4, rfl, h4p'⟩ := in_open h4p
  obtain ⟨Q4, y4, rfl, h4q'⟩ := in_open h4q
  have HP4 := Lib.hid h4p'
  have HQ4 := Lib.hid h4q'
  have HBL := Lib.hid hb
  have HC4 := HC6.out.on hb
  have HC4' := Lib.hid HC4
  have HRR := Lib.hid (HC4.put3 (.bool (negR (r + s))) (.slice P4 (topL (r + s)).length x4) (.slice Q4 (botL (r + s)).length y4))
  obtain ⟨⟨d0, d1, d2⟩, f0, f1, f2⟩ := HC4
  clear h4p h4q h4p' h4q' hb
  go_wp2_with fail
  obtain ⟨⟨r0, r1, r2⟩, -⟩ := HRR.out
  refine bodyPost_ret (v := .tuple #[.agg #[.bool (negR (r + s)), .slice P4 (topL (r + s)).length x4, .slice Q4 (botL (r + s)).length y4], .int .i64 0]) (by simp only [put3] at r0 r1 r2; simp [results, Try.results25, go_sem, r0, r1, r2]) rfl ?_
  rw [HF.out.1, HF.out.2, HN.out]
  exact ⟨_, rfl, OutR.ok ⟨_, _, rfl, HP4.out.put3 HC4'.out _ _ _, HQ4.out.put3 HC4'.out _ _ _⟩, below_put3 (HB6.out.trans (HBL.out.mono (by omega))) (by omega) _ _ _⟩

theorem ref_Add3 (b : Bool) (xs ys : List Int) (c : Bool) (zs ts : List Int) (v u : Value) (w : World) (hv : InR w v b xs ys) (hu : InR w u c zs ts) :
    Calls Try.prog 25 #[v, u] w (RRes w (opE sumOk b xs ys c zs ts) (opV addOp b xs ys c zs ts)) := by
  rcases two_cases b xs ys c zs ts with ⟨h1, h⟩ | ⟨h1, h2, h⟩ | ⟨h, r, s, ⟨hr, rfl, rfl, rfl⟩, hs, rfl, rfl, rfl⟩
  · exact ref_Add3_no1 b xs ys c zs ts v u w hv hu h1 h
  · exact ref_Add3_no2 b xs ys c zs ts v u w hv hu h1 h2 h
  · cases ho1 : decide (r.num.natAbs * s.den < big48) with
    | false => exact ref_Add3_f1 r s hr hs v u w hv hu ho1
    | true =>
      cases ho2 : decide (s.num.natAbs * r.den < big48) with
      | false => exact ref_Add3_f2 r s hr hs v u w hv hu ho1 ho2
      | true =>
        cases ho3 : decide (r.den * s.den < big48) with
        | false => exact ref_Add3_f3 r s hr hs v u w hv hu ho1 ho2 ho3
        | true =>
          cases ho4 : ssOk (negR r) (r.num.natAbs * s.den) (negR s) (s.num.natAbs * r.den) with
          | false => exact ref_Add3_f4 r s hr hs v u w hv hu ho1 ho2 ho3 ho4
          | true => exact ref_Add3_ok r s hr hs v u w hv hu ho1 ho2 ho3 ho4
end Go.Proofs.Ytohfaoclemcfaaa
/- Contracts of Sub of rat and of its reference. -/
namespace Go.Proofs.Ytohfaoclemcfaaa
open Go.ChangeShapes Go.WideShapes Go.RowKit
set_option linter.unusedVariables false
set_option maxRecDepth 100000

def subOk (r s : Rat) : Bool := sumOk r (-s)
def subOp (r s : Rat) : Rat := r + -s
theorem len_emp (n : Nat) : (limbs n).isEmpty = !decide (0 < n) := by rw [limbs_emp]; by_cases h : n = 0 <;> simp [h]; omega
theorem signed_neg {w : World} {v : Value} {s : Rat} (h : InR w v (!negR s && !(topL s).isEmpty) (topL s) (botL s)) : IsR w v (-s) := by
  obtain ⟨e1, e2, e3⟩ := neg_form s
  have e : (!negR s && !(topL s).isEmpty) = negR (-s) := by rw [e1, topL, len_emp, Bool.not_not]
  unfold IsR
  rw [e2, e3, ← e]; exact h
theorem In.drew {w : World} {v : Value} {zs : List Int} (h : In w v zs) : In w.drew v zs := h
theorem InR.drew {w : World} {v : Value} {b : Bool} {xs ys : List Int} (h : InR w v b xs ys) : InR w.drew v b xs ys := h
theorem Cel.put3o {w : World} {g g' : Nat} {u0 u1 u2 : Value} (h : Cel w g u0 u1 u2) (hg : g' ≠ g) (x0 x1 x2 : Value) : Cel (Go.Proofs.Ytohfaoclemcfaaa.put3 w g' x0 x1 x2) g u0 u1 u2 :=
  ((h.other (p := ⟨g', 0, none⟩) hg x0).other (p := ⟨g', 1, none⟩) hg x1).other (p := ⟨g', 2, none⟩) hg x2
theorem Cel.drew {w : World} {g : Nat} {u0 u1 u2 : Value} (h : Cel w g u0 u1 u2) : Cel w.drew g u0 u1 u2 := h

end Go.Proofs.Ytohfaoclemcfaaa
