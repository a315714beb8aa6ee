/- Several texts in one: RatQ, RatR, RatS. -/
import Derived.Test.YtagjimdplmimoaaGreatPk15
/- Contracts of Div of rat and of its reference. -/
namespace Go.Proofs.YtagjimdplmimoaaGreat
open Go.ChangeShapes Go.WideShapes Go.RowKit
set_option linter.unusedVariables false
set_option maxRecDepth 100000

theorem rat_Sub (b : Bool) (xs ys : List Int) (c : Bool) (zs ts : List Int) (v u : Value) (w : World) (hv : InR w v b xs ys) (hu : InR w u c zs ts) :
    Calls Tryz.prog 32 #[v, u] w (RRes w (opE subOk b xs ys c zs ts) (opV subOp b xs ys c zs ts)) := by
  rcases two_cases b xs ys c zs ts with ⟨h1, h⟩ | ⟨h1, h2, h⟩ | ⟨h, r, s, ⟨hr, rfl, rfl, rfl⟩, hs, rfl, rfl, rfl⟩
  · exact rat_Sub_no1 b xs ys c zs ts v u w hv hu h1 h
  · exact rat_Sub_no2 b xs ys c zs ts v u w hv hu h1 h2 h
  · exact rat_Sub_yes r s hr hs v u w hv hu

set_option maxHeartbeats 1600000 in
theorem rat_Div_no1 (b : Bool) (xs ys : List Int) (c : Bool) (zs ts : List Int) (v u : Value) (w : World) (hv : InR w v b xs ys) (hu : InR w u c zs ts) (hn1 : valR b xs ys = false) (hn : two b xs ys c zs ts = false) :
    Calls Tryz.prog 47 #[v, u] w (RRes w (opG divEr b xs ys c zs ts) (opV divOp b xs ys c zs ts)) := by
  have HN1 := Lib.hid hn1
  have HN := Lib.hid hn
  clear hn1 hn
  obtain ⟨vp, vq, rfl, h1, h2⟩ := hv
  obtain ⟨up, uq, rfl, h3, h4⟩ := hu
  obtain ⟨A1, c1, rfl, h1'⟩ := in_open h1
  obtain ⟨A2, c2, rfl, h2'⟩ := in_open h2
  obtain ⟨A3, c3, rfl, h3'⟩ := in_open h3
  obtain ⟨A4, c4, rfl, h4'⟩ := in_open h4
  have HV := Lib.hid (show InR w (.agg #[.bool b, .slice A1 xs.length c1, .slice A2 ys.length c2]) b xs ys from ⟨_, _, rfl, h1', h2'⟩)
  have HU := Lib.hid (show InR w (.agg #[.bool c, .slice A3 zs.length c3, .slice A4 ts.length c4]) c zs ts from ⟨_, _, rfl, h3', h4'⟩)
  have HC := Lib.hid (Cel.new ((w.alloc (.cells #[.bool b, .slice A1 xs.length c1, .slice A2 ys.length c2] 46)).alloc (.cells #[.bool c, .slice A3 zs.length c3, .slice A4 ts.length c4] 46)) (.bool false) (.slice none 0 0) (.slice none 0 0) 46)
  have HCA := Lib.hid (((Cel.new w (.bool b) (.slice A1 xs.length c1) (.slice A2 ys.length c2) 46).alloc (.cells #[.bool c, .slice A3 zs.length c3, .slice A4 ts.length c4] 46)).alloc (.cells #[.bool false, .slice none 0 0, .slice none 0 0] 46))
  have HCB := Lib.hid ((Cel.new (w.alloc (.cells #[.bool b, .slice A1 xs.length c1, .slice A2 ys.length c2] 46)) (.bool c) (.slice A3 zs.length c3) (.slice A4 ts.length c4) 46).alloc (.cells #[.bool false, .slice none 0 0, .slice none 0 0] 46))
  simp only [World.size_alloc] at HC HCB
  have hb0 : ∀ o1 o2 o3, Below w.heap.size w (((w.alloc o1).alloc o2).alloc o3) := fun _ _ _ => balloc (balloc (below_alloc _ _) _) _
  have hz0 : ∀ o1 o2 o3, (((w.alloc o1).alloc o2).alloc o3).heap.size = w.heap.size + 3 := fun _ _ _ => by simp
  have HB0 := Lib.hid hb0
  have HZ0 := Lib.hid hz0
  clear h1 h2 h3 h4 h1' h2' h3' h4' hb0 hz0
  go_enter Tryz.func47, Tryz.ntmps47
  go_wp2_with fail
  refine (rat_Valid _ _ _ _ _ (HV.out.on (HB0.out _ _ _))).mono ?_
  rw [HN1.out]
  rintro e w1 ⟨rfl, hb1⟩
  have HZ1 : w.heap.size + 3 ≤ w1.heap.size := by have := hb1.size; rw [HZ0.out] at this; exact this
  have HB1 : Hid (Below w.heap.size w w1) := (HB0.out _ _ _).trans (hb1.mono (by rw [HZ0.out]; omega))
  have HC1 := Lib.hid (HC.out.on hb1)
  have HCA1 := Lib.hid (HCA.out.on hb1)
  have HCB1 := Lib.hid (HCB.out.on hb1)
  clear hb1
  obtain ⟨⟨r0, r1, r2⟩, s0, s1, s2⟩ : Cel w1 (w.heap.size + 1 + 1) (.bool false) (.slice none 0 0) (.slice none 0 0) := HC1.out
  go_wp2_with fail
  obtain ⟨⟨z0, z1, z2⟩, -⟩ := HC1.out.put3 (.bool false) (.slice none 0 0) (.slice none 0 0)
  simp only [put3] at z0 z1 z2
  refine bodyPost_ret (v := .tuple #[.agg #[.bool false, .slice none 0 0, .slice none 0 0], .int .i64 3]) (by simp [results, Tryz.results47, go_sem, z0, z1, z2]) rfl ?_
  rw [opG_no HN.out]
  exact ⟨_, rfl, OutR.no (by decide), below_put3 HB1.out (g := w.heap.size + 1 + 1) (by omega) _ _ _⟩

set_option maxHeartbeats 1600000 in
theorem rat_Div_no2 (b : Bool) (xs ys : List Int) (c : Bool) (zs ts : List Int) (v u : Value) (w : World) (hv : InR w v b xs ys) (hu : InR w u c zs ts) (hn1 : valR b xs ys = true) (hn2 : valR c zs ts = false) (hn : two b xs ys c zs ts = false) :
    Calls Tryz.prog 47 #[v, u] w (RRes w (opG divEr b xs ys c zs ts) (opV divOp b xs ys c zs ts)) := by
  have HN1 := Lib.hid hn1
  have HN2 := Lib.hid hn2
  have HN := Lib.hid hn
  clear hn1 hn2 hn
  obtain ⟨vp, vq, rfl, h1, h2⟩ := hv
  obtain ⟨up, uq, rfl, h3, h4⟩ := hu
  obtain ⟨A1, c1, rfl, h1'⟩ := in_open h1
  obtain ⟨A2, c2, rfl, h2'⟩ := in_open h2
  obtain ⟨A3, c3, rfl, h3'⟩ := in_open h3
  obtain ⟨A4, c4, rfl, h4'⟩ := in_open h4
  have HV := Lib.hid (show InR w (.agg #[.bool b, .slice A1 xs.length c1, .slice A2 ys.length c2]) b xs ys from ⟨_, _, rfl, h1', h2'⟩)
  have HU := Lib.hid (show InR w (.agg #[.bool c, .slice A3 zs.length c3, .slice A4 ts.length c4]) c zs ts from ⟨_, _, rfl, h3', h4'⟩)
  have HC := Lib.hid (Cel.new ((w.alloc (.cells #[.bool b, .slice A1 xs.length c1, .slice A2 ys.length c2] 46)).alloc (.cells #[.bool c, .slice A3 zs.length c3, .slice A4 ts.length c4] 46)) (.bool false) (.slice none 0 0) (.slice none 0 0) 46)
  have HCA := Lib.hid (((Cel.new w (.bool b) (.slice A1 xs.length c1) (.slice A2 ys.length c2) 46).alloc (.cells #[.bool c, .slice A3 zs.length c3, .slice A4 ts.length c4] 46)).alloc (.cells #[.bool false, .slice none 0 0, .slice none 0 0] 46))
  have HCB := Lib.hid ((Cel.new (w.alloc (.cells #[.bool b, .slice A1 xs.length c1, .slice A2 ys.length c2] 46)) (.bool c) (.slice A3 zs.length c3) (.slice A4 ts.length c4) 46).alloc (.cells #[.bool false, .slice none 0 0, .slice none 0 0] 46))
  simp only [World.size_alloc] at HC HCB
  have hb0 : ∀ o1 o2 o3, Below w.heap.size w (((w.alloc o1).alloc o2).alloc o3) := fun _ _ _ => balloc (balloc (below_alloc _ _) _) _
  have hz0 : ∀ o1 o2 o3, (((w.alloc o1).alloc o2).alloc o3).heap.size = w.heap.size + 3 := fun _ _ _ => by simp
  have HB0 := Lib.hid hb0
  have HZ0 := Lib.hid hz0
  clear h1 h2 h3 h4 h1' h2' h3' h4' hb0 hz0
  go_enter Tryz.func47, Tryz.ntmps47
  go_wp2_with fail
  refine (rat_Valid _ _ _ _ _ (HV.out.on (HB0.out _ _ _))).mono ?_
  rw [HN1.out]
  rintro e w1 ⟨rfl, hb1⟩
  have HZ1 : w.heap.size + 3 ≤ w1.heap.size := by have := hb1.size; rw [HZ0.out] at this; exact this
  have HB1 : Hid (Below w.heap.size w w1) := (HB0.out _ _ _).trans (hb1.mono (by rw [HZ0.out]; omega))
  have HC1 := Lib.hid (HC.out.on hb1)
  have HCA1 := Lib.hid (HCA.out.on hb1)
  have HCB1 := Lib.hid (HCB.out.on hb1)
  clear hb1
  obtain ⟨⟨b0, b1, b2⟩, -⟩ : Cel w1 (w.heap.size + 1) (.bool c) (.slice A3 zs.length c3) (.slice A4 ts.length c4) := HCB1.out
  go_wp2_with fail
  clear b0 b1 b2
  refine (rat_Valid _ _ _ _ _ (HU.out.on HB1.out)).mono ?_
  rw [HN2.out]
  rintro e w2 ⟨rfl, hb2⟩
  have HZ2 : w.heap.size + 3 ≤ w2.heap.size := by have := hb2.size; omega
  have HB2 : Hid (Below w.heap.size w w2) := HB1.out.trans (hb2.mono (by omega))
  have HC2 := Lib.hid (HC1.out.on hb2)
  have HCA2 := Lib.hid (HCA1.out.on hb2)
  have HCB2 := Lib.hid (HCB1.out.on hb2)
  clear hb2
  obtain ⟨⟨r0, r1, r2⟩, s0, s1, s2⟩ : Cel w2 (w.heap.size + 1 + 1) (.bool false) (.slice none 0 0) (.slice none 0 0) := HC2.out
  go_wp2_with fail
  obtain ⟨⟨z0, z1, z2⟩, -⟩ := HC2.out.put3 (.bool false) (.slice none 0 0) (.slice none 0 0)
  simp only [put3] at z0 z1 z2
  refine bodyPost_ret (v := .tuple #[.agg #[.bool false, .slice none 0 0, .slice none 0 0], .int .i64 3]) (by simp [results, Tryz.results47, go_sem, z0, z1, z2]) rfl ?_
  rw [opG_no HN.out]
  exact ⟨_, rfl, OutR.no (by decide), below_put3 HB2.out (g := w.heap.size + 1 + 1) (by omega) _ _ _⟩

set_option maxHeartbeats 1600000 in
theorem rat_Div_zero (r s : Rat) (hr : fitR r = true) (hs : fitR s = true) (v u : Value) (w : World) (hv : IsR w v r) (hu : IsR w u s) (h0 : s.num = 0) :
    Calls Tryz.prog 47 #[v, u] w (RRes w (opG divEr (negR r) (topL r) (botL r) (negR s) (topL s) (botL s)) (opV divOp (negR r) (topL r) (botL r) (negR s) (topL s) (botL s))) := by
  have HF := Lib.hid (opG_form (er := divEr) (f := divOp) hr hs)
  have HR := Lib.hid hr
  have HS := Lib.hid hs
  have HN1 := Lib.hid (form_val hr).1
  have HN2 := Lib.hid (form_val hs).1
  clear hr hs
  have H0 := Lib.hid h0
  clear h0
  obtain ⟨vp, vq, rfl, h1, h2⟩ := hv
  obtain ⟨up, uq, rfl, h3, h4⟩ := hu
  obtain ⟨A1, c1, rfl, h1'⟩ := in_open h1
  obtain ⟨A2, c2, rfl, h2'⟩ := in_open h2
  obtain ⟨A3, c3, rfl, h3'⟩ := in_open h3
  obtain ⟨A4, c4, rfl, h4'⟩ := in_open h4
  have HV := Lib.hid (show InR w (.agg #[.bool (negR r), .slice A1 (topL r).length c1, .slice A2 (botL r).length c2]) (negR r) (topL r) (botL r) from ⟨_, _, rfl, h1', h2'⟩)
  have HU := Lib.hid (show InR w (.agg #[.bool (negR s), .slice A3 (topL s).length c3, .slice A4 (botL s).length c4]) (negR s) (topL s) (botL s) from ⟨_, _, rfl, h3', h4'⟩)
  have H1 := Lib.hid h1'
  have H2 := Lib.hid h2'
  have H3 := Lib.hid h3'
  have H4 := Lib.hid h4'
  have HC := Lib.hid (Cel.new ((w.alloc (.cells #[.bool (negR r), .slice A1 (topL r).length c1, .slice A2 (botL r).length c2] 46)).alloc (.cells #[.bool (negR s), .slice A3 (topL s).length c3, .slice A4 (botL s).length c4] 46)) (.bool false) (.slice none 0 0) (.slice none 0 0) 46)
  have HCA := Lib.hid (((Cel.new w (.bool (negR r)) (.slice A1 (topL r).length c1) (.slice A2 (botL r).length c2) 46).alloc (.cells #[.bool (negR s), .slice A3 (topL s).length c3, .slice A4 (botL s).length c4] 46)).alloc (.cells #[.bool false, .slice none 0 0, .slice none 0 0] 46))
  have HCB := Lib.hid ((Cel.new (w.alloc (.cells #[.bool (negR r), .slice A1 (topL r).length c1, .slice A2 (botL r).length c2] 46)) (.bool (negR s)) (.slice A3 (topL s).length c3) (.slice A4 (botL s).length c4) 46).alloc (.cells #[.bool false, .slice none 0 0, .slice none 0 0] 46))
  simp only [World.size_alloc] at HC HCB
  have hb0 : ∀ o1 o2 o3, Below w.heap.size w (((w.alloc o1).alloc o2).alloc o3) := fun _ _ _ => balloc (balloc (below_alloc _ _) _) _
  have hz0 : ∀ o1 o2 o3, (((w.alloc o1).alloc o2).alloc o3).heap.size = w.heap.size + 3 := fun _ _ _ => by simp
  have HB0 := Lib.hid hb0
  have HZ0 := Lib.hid hz0
  clear h1 h2 h3 h4 h1' h2' h3' h4' hb0 hz0
  go_enter Tryz.func47, Tryz.ntmps47
  go_wp2_with fail
  refine (rat_Valid _ _ _ _ _ (HV.out.on (HB0.out _ _ _))).mono ?_
  rw [HN1.out]
  rintro e w1 ⟨rfl, hb1⟩
  have HZ1 : w.heap.size + 3 ≤ w1.heap.size := by have := hb1.size; rw [HZ0.out] at this; exact this
  have HB1 : Hid (Below w.heap.size w w1) := (HB0.out _ _ _).trans (hb1.mono (by rw [HZ0.out]; omega))
  have HC1 := Lib.hid (HC.out.on hb1)
  have HCA1 := Lib.hid (HCA.out.on hb1)
  have HCB1 := Lib.hid (HCB.out.on hb1)
  clear hb1
  obtain ⟨⟨b0, b1, b2⟩, -⟩ : Cel w1 (w.heap.size + 1) (.bool (negR s)) (.slice A3 (topL s).length c3) (.slice A4 (botL s).length c4) := HCB1.out
  go_wp2_with fail
  clear b0 b1 b2
  refine (rat_Valid _ _ _ _ _ (HU.out.on HB1.out)).mono ?_
  rw [HN2.out]
  rintro e w2 ⟨rfl, hb2⟩
  have HZ2 : w.heap.size + 3 ≤ w2.heap.size := by have := hb2.size; omega
  have HB2 : Hid (Below w.heap.size w w2) := HB1.out.trans (hb2.mono (by omega))
  have HC2 := Lib.hid (HC1.out.on hb2)
  have HCA2 := Lib.hid (HCA1.out.on hb2)
  have HCB2 := Lib.hid (HCB1.out.on hb2)
  clear hb2
  obtain ⟨⟨a0, a1, a2⟩, -⟩ : Cel w2 w.heap.size (.bool (negR r)) (.slice A1 (topL r).length c1) (.slice A2 (botL r).length c2) := HCA2.out
  obtain ⟨⟨b0, b1, b2⟩, -⟩ : Cel w2 (w.heap.size + 1) (.bool (negR s)) (.slice A3 (topL s).length c3) (.slice A4 (botL s).length c4) := HCB2.out
  go_wp2_with fail
  refine (rat_isZero _ _ _ _ w2 (HU.out.on HB2.out)).mono ?_
  rw [top_emp, decide_eq_true H0.out]
  rintro e w3 ⟨rfl, hb⟩
  have HZ3 : w.heap.size + 3 ≤ w3.heap.size := by have := hb.size; omega
  have HB3 : Hid (Below w.heap.size w w3) := HB2.out.trans (hb.mono (by omega))
  have HC3 := Lib.hid (HC2.out.on hb)
  have HCA3 := Lib.hid (HCA2.out.on hb)
  have HCB3 := Lib.hid (HCB2.out.on hb)
  clear hb a0 a1 a2 b0 b1 b2
  obtain ⟨⟨r0, r1, r2⟩, s0, s1, s2⟩ : Cel w3 (w.heap.size + 1 + 1) (.bool false) (.slice none 0 0) (.slice none 0 0) := HC3.out
  go_wp2_with fail
  obtain ⟨⟨z0, z1, z2⟩, -⟩ := HC3.out.put3 (.bool false) (.slice none 0 0) (.slice none 0 0)
  simp only [put3] at z0 z1 z2
  refine bodyPost_ret (v := .tuple #[.agg #[.bool false, .slice none 0 0, .slice none 0 0], .int .i64 16]) (by simp [results, Tryz.results47, go_sem, z0, z1, z2]) rfl ?_
  rw [HF.out.1, HF.out.2, divEr_zero H0.out]
  exact ⟨_, rfl, OutR.no (by decide), below_put3 HB3.out (g := w.heap.size + 1 + 1) (by omega) _ _ _⟩

set_option maxHeartbeats 1600000 in
theorem rat_Div_inv (r s : Rat) (hr : fitR r = true) (hs : fitR s = true) (v u : Value) (w : World) (hv : IsR w v r) (hu : IsR w u s) (h0 : s.num ≠ 0) :
    Calls Tryz.prog 47 #[v, u] w (RRes w (opG divEr (negR r) (topL r) (botL r) (negR s) (topL s) (botL s)) (opV divOp (negR r) (topL r) (botL r) (negR s) (topL s) (botL s))) := by
  have HF := Lib.hid (opG_form (er := divEr) (f := divOp) hr hs)
  have HNEG := Lib.hid ((inv_form h0).2.2.2 hs)
  have HR := Lib.hid hr
  have HS := Lib.hid hs
  have HN1 := Lib.hid (form_val hr).1
  have HN2 := Lib.hid (form_val hs).1
  clear hr hs
  have H0 := Lib.hid h0
  clear h0
  obtain ⟨vp, vq, rfl, h1, h2⟩ := hv
  obtain ⟨up, uq, rfl, h3, h4⟩ := hu
  obtain ⟨A1, c1, rfl, h1'⟩ := in_open h1
  obtain ⟨A2, c2, rfl, h2'⟩ := in_open h2
  obtain ⟨A3, c3, rfl, h3'⟩ := in_open h3
  obtain ⟨A4, c4, rfl, h4'⟩ := in_open h4
  have HV := Lib.hid (show InR w (.agg #[.bool (negR r), .slice A1 (topL r).length c1, .slice A2 (botL r).length c2]) (negR r) (topL r) (botL r) from ⟨_, _, rfl, h1', h2'⟩)
  have HU := Lib.hid (show InR w (.agg #[.bool (negR s), .slice A3 (topL s).length c3, .slice A4 (botL s).length c4]) (negR s) (topL s) (botL s) from ⟨_, _, rfl, h3', h4'⟩)
  have H1 := Lib.hid h1'
  have H2 := Lib.hid h2'
  have H3 := Lib.hid h3'
  have H4 := Lib.hid h4'
  have HC := Lib.hid (Cel.new ((w.alloc (.cells #[.bool (negR r), .slice A1 (topL r).length c1, .slice A2 (botL r).length c2] 46)).alloc (.cells #[.bool (negR s), .slice A3 (topL s).length c3, .slice A4 (botL s).length c4] 46)) (.bool false) (.slice none 0 0) (.slice none 0 0) 46)
  have HCA := Lib.hid (((Cel.new w (.bool (negR r)) (.slice A1 (topL r).length c1) (.slice A2 (botL r).length c2) 46).alloc (.cells #[.bool (negR s), .slice A3 (topL s).length c3, .slice A4 (botL s).length c4] 46)).alloc (.cells #[.bool false, .slice none 0 0, .slice none 0 0] 46))
  have HCB := Lib.hid ((Cel.new (w.alloc (.cells #[.bool (negR r), .slice A1 (topL r).length c1, .slice A2 (botL r).length c2] 46)) (.bool (negR s)) (.slice A3 (topL s).length c3) (.slice A4 (botL s).length c4) 46).alloc (.cells #[.bool false, .slice none 0 0, .slice none 0 0] 46))
  simp only [World.size_alloc] at HC HCB
  have hb0 : ∀ o1 o2 o3, Below w.heap.size w (((w.alloc o1).alloc o2).alloc o3) := fun _ _ _ => balloc (balloc (below_alloc _ _) _) _
  have hz0 : ∀ o1 o2 o3, (((w.alloc o1).alloc o2).alloc o3).heap.size = w.heap.size + 3 := fun _ _ _ => by simp
  have HB0 := Lib.hid hb0
  have HZ0 := Lib.hid hz0
  clear h1 h2 h3 h4 h1' h2' h3' h4' hb0 hz0
  go_enter Tryz.func47, Tryz.ntmps47
  go_wp2_with fail
  refine (rat_Valid _ _ _ _ _ (HV.out.on (HB0.out _ _ _))).mono ?_
  rw [HN1.out]
  rintro e w1 ⟨rfl, hb1⟩
  have HZ1 : w.heap.size + 3 ≤ w1.heap.size := by have := hb1.size; rw [HZ0.out] at this; exact this
  have HB1 : Hid (Below w.heap.size w w1) := (HB0.out _ _ _).trans (hb1.mono (by rw [HZ0.out]; omega))
  have HC1 := Lib.hid (HC.out.on hb1)
  have HCA1 := Lib.hid (HCA.out.on hb1)
  have HCB1 := Lib.hid (HCB.out.on hb1)
  clear hb1
  obtain ⟨⟨b0, b1, b2⟩, -⟩ : Cel w1 (w.heap.size + 1) (.bool (negR s)) (.slice A3 (topL s).length c3) (.slice A4 (botL s).length c4) := HCB1.out
  go_wp2_with fail
  clear b0 b1 b2
  refine (rat_Valid _ _ _ _ _ (HU.out.on HB1.out)).mono ?_
  rw [HN2.out]
  rintro e w2 ⟨rfl, hb2⟩
  have HZ2 : w.heap.size + 3 ≤ w2.heap.size := by have := hb2.size; omega
  have HB2 : Hid (Below w.heap.size w w2) := HB1.out.trans (hb2.mono (by omega))
  have HC2 := Lib.hid (HC1.out.on hb2)
  have HCA2 := Lib.hid (HCA1.out.on hb2)
  have HCB2 := Lib.hid (HCB1.out.on hb2)
  clear hb2
  obtain ⟨⟨a0, a1, a2⟩, -⟩ : Cel w2 w.heap.size (.bool (negR r)) (.slice A1 (topL r).length c1) (.slice A2 (botL r).length c2) := HCA2.out
  obtain ⟨⟨b0, b1, b2⟩, -⟩ : Cel w2 (w.heap.size + 1) (.bool (negR s)) (.slice A3 (topL s).length c3) (.slice A4 (botL s).length c4) := HCB2.out
  go_wp2_with fail
  refine (rat_isZero _ _ _ _ w2 (HU.out.on HB2.out)).mono ?_
  rw [top_emp, decide_eq_false H0.out]
  rintro e w3 ⟨rfl, hb⟩
  have HZ3 : w.heap.size + 3 ≤ w3.heap.size := by have := hb.size; omega
  have HB3 : Hid (Below w.heap.size w w3) := HB2.out.trans (hb.mono (by omega))
  have HC3 := Lib.hid (HC2.out.on hb)
  have HCA3 := Lib.hid (HCA2.out.on hb)
  have HCB3 := Lib.hid (HCB2.out.on hb)
  clear hb a0 a1 a2 b0 b1 b2
  obtain ⟨⟨a0, a1, a2⟩, -⟩ : Cel w3 w.heap.size (.bool (negR r)) (.slice A1 (topL r).length c1) (.slice A2 (botL r).length c2) := HCA3.out
  obtain ⟨⟨b0, b1, b2⟩, -⟩ : Cel w3 (w.heap.size + 1) (.bool (negR s)) (.slice A3 (topL s).length c3) (.slice A4 (botL s).length c4) := HCB3.out
  have KA := Lib.hid HCA3.out.drew
  have KB := Lib.hid HCB3.out.drew
  have KC := Lib.hid HC3.out.drew
  have HBD := Lib.hid HB3.out.drew
  have HUD := Lib.hid (HU.out.on HBD.out)
  have HVD := Lib.hid (show IsR w3.drew _ r from HV.out.on HBD.out)
  have HZD : w.heap.size + 3 ≤ w3.drew.heap.size := HZ3
  go_wp2_with fail
  go_region_held3 (fun W' => (W'.cell? ⟨w.heap.size, 0, none⟩ = some (.bool (negR r)) ∧ W'.cell? ⟨w.heap.size, 1, none⟩ = some (.slice A1 (topL r).length c1) ∧ W'.cell? ⟨w.heap.size, 2, none⟩ = some (.slice A2 (botL r).length c2)) ∧ (W'.cell? ⟨w.heap.size + 1, 0, none⟩ = some (.bool (negR s)) ∧ W'.cell? ⟨w.heap.size + 1, 1, none⟩ = some (.slice A3 (topL s).length c3) ∧ W'.cell? ⟨w.heap.size + 1, 2, none⟩ = some (.slice A4 (botL s).length c4)))
    (first | exact ⟨⟨a0, a1, a2⟩, b0, b1, b2⟩ | exact ⟨(KA.out.on hb3).1, (KB.out.on hb3).1⟩ | exact ⟨((KA.out.on hb3).on hb4).1, ((KB.out.on hb3).on hb4).1⟩ | exact ⟨(((KA.out.on hb3).on hb4).put3o (g' := w.heap.size + 1 + 1) (by omega) _ _ _).1, (((KB.out.on hb3).on hb4).put3o (g' := w.heap.size + 1 + 1) (by omega) _ _ _).1⟩)
    (first | (go_at_call 50; (with_reducible refine (rat_signed (negR s) (botL s) (topL s) _ _ _ (H4.out.on HBD.out) (H3.out.on HBD.out)).mono ?_); rintro e w4 ⟨v3, rfl, h3, hb3⟩) | (go_at_call 70; (with_reducible refine (rat_times r s⁻¹ HR.out HNEG.out _ _ _ (HVD.out.on hb3) (signed_inv H0.out h3)).mono ?_); rintro e w5 h5; obtain ⟨b5, A5, n5, d5, A6, n6, d6, rfl, ho4, hb4⟩ := h5.open_; obtain ⟨⟨d0, d1, d2⟩, f0, f1, f2⟩ := (KC.out.on hb3).on hb4))
  all_goals go_wp2_with fail
  all_goals (obtain ⟨⟨z0, z1, z2⟩, -⟩ := ((KC.out.on hb3).on hb4).put3 (.bool b5) (.slice A5 n5 d5) (.slice A6 n6 d6))
  all_goals simp only [put3] at z0 z1 z2
  all_goals refine bodyPost_ret (v := .tuple #[.agg #[.bool b5, .slice A5 n5 d5, .slice A6 n6 d6], .int .i64 (okE (mulOk r s⁻¹))]) (by simp [results, Tryz.results47, go_sem, z0, z1, z2]) rfl ?_
  all_goals rw [HF.out.1, HF.out.2, divEr_inv H0.out]
  all_goals exact ⟨_, rfl, ho4.put3 ((KC.out.on hb3).on hb4) _ _ _, below_put3 ((HBD.out.trans (hb3.mono (by omega))).trans (hb4.mono (by have := hb3.size; omega))) (by omega) _ _ _⟩

theorem rat_Div (b : Bool) (xs ys : List Int) (c : Bool) (zs ts : List Int) (v u : Value) (w : World) (hv : InR w v b xs ys) (hu : InR w u c zs ts) :
    Calls Tryz.prog 47 #[v, u] w (RRes w (opG divEr b xs ys c zs ts) (opV divOp b xs ys c zs ts)) := by
  rcases two_cases b xs ys c zs ts with ⟨h1, h⟩ | ⟨h1, h2, h⟩ | ⟨h, r, s, ⟨hr, rfl, rfl, rfl⟩, hs, rfl, rfl, rfl⟩
  · exact rat_Div_no1 b xs ys c zs ts v u w hv hu h1 h
  · exact rat_Div_no2 b xs ys c zs ts v u w hv hu h1 h2 h
  · by_cases h0 : s.num = 0
    · exact rat_Div_zero r s hr hs v u w hv hu h0
    · exact rat_Div_inv r s hr hs v u w hv hu h0

end Go.Proofs.YtagjimdplmimoaaGreat
/- Contracts of Cmp of rat and of its reference. -/
namespace Go.Proofs.YtagjimdplmimoaaGreat
open Go.ChangeShapes Go.WideShapes Go.RowKit
set_option linter.unusedVariables false
set_option maxRecDepth 100000

theorem bcase (b : Bool) : b = true ∨ b = false := by cases b <;> simp
theorem crossOk_eq (r s : Rat) : crossOk r s = prOk r.num.natAbs s.den s.num.natAbs r.den := rfl
theorem cmpI_swap (x y : Int) : cmpI y x = -cmpI x y := by
  rcases Int.lt_trichotomy x y with h | h | h
  · rw [cmpI_lt h, cmpI_gt h]; rfl
  · subst h; rw [cmpI_eq]; rfl
  · rw [cmpI_gt h, cmpI_lt h]
def cmpQ (r s : Rat) : Int :=
  if negR r = true then (if negR s = true then -cmpI (r.num.natAbs * s.den : Nat) (s.num.natAbs * r.den : Nat) else -1) else if negR s = true then 1 else cmpI (r.num.natAbs * s.den : Nat) (s.num.natAbs * r.den : Nat)
def cmpG (r s : Rat) : Int := if crossOk r s then cmpQ r s else 0
def cmpW (b : Bool) (xs ys : List Int) (c : Bool) (zs ts : List Int) : Int := if two b xs ys c zs ts then cmpG (ratV b xs ys) (ratV c zs ts) else 0
theorem cmpW_no {b : Bool} {xs ys : List Int} {c : Bool} {zs ts : List Int} (h : two b xs ys c zs ts = false) : cmpW b xs ys c zs ts = 0 := by unfold cmpW; rw [h]; rfl
theorem cmpW_form {r s : Rat} (hr : fitR r = true) (hs : fitR s = true) : cmpW (negR r) (topL r) (botL r) (negR s) (topL s) (botL s) = cmpG r s := by
  unfold cmpW; rw [two_form hr hs, (form_val hr).2, (form_val hs).2]; rfl
theorem cmpG_no {r s : Rat} (h : crossOk r s = false) : cmpG r s = 0 := by unfold cmpG; rw [h]; rfl
theorem cmpG_nn {r s : Rat} (h : crossOk r s = true) (h1 : negR r = true) (h2 : negR s = true) : cmpG r s = -cmpI (r.num.natAbs * s.den : Nat) (s.num.natAbs * r.den : Nat) := by
  unfold cmpG cmpQ; rw [h, h1, h2]; rfl
theorem cmpG_np {r s : Rat} (h : crossOk r s = true) (h1 : negR r = true) (h2 : negR s = false) : cmpG r s = -1 := by
  unfold cmpG cmpQ; rw [h, h1, h2]; rfl
theorem cmpG_pn {r s : Rat} (h : crossOk r s = true) (h1 : negR r = false) (h2 : negR s = true) : cmpG r s = 1 := by
  unfold cmpG cmpQ; rw [h, h1, h2]; rfl
theorem cmpG_pp {r s : Rat} (h : crossOk r s = true) (h1 : negR r = false) (h2 : negR s = false) : cmpG r s = cmpI (r.num.natAbs * s.den : Nat) (s.num.natAbs * r.den : Nat) := by
  unfold cmpG cmpQ; rw [h, h1, h2]; rfl

set_option maxHeartbeats 1600000 in
theorem rat_Cmp_no1 (b : Bool) (xs ys : List Int) (c : Bool) (zs ts : List Int) (v u : Value) (w : World) (hv : InR w v b xs ys) (hu : InR w u c zs ts) (hn1 : valR b xs ys = false) (hn : two b xs ys c zs ts = false) :
    Calls Tryz.prog 34 #[v, u] w fun e w' => e = .returned (.tuple #[.int .i64 (cmpW b xs ys c zs ts), .int .i64 (opE crossOk b xs ys c zs ts)]) ∧ Below w.heap.size w w' := by
  have HN1 := Lib.hid hn1
  have HN := Lib.hid (cmpW_no hn)
  have HE := Lib.hid (opE_no (ok := crossOk) hn)
  clear hn1 hn
  obtain ⟨vp, vq, rfl, h1, h2⟩ := hv
  obtain ⟨up, uq, rfl, h3, h4⟩ := hu
  obtain ⟨A1, c1, rfl, h1'⟩ := in_open h1
  obtain ⟨A2, c2, rfl, h2'⟩ := in_open h2
  obtain ⟨A3, c3, rfl, h3'⟩ := in_open h3
  obtain ⟨A4, c4, rfl, h4'⟩ := in_open h4
  have H1 := Lib.hid h1'
  have H2 := Lib.hid h2'
  have H3 := Lib.hid h3'
  have H4 := Lib.hid h4'
  have HV := Lib.hid (show InR w (.agg #[.bool b, .slice A1 xs.length c1, .slice A2 ys.length c2]) b xs ys from ⟨_, _, rfl, h1', h2'⟩)
  have HU := Lib.hid (show InR w (.agg #[.bool c, .slice A3 zs.length c3, .slice A4 ts.length c4]) c zs ts from ⟨_, _, rfl, h3', h4'⟩)
  have HCA := Lib.hid ((Cel.new w (.bool b) (.slice A1 xs.length c1) (.slice A2 ys.length c2) 46).alloc (.cells #[.bool c, .slice A3 zs.length c3, .slice A4 ts.length c4] 46))
  have HCB := Lib.hid (Cel.new (w.alloc (.cells #[.bool b, .slice A1 xs.length c1, .slice A2 ys.length c2] 46)) (.bool c) (.slice A3 zs.length c3) (.slice A4 ts.length c4) 46)
  simp only [World.size_alloc] at HCB
  have hb0 : ∀ o1 o2, Below w.heap.size w ((w.alloc o1).alloc o2) := fun _ _ => balloc (below_alloc _ _) _
  have hz0 : ∀ o1 o2, ((w.alloc o1).alloc o2).heap.size = w.heap.size + 2 := fun _ _ => by simp
  have HB0 := Lib.hid hb0
  have HZ0 := Lib.hid hz0
  clear h1 h2 h3 h4 h1' h2' h3' h4' hb0 hz0
  go_enter Tryz.func34, Tryz.ntmps34
  go_wp2_with fail
  refine (rat_Valid _ _ _ _ _ (HV.out.on (HB0.out _ _))).mono ?_
  rw [HN1.out]
  rintro e w1 ⟨rfl, hb⟩
  have HZ1 : w.heap.size + 2 ≤ w1.heap.size := by have := hb.size; rw [HZ0.out] at this; exact this
  have HB1 : Hid (Below w.heap.size w w1) := (HB0.out _ _).trans (hb.mono (by rw [HZ0.out]; omega))
  have HCA1 := Lib.hid (HCA.out.on hb)
  have HCB1 := Lib.hid (HCB.out.on hb)
  clear hb
  go_wp2_with fail
  go_ret2
  rw [HN.out, HE.out]
  exact ⟨rfl, HB1.out⟩

set_option maxHeartbeats 1600000 in
theorem rat_Cmp_no2 (b : Bool) (xs ys : List Int) (c : Bool) (zs ts : List Int) (v u : Value) (w : World) (hv : InR w v b xs ys) (hu : InR w u c zs ts) (hn1 : valR b xs ys = true) (hn2 : valR c zs ts = false) (hn : two b xs ys c zs ts = false) :
    Calls Tryz.prog 34 #[v, u] w fun e w' => e = .returned (.tuple #[.int .i64 (cmpW b xs ys c zs ts), .int .i64 (opE crossOk b xs ys c zs ts)]) ∧ Below w.heap.size w w' := by
  have HN1 := Lib.hid hn1
  have HN2 := Lib.hid hn2
  have HN := Lib.hid (cmpW_no hn)
  have HE := Lib.hid (opE_no (ok := crossOk) hn)
  clear hn1 hn2 hn
  obtain ⟨vp, vq, rfl, h1, h2⟩ := hv
  obtain ⟨up, uq, rfl, h3, h4⟩ := hu
  obtain ⟨A1, c1, rfl, h1'⟩ := in_open h1
  obtain ⟨A2, c2, rfl, h2'⟩ := in_open h2
  obtain ⟨A3, c3, rfl, h3'⟩ := in_open h3
  obtain ⟨A4, c4, rfl, h4'⟩ := in_open h4
  have H1 := Lib.hid h1'
  have H2 := Lib.hid h2'
  have H3 := Lib.hid h3'
  have H4 := Lib.hid h4'
  have HV := Lib.hid (show InR w (.agg #[.bool b, .slice A1 xs.length c1, .slice A2 ys.length c2]) b xs ys from ⟨_, _, rfl, h1', h2'⟩)
  have HU := Lib.hid (show InR w (.agg #[.bool c, .slice A3 zs.length c3, .slice A4 ts.length c4]) c zs ts from ⟨_, _, rfl, h3', h4'⟩)
  have HCA := Lib.hid ((Cel.new w (.bool b) (.slice A1 xs.length c1) (.slice A2 ys.length c2) 46).alloc (.cells #[.bool c, .slice A3 zs.length c3, .slice A4 ts.length c4] 46))
  have HCB := Lib.hid (Cel.new (w.alloc (.cells #[.bool b, .slice A1 xs.length c1, .slice A2 ys.length c2] 46)) (.bool c) (.slice A3 zs.length c3) (.slice A4 ts.length c4) 46)
  simp only [World.size_alloc] at HCB
  have hb0 : ∀ o1 o2, Below w.heap.size w ((w.alloc o1).alloc o2) := fun _ _ => balloc (below_alloc _ _) _
  have hz0 : ∀ o1 o2, ((w.alloc o1).alloc o2).heap.size = w.heap.size + 2 := fun _ _ => by simp
  have HB0 := Lib.hid hb0
  have HZ0 := Lib.hid hz0
  clear h1 h2 h3 h4 h1' h2' h3' h4' hb0 hz0
  go_enter Tryz.func34, Tryz.ntmps34
  go_wp2_with fail
  refine (rat_Valid _ _ _ _ _ (HV.out.on (HB0.out _ _))).mono ?_
  rw [HN1.out]
  rintro e w1 ⟨rfl, hb⟩
  have HZ1 : w.heap.size + 2 ≤ w1.heap.size := by have := hb.size; rw [HZ0.out] at this; exact this
  have HB1 : Hid (Below w.heap.size w w1) := (HB0.out _ _).trans (hb.mono (by rw [HZ0.out]; omega))
  have HCA1 := Lib.hid (HCA.out.on hb)
  have HCB1 := Lib.hid (HCB.out.on hb)
  clear hb
  obtain ⟨⟨a0, a1, a2⟩, -⟩ : Cel w1 w.heap.size (.bool b) (.slice A1 xs.length c1) (.slice A2 ys.length c2) := HCA1.out
  obtain ⟨⟨b0, b1, b2⟩, -⟩ : Cel w1 (w.heap.size + 1) (.bool c) (.slice A3 zs.length c3) (.slice A4 ts.length c4) := HCB1.out
  go_wp2_with fail
  clear a0 a1 a2 b0 b1 b2
  refine (rat_Valid _ _ _ _ _ (HU.out.on HB1.out)).mono ?_
  rw [HN2.out]
  rintro e w2 ⟨rfl, hb⟩
  have HZ2 : w.heap.size + 2 ≤ w2.heap.size := by have := hb.size; omega
  have HB2 : Hid (Below w.heap.size w w2) := HB1.out.trans (hb.mono (by omega))
  have HCA2 := Lib.hid (HCA1.out.on hb)
  have HCB2 := Lib.hid (HCB1.out.on hb)
  clear hb
  go_wp2_with fail
  go_ret2
  rw [HN.out, HE.out]
  exact ⟨rfl, HB2.out⟩

set_option maxHeartbeats 1600000 in
theorem rat_Cmp_cross (r s : Rat) (hr : fitR r = true) (hs : fitR s = true) (v u : Value) (w : World) (hv : IsR w v r) (hu : IsR w u s) (ho : prOk r.num.natAbs s.den s.num.natAbs r.den = false) :
    Calls Tryz.prog 34 #[v, u] w fun e w' => e = .returned (.tuple #[.int .i64 (cmpW (negR r) (topL r) (botL r) (negR s) (topL s) (botL s)), .int .i64 (opE crossOk (negR r) (topL r) (botL r) (negR s) (topL s) (botL s))]) ∧ Below w.heap.size w w' := by
  have HF := Lib.hid (op_form (ok := crossOk) (f := addOp) hr hs).1
  have HW := Lib.hid (cmpW_form hr hs)
  have BR := Lib.hid (fitR_iff.mp hr)
  have BS := Lib.hid (fitR_iff.mp hs)
  have HO := Lib.hid ho
  have HR := Lib.hid hr
  have HS := Lib.hid hs
  have HN1 := Lib.hid (form_val hr).1
  have HN2 := Lib.hid (form_val hs).1
  clear hr hs
  clear ho
  obtain ⟨vp, vq, rfl, h1, h2⟩ := hv
  obtain ⟨up, uq, rfl, h3, h4⟩ := hu
  obtain ⟨A1, c1, rfl, h1'⟩ := in_open h1
  obtain ⟨A2, c2, rfl, h2'⟩ := in_open h2
  obtain ⟨A3, c3, rfl, h3'⟩ := in_open h3
  obtain ⟨A4, c4, rfl, h4'⟩ := in_open h4
  have H1 := Lib.hid h1'
  have H2 := Lib.hid h2'
  have H3 := Lib.hid h3'
  have H4 := Lib.hid h4'
  have HV := Lib.hid (show InR w (.agg #[.bool (negR r), .slice A1 (topL r).length c1, .slice A2 (botL r).length c2]) (negR r) (topL r) (botL r) from ⟨_, _, rfl, h1', h2'⟩)
  have HU := Lib.hid (show InR w (.agg #[.bool (negR s), .slice A3 (topL s).length c3, .slice A4 (botL s).length c4]) (negR s) (topL s) (botL s) from ⟨_, _, rfl, h3', h4'⟩)
  have HCA := Lib.hid ((Cel.new w (.bool (negR r)) (.slice A1 (topL r).length c1) (.slice A2 (botL r).length c2) 46).alloc (.cells #[.bool (negR s), .slice A3 (topL s).length c3, .slice A4 (botL s).length c4] 46))
  have HCB := Lib.hid (Cel.new (w.alloc (.cells #[.bool (negR r), .slice A1 (topL r).length c1, .slice A2 (botL r).length c2] 46)) (.bool (negR s)) (.slice A3 (topL s).length c3) (.slice A4 (botL s).length c4) 46)
  simp only [World.size_alloc] at HCB
  have hb0 : ∀ o1 o2, Below w.heap.size w ((w.alloc o1).alloc o2) := fun _ _ => balloc (below_alloc _ _) _
  have hz0 : ∀ o1 o2, ((w.alloc o1).alloc o2).heap.size = w.heap.size + 2 := fun _ _ => by simp
  have HB0 := Lib.hid hb0
  have HZ0 := Lib.hid hz0
  clear h1 h2 h3 h4 h1' h2' h3' h4' hb0 hz0
  go_enter Tryz.func34, Tryz.ntmps34
  go_wp2_with fail
  refine (rat_Valid _ _ _ _ _ (HV.out.on (HB0.out _ _))).mono ?_
  rw [HN1.out]
  rintro e w1 ⟨rfl, hb⟩
  have HZ1 : w.heap.size + 2 ≤ w1.heap.size := by have := hb.size; rw [HZ0.out] at this; exact this
  have HB1 : Hid (Below w.heap.size w w1) := (HB0.out _ _).trans (hb.mono (by rw [HZ0.out]; omega))
  have HCA1 := Lib.hid (HCA.out.on hb)
  have HCB1 := Lib.hid (HCB.out.on hb)
  clear hb
  obtain ⟨⟨a0, a1, a2⟩, -⟩ : Cel w1 w.heap.size (.bool (negR r)) (.slice A1 (topL r).length c1) (.slice A2 (botL r).length c2) := HCA1.out
  obtain ⟨⟨b0, b1, b2⟩, -⟩ : Cel w1 (w.heap.size + 1) (.bool (negR s)) (.slice A3 (topL s).length c3) (.slice A4 (botL s).length c4) := HCB1.out
  go_wp2_with fail
  clear a0 a1 a2 b0 b1 b2
  refine (rat_Valid _ _ _ _ _ (HU.out.on HB1.out)).mono ?_
  rw [HN2.out]
  rintro e w2 ⟨rfl, hb⟩
  have HZ2 : w.heap.size + 2 ≤ w2.heap.size := by have := hb.size; omega
  have HB2 : Hid (Below w.heap.size w w2) := HB1.out.trans (hb.mono (by omega))
  have HCA2 := Lib.hid (HCA1.out.on hb)
  have HCB2 := Lib.hid (HCB1.out.on hb)
  clear hb
  obtain ⟨⟨a0, a1, a2⟩, -⟩ : Cel w2 w.heap.size (.bool (negR r)) (.slice A1 (topL r).length c1) (.slice A2 (botL r).length c2) := HCA2.out
  obtain ⟨⟨b0, b1, b2⟩, -⟩ : Cel w2 (w.heap.size + 1) (.bool (negR s)) (.slice A3 (topL s).length c3) (.slice A4 (botL s).length c4) := HCB2.out
  go_wp2_with fail
  clear a0 a1 a2 b0 b1 b2
  refine (rat_products r.num.natAbs s.den s.num.natAbs r.den _ _ _ _ w2 (H1.out.on HB2.out) (H4.out.on HB2.out) (H3.out.on HB2.out) (H2.out.on HB2.out) BR.out.1 BS.out.2 BS.out.1 BR.out.2).mono ?_
  rw [HO.out]
  rintro e w3 ⟨vx, vy, rfl, hx, hy, hb⟩
  have HX := Lib.hid hx.toIn
  have HY := Lib.hid hy.toIn
  have HZ3 : w.heap.size + 2 ≤ w3.heap.size := by have := hb.size; omega
  have HB3 : Hid (Below w.heap.size w w3) := HB2.out.trans (hb.mono (by omega))
  have HCA3 := Lib.hid (HCA2.out.on hb)
  have HCB3 := Lib.hid (HCB2.out.on hb)
  clear hb hx hy
  unfold okE
  go_wp2_with fail
  go_ret2
  rw [HF.out, HW.out, cmpG_no HO.out, crossOk_eq, HO.out]
  exact ⟨rfl, HB3.out⟩

set_option maxHeartbeats 1600000 in
theorem rat_Cmp_nn (r s : Rat) (hr : fitR r = true) (hs : fitR s = true) (v u : Value) (w : World) (hv : IsR w v r) (hu : IsR w u s) (ho : prOk r.num.natAbs s.den s.num.natAbs r.den = true) (s1 : negR r = true) (s2 : negR s = true) :
    Calls Tryz.prog 34 #[v, u] w fun e w' => e = .returned (.tuple #[.int .i64 (cmpW (negR r) (topL r) (botL r) (negR s) (topL s) (botL s)), .int .i64 (opE crossOk (negR r) (topL r) (botL r) (negR s) (topL s) (botL s))]) ∧ Below w.heap.size w w' := by
  have HF := Lib.hid (op_form (ok := crossOk) (f := addOp) hr hs).1
  have HW := Lib.hid (cmpW_form hr hs)
  have BR := Lib.hid (fitR_iff.mp hr)
  have BS := Lib.hid (fitR_iff.mp hs)
  have HO := Lib.hid ho
  have S1 := Lib.hid s1
  have S2 := Lib.hid s2
  have HR := Lib.hid hr
  have HS := Lib.hid hs
  have HN1 := Lib.hid (form_val hr).1
  have HN2 := Lib.hid (form_val hs).1
  clear hr hs
  clear ho s1 s2
  obtain ⟨vp, vq, rfl, h1, h2⟩ := hv
  obtain ⟨up, uq, rfl, h3, h4⟩ := hu
  obtain ⟨A1, c1, rfl, h1'⟩ := in_open h1
  obtain ⟨A2, c2, rfl, h2'⟩ := in_open h2
  obtain ⟨A3, c3, rfl, h3'⟩ := in_open h3
  obtain ⟨A4, c4, rfl, h4'⟩ := in_open h4
  have H1 := Lib.hid h1'
  have H2 := Lib.hid h2'
  have H3 := Lib.hid h3'
  have H4 := Lib.hid h4'
  have HV := Lib.hid (show InR w (.agg #[.bool (negR r), .slice A1 (topL r).length c1, .slice A2 (botL r).length c2]) (negR r) (topL r) (botL r) from ⟨_, _, rfl, h1', h2'⟩)
  have HU := Lib.hid (show InR w (.agg #[.bool (negR s), .slice A3 (topL s).length c3, .slice A4 (botL s).length c4]) (negR s) (topL s) (botL s) from ⟨_, _, rfl, h3', h4'⟩)
  have HCA := Lib.hid ((Cel.new w (.bool (negR r)) (.slice A1 (topL r).length c1) (.slice A2 (botL r).length c2) 46).alloc (.cells #[.bool (negR s), .slice A3 (topL s).length c3, .slice A4 (botL s).length c4] 46))
  have HCB := Lib.hid (Cel.new (w.alloc (.cells #[.bool (negR r), .slice A1 (topL r).length c1, .slice A2 (botL r).length c2] 46)) (.bool (negR s)) (.slice A3 (topL s).length c3) (.slice A4 (botL s).length c4) 46)
  simp only [World.size_alloc] at HCB
  have hb0 : ∀ o1 o2, Below w.heap.size w ((w.alloc o1).alloc o2) := fun _ _ => balloc (below_alloc _ _) _
  have hz0 : ∀ o1 o2, ((w.alloc o1).alloc o2).heap.size = w.heap.size + 2 := fun _ _ => by simp
  have HB0 := Lib.hid hb0
  have HZ0 := Lib.hid hz0
  clear h1 h2 h3 h4 h1' h2' h3' h4' hb0 hz0
  go_enter Tryz.func34, Tryz.ntmps34
  go_wp2_with fail
  refine (rat_Valid _ _ _ _ _ (HV.out.on (HB0.out _ _))).mono ?_
  rw [HN1.out]
  rintro e w1 ⟨rfl, hb⟩
  have HZ1 : w.heap.size + 2 ≤ w1.heap.size := by have := hb.size; rw [HZ0.out] at this; exact this
  have HB1 : Hid (Below w.heap.size w w1) := (HB0.out _ _).trans (hb.mono (by rw [HZ0.out]; omega))
  have HCA1 := Lib.hid (HCA.out.on hb)
  have HCB1 := Lib.hid (HCB.out.on hb)
  clear hb
  obtain ⟨⟨a0, a1, a2⟩, -⟩ : Cel w1 w.heap.size (.bool (negR r)) (.slice A1 (topL r).length c1) (.slice A2 (botL r).length c2) := HCA1.out
  obtain ⟨⟨b0, b1, b2⟩, -⟩ : Cel w1 (w.heap.size + 1) (.bool (negR s)) (.slice A3 (topL s).length c3) (.slice A4 (botL s).length c4) := HCB1.out
  go_wp2_with fail
  clear a0 a1 a2 b0 b1 b2
  refine (rat_Valid _ _ _ _ _ (HU.out.on HB1.out)).mono ?_
  rw [HN2.out]
  rintro e w2 ⟨rfl, hb⟩
  have HZ2 : w.heap.size + 2 ≤ w2.heap.size := by have := hb.size; omega
  have HB2 : Hid (Below w.heap.size w w2) := HB1.out.trans (hb.mono (by omega))
  have HCA2 := Lib.hid (HCA1.out.on hb)
  have HCB2 := Lib.hid (HCB1.out.on hb)
  clear hb
  obtain ⟨⟨a0, a1, a2⟩, -⟩ : Cel w2 w.heap.size (.bool (negR r)) (.slice A1 (topL r).length c1) (.slice A2 (botL r).length c2) := HCA2.out
  obtain ⟨⟨b0, b1, b2⟩, -⟩ : Cel w2 (w.heap.size + 1) (.bool (negR s)) (.slice A3 (topL s).length c3) (.slice A4 (botL s).length c4) := HCB2.out
  go_wp2_with fail
  clear a0 a1 a2 b0 b1 b2
  refine (rat_products r.num.natAbs s.den s.num.natAbs r.den _ _ _ _ w2 (H1.out.on HB2.out) (H4.out.on HB2.out) (H3.out.on HB2.out) (H2.out.on HB2.out) BR.out.1 BS.out.2 BS.out.1 BR.out.2).mono ?_
  rw [HO.out]
  rintro e w3 ⟨vx, vy, rfl, hx, hy, hb⟩
  have HX := Lib.hid hx.toIn
  have HY := Lib.hid hy.toIn
  have HZ3 : w.heap.size + 2 ≤ w3.heap.size := by have := hb.size; omega
  have HB3 : Hid (Below w.heap.size w w3) := HB2.out.trans (hb.mono (by omega))
  have HCA3 := Lib.hid (HCA2.out.on hb)
  have HCB3 := Lib.hid (HCB2.out.on hb)
  clear hb hx hy
  unfold okE
  obtain ⟨⟨a0, -⟩, -⟩ : Cel w3 w.heap.size (.bool (negR r)) (.slice A1 (topL r).length c1) (.slice A2 (botL r).length c2) := HCA3.out
  obtain ⟨⟨b0, -⟩, -⟩ : Cel w3 (w.heap.size + 1) (.bool (negR s)) (.slice A3 (topL s).length c3) (.slice A4 (botL s).length c4) := HCB3.out
  rw [S1.out] at a0
  rw [S2.out] at b0
  go_wp2_with fail
  refine (nat_Cmp_in (s.num.natAbs * r.den) (r.num.natAbs * s.den) _ _ w3 HY.out HX.out (prOk_parts HO.out).2 (prOk_parts HO.out).1).mono ?_
  rw [cmpI_swap]
  rintro e w4 ⟨rfl, hb⟩
  have HZ4 : w.heap.size + 2 ≤ w4.heap.size := by have := hb.size; omega
  have HB4 : Hid (Below w.heap.size w w4) := HB3.out.trans (hb.mono (by omega))
  have HCA4 := Lib.hid (HCA3.out.on hb)
  have HCB4 := Lib.hid (HCB3.out.on hb)
  clear hb a0 b0
  go_wp2_with fail
  go_ret2
  rw [HF.out, HW.out, cmpG_nn HO.out S1.out S2.out, crossOk_eq, HO.out]
  exact ⟨rfl, HB4.out⟩

set_option maxHeartbeats 1600000 in
theorem rat_Cmp_np (r s : Rat) (hr : fitR r = true) (hs : fitR s = true) (v u : Value) (w : World) (hv : IsR w v r) (hu : IsR w u s) (ho : prOk r.num.natAbs s.den s.num.natAbs r.den = true) (s1 : negR r = true) (s2 : negR s = false) :
    Calls Tryz.prog 34 #[v, u] w fun e w' => e = .returned (.tuple #[.int .i64 (cmpW (negR r) (topL r) (botL r) (negR s) (topL s) (botL s)), .int .i64 (opE crossOk (negR r) (topL r) (botL r) (negR s) (topL s) (botL s))]) ∧ Below w.heap.size w w' := by
  have HF := Lib.hid (op_form (ok := crossOk) (f := addOp) hr hs).1
  have HW := Lib.hid (cmpW_form hr hs)
  have BR := Lib.hid (fitR_iff.mp hr)
  have BS := Lib.hid (fitR_iff.mp hs)
  have HO := Lib.hid ho
  have S1 := Lib.hid s1
  have S2 := Lib.hid s2
  have HR := Lib.hid hr
  have HS := Lib.hid hs
  have HN1 := Lib.hid (form_val hr).1
  have HN2 := Lib.hid (form_val hs).1
  clear hr hs
  clear ho s1 s2
  obtain ⟨vp, vq, rfl, h1, h2⟩ := hv
  obtain ⟨up, uq, rfl, h3, h4⟩ := hu
  obtain ⟨A1, c1, rfl, h1'⟩ := in_open h1
  obtain ⟨A2, c2, rfl, h2'⟩ := in_open h2
  obtain ⟨A3, c3, rfl, h3'⟩ := in_open h3
  obtain ⟨A4, c4, rfl, h4'⟩ := in_open h4
  have H1 := Lib.hid h1'
  have H2 := Lib.hid h2'
  have H3 := Lib.hid h3'
  have H4 := Lib.hid h4'
  have HV := Lib.hid (show InR w (.agg #[.bool (negR r), .slice A1 (topL r).length c1, .slice A2 (botL r).length c2]) (negR r) (topL r) (botL r) from ⟨_, _, rfl, h1', h2'⟩)
  have HU := Lib.hid (show InR w (.agg #[.bool (negR s), .slice A3 (topL s).length c3, .slice A4 (botL s).length c4]) (negR s) (topL s) (botL s) from ⟨_, _, rfl, h3', h4'⟩)
  have HCA := Lib.hid ((Cel.new w (.bool (negR r)) (.slice A1 (topL r).length c1) (.slice A2 (botL r).length c2) 46).alloc (.cells #[.bool (negR s), .slice A3 (topL s).length c3, .slice A4 (botL s).length c4] 46))
  have HCB := Lib.hid (Cel.new (w.alloc (.cells #[.bool (negR r), .slice A1 (topL r).length c1, .slice A2 (botL r).length c2] 46)) (.bool (negR s)) (.slice A3 (topL s).length c3) (.slice A4 (botL s).length c4) 46)
  simp only [World.size_alloc] at HCB
  have hb0 : ∀ o1 o2, Below w.heap.size w ((w.alloc o1).alloc o2) := fun _ _ => balloc (below_alloc _ _) _
  have hz0 : ∀ o1 o2, ((w.alloc o1).alloc o2).heap.size = w.heap.size + 2 := fun _ _ => by simp
  have HB0 := Lib.hid hb0
  have HZ0 := Lib.hid hz0
  clear h1 h2 h3 h4 h1' h2' h3' h4' hb0 hz0
  go_enter Tryz.func34, Tryz.ntmps34
  go_wp2_with fail
  refine (rat_Valid _ _ _ _ _ (HV.out.on (HB0.out _ _))).mono ?_
  rw [HN1.out]
  rintro e w1 ⟨rfl, hb⟩
  have HZ1 : w.heap.size + 2 ≤ w1.heap.size := by have := hb.size; rw [HZ0.out] at this; exact this
  have HB1 : Hid (Below w.heap.size w w1) := (HB0.out _ _).trans (hb.mono (by rw [HZ0.out]; omega))
  have HCA1 := Lib.hid (HCA.out.on hb)
  have HCB1 := Lib.hid (HCB.out.on hb)
  clear hb
  obtain ⟨⟨a0, a1, a2⟩, -⟩ : Cel w1 w.heap.size (.bool (negR r)) (.slice A1 (topL r).length c1) (.slice A2 (botL r).length c2) := HCA1.out
  obtain ⟨⟨b0, b1, b2⟩, -⟩ : Cel w1 (w.heap.size + 1) (.bool (negR s)) (.slice A3 (topL s).length c3) (.slice A4 (botL s).length c4) := HCB1.out
  go_wp2_with fail
  clear a0 a1 a2 b0 b1 b2
  refine (rat_Valid _ _ _ _ _ (HU.out.on HB1.out)).mono ?_
  rw [HN2.out]
  rintro e w2 ⟨rfl, hb⟩
  have HZ2 : w.heap.size + 2 ≤ w2.heap.size := by have := hb.size; omega
  have HB2 : Hid (Below w.heap.size w w2) := HB1.out.trans (hb.mono (by omega))
  have HCA2 := Lib.hid (HCA1.out.on hb)
  have HCB2 := Lib.hid (HCB1.out.on hb)
  clear hb
  obtain ⟨⟨a0, a1, a2⟩, -⟩ : Cel w2 w.heap.size (.bool (negR r)) (.slice A1 (topL r).length c1) (.slice A2 (botL r).length c2) := HCA2.out
  obtain ⟨⟨b0, b1, b2⟩, -⟩ : Cel w2 (w.heap.size + 1) (.bool (negR s)) (.slice A3 (topL s).length c3) (.slice A4 (botL s).length c4) := HCB2.out
  go_wp2_with fail
  clear a0 a1 a2 b0 b1 b2
  refine (rat_products r.num.natAbs s.den s.num.natAbs r.den _ _ _ _ w2 (H1.out.on HB2.out) (H4.out.on HB2.out) (H3.out.on HB2.out) (H2.out.on HB2.out) BR.out.1 BS.out.2 BS.out.1 BR.out.2).mono ?_
  rw [HO.out]
  rintro e w3 ⟨vx, vy, rfl, hx, hy, hb⟩
  have HX := Lib.hid hx.toIn
  have HY := Lib.hid hy.toIn
  have HZ3 : w.heap.size + 2 ≤ w3.heap.size := by have := hb.size; omega
  have HB3 : Hid (Below w.heap.size w w3) := HB2.out.trans (hb.mono (by omega))
  have HCA3 := Lib.hid (HCA2.out.on hb)
  have HCB3 := Lib.hid (HCB2.out.on hb)
  clear hb hx hy
  unfold okE
  obtain ⟨⟨a0, -⟩, -⟩ : Cel w3 w.heap.size (.bool (negR r)) (.slice A1 (topL r).length c1) (.slice A2 (botL r).length c2) := HCA3.out
  obtain ⟨⟨b0, -⟩, -⟩ : Cel w3 (w.heap.size + 1) (.bool (negR s)) (.slice A3 (topL s).length c3) (.slice A4 (botL s).length c4) := HCB3.out
  rw [S1.out] at a0
  rw [S2.out] at b0
  go_wp2_with fail
  go_ret2
  rw [HF.out, HW.out, cmpG_np HO.out S1.out S2.out, crossOk_eq, HO.out]
  exact ⟨rfl, HB3.out⟩

set_option maxHeartbeats 1600000 in
theorem rat_Cmp_pn (r s : Rat) (hr : fitR r = true) (hs : fitR s = true) (v u : Value) (w : World) (hv : IsR w v r) (hu : IsR w u s) (ho : prOk r.num.natAbs s.den s.num.natAbs r.den = true) (s1 : negR r = false) (s2 : negR s = true) :
    Calls Tryz.prog 34 #[v, u] w fun e w' => e = .returned (.tuple #[.int .i64 (cmpW (negR r) (topL r) (botL r) (negR s) (topL s) (botL s)), .int .i64 (opE crossOk (negR r) (topL r) (botL r) (negR s) (topL s) (botL s))]) ∧ Below w.heap.size w w' := by
  have HF := Lib.hid (op_form (ok := crossOk) (f := addOp) hr hs).1
  have HW := Lib.hid (cmpW_form hr hs)
  have BR := Lib.hid (fitR_iff.mp hr)
  have BS := Lib.hid (fitR_iff.mp hs)
  have HO := Lib.hid ho
  have S1 := Lib.hid s1
  have S2 := Lib.hid s2
  have HR := Lib.hid hr
  have HS := Lib.hid hs
  have HN1 := Lib.hid (form_val hr).1
  have HN2 := Lib.hid (form_val hs).1
  clear hr hs
  clear ho s1 s2
  obtain ⟨vp, vq, rfl, h1, h2⟩ := hv
  obtain ⟨up, uq, rfl, h3, h4⟩ := hu
  obtain ⟨A1, c1, rfl, h1'⟩ := in_open h1
  obtain ⟨A2, c2, rfl, h2'⟩ := in_open h2
  obtain ⟨A3, c3, rfl, h3'⟩ := in_open h3
  obtain ⟨A4, c4, rfl, h4'⟩ := in_open h4
  have H1 := Lib.hid h1'
  have H2 := Lib.hid h2'
  have H3 := Lib.hid h3'
  have H4 := Lib.hid h4'
  have HV := Lib.hid (show InR w (.agg #[.bool (negR r), .slice A1 (topL r).length c1, .slice A2 (botL r).length c2]) (negR r) (topL r) (botL r) from ⟨_, _, rfl, h1', h2'⟩)
  have HU := Lib.hid (show InR w (.agg #[.bool (negR s), .slice A3 (topL s).length c3, .slice A4 (botL s).length c4]) (negR s) (topL s) (botL s) from ⟨_, _, rfl, h3', h4'⟩)
  have HCA := Lib.hid ((Cel.new w (.bool (negR r)) (.slice A1 (topL r).length c1) (.slice A2 (botL r).length c2) 46).alloc (.cells #[.bool (negR s), .slice A3 (topL s).length c3, .slice A4 (botL s).length c4] 46))
  have HCB := Lib.hid (Cel.new (w.alloc (.cells #[.bool (negR r), .slice A1 (topL r).length c1, .slice A2 (botL r).length c2] 46)) (.bool (negR s)) (.slice A3 (topL s).length c3) (.slice A4 (botL s).length c4) 46)
  simp only [World.size_alloc] at HCB
  have hb0 : ∀ o1 o2, Below w.heap.size w ((w.alloc o1).alloc o2) := fun _ _ => balloc (below_alloc _ _) _
  have hz0 : ∀ o1 o2, ((w.alloc o1).alloc o2).heap.size = w.heap.size + 2 := fun _ _ => by simp
  have HB0 := Lib.hid hb0
  have HZ0 := Lib.hid hz0
  clear h1 h2 h3 h4 h1' h2' h3' h4' hb0 hz0
  go_enter Tryz.func34, Tryz.ntmps34
  go_wp2_with fail
  refine (rat_Valid _ _ _ _ _ (HV.out.on (HB0.out _ _))).mono ?_
  rw [HN1.out]
  rintro e w1 ⟨rfl, hb⟩
  have HZ1 : w.heap.size + 2 ≤ w1.heap.size := by have := hb.size; rw [HZ0.out] at this; exact this
  have HB1 : Hid (Below w.heap.size w w1) := (HB0.out _ _).trans (hb.mono (by rw [HZ0.out]; omega))
  have HCA1 := Lib.hid (HCA.out.on hb)
  have HCB1 := Lib.hid (HCB.out.on hb)
  clear hb
  obtain ⟨⟨a0, a1, a2⟩, -⟩ : Cel w1 w.heap.size (.bool (negR r)) (.slice A1 (topL r).length c1) (.slice A2 (botL r).length c2) := HCA1.out
  obtain ⟨⟨b0, b1, b2⟩, -⟩ : Cel w1 (w.heap.size + 1) (.bool (negR s)) (.slice A3 (topL s).length c3) (.slice A4 (botL s).length c4) := HCB1.out
  go_wp2_with fail
  clear a0 a1 a2 b0 b1 b2
  refine (rat_Valid _ _ _ _ _ (HU.out.on HB1.out)).mono ?_
  rw [HN2.out]
  rintro e w2 ⟨rfl, hb⟩
  have HZ2 : w.heap.size + 2 ≤ w2.heap.size := by have := hb.size; omega
  have HB2 : Hid (Below w.heap.size w w2) := HB1.out.trans (hb.mono (by omega))
  have HCA2 := Lib.hid (HCA1.out.on hb)
  have HCB2 := Lib.hid (HCB1.out.on hb)
  clear hb
  obtain ⟨⟨a0, a1, a2⟩, -⟩ : Cel w2 w.heap.size (.bool (negR r)) (.slice A1 (topL r).length c1) (.slice A2 (botL r).length c2) := HCA2.out
  obtain ⟨⟨b0, b1, b2⟩, -⟩ : Cel w2 (w.heap.size + 1) (.bool (negR s)) (.slice A3 (topL s).length c3) (.slice A4 (botL s).length c4) := HCB2.out
  go_wp2_with fail
  clear a0 a1 a2 b0 b1 b2
  refine (rat_products r.num.natAbs s.den s.num.natAbs r.den _ _ _ _ w2 (H1.out.on HB2.out) (H4.out.on HB2.out) (H3.out.on HB2.out) (H2.out.on HB2.out) BR.out.1 BS.out.2 BS.out.1 BR.out.2).mono ?_
  rw [HO.out]
  rintro e w3 ⟨vx, vy, rfl, hx, hy, hb⟩
  have HX := Lib.hid hx.toIn
  have HY := Lib.hid hy.toIn
  have HZ3 : w.heap.size + 2 ≤ w3.heap.size := by have := hb.size; omega
  have HB3 : Hid (Below w.heap.size w w3) := HB2.out.trans (hb.mono (by omega))
  have HCA3 := Lib.hid (HCA2.out.on hb)
  have HCB3 := Lib.hid (HCB2.out.on hb)
  clear hb hx hy
  unfold okE
  obtain ⟨⟨a0, -⟩, -⟩ : Cel w3 w.heap.size (.bool (negR r)) (.slice A1 (topL r).length c1) (.slice A2 (botL r).length c2) := HCA3.out
  obtain ⟨⟨b0, -⟩, -⟩ : Cel w3 (w.heap.size + 1) (.bool (negR s)) (.slice A3 (topL s).length c3) (.slice A4 (botL s).length c4) := HCB3.out
  rw [S1.out] at a0
  rw [S2.out] at b0
  go_wp2_with fail
  go_ret2
  rw [HF.out, HW.out, cmpG_pn HO.out S1.out S2.out, crossOk_eq, HO.out]
  exact ⟨rfl, HB3.out⟩

set_option maxHeartbeats 1600000 in
theorem rat_Cmp_pp (r s : Rat) (hr : fitR r = true) (hs : fitR s = true) (v u : Value) (w : World) (hv : IsR w v r) (hu : IsR w u s) (ho : prOk r.num.natAbs s.den s.num.natAbs r.den = true) (s1 : negR r = false) (s2 : negR s = false) :
    Calls Tryz.prog 34 #[v, u] w fun e w' => e = .returned (.tuple #[.int .i64 (cmpW (negR r) (topL r) (botL r) (negR s) (topL s) (botL s)), .int .i64 (opE crossOk (negR r) (topL r) (botL r) (negR s) (topL s) (botL s))]) ∧ Below w.heap.size w w' := by
  have HF := Lib.hid (op_form (ok := crossOk) (f := addOp) hr hs).1
  have HW := Lib.hid (cmpW_form hr hs)
  have BR := Lib.hid (fitR_iff.mp hr)
  have BS := Lib.hid (fitR_iff.mp hs)
  have HO := Lib.hid ho
  have S1 := Lib.hid s1
  have S2 := Lib.hid s2
  have HR := Lib.hid hr
  have HS := Lib.hid hs
  have HN1 := Lib.hid (form_val hr).1
  have HN2 := Lib.hid (form_val hs).1
  clear hr hs
  clear ho s1 s2
  obtain ⟨vp, vq, rfl, h1, h2⟩ := hv
  obtain ⟨up, uq, rfl, h3, h4⟩ := hu
  obtain ⟨A1, c1, rfl, h1'⟩ := in_open h1
  obtain ⟨A2, c2, rfl, h2'⟩ := in_open h2
  obtain ⟨A3, c3, rfl, h3'⟩ := in_open h3
  obtain ⟨A4, c4, rfl, h4'⟩ := in_open h4
  have H1 := Lib.hid h1'
  have H2 := Lib.hid h2'
  have H3 := Lib.hid h3'
  have H4 := Lib.hid h4'
  have HV := Lib.hid (show InR w (.agg #[.bool (negR r), .slice A1 (topL r).length c1, .slice A2 (botL r).length c2]) (negR r) (topL r) (botL r) from ⟨_, _, rfl, h1', h2'⟩)
  have HU := Lib.hid (show InR w (.agg #[.bool (negR s), .slice A3 (topL s).length c3, .slice A4 (botL s).length c4]) (negR s) (topL s) (botL s) from ⟨_, _, rfl, h3', h4'⟩)
  have HCA := Lib.hid ((Cel.new w (.bool (negR r)) (.slice A1 (topL r).length c1) (.slice A2 (botL r).length c2) 46).alloc (.cells #[.bool (negR s), .slice A3 (topL s).length c3, .slice A4 (botL s).length c4] 46))
  have HCB := Lib.hid (Cel.new (w.alloc (.cells #[.bool (negR r), .slice A1 (topL r).length c1, .slice A2 (botL r).length c2] 46)) (.bool (negR s)) (.slice A3 (topL s).length c3) (.slice A4 (botL s).length c4) 46)
  simp only [World.size_alloc] at HCB
  have hb0 : ∀ o1 o2, Below w.heap.size w ((w.alloc o1).alloc o2) := fun _ _ => balloc (below_alloc _ _) _
  have hz0 : ∀ o1 o2, ((w.alloc o1).alloc o2).heap.size = w.heap.size + 2 := fun _ _ => by simp
  have HB0 := Lib.hid hb0
  have HZ0 := Lib.hid hz0
  clear h1 h2 h3 h4 h1' h2' h3' h4' hb0 hz0
  go_enter Tryz.func34, Tryz.ntmps34
  go_wp2_with fail
  refine (rat_Valid _ _ _ _ _ (HV.out.on (HB0.out _ _))).mono ?_
  rw [HN1.out]
  rintro e w1 ⟨rfl, hb⟩
  have HZ1 : w.heap.size + 2 ≤ w1.heap.size := by have := hb.size; rw [HZ0.out] at this; exact this
  have HB1 : Hid (Below w.heap.size w w1) := (HB0.out _ _).trans (hb.mono (by rw [HZ0.out]; omega))
  have HCA1 := Lib.hid (HCA.out.on hb)
  have HCB1 := Lib.hid (HCB.out.on hb)
  clear hb
  obtain ⟨⟨a0, a1, a2⟩, -⟩ : Cel w1 w.heap.size (.bool (negR r)) (.slice A1 (topL r).length c1) (.slice A2 (botL r).length c2) := HCA1.out
  obtain ⟨⟨b0, b1, b2⟩, -⟩ : Cel w1 (w.heap.size + 1) (.bool (negR s)) (.slice A3 (topL s).length c3) (.slice A4 (botL s).length c4) := HCB1.out
  go_wp2_with fail
  clear a0 a1 a2 b0 b1 b2
  refine (rat_Valid _ _ _ _ _ (HU.out.on HB1.out)).mono ?_
  rw [HN2.out]
  rintro e w2 ⟨rfl, hb⟩
  have HZ2 : w.heap.size + 2 ≤ w2.heap.size := by have := hb.size; omega
  have HB2 : Hid (Below w.heap.size w w2) := HB1.out.trans (hb.mono (by omega))
  have HCA2 := Lib.hid (HCA1.out.on hb)
  have HCB2 := Lib.hid (HCB1.out.on hb)
  clear hb
  obtain ⟨⟨a0, a1, a2⟩, -⟩ : Cel w2 w.heap.size (.bool (negR r)) (.slice A1 (topL r).length c1) (.slice A2 (botL r).length c2) := HCA2.out
  obtain ⟨⟨b0, b1, b2⟩, -⟩ : Cel w2 (w.heap.size + 1) (.bool (negR s)) (.slice A3 (topL s).length c3) (.slice A4 (botL s).length c4) := HCB2.out
  go_wp2_with fail
  clear a0 a1 a2 b0 b1 b2
  refine (rat_products r.num.natAbs s.den s.num.natAbs r.den _ _ _ _ w2 (H1.out.on HB2.out) (H4.out.on HB2.out) (H3.out.on HB2.out) (H2.out.on HB2.out) BR.out.1 BS.out.2 BS.out.1 BR.out.2).mono ?_
  rw [HO.out]
  rintro e w3 ⟨vx, vy, rfl, hx, hy, hb⟩
  have HX := Lib.hid hx.toIn
  have HY := Lib.hid hy.toIn
  have HZ3 : w.heap.size + 2 ≤ w3.heap.size := by have := hb.size; omega
  have HB3 : Hid (Below w.heap.size w w3) := HB2.out.trans (hb.mono (by omega))
  have HCA3 := Lib.hid (HCA2.out.on hb)
  have HCB3 := Lib.hid (HCB2.out.on hb)
  clear hb hx hy
  unfold okE
  obtain ⟨⟨a0, -⟩, -⟩ : Cel w3 w.heap.size (.bool (negR r)) (.slice A1 (topL r).length c1) (.slice A2 (botL r).length c2) := HCA3.out
  obtain ⟨⟨b0, -⟩, -⟩ : Cel w3 (w.heap.size + 1) (.bool (negR s)) (.slice A3 (topL s).length c3) (.slice A4 (botL s).length c4) := HCB3.out
  rw [S1.out] at a0
  rw [S2.out] at b0
  go_wp2_with fail
  refine (nat_Cmp_in (r.num.natAbs * s.den) (s.num.natAbs * r.den) _ _ w3 HX.out HY.out (prOk_parts HO.out).1 (prOk_parts HO.out).2).mono ?_
  rintro e w4 ⟨rfl, hb⟩
  have HZ4 : w.heap.size + 2 ≤ w4.heap.size := by have := hb.size; omega
  have HB4 : Hid (Below w.heap.size w w4) := HB3.out.trans (hb.mono (by omega))
  have HCA4 := Lib.hid (HCA3.out.on hb)
  have HCB4 := Lib.hid (HCB3.out.on hb)
  clear hb a0 b0
  go_wp2_with fail
  go_ret2
  rw [HF.out, HW.out, cmpG_pp HO.out S1.out S2.out, crossOk_eq, HO.out]
  exact ⟨rfl, HB4.out⟩

theorem rat_Cmp (b : Bool) (xs ys : List Int) (c : Bool) (zs ts : List Int) (v u : Value) (w : World) (hv : InR w v b xs ys) (hu : InR w u c zs ts) :
    Calls Tryz.prog 34 #[v, u] w fun e w' => e = .returned (.tuple #[.int .i64 (cmpW b xs ys c zs ts), .int .i64 (opE crossOk b xs ys c zs ts)]) ∧ Below w.heap.size w w' := by
  rcases two_cases b xs ys c zs ts with ⟨h1, h⟩ | ⟨h1, h2, h⟩ | ⟨h, r, s, ⟨hr, rfl, rfl, rfl⟩, hs, rfl, rfl, rfl⟩
  · exact rat_Cmp_no1 b xs ys c zs ts v u w hv hu h1 h
  · exact rat_Cmp_no2 b xs ys c zs ts v u w hv hu h1 h2 h
  · cases ho : prOk r.num.natAbs s.den s.num.natAbs r.den with
    | false => exact rat_Cmp_cross r s hr hs v u w hv hu ho
    | true =>
      rcases bcase (negR r) with s1 | s1
      · rcases bcase (negR s) with s2 | s2
        · exact rat_Cmp_nn r s hr hs v u w hv hu ho s1 s2
        · exact rat_Cmp_np r s hr hs v u w hv hu ho s1 s2
      · rcases bcase (negR s) with s2 | s2
        · exact rat_Cmp_pn r s hr hs v u w hv hu ho s1 s2
        · exact rat_Cmp_pp r s hr hs v u w hv hu ho s1 s2

end Go.Proofs.YtagjimdplmimoaaGreat
/- The contract of Cmp of the reference. -/
namespace Go.Proofs.YtagjimdplmimoaaGreat
open Go.ChangeShapes Go.WideShapes Go.RowKit
set_option linter.unusedVariables false
set_option maxRecDepth 100000

theorem cmpI_bd (x y : Int) : -1 ≤ cmpI x y ∧ cmpI x y ≤ 1 := by
  rcases Int.lt_trichotomy x y with h | h | h
  · rw [cmpI_lt h]; decide
  · subst h; rw [cmpI_eq]; decide
  · rw [cmpI_gt h]; decide

end Go.Proofs.YtagjimdplmimoaaGreat
