/- Several texts in one: RatP, RatQ, RatR, RatS, RatT, WetA. -/
import Derived.Test.YtohfaoclemcfaaaPk11
import Derived.Test.YtohfaoclemcfaaaPk7
/- Contracts of Sub of the reference; Div of rat and of its reference. -/
namespace Go.Proofs.Ytohfaoclemcfaaa
open Go.ChangeShapes Go.WideShapes Go.RowKit
set_option linter.unusedVariables false
set_option maxRecDepth 100000

theorem ref_AddF (r s : Rat) (hr : fitR r = true) (hs : fitR s = true) (v u : Value) (w : World) (hv : IsR w v r) (hu : IsR w u s) :
    Calls Try.prog 25 #[v, u] w (RRes w (okE (sumOk r s)) (r + s)) := by
  have h := ref_Add3 _ _ _ _ _ _ v u w hv hu
  rw [(op_form (ok := sumOk) (f := addOp) hr hs).1, (op_form (ok := sumOk) (f := addOp) hr hs).2] at h
  exact h
theorem ref_MulF (r s : Rat) (hr : fitR r = true) (hs : fitR s = true) (v u : Value) (w : World) (hv : IsR w v r) (hu : IsR w u s) :
    Calls Try.prog 29 #[v, u] w (RRes w (okE (mulOk r s)) (r * s)) := by
  have h := ref_Mul3 _ _ _ _ _ _ v u w hv hu
  rw [(op_form (ok := mulOk) (f := mulOp) hr hs).1, (op_form (ok := mulOk) (f := mulOp) hr hs).2] at h
  exact h

/-- Div: its error and its value. -/
def divEr (r s : Rat) : Int := if s.num = 0 then 16 else okE (mulOk r s⁻¹)
def divOp (r s : Rat) : Rat := r * s⁻¹
def opG (er : Rat → Rat → Int) (b : Bool) (xs ys : List Int) (c : Bool) (zs ts : List Int) : Int := if two b xs ys c zs ts then er (ratV b xs ys) (ratV c zs ts) else 3
theorem opG_no {er : Rat → Rat → Int} {b : Bool} {xs ys : List Int} {c : Bool} {zs ts : List Int} (h : two b xs ys c zs ts = false) : opG er b xs ys c zs ts = 3 := by unfold opG; rw [h]; rfl
theorem opG_form {er : Rat → Rat → Int} {f : Rat → Rat → Rat} {r s : Rat} (hr : fitR r = true) (hs : fitR s = true) :
    opG er (negR r) (topL r) (botL r) (negR s) (topL s) (botL s) = er r s ∧ opV f (negR r) (topL r) (botL r) (negR s) (topL s) (botL s) = f r s := by
  unfold opG opV; rw [two_form hr hs, (form_val hr).2, (form_val hs).2]; exact ⟨rfl, rfl⟩
theorem top_emp (s : Rat) : (topL s).isEmpty = decide (s.num = 0) := by
  unfold topL; rw [limbs_emp]
  by_cases h : s.num = 0
  · rw [h]; rfl
  · rw [decide_eq_false h, decide_eq_false]; omega
theorem bot_emp (s : Rat) : (botL s).isEmpty = false := by unfold botL; rw [limbs_emp]; exact decide_eq_false s.den_nz
theorem inv_is {w : World} {v : Value} {s : Rat} (h0 : s.num ≠ 0) (h : InR w v (negR s) (botL s) (topL s)) : IsR w v s⁻¹ := by
  obtain ⟨e1, e2, e3, _⟩ := inv_form h0
  unfold IsR; rw [e1, e2, e3]; exact h
theorem signed_inv {w : World} {v : Value} {s : Rat} (h0 : s.num ≠ 0) (h : InR w v (negR s && !(botL s).isEmpty) (botL s) (topL s)) : IsR w v s⁻¹ := by
  rw [bot_emp, Bool.not_false, Bool.and_true] at h; exact inv_is h0 h
theorem divEr_zero {r s : Rat} (h : s.num = 0) : divEr r s = 16 := if_pos h
theorem divEr_inv {r s : Rat} (h : s.num ≠ 0) : divEr r s = okE (mulOk r s⁻¹) := if_neg h

set_option maxHeartbeats 1600000 in
theorem ref_Sub3_no1 (b : Bool) (xs ys : List Int) (c : Bool) (zs ts : List Int) (v u : Value) (w : World) (hv : InR w v b xs ys) (hu : InR w u c zs ts) (hn1 : valR b xs ys = false) (hn : two b xs ys c zs ts = false) :
    Calls Try.prog 28 #[v, u] w (RRes w (opE subOk b xs ys c zs ts) (opV subOp b xs ys c zs ts)) := by
  have HN1 := Lib.hid hn1
  have HN := Lib.hid hn
  clear hn1 hn
  obtain ⟨vp, vq, rfl, h1, h2⟩ := hv
  obtain ⟨up, uq, rfl, h3, h4⟩ := hu
  obtain ⟨A1, c1, rfl, h1'⟩ := in_open h1
  obtain ⟨A2, c2, rfl, h2'⟩ := in_open h2
  obtain ⟨A3, c3, rfl, h3'⟩ := in_open h3
  obtain ⟨A4, c4, rfl, h4'⟩ := in_open h4
  have HV := Lib.hid (show InR w (.agg #[.bool b, .slice A1 xs.length c1, .slice A2 ys.length c2]) b xs ys from ⟨_, _, rfl, h1', h2'⟩)
  have HU := Lib.hid (show InR w (.agg #[.bool c, .slice A3 zs.length c3, .slice A4 ts.length c4]) c zs ts from ⟨_, _, rfl, h3', h4'⟩)
  have HC := Lib.hid (Cel.new ((w.alloc (.cells #[.bool b, .slice A1 xs.length c1, .slice A2 ys.length c2] 27)).alloc (.cells #[.bool c, .slice A3 zs.length c3, .slice A4 ts.length c4] 27)) (.bool false) (.slice none 0 0) (.slice none 0 0) 27)
  have HCA := Lib.hid (((Cel.new w (.bool b) (.slice A1 xs.length c1) (.slice A2 ys.length c2) 27).alloc (.cells #[.bool c, .slice A3 zs.length c3, .slice A4 ts.length c4] 27)).alloc (.cells #[.bool false, .slice none 0 0, .slice none 0 0] 27))
  have HCB := Lib.hid ((Cel.new (w.alloc (.cells #[.bool b, .slice A1 xs.length c1, .slice A2 ys.length c2] 27)) (.bool c) (.slice A3 zs.length c3) (.slice A4 ts.length c4) 27).alloc (.cells #[.bool false, .slice none 0 0, .slice none 0 0] 27))
  simp only [World.size_alloc] at HC HCB
  have hb0 : ∀ o1 o2 o3, Below w.heap.size w (((w.alloc o1).alloc o2).alloc o3) := fun _ _ _ => balloc (balloc (below_alloc _ _) _) _
  have hz0 : ∀ o1 o2 o3, (((w.alloc o1).alloc o2).alloc o3).heap.size = w.heap.size + 3 := fun _ _ _ => by simp
  have HB0 := Lib.hid hb0
  have HZ0 := Lib.hid hz0
  clear h1 h2 h3 h4 h1' h2' h3' h4' hb0 hz0
  go_enter Try.func28, Try.ntmps28
  go_wp2_with fail
  refine (ref_Valid3 _ _ _ _ _ (HV.out.on (HB0.out _ _ _))).mono ?_
  rw [HN1.out]
  rintro e w1 ⟨rfl, hb1⟩
  have HZ1 : w.heap.size + 3 ≤ w1.heap.size := by have := hb1.size; rw [HZ0.out] at this; exact this
  have HB1 : Hid (Below w.heap.size w w1) := (HB0.out _ _ _).trans (hb1.mono (by rw [HZ0.out]; omega))
  have HC1 := Lib.hid (HC.out.on hb1)
  have HCA1 := Lib.hid (HCA.out.on hb1)
  have HCB1 := Lib.hid (HCB.out.on hb1)
  clear hb1
  obtain ⟨⟨r0, r1, r2⟩, s0, s1, s2⟩ : Cel w1 (w.heap.size + 1 + 1) (.bool false) (.slice none 0 0) (.slice none 0 0) := HC1.out
  go_wp2_with fail
  obtain ⟨⟨z0, z1, z2⟩, -⟩ := HC1.out.put3 (.bool false) (.slice none 0 0) (.slice none 0 0)
  simp only [put3] at z0 z1 z2
  refine bodyPost_ret (v := .tuple #[.agg #[.bool false, .slice none 0 0, .slice none 0 0], .int .i64 3]) (by simp [results, Try.results28, go_sem, z0, z1, z2]) rfl ?_
  rw [opE_no HN.out]
  exact ⟨_, rfl, OutR.no (by decide), below_put3 HB1.out (g := w.heap.size + 1 + 1) (by omega) _ _ _⟩

set_option maxHeartbeats 1600000 in
theorem ref_Sub3_no2 (b : Bool) (xs ys : List Int) (c : Bool) (zs ts : List Int) (v u : Value) (w : World) (hv : InR w v b xs ys) (hu : InR w u c zs ts) (hn1 : valR b xs ys = true) (hn2 : valR c zs ts = false) (hn : two b xs ys c zs ts = false) :
    Calls Try.prog 28 #[v, u] w (RRes w (opE subOk b xs ys c zs ts) (opV subOp b xs ys c zs ts)) := by
  have HN1 := Lib.hid hn1
  have HN2 := Lib.hid hn2
  have HN := Lib.hid hn
  clear hn1 hn2 hn
  obtain ⟨vp, vq, rfl, h1, h2⟩ := hv
  obtain ⟨up, uq, rfl, h3, h4⟩ := hu
  obtain ⟨A1, c1, rfl, h1'⟩ := in_open h1
  obtain ⟨A2, c2, rfl, h2'⟩ := in_open h2
  obtain ⟨A3, c3, rfl, h3'⟩ := in_open h3
  obtain ⟨A4, c4, rfl, h4'⟩ := in_open h4
  have HV := Lib.hid (show InR w (.agg #[.bool b, .slice A1 xs.length c1, .slice A2 ys.length c2]) b xs ys from ⟨_, _, rfl, h1', h2'⟩)
  have HU := Lib.hid (show InR w (.agg #[.bool c, .slice A3 zs.length c3, .slice A4 ts.length c4]) c zs ts from ⟨_, _, rfl, h3', h4'⟩)
  have HC := Lib.hid (Cel.new ((w.alloc (.cells #[.bool b, .slice A1 xs.length c1, .slice A2 ys.length c2] 27)).alloc (.cells #[.bool c, .slice A3 zs.length c3, .slice A4 ts.length c4] 27)) (.bool false) (.slice none 0 0) (.slice none 0 0) 27)
  have HCA := Lib.hid (((Cel.new w (.bool b) (.slice A1 xs.length c1) (.slice A2 ys.length c2) 27).alloc (.cells #[.bool c, .slice A3 zs.length c3, .slice A4 ts.length c4] 27)).alloc (.cells #[.bool false, .slice none 0 0, .slice none 0 0] 27))
  have HCB := Lib.hid ((Cel.new (w.alloc (.cells #[.bool b, .slice A1 xs.length c1, .slice A2 ys.length c2] 27)) (.bool c) (.slice A3 zs.length c3) (.slice A4 ts.length c4) 27).alloc (.cells #[.bool false, .slice none 0 0, .slice none 0 0] 27))
  simp only [World.size_alloc] at HC HCB
  have hb0 : ∀ o1 o2 o3, Below w.heap.size w (((w.alloc o1).alloc o2).alloc o3) := fun _ _ _ => balloc (balloc (below_alloc _ _) _) _
  have hz0 : ∀ o1 o2 o3, (((w.alloc o1).alloc o2).alloc o3).heap.size = w.heap.size + 3 := fun _ _ _ => by simp
  have HB0 := Lib.hid hb0
  have HZ0 := Lib.hid hz0
  clear h1 h2 h3 h4 h1' h2' h3' h4' hb0 hz0
  go_enter Try.func28, Try.ntmps28
  go_wp2_with fail
  refine (ref_Valid3 _ _ _ _ _ (HV.out.on (HB0.out _ _ _))).mono ?_
  rw [HN1.out]
  rintro e w1 ⟨rfl, hb1⟩
  have HZ1 : w.heap.size + 3 ≤ w1.heap.size := by have := hb1.size; rw [HZ0.out] at this; exact this
  have HB1 : Hid (Below w.heap.size w w1) := (HB0.out _ _ _).trans (hb1.mono (by rw [HZ0.out]; omega))
  have HC1 := Lib.hid (HC.out.on hb1)
  have HCA1 := Lib.hid (HCA.out.on hb1)
  have HCB1 := Lib.hid (HCB.out.on hb1)
  clear hb1
  obtain ⟨⟨b0, b1, b2⟩, -⟩ : Cel w1 (w.heap.size + 1) (.bool c) (.slice A3 zs.length c3) (.slice A4 ts.length c4) := HCB1.out
  go_wp2_with fail
  clear b0 b1 b2
  refine (ref_Valid3 _ _ _ _ _ (HU.out.on HB1.out)).mono ?_
  rw [HN2.out]
  rintro e w2 ⟨rfl, hb2⟩
  have HZ2 : w.heap.size + 3 ≤ w2.heap.size := by have := hb2.size; omega
  have HB2 : Hid (Below w.heap.size w w2) := HB1.out.trans (hb2.mono (by omega))
  have HC2 := Lib.hid (HC1.out.on hb2)
  have HCA2 := Lib.hid (HCA1.out.on hb2)
  have HCB2 := Lib.hid (HCB1.out.on hb2)
  clear hb2
  obtain ⟨⟨r0, r1, r2⟩, s0, s1, s2⟩ : Cel w2 (w.heap.size + 1 + 1) (.bool false) (.slice none 0 0) (.slice none 0 0) := HC2.out
  go_wp2_with fail
  obtain ⟨⟨z0, z1, z2⟩, -⟩ := HC2.out.put3 (.bool false) (.slice none 0 0) (.slice none 0 0)
  simp only [put3] at z0 z1 z2
  refine bodyPost_ret (v := .tuple #[.agg #[.bool false, .slice none 0 0, .slice none 0 0], .int .i64 3]) (by simp [results, Try.results28, go_sem, z0, z1, z2]) rfl ?_
  rw [opE_no HN.out]
  exact ⟨_, rfl, OutR.no (by decide), below_put3 HB2.out (g := w.heap.size + 1 + 1) (by omega) _ _ _⟩

set_option maxHeartbeats 1600000 in
theorem ref_Sub3_yes (r s : Rat) (hr : fitR r = true) (hs : fitR s = true) (v u : Value) (w : World) (hv : IsR w v r) (hu : IsR w u s) :
    Calls Try.prog 28 #[v, u] w (RRes w (opE subOk (negR r) (topL r) (botL r) (negR s) (topL s) (botL s)) (opV subOp (negR r) (topL r) (botL r) (negR s) (topL s) (botL s))) := by
  have HF := Lib.hid (op_form (ok := subOk) (f := subOp) hr hs)
  have HNEG := Lib.hid (fit_neg hs)
  have HR := Lib.hid hr
  have HS := Lib.hid hs
  have HN1 := Lib.hid (form_val hr).1
  have HN2 := Lib.hid (form_val hs).1
  clear hr hs
  obtain ⟨vp, vq, rfl, h1, h2⟩ := hv
  obtain ⟨up, uq, rfl, h3, h4⟩ := hu
  obtain ⟨A1, c1, rfl, h1'⟩ := in_open h1
  obtain ⟨A2, c2, rfl, h2'⟩ := in_open h2
  obtain ⟨A3, c3, rfl, h3'⟩ := in_open h3
  obtain ⟨A4, c4, rfl, h4'⟩ := in_open h4
  have HV := Lib.hid (show InR w (.agg #[.bool (negR r), .slice A1 (topL r).length c1, .slice A2 (botL r).length c2]) (negR r) (topL r) (botL r) from ⟨_, _, rfl, h1', h2'⟩)
  have HU := Lib.hid (show InR w (.agg #[.bool (negR s), .slice A3 (topL s).length c3, .slice A4 (botL s).length c4]) (negR s) (topL s) (botL s) from ⟨_, _, rfl, h3', h4'⟩)
  have H1 := Lib.hid h1'
  have H2 := Lib.hid h2'
  have H3 := Lib.hid h3'
  have H4 := Lib.hid h4'
  have HC := Lib.hid (Cel.new ((w.alloc (.cells #[.bool (negR r), .slice A1 (topL r).length c1, .slice A2 (botL r).length c2] 27)).alloc (.cells #[.bool (negR s), .slice A3 (topL s).length c3, .slice A4 (botL s).length c4] 27)) (.bool false) (.slice none 0 0) (.slice none 0 0) 27)
  have HCA := Lib.hid (((Cel.new w (.bool (negR r)) (.slice A1 (topL r).length c1) (.slice A2 (botL r).length c2) 27).alloc (.cells #[.bool (negR s), .slice A3 (topL s).length c3, .slice A4 (botL s).length c4] 27)).alloc (.cells #[.bool false, .slice none 0 0, .slice none 0 0] 27))
  have HCB := Lib.hid ((Cel.new (w.alloc (.cells #[.bool (negR r), .slice A1 (topL r).length c1, .slice A2 (botL r).length c2] 27)) (.bool (negR s)) (.slice A3 (topL s).length c3) (.slice A4 (botL s).length c4) 27).alloc (.cells #[.bool false, .slice none 0 0, .slice none 0 0] 27))
  simp only [World.size_alloc] at HC HCB
  have hb0 : ∀ o1 o2 o3, Below w.heap.size w (((w.alloc o1).alloc o2).alloc o3) := fun _ _ _ => balloc (balloc (below_alloc _ _) _) _
  have hz0 : ∀ o1 o2 o3, (((w.alloc o1).alloc o2).alloc o3).heap.size = w.heap.size + 3 := fun _ _ _ => by simp
  have HB0 := Lib.hid hb0
  have HZ0 := Lib.hid hz0
  clear h1 h2 h3 h4 h1' h2' h3' h4' hb0 hz0
  go_enter Try.func28, Try.ntmps28
  go_wp2_with fail
  refine (ref_Valid3 _ _ _ _ _ (HV.out.on (HB0.out _ _ _))).mono ?_
  rw [HN1.out]
  rintro e w1 ⟨rfl, hb1⟩
  have HZ1 : w.heap.size + 3 ≤ w1.heap.size := by have := hb1.size; rw [HZ0.out] at this; exact this
  have HB1 : Hid (Below w.heap.size w w1) := (HB0.out _ _ _).trans (hb1.mono (by rw [HZ0.out]; omega))
  have HC1 := Lib.hid (HC.out.on hb1)
  have HCA1 := Lib.hid (HCA.out.on hb1)
  have HCB1 := Lib.hid (HCB.out.on hb1)
  clear hb1
  obtain ⟨⟨b0, b1, b2⟩, -⟩ : Cel w1 (w.heap.size + 1) (.bool (negR s)) (.slice A3 (topL s).length c3) (.slice A4 (botL s).length c4) := HCB1.out
  go_wp2_with fail
  clear b0 b1 b2
  refine (ref_Valid3 _ _ _ _ _ (HU.out.on HB1.out)).mono ?_
  rw [HN2.out]
  rintro e w2 ⟨rfl, hb2⟩
  have HZ2 : w.heap.size + 3 ≤ w2.heap.size := by have := hb2.size; omega
  have HB2 : Hid (Below w.heap.size w w2) := HB1.out.trans (hb2.mono (by omega))
  have HC2 := Lib.hid (HC1.out.on hb2)
  have HCA2 := Lib.hid (HCA1.out.on hb2)
  have HCB2 := Lib.hid (HCB1.out.on hb2)
  clear hb2
  obtain ⟨⟨a0, a1, a2⟩, -⟩ : Cel w2 w.heap.size (.bool (negR r)) (.slice A1 (topL r).length c1) (.slice A2 (botL r).length c2) := HCA2.out
  obtain ⟨⟨b0, b1, b2⟩, -⟩ : Cel w2 (w.heap.size + 1) (.bool (negR s)) (.slice A3 (topL s).length c3) (.slice A4 (botL s).length c4) := HCB2.out
  have KA := Lib.hid HCA2.out.drew
  have KB := Lib.hid HCB2.out.drew
  have KC := Lib.hid HC2.out.drew
  have HBD := Lib.hid HB2.out.drew
  have HUD := Lib.hid (HU.out.on HBD.out)
  have HVD := Lib.hid (show IsR w2.drew _ r from HV.out.on HBD.out)
  have HZD : w.heap.size + 3 ≤ w2.drew.heap.size := HZ2
  go_wp2_with fail
  go_region_held3 (fun W' => (W'.cell? ⟨w.heap.size, 0, none⟩ = some (.bool (negR r)) ∧ W'.cell? ⟨w.heap.size, 1, none⟩ = some (.slice A1 (topL r).length c1) ∧ W'.cell? ⟨w.heap.size, 2, none⟩ = some (.slice A2 (botL r).length c2)) ∧ (W'.cell? ⟨w.heap.size + 1, 0, none⟩ = some (.bool (negR s)) ∧ W'.cell? ⟨w.heap.size + 1, 1, none⟩ = some (.slice A3 (topL s).length c3) ∧ W'.cell? ⟨w.heap.size + 1, 2, none⟩ = some (.slice A4 (botL s).length c4)))
    (first | exact ⟨⟨a0, a1, a2⟩, b0, b1, b2⟩ | exact ⟨(KA.out.on hb3).1, (KB.out.on hb3).1⟩ | exact ⟨((KA.out.on hb3).on hb4).1, ((KB.out.on hb3).on hb4).1⟩ | exact ⟨(((KA.out.on hb3).on hb4).put3o (g' := w.heap.size + 1 + 1) (by omega) _ _ _).1, (((KB.out.on hb3).on hb4).put3o (g' := w.heap.size + 1 + 1) (by omega) _ _ _).1⟩)
    (first | (go_at_call 51; (with_reducible refine (ref_negated _ (negR s) (topL s) (botL s) _ HUD.out).mono ?_); rintro e w3 ⟨v3, rfl, h3, hb3⟩) | (go_at_call 25; (with_reducible refine (ref_AddF r (-s) HR.out HNEG.out _ _ _ (HVD.out.on hb3) (signed_neg h3)).mono ?_); rintro e w4 h4; obtain ⟨b5, A5, n5, d5, A6, n6, d6, rfl, ho4, hb4⟩ := h4.open_; obtain ⟨⟨d0, d1, d2⟩, f0, f1, f2⟩ := (KC.out.on hb3).on hb4))
  all_goals go_wp2_with fail
  all_goals (obtain ⟨⟨z0, z1, z2⟩, -⟩ := ((KC.out.on hb3).on hb4).put3 (.bool b5) (.slice A5 n5 d5) (.slice A6 n6 d6))
  all_goals simp only [put3] at z0 z1 z2
  all_goals refine bodyPost_ret (v := .tuple #[.agg #[.bool b5, .slice A5 n5 d5, .slice A6 n6 d6], .int .i64 (okE (sumOk r (-s)))]) (by simp [results, Try.results28, go_sem, z0, z1, z2]) rfl ?_
  all_goals rw [HF.out.1, HF.out.2]
  all_goals exact ⟨_, rfl, ho4.put3 ((KC.out.on hb3).on hb4) _ _ _, below_put3 ((HBD.out.trans (hb3.mono (by omega))).trans (hb4.mono (by have := hb3.size; omega))) (by omega) _ _ _⟩

theorem ref_Sub3 (b : Bool) (xs ys : List Int) (c : Bool) (zs ts : List Int) (v u : Value) (w : World) (hv : InR w v b xs ys) (hu : InR w u c zs ts) :
    Calls Try.prog 28 #[v, u] w (RRes w (opE subOk b xs ys c zs ts) (opV subOp b xs ys c zs ts)) := by
  rcases two_cases b xs ys c zs ts with ⟨h1, h⟩ | ⟨h1, h2, h⟩ | ⟨h, r, s, ⟨hr, rfl, rfl, rfl⟩, hs, rfl, rfl, rfl⟩
  · exact ref_Sub3_no1 b xs ys c zs ts v u w hv hu h1 h
  · exact ref_Sub3_no2 b xs ys c zs ts v u w hv hu h1 h2 h
  · exact ref_Sub3_yes r s hr hs v u w hv hu

end Go.Proofs.Ytohfaoclemcfaaa
/- Contracts of Div of rat and of its reference. -/
namespace Go.Proofs.Ytohfaoclemcfaaa
open Go.ChangeShapes Go.WideShapes Go.RowKit
set_option linter.unusedVariables false
set_option maxRecDepth 100000

end Go.Proofs.Ytohfaoclemcfaaa
/- Contracts of Cmp of rat and of its reference. -/
namespace Go.Proofs.Ytohfaoclemcfaaa
open Go.ChangeShapes Go.WideShapes Go.RowKit
set_option linter.unusedVariables false
set_option maxRecDepth 100000

theorem bcase (b : Bool) : b = true ∨ b = false := by cases b <;> simp
theorem crossOk_eq (r s : Rat) : crossOk r s = prOk r.num.natAbs s.den s.num.natAbs r.den := rfl
theorem cmpI_swap (x y : Int) : cmpI y x = -cmpI x y := by
  rcases Int.lt_trichotomy x y with h | h | h
  · rw [cmpI_lt h, cmpI_gt h]; rfl
  · subst h; rw [cmpI_eq]; rfl
  · rw [cmpI_gt h, cmpI_lt h]
def cmpQ (r s : Rat) : Int :=
  if negR r = true then (if negR s = true then -cmpI (r.num.natAbs * s.den : Nat) (s.num.natAbs * r.den : Nat) else -1) else if negR s = true then 1 else cmpI (r.num.natAbs * s.den : Nat) (s.num.natAbs * r.den : Nat)
def cmpG (r s : Rat) : Int := if crossOk r s then cmpQ r s else 0
def cmpW (b : Bool) (xs ys : List Int) (c : Bool) (zs ts : List Int) : Int := if two b xs ys c zs ts then cmpG (ratV b xs ys) (ratV c zs ts) else 0
theorem cmpW_no {b : Bool} {xs ys : List Int} {c : Bool} {zs ts : List Int} (h : two b xs ys c zs ts = false) : cmpW b xs ys c zs ts = 0 := by unfold cmpW; rw [h]; rfl
theorem cmpW_form {r s : Rat} (hr : fitR r = true) (hs : fitR s = true) : cmpW (negR r) (topL r) (botL r) (negR s) (topL s) (botL s) = cmpG r s := by
  unfold cmpW; rw [two_form hr hs, (form_val hr).2, (form_val hs).2]; rfl
theorem cmpG_no {r s : Rat} (h : crossOk r s = false) : cmpG r s = 0 := by unfold cmpG; rw [h]; rfl
theorem cmpG_nn {r s : Rat} (h : crossOk r s = true) (h1 : negR r = true) (h2 : negR s = true) : cmpG r s = -cmpI (r.num.natAbs * s.den : Nat) (s.num.natAbs * r.den : Nat) := by
  unfold cmpG cmpQ; rw [h, h1, h2]; rfl
theorem cmpG_np {r s : Rat} (h : crossOk r s = true) (h1 : negR r = true) (h2 : negR s = false) : cmpG r s = -1 := by
  unfold cmpG cmpQ; rw [h, h1, h2]; rfl
theorem cmpG_pn {r s : Rat} (h : crossOk r s = true) (h1 : negR r = false) (h2 : negR s = true) : cmpG r s = 1 := by
  unfold cmpG cmpQ; rw [h, h1, h2]; rfl
theorem cmpG_pp {r s : Rat} (h : crossOk r s = true) (h1 : negR r = false) (h2 : negR s = false) : cmpG r s = cmpI (r.num.natAbs * s.den : Nat) (s.num.natAbs * r.den : Nat) := by
  unfold cmpG cmpQ; rw [h, h1, h2]; rfl

end Go.Proofs.Ytohfaoclemcfaaa
/- The contract of Cmp of the reference. -/
namespace Go.Proofs.Ytohfaoclemcfaaa
open Go.ChangeShapes Go.WideShapes Go.RowKit
set_option linter.unusedVariables false
set_option maxRecDepth 100000

theorem cmpI_bd (x y : Int) : -1 ≤ cmpI x y ∧ cmpI x y ≤ 1 := by
  rcases Int.lt_trichotomy x y with h | h | h
  · rw [cmpI_lt h]; decide
  · subst h; rw [cmpI_eq]; decide
  · rw [cmpI_gt h]; decide

end Go.Proofs.Ytohfaoclemcfaaa
/- Contracts of Make and Of, of rat and of its reference. -/
namespace Go.Proofs.Ytohfaoclemcfaaa
open Go.ChangeShapes Go.WideShapes Go.RowKit
set_option linter.unusedVariables false
set_option maxRecDepth 100000

def mkNeg (p q : Int) : Bool := decide (p < 0) != decide (q < 0)
def mkV (p q : Int) : Rat := mkRat (sgI (mkNeg p q) p.natAbs) q.natAbs
def mkE (p q : Int) : Int := if inRB p && inRB q then (if q = 0 then 16 else 0) else 1
theorem inRB_iff {n : Int} : inRB n = true ↔ -1125899906842624 ≤ n ∧ n ≤ 1125899906842624 := by simp [inRB]
theorem mkE_1 {p q : Int} (h : inRB p = false) : mkE p q = 1 := by unfold mkE; rw [h]; rfl
theorem mkE_2 {p q : Int} (h : inRB p = true) (h2 : inRB q = false) : mkE p q = 1 := by unfold mkE; rw [h, h2]; rfl
theorem mkE_3 {p : Int} (h : inRB p = true) : mkE p 0 = 16 := by unfold mkE; rw [h]; rfl
theorem mkE_4 {p q : Int} (h : inRB p = true) (h2 : inRB q = true) (h3 : q ≠ 0) : mkE p q = 0 := by unfold mkE; rw [h, h2]; simp [h3]
theorem small48 {n : Nat} (h : n ≤ 1125899906842624) : n < big48 := by
  have : 1000000000 ^ 2 ≤ big48 := Nat.pow_le_pow_right (by decide) (by decide)
  have e : (1000000000 : Nat) ^ 2 = 1000000000000000000 := by decide
  omega

set_option maxHeartbeats 1600000 in
theorem rat_Make_1 (p q : Int) (w : World) (hp : inRB p = false) :
    Calls Try.prog 31 #[.int .i64 p, .int .i64 q] w (RRes w (mkE p q) (mkV p q)) := by
  have HP := Lib.hid hp
  clear hp
  go_enter Try.func31, Try.ntmps31
  go_wp2_with fail
  refine (rat_inRange p _).mono ?_
  rw [HP.out]
  rintro e w' ⟨rfl, rfl⟩
  go_wp2_with fail
  refine bodyPost_ret (v := .tuple #[.agg #[.bool false, .slice none 0 0, .slice none 0 0], .int .i64 1]) (by simp [results, Try.results31, go_sem]) rfl ?_
  rw [mkE_1 HP.out]
  exact ⟨_, rfl, OutR.no (by decide), below_alloc _ _⟩

set_option maxHeartbeats 1600000 in
theorem rat_Make_2 (p q : Int) (w : World) (hp : inRB p = true) (hq : inRB q = false) :
    Calls Try.prog 31 #[.int .i64 p, .int .i64 q] w (RRes w (mkE p q) (mkV p q)) := by
  have HP := Lib.hid hp
  have HQ := Lib.hid hq
  clear hp hq
  go_enter Try.func31, Try.ntmps31
  go_wp2_with fail
  refine (rat_inRange p _).mono ?_
  rw [HP.out]
  rintro e w' ⟨rfl, rfl⟩
  go_wp2_with fail
  refine (rat_inRange q _).mono ?_
  rw [HQ.out]
  rintro e w' ⟨rfl, rfl⟩
  go_wp2_with fail
  refine bodyPost_ret (v := .tuple #[.agg #[.bool false, .slice none 0 0, .slice none 0 0], .int .i64 1]) (by simp [results, Try.results31, go_sem]) rfl ?_
  rw [mkE_2 HP.out HQ.out]
  exact ⟨_, rfl, OutR.no (by decide), below_alloc _ _⟩

set_option maxHeartbeats 1600000 in
theorem rat_Make_3 (p q : Int) (w : World) (hp : inRB p = true) (hq : q = 0) :
    Calls Try.prog 31 #[.int .i64 p, .int .i64 q] w (RRes w (mkE p q) (mkV p q)) := by
  subst hq
  have HP := Lib.hid hp
  have HQ : Hid (inRB 0 = true) := rfl
  clear hp
  go_enter Try.func31, Try.ntmps31
  go_wp2_with fail
  refine (rat_inRange p _).mono ?_
  rw [HP.out]
  rintro e w' ⟨rfl, rfl⟩
  go_wp2_with fail
  refine (rat_inRange 0 _).mono ?_
  rw [HQ.out]
  rintro e w' ⟨rfl, rfl⟩
  go_wp2_with fail
  refine bodyPost_ret (v := .tuple #[.agg #[.bool false, .slice none 0 0, .slice none 0 0], .int .i64 16]) (by simp [results, Try.results31, go_sem]) rfl ?_
  rw [mkE_3 HP.out]
  exact ⟨_, rfl, OutR.no (by decide), below_alloc _ _⟩

set_option maxHeartbeats 1600000 in
theorem rat_Make_4 (p q : Int) (w : World) (hp : inRB p = true) (hq : inRB q = true) (hq0 : q ≠ 0) :
    Calls Try.prog 31 #[.int .i64 p, .int .i64 q] w (RRes w (mkE p q) (mkV p q)) := by
  have HP := Lib.hid hp
  have HQ := Lib.hid hq
  have H0 := Lib.hid hq0
  have bp := inRB_iff.mp hp
  have bq := inRB_iff.mp hq
  have hp1 : max p (-p) = (p.natAbs : Int) := by omega
  have hq1 : max q (-q) = (q.natAbs : Int) := by omega
  have hqz : (q == 0) = false := beq_false_of_ne hq0
  have HN : Hid (mkNeg p q = !(decide (p < 0) == decide (q < 0))) := rfl
  have HPS : Hid (p.natAbs < big48) := small48 (by omega)
  have HQS : Hid (q.natAbs < big48) := small48 (by omega)
  have HQN : Hid (q.natAbs ≠ 0) := by rw [Hid]; omega
  have HC := Lib.hid (Cel.new w (.bool false) (.slice none 0 0) (.slice none 0 0) 27)
  obtain ⟨P, hP⟩ : ∃ P, P = p.natAbs := ⟨_, rfl⟩
  obtain ⟨Q, hQ⟩ : ∃ Q, Q = q.natAbs := ⟨_, rfl⟩
  have HPP := Lib.hid hP
  have HQQ := Lib.hid hQ
  rw [← hP] at hp1 HPS
  rw [← hQ] at hq1 HQS HQN
  have bP : (P : Int) ≤ 1125899906842624 := by omega
  have bQ : (Q : Int) ≤ 1125899906842624 := by omega
  clear hq0 hp hq hP hQ
  go_enter Try.func31, Try.ntmps31
  go_wp2_with fail
  refine (rat_inRange p _).mono ?_
  rw [HP.out]
  rintro e w' ⟨rfl, rfl⟩
  go_wp2_with fail
  refine (rat_inRange q _).mono ?_
  rw [HQ.out]
  rintro e w' ⟨rfl, rfl⟩
  go_wp2_with fail
  refine (nat_Of (P : Int) _ (by omega) (by omega)).mono ?_
  rintro e w1 ⟨v1, rfl, h1, hb1⟩
  rw [Int.toNat_natCast] at h1
  have HX := Lib.hid h1.toIn
  have HB1 := Lib.hid hb1
  have HC1 := Lib.hid (HC.out.on hb1)
  have hz1 : w.heap.size + 1 ≤ w1.heap.size := by have := hb1.size; simp at this; exact this
  clear h1 hb1
  go_wp2_with fail
  refine (nat_Of (Q : Int) _ (by omega) (by omega)).mono ?_
  rintro e w2 ⟨v2, rfl, h2, hb2⟩
  rw [Int.toNat_natCast] at h2
  have HY := Lib.hid h2.toIn
  have HX2 := Lib.hid (HX.out.on hb2)
  have HB2 := Lib.hid hb2
  have HC2 := Lib.hid (HC1.out.on hb2)
  have hz2 : w.heap.size + 1 ≤ w2.heap.size := by have := hb2.size; omega
  clear h2 hb2
  go_wp2_with fail
  rw [← HN.out]
  refine (rat_reduced (mkNeg p q) P Q _ _ w2 HX2.out HY.out HPS.out HQS.out HQN.out).mono ?_
  rw [HPP.out, HQQ.out, show mkRat (sgI (mkNeg p q) p.natAbs) q.natAbs = mkV p q from rfl]
  rintro e w4 ⟨v4, rfl, h4, hb4⟩
  obtain ⟨vp4, vq4, rfl, h4p, h4q⟩ := h4
  obtain ⟨P4, x4, rfl, h4p'⟩ := in_open h4p
  obtain ⟨Q4, y4, rfl, h4q'⟩ := in_open h4q
  have HP4 := Lib.hid h4p'
  have HQ4 := Lib.hid h4q'
  have HB4 := Lib.hid hb4
  have HC4 := HC2.out.on hb4
  have HC4' := Lib.hid HC4
  have HRR := Lib.hid (HC4.put3 (.bool (negR (mkV p q))) (.slice P4 (topL (mkV p q)).length x4) (.slice Q4 (botL (mkV p q)).length y4))
  obtain ⟨⟨d0, d1, d2⟩, f0, f1, f2⟩ := HC4
  clear h4p h4q h4p' h4q' hb4
  go_wp2_with fail
  obtain ⟨⟨r0, r1, r2⟩, -⟩ := HRR.out
  refine bodyPost_ret (v := .tuple #[.agg #[.bool (negR (mkV p q)), .slice P4 (topL (mkV p q)).length x4, .slice Q4 (botL (mkV p q)).length y4], .int .i64 0]) (by simp only [put3] at r0 r1 r2; simp [results, Try.results31, go_sem, r0, r1, r2]) rfl ?_
  rw [mkE_4 HP.out HQ.out H0.out]
  exact ⟨_, rfl, OutR.ok ⟨_, _, rfl, HP4.out.put3 HC4'.out _ _ _, HQ4.out.put3 HC4'.out _ _ _⟩, below_put3 (bstep (bstep ((below_alloc _ _).trans (HB1.out.mono (by simp))) HB2.out) HB4.out) (Nat.le_refl _) _ _ _⟩

theorem rat_Make (p q : Int) (w : World) (h1 : -9223372036854775808 ≤ p) (h2 : p ≤ 9223372036854775807) (h3 : -9223372036854775808 ≤ q) (h4 : q ≤ 9223372036854775807) :
    Calls Try.prog 31 #[.int .i64 p, .int .i64 q] w (RRes w (mkE p q) (mkV p q)) := by
  rcases bcase (inRB p) with hp | hp
  · rcases bcase (inRB q) with hq | hq
    · by_cases h0 : q = 0
      · exact rat_Make_3 p q w hp h0
      · exact rat_Make_4 p q w hp hq h0
    · exact rat_Make_2 p q w hp hq
  · exact rat_Make_1 p q w hp

set_option maxHeartbeats 1600000 in
theorem rat_Of (p : Int) (w : World) (h1 : -9223372036854775808 ≤ p) (h2 : p ≤ 9223372036854775807) :
    Calls Try.prog 30 #[.int .i64 p] w (RRes w (mkE p 1) (mkV p 1)) := by
  have HM := Lib.hid (fun W => rat_Make p 1 W h1 h2 (by decide) (by decide))
  have HC := Lib.hid (Cel.new w (.bool false) (.slice none 0 0) (.slice none 0 0) 27)
  clear h1 h2
  go_enter Try.func30, Try.ntmps30
  go_wp2_with fail
  refine (HM.out _).mono ?_
  rintro e w3 h3
  obtain ⟨b3, A5, n5, d5, A6, n6, d6, rfl, ho3, hb3⟩ := h3.open_
  have HO3 := Lib.hid ho3
  have HB3 := Lib.hid hb3
  have HC3 := HC.out.on hb3
  have HC3' := Lib.hid HC3
  have HRR := Lib.hid (HC3.put3 (.bool b3) (.slice A5 n5 d5) (.slice A6 n6 d6))
  obtain ⟨⟨d0, d1, d2⟩, f0, f1, f2⟩ := HC3
  clear h3 ho3 hb3
  go_wp2_with fail
  obtain ⟨⟨r0, r1, r2⟩, -⟩ := HRR.out
  refine bodyPost_ret (v := .tuple #[.agg #[.bool b3, .slice A5 n5 d5, .slice A6 n6 d6], .int .i64 (mkE p 1)]) (by simp only [put3] at r0 r1 r2; simp [results, Try.results30, go_sem, r0, r1, r2]) rfl ?_
  exact ⟨_, rfl, HO3.out.put3 HC3'.out _ _ _, below_put3 ((below_alloc _ _).trans (HB3.out.mono (by simp))) (Nat.le_refl _) _ _ _⟩

theorem ref_Of_in (n : Int) (w : World) (h1 : -9223372036854775808 ≤ n) (h2 : n ≤ 9223372036854775807) :
    Calls Try.prog 50 #[.int .i64 n] w fun e w' => ∃ v, e = .returned (.tuple #[v, .int .i64 (ofE n)]) ∧ Sl w' w.heap.size w'.heap.size v (limbs n.toNat) ∧ Below w.heap.size w w' := ref_Of n w h1 h2

set_option maxHeartbeats 1600000 in
theorem ref_Make3_1 (p q : Int) (w : World) (hp : inRB p = false) :
    Calls Try.prog 27 #[.int .i64 p, .int .i64 q] w (RRes w (mkE p q) (mkV p q)) := by
  have HP := Lib.hid hp
  have hor : p < -1125899906842624 ∨ (-1125899906842624 ≤ p ∧ 1125899906842624 < p) := by
    have := mt inRB_iff.mpr (by rw [hp]; decide)
    omega
  rcases hor with hl | ⟨hl, hg⟩
  · clear hp
    go_enter Try.func27, Try.ntmps27
    go_wp2_with fail
    refine bodyPost_ret (v := .tuple #[.agg #[.bool false, .slice none 0 0, .slice none 0 0], .int .i64 1]) (by simp [results, Try.results27, go_sem]) rfl ?_
    rw [mkE_1 HP.out]
    exact ⟨_, rfl, OutR.no (by decide), below_alloc _ _⟩
  · have hl2 : decide (p < -1125899906842624) = false := decide_eq_false (by omega)
    clear hp
    go_enter Try.func27, Try.ntmps27
    go_wp2_with fail
    refine bodyPost_ret (v := .tuple #[.agg #[.bool false, .slice none 0 0, .slice none 0 0], .int .i64 1]) (by simp [results, Try.results27, go_sem]) rfl ?_
    rw [mkE_1 HP.out]
    exact ⟨_, rfl, OutR.no (by decide), below_alloc _ _⟩

set_option maxHeartbeats 1600000 in
theorem ref_Make3_2 (p q : Int) (w : World) (hp : inRB p = true) (hq : inRB q = false) :
    Calls Try.prog 27 #[.int .i64 p, .int .i64 q] w (RRes w (mkE p q) (mkV p q)) := by
  have HP := Lib.hid hp
  have HQ := Lib.hid hq
  obtain ⟨p1, p2⟩ := inRB_iff.mp hp
  have hor : q < -1125899906842624 ∨ (-1125899906842624 ≤ q ∧ 1125899906842624 < q) := by
    have := mt inRB_iff.mpr (by rw [hq]; decide)
    omega
  clear hp
  rcases hor with hl | ⟨hl, hg⟩
  · clear hq
    go_enter Try.func27, Try.ntmps27
    go_wp2_with fail
    refine bodyPost_ret (v := .tuple #[.agg #[.bool false, .slice none 0 0, .slice none 0 0], .int .i64 1]) (by simp [results, Try.results27, go_sem]) rfl ?_
    rw [mkE_2 HP.out HQ.out]
    exact ⟨_, rfl, OutR.no (by decide), below_alloc _ _⟩
  · have hl2 : decide (q < -1125899906842624) = false := decide_eq_false (by omega)
    clear hq
    go_enter Try.func27, Try.ntmps27
    go_wp2_with fail
    refine bodyPost_ret (v := .tuple #[.agg #[.bool false, .slice none 0 0, .slice none 0 0], .int .i64 1]) (by simp [results, Try.results27, go_sem]) rfl ?_
    rw [mkE_2 HP.out HQ.out]
    exact ⟨_, rfl, OutR.no (by decide), below_alloc _ _⟩

set_option maxHeartbeats 1600000 in
theorem ref_Make3_3 (p q : Int) (w : World) (hp : inRB p = true) (hq : q = 0) :
    Calls Try.prog 27 #[.int .i64 p, .int .i64 q] w (RRes w (mkE p q) (mkV p q)) := by
  subst hq
  have HP := Lib.hid hp
  obtain ⟨p1, p2⟩ := inRB_iff.mp hp
  clear hp
  go_enter Try.func27, Try.ntmps27
  go_wp2_with fail
  refine bodyPost_ret (v := .tuple #[.agg #[.bool false, .slice none 0 0, .slice none 0 0], .int .i64 16]) (by simp [results, Try.results27, go_sem]) rfl ?_
  rw [mkE_3 HP.out]
  exact ⟨_, rfl, OutR.no (by decide), below_alloc _ _⟩

set_option maxHeartbeats 1600000 in
theorem ref_Make3_4 (p q : Int) (w : World) (hp : inRB p = true) (hq : inRB q = true) (hq0 : q ≠ 0) :
    Calls Try.prog 27 #[.int .i64 p, .int .i64 q] w (RRes w (mkE p q) (mkV p q)) := by
  have HP := Lib.hid hp
  have HQ := Lib.hid hq
  have H0 := Lib.hid hq0
  have bp := inRB_iff.mp hp
  have bq := inRB_iff.mp hq
  have hp1 : max p (-p) = (p.natAbs : Int) := by omega
  have hq1 : max q (-q) = (q.natAbs : Int) := by omega
  have hqz : (q == 0) = false := beq_false_of_ne hq0
  have HN : Hid (mkNeg p q = !(decide (p < 0) == decide (q < 0))) := rfl
  have HPS : Hid (p.natAbs < big48) := small48 (by omega)
  have HQS : Hid (q.natAbs < big48) := small48 (by omega)
  have HQN : Hid (q.natAbs ≠ 0) := by rw [Hid]; omega
  have HC := Lib.hid (Cel.new w (.bool false) (.slice none 0 0) (.slice none 0 0) 27)
  obtain ⟨P, hP⟩ : ∃ P, P = p.natAbs := ⟨_, rfl⟩
  obtain ⟨Q, hQ⟩ : ∃ Q, Q = q.natAbs := ⟨_, rfl⟩
  have HPP := Lib.hid hP
  have HQQ := Lib.hid hQ
  rw [← hP] at hp1 HPS
  rw [← hQ] at hq1 HQS HQN
  have bP : (P : Int) ≤ 1125899906842624 := by omega
  have bQ : (Q : Int) ≤ 1125899906842624 := by omega
  clear hq0 hp hq hP hQ
  go_enter Try.func27, Try.ntmps27
  go_wp2_with fail
  refine (ref_Of_in (P : Int) _ (by omega) (by omega)).mono ?_
  rintro e w1 ⟨v1, rfl, h1, hb1⟩
  rw [Int.toNat_natCast] at h1
  have HX := Lib.hid h1.toIn
  have HB1 := Lib.hid hb1
  have HC1 := Lib.hid (HC.out.on hb1)
  have hz1 : w.heap.size + 1 ≤ w1.heap.size := by have := hb1.size; simp at this; exact this
  clear h1 hb1
  go_wp2_with fail
  refine (ref_Of_in (Q : Int) _ (by omega) (by omega)).mono ?_
  rintro e w2 ⟨v2, rfl, h2, hb2⟩
  rw [Int.toNat_natCast] at h2
  have HY := Lib.hid h2.toIn
  have HX2 := Lib.hid (HX.out.on hb2)
  have HB2 := Lib.hid hb2
  have HC2 := Lib.hid (HC1.out.on hb2)
  have hz2 : w.heap.size + 1 ≤ w2.heap.size := by have := hb2.size; omega
  clear h2 hb2
  go_wp2_with fail
  rw [← HN.out]
  refine (ref_Reduce (mkNeg p q) P Q _ _ w2 HX2.out HY.out HPS.out HQS.out HQN.out).mono ?_
  rw [HPP.out, HQQ.out, show mkRat (sgI (mkNeg p q) p.natAbs) q.natAbs = mkV p q from rfl]
  rintro e w4 ⟨v4, rfl, h4, hb4⟩
  obtain ⟨vp4, vq4, rfl, h4p, h4q⟩ := h4
  obtain ⟨P4, x4, rfl, h4p'⟩ := in_open h4p
  obtain ⟨Q4, y4, rfl, h4q'⟩ := in_open h4q
  have HP4 := Lib.hid h4p'
  have HQ4 := Lib.hid h4q'
  have HB4 := Lib.hid hb4
  have HC4 := HC2.out.on hb4
  have HC4' := Lib.hid HC4
  have HRR := Lib.hid (HC4.put3 (.bool (negR (mkV p q))) (.slice P4 (topL (mkV p q)).length x4) (.slice Q4 (botL (mkV p q)).length y4))
  obtain ⟨⟨d0, d1, d2⟩, f0, f1, f2⟩ := HC4
  clear h4p h4q h4p' h4q' hb4
  go_wp2_with fail
  obtain ⟨⟨r0, r1, r2⟩, -⟩ := HRR.out
  refine bodyPost_ret (v := .tuple #[.agg #[.bool (negR (mkV p q)), .slice P4 (topL (mkV p q)).length x4, .slice Q4 (botL (mkV p q)).length y4], .int .i64 0]) (by simp only [put3] at r0 r1 r2; simp [results, Try.results27, go_sem, r0, r1, r2]) rfl ?_
  rw [mkE_4 HP.out HQ.out H0.out]
  exact ⟨_, rfl, OutR.ok ⟨_, _, rfl, HP4.out.put3 HC4'.out _ _ _, HQ4.out.put3 HC4'.out _ _ _⟩, below_put3 (bstep (bstep ((below_alloc _ _).trans (HB1.out.mono (by simp))) HB2.out) HB4.out) (Nat.le_refl _) _ _ _⟩

theorem ref_Make3 (p q : Int) (w : World) (h1 : -9223372036854775808 ≤ p) (h2 : p ≤ 9223372036854775807) (h3 : -9223372036854775808 ≤ q) (h4 : q ≤ 9223372036854775807) :
    Calls Try.prog 27 #[.int .i64 p, .int .i64 q] w (RRes w (mkE p q) (mkV p q)) := by
  rcases bcase (inRB p) with hp | hp
  · rcases bcase (inRB q) with hq | hq
    · by_cases h0 : q = 0
      · exact ref_Make3_3 p q w hp h0
      · exact ref_Make3_4 p q w hp hq h0
    · exact ref_Make3_2 p q w hp hq
  · exact ref_Make3_1 p q w hp

set_option maxHeartbeats 1600000 in
theorem ref_Of3 (p : Int) (w : World) (h1 : -9223372036854775808 ≤ p) (h2 : p ≤ 9223372036854775807) :
    Calls Try.prog 33 #[.int .i64 p] w (RRes w (mkE p 1) (mkV p 1)) := by
  have HM := Lib.hid (fun W => ref_Make3 p 1 W h1 h2 (by decide) (by decide))
  have HC := Lib.hid (Cel.new w (.bool false) (.slice none 0 0) (.slice none 0 0) 27)
  clear h1 h2
  go_enter Try.func33, Try.ntmps33
  go_wp2_with fail
  refine (HM.out _).mono ?_
  rintro e w3 h3
  obtain ⟨b3, A5, n5, d5, A6, n6, d6, rfl, ho3, hb3⟩ := h3.open_
  have HO3 := Lib.hid ho3
  have HB3 := Lib.hid hb3
  have HC3 := HC.out.on hb3
  have HC3' := Lib.hid HC3
  have HRR := Lib.hid (HC3.put3 (.bool b3) (.slice A5 n5 d5) (.slice A6 n6 d6))
  obtain ⟨⟨d0, d1, d2⟩, f0, f1, f2⟩ := HC3
  clear h3 ho3 hb3
  go_wp2_with fail
  obtain ⟨⟨r0, r1, r2⟩, -⟩ := HRR.out
  refine bodyPost_ret (v := .tuple #[.agg #[.bool b3, .slice A5 n5 d5, .slice A6 n6 d6], .int .i64 (mkE p 1)]) (by simp only [put3] at r0 r1 r2; simp [results, Try.results33, go_sem, r0, r1, r2]) rfl ?_
  exact ⟨_, rfl, HO3.out.put3 HC3'.out _ _ _, below_put3 ((below_alloc _ _).trans (HB3.out.mono (by simp))) (Nat.le_refl _) _ _ _⟩

end Go.Proofs.Ytohfaoclemcfaaa
/- The wet end: errors, numbers, what a step does (pure). -/
namespace Go.Proofs.Ytohfaoclemcfaaa.Wet
set_option linter.unusedVariables false
set_option maxRecDepth 100000

abbrev MM : Int := 1099511627776
/-! ### Errors -/
def ckW (f r c : Int) : Int := if 0 ≤ f ∧ f ≤ MM then (if (1 ≤ r ∧ r ≤ 1000) ∧ (0 ≤ c ∧ c ≤ 999) then 0 else 18) else 1
theorem ckW_of {f r c : Int} (h : ckW f r c = 0) : (0 ≤ f ∧ f ≤ MM) ∧ (1 ≤ r ∧ r ≤ 1000) ∧ (0 ≤ c ∧ c ≤ 999) := by
  unfold ckW at h
  by_cases h1 : 0 ≤ f ∧ f ≤ MM
  · rw [if_pos h1] at h
    by_cases h2 : (1 ≤ r ∧ r ≤ 1000) ∧ (0 ≤ c ∧ c ≤ 999)
    · exact ⟨h1, h2⟩
    · rw [if_neg h2] at h; cases h
  · rw [if_neg h1] at h; cases h
def whE (b : Bool) (xs ys : List Int) : Int := if valR b xs ys then (if b then 1 else if 8 < xs.length ∨ 8 < ys.length then 32 else 0) else 3
theorem whE_of {b : Bool} {xs ys : List Int} (h : whE b xs ys = 0) : valR b xs ys = true ∧ b = false ∧ xs.length ≤ 8 ∧ ys.length ≤ 8 := by
  unfold whE at h
  by_cases h1 : valR b xs ys = true
  · rw [if_pos h1] at h
    cases b with
    | true => rw [if_pos rfl] at h; cases h
    | false =>
      rw [if_neg (by decide)] at h
      by_cases h2 : 8 < xs.length ∨ 8 < ys.length
      · rw [if_pos h2] at h; cases h
      · exact ⟨h1, rfl, by omega, by omega⟩
  · rw [if_neg h1] at h; cases h
/-- Check, then the errors for white. -/
def stE (f r c : Int) (b : Bool) (xs ys : List Int) : Int := if ckW f r c = 0 then whE b xs ys else ckW f r c
/-- And the number of steps. -/
def afE (f r c : Int) (b : Bool) (xs ys : List Int) (n : Int) : Int := if stE f r c b xs ys = 0 then (if 0 ≤ n ∧ n ≤ 16 then 0 else 1) else stE f r c b xs ys
theorem stE_of {f r c : Int} {b : Bool} {xs ys : List Int} (h : stE f r c b xs ys = 0) : ckW f r c = 0 ∧ whE b xs ys = 0 := by
  unfold stE at h
  by_cases h1 : ckW f r c = 0
  · rw [if_pos h1] at h; exact ⟨h1, h⟩
  · rw [if_neg h1] at h; exact absurd h h1
theorem afE_of {f r c : Int} {b : Bool} {xs ys : List Int} {n : Int} (h : afE f r c b xs ys n = 0) : stE f r c b xs ys = 0 ∧ 0 ≤ n ∧ n ≤ 16 := by
  unfold afE at h
  by_cases h1 : stE f r c b xs ys = 0
  · rw [if_pos h1] at h
    by_cases h2 : 0 ≤ n ∧ n ≤ 16
    · exact ⟨h1, h2⟩
    · rw [if_neg h2] at h; cases h
  · rw [if_neg h1] at h; exact absurd h h1

/-! ### Numbers with a denominator -/
theorem den_le {q : Rat} {B : Nat} {a : Int} (hB : 0 < B) (h : q * (B : Rat) = (a : Rat)) : q.den ≤ B ∧ q.num.natAbs ≤ a.natAbs := by
  have hB0 : (B : Rat) ≠ 0 := fun e => by
    have := Rat.natCast_eq_zero_iff.mp e
    omega
  have hq : mkRat a B = q := by
    rw [Rat.mkRat_eq_div, ← h]
    show q * (B : Rat) / ((B : Nat) : Rat) = q
    rw [Rat.div_def, Rat.mul_assoc, Rat.mul_inv_cancel _ hB0, Rat.mul_one]
  obtain ⟨m, hm, h1, h2⟩ := Rat.mkRat_num_den (d := B) (n := a) (n' := q.num) (d' := q.den) (z' := q.den_nz) (c := q.reduced) (by omega) (by rw [hq])
  have hm1 : 1 ≤ m := by omega
  refine ⟨by rw [h2]; exact Nat.le_mul_of_pos_right _ hm1, ?_⟩
  rw [h1, Int.natAbs_mul, Int.natAbs_natCast]
  exact Nat.le_mul_of_pos_right _ hm1
/-- A fraction with the denominator B, its numerator at most M. -/
structure Fr (B M : Nat) (q : Rat) : Prop where
  pos : 0 < B
  num : ∃ a : Int, q * (B : Rat) = (a : Rat) ∧ a.natAbs ≤ M
section
variable {B C M N : Nat} {q r : Rat}
theorem Fr.den (h : Fr B M q) : q.den ≤ B ∧ q.num.natAbs ≤ M := by
  obtain ⟨a, ha, hM⟩ := h.num
  have h1 := den_le h.pos ha
  exact ⟨h1.1, Nat.le_trans h1.2 hM⟩
theorem Fr.fit (h : Fr B M q) (h1 : B < big48) (h2 : M < big48) : fitR q = true := by
  have h3 := h.den
  exact fitR_iff.mpr ⟨by omega, by omega⟩
theorem Fr.le (h : Fr B M q) (hM : M ≤ N) : Fr B N q := by
  obtain ⟨a, ha, h1⟩ := h.num
  exact ⟨h.pos, a, ha, by omega⟩
theorem Fr.add (h : Fr B M q) (k : Fr B N r) : Fr B (M + N) (q + r) := by
  obtain ⟨a, ha, h1⟩ := h.num
  obtain ⟨b, hb, h2⟩ := k.num
  refine ⟨h.pos, a + b, ?_, by omega⟩
  rw [Rat.add_mul, ha, hb, Rat.intCast_add]
theorem Fr.neg (h : Fr B M q) : Fr B M (-q) := by
  obtain ⟨a, ha, h1⟩ := h.num
  refine ⟨h.pos, -a, ?_, by omega⟩
  rw [Rat.neg_mul, ha, Rat.intCast_neg]
theorem Fr.up (h : Fr B M q) {k : Nat} (hk : 0 < k) : Fr (B * k) (M * k) q := by
  obtain ⟨a, ha, h1⟩ := h.num
  refine ⟨Nat.mul_pos h.pos hk, a * (k : Int), ?_, ?_⟩
  · rw [Rat.natCast_mul, ← Rat.mul_assoc, ha, Rat.intCast_mul]; rfl
  · rw [Int.natAbs_mul, Int.natAbs_natCast]; exact Nat.mul_le_mul_right _ h1
theorem Fr.mul (h : Fr B M q) (k : Fr C N r) : Fr (B * C) (M * N) (q * r) := by
  obtain ⟨a, ha, h1⟩ := h.num
  obtain ⟨b, hb, h2⟩ := k.num
  refine ⟨Nat.mul_pos h.pos k.pos, a * b, ?_, ?_⟩
  · rw [Rat.natCast_mul, Rat.intCast_mul, ← ha, ← hb]; grind
  · rw [Int.natAbs_mul]; exact Nat.mul_le_mul h1 h2
theorem Fr.sum_ok (h : Fr B M q) (k : Fr C N r) (h1 : M * C + N * B < big48) (h2 : B * C < big48) : sumOk q r = true := by
  obtain ⟨d1, n1⟩ := h.den
  obtain ⟨d2, n2⟩ := k.den
  have e1 : q.num.natAbs * r.den ≤ M * C := Nat.mul_le_mul n1 d2
  have e2 : r.num.natAbs * q.den ≤ N * B := Nat.mul_le_mul n2 d1
  have e3 : q.den * r.den ≤ B * C := Nat.mul_le_mul d1 d2
  unfold sumOk
  rw [decide_eq_true (show q.num.natAbs * r.den < big48 by omega), decide_eq_true (show r.num.natAbs * q.den < big48 by omega), decide_eq_true (show q.den * r.den < big48 by omega), decide_eq_true (show q.num.natAbs * r.den + r.num.natAbs * q.den < big48 by omega)]
  simp
theorem Fr.sub_ok (h : Fr B M q) (k : Fr C N r) (h1 : M * C + N * B < big48) (h2 : B * C < big48) : subOk q r = true := h.sum_ok k.neg h1 h2
theorem Fr.mul_ok (h : Fr B M q) (k : Fr C N r) (h1 : M * N < big48) (h2 : B * C < big48) : mulOk q r = true := by
  obtain ⟨d1, n1⟩ := h.den
  obtain ⟨d2, n2⟩ := k.den
  have e1 : q.num.natAbs * r.num.natAbs ≤ M * N := Nat.mul_le_mul n1 n2
  have e3 : q.den * r.den ≤ B * C := Nat.mul_le_mul d1 d2
  unfold mulOk
  rw [decide_eq_true (show q.num.natAbs * r.num.natAbs < big48 by omega), decide_eq_true (show q.den * r.den < big48 by omega)]
  rfl
end
/-! ### What a step does -/
theorem mkV_nat {p q : Nat} : mkV (p : Int) (q : Int) = mkRat p q := by
  unfold mkV mkNeg sgI
  have h1 : decide ((p : Int) < 0) = false := decide_eq_false (by omega)
  have h2 : decide ((q : Int) < 0) = false := decide_eq_false (by omega)
  simp [h1, h2]
theorem mkV_mul {p q : Int} (hp : 0 ≤ p) (hq : 0 < q) : mkV p q * (q : Rat) = (p : Rat) := by
  obtain ⟨a, rfl⟩ : ∃ a : Nat, p = a := ⟨p.toNat, by omega⟩
  obtain ⟨b, rfl⟩ : ∃ b : Nat, q = b := ⟨q.toNat, by omega⟩
  have hb : ((b : Nat) : Rat) ≠ 0 := fun e => by
    have := Rat.natCast_eq_zero_iff.mp e
    omega
  rw [mkV_nat, Rat.mkRat_eq_div, Rat.div_def, Rat.mul_assoc]
  show ((a : Int) : Rat) * ((b : Rat)⁻¹ * (b : Rat)) = _
  rw [Rat.inv_mul_cancel _ hb, Rat.mul_one]
theorem mkV_fr {p q : Int} (hp : 0 ≤ p) (hq : 0 < q) : Fr q.toNat p.toNat (mkV p q) := by
  refine ⟨by omega, p, ?_, by omega⟩
  have h := mkV_mul hp hq
  obtain ⟨b, rfl⟩ : ∃ b : Nat, q = b := ⟨q.toNat, by omega⟩
  exact h
theorem mkV_int {p : Int} (hp : 0 ≤ p) : mkV p 1 = (p : Rat) := by
  have h := mkV_mul hp (show (0 : Int) < 1 by decide)
  have e : ((1 : Int) : Rat) = 1 := rfl
  rw [e, Rat.mul_one] at h
  exact h
section
variable (f r c : Int) (W : Rat)
def hdV : Rat := mkV f 1 + W
def paV : Rat := hdV f W * mkV r 1000
def reV : Rat := subOp (hdV f W) (paV f r W)
def afV : Rat := reV f r W * mkV c 1000
def seV : Rat := subOp (reV f r W) (afV f r c W)
/-- The white water after n steps, and the sum of the paper. -/
def afN : Nat → Rat
  | 0 => W
  | n + 1 => afV f r c (afN n)
def paN : Nat → Rat
  | 0 => mkV 0 1
  | n + 1 => paN n + paV f r (afN f r c W n)
/-- The white water at rest. -/
def kI : Int := (1000 - r) * c
def sdV : Rat := mkV f 1 * mkV (kI r c) (1000000 - kI r c)
end
section
variable {f r c : Int} {W : Rat}
/-- P20.7: a step. -/
theorem balance : (paV f r W + seV f r c W) + afV f r c W = mkV f 1 + W := by
  have h1 : seV f r c W = reV f r W + -afV f r c W := rfl
  have h2 : reV f r W = hdV f W + -paV f r W := rfl
  have h3 : hdV f W = mkV f 1 + W := rfl
  rw [h1, h2, h3]
  grind
theorem kI_lim (hr : 1 ≤ r ∧ r ≤ 1000) (hc : 0 ≤ c ∧ c ≤ 999) : 0 ≤ kI r c ∧ kI r c ≤ 998001 := by
  unfold kI
  refine ⟨Int.mul_nonneg (by omega) hc.1, ?_⟩
  have h1 : (1000 - r) * c ≤ 999 * c := Int.mul_le_mul_of_nonneg_right (by omega) hc.1
  omega
/-- The part of the head box that returns. -/
theorem af_eq (hr : 1 ≤ r ∧ r ≤ 1000) (hc : 0 ≤ c ∧ c ≤ 999) : afV f r c W = (mkV f 1 + W) * mkV (kI r c) 1000000 := by
  have h1 := mkV_mul (p := r) (q := 1000) (by omega) (by decide)
  have h2 := mkV_mul (p := c) (q := 1000) (by omega) (by decide)
  have h3 := mkV_mul (p := kI r c) (q := 1000000) (kI_lim hr hc).1 (by decide)
  have e1 : ((1000 : Int) : Rat) = 1000 := rfl
  have e2 : ((1000000 : Int) : Rat) = 1000000 := rfl
  have e3 : ((kI r c : Int) : Rat) = (1000 - (r : Rat)) * (c : Rat) := by
    unfold kI
    rw [Rat.intCast_mul, Rat.intCast_sub]; rfl
  rw [e1] at h1 h2
  rw [e2, e3] at h3
  have h4 : mkV (kI r c) 1000000 = (1 - mkV r 1000) * mkV c 1000 := by grind
  have h5 : afV f r c W = ((mkV f 1 + W) + -((mkV f 1 + W) * mkV r 1000)) * mkV c 1000 := rfl
  rw [h5, h4]
  grind
/-- P20.4: at rest. -/
theorem steady (hr : 1 ≤ r ∧ r ≤ 1000) (hc : 0 ≤ c ∧ c ≤ 999) : afV f r c (sdV f r c) = sdV f r c ∧ paV f r (sdV f r c) + seV f r c (sdV f r c) = mkV f 1 := by
  have hk := kI_lim hr hc
  have h1 := mkV_mul (p := kI r c) (q := 1000000) hk.1 (by decide)
  have h2 := mkV_mul (p := kI r c) (q := 1000000 - kI r c) hk.1 (by omega)
  have e2 : ((1000000 : Int) : Rat) = 1000000 := rfl
  rw [e2] at h1
  rw [Rat.intCast_sub, e2] at h2
  have h3 : afV f r c (sdV f r c) = sdV f r c := by
    rw [af_eq hr hc]
    unfold sdV
    grind
  refine ⟨h3, ?_⟩
  have h4 := balance (f := f) (r := r) (c := c) (W := sdV f r c)
  rw [h3] at h4
  grind
/-- P20.7: the distance to rest. -/
theorem distance (hr : 1 ≤ r ∧ r ≤ 1000) (hc : 0 ≤ c ∧ c ≤ 999) : subOp W (sdV f r c) * mkV (kI r c) 1000000 = subOp (afV f r c W) (sdV f r c) := by
  have h1 := (steady (f := f) hr hc).1
  rw [af_eq hr hc] at h1
  have h2 := af_eq (f := f) (W := W) hr hc
  unfold subOp
  rw [h2]
  grind
end
end Go.Proofs.Ytohfaoclemcfaaa.Wet
