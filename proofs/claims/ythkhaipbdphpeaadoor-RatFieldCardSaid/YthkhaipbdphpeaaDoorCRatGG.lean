/- The walk of RatField. -/
import Derived.Test.YthkhaipbdphpeaaDoorCRatCC
import Derived.Test.YthkhaipbdphpeaaDoorPk10
import Derived.Deep.DeepCutAuto
namespace Go.Proofs.YthkhaipbdphpeaaDoor
open Go.ChangeShapes Go.WideShapes Go.RowKit
set_option linter.unusedVariables false
set_option maxRecDepth 100000

/-- The fields of a result. -/
def tB (e : Int) (r : Rat) : Bool := if e = 0 then negR r else false
def tX (e : Int) (r : Rat) : List Int := if e = 0 then topL r else []
def tY (e : Int) (r : Rat) : List Int := if e = 0 then botL r else []
theorem OutR.inr {w : World} {v : Value} {err : Int} {r : Rat} (h : OutR w v err r) : InR w v (tB err r) (tX err r) (tY err r) := by
  unfold OutR at h
  unfold tB tX tY
  split at h
  · rename_i e; rw [if_pos e, if_pos e, if_pos e]; exact h
  · rename_i e; rw [if_neg e, if_neg e, if_neg e]; exact h
theorem t_zero (r : Rat) : tB 0 r = negR r ∧ tX 0 r = topL r ∧ tY 0 r = botL r := ⟨if_pos rfl, if_pos rfl, if_pos rfl⟩
theorem opE_zero {ok : Rat → Rat → Bool} {b c : Bool} {xs ys zs ts : List Int} (h : opE ok b xs ys c zs ts = 0) :
    ∃ r s, (fitR r = true ∧ b = negR r ∧ xs = topL r ∧ ys = botL r) ∧ (fitR s = true ∧ c = negR s ∧ zs = topL s ∧ ts = botL s) ∧ ok r s = true := by
  rcases two_cases b xs ys c zs ts with ⟨_, h1⟩ | ⟨_, _, h1⟩ | ⟨h1, r, s, ⟨hr, rfl, rfl, rfl⟩, hs, rfl, rfl, rfl⟩
  · rw [opE_no h1] at h; cases h
  · rw [opE_no h1] at h; cases h
  · rw [(op_form (ok := ok) (f := addOp) hr hs).1] at h
    refine ⟨r, s, ⟨hr, rfl, rfl, rfl⟩, ⟨hs, rfl, rfl, rfl⟩, ?_⟩
    cases ho : ok r s with
    | true => rfl
    | false => rw [ho] at h; cases h
theorem opV_form {f : Rat → Rat → Rat} {r s : Rat} (hr : fitR r = true) (hs : fitR s = true) : opV f (negR r) (topL r) (botL r) (negR s) (topL s) (botL s) = f r s := (op_form (ok := sumOk) hr hs).2
theorem fld_sub {b c : Bool} {xs ys zs ts : List Int} (h1 : opE sumOk b xs ys c zs ts = 0) :
    ∃ r, fitR r = true ∧ b = negR r ∧ xs = topL r ∧ ys = botL r ∧ opV subOp (tB 0 (opV addOp b xs ys c zs ts)) (tX 0 (opV addOp b xs ys c zs ts)) (tY 0 (opV addOp b xs ys c zs ts)) c zs ts = r := by
  obtain ⟨r, s, ⟨hr, rfl, rfl, rfl⟩, ⟨hs, rfl, rfl, rfl⟩, ho⟩ := opE_zero h1
  refine ⟨r, hr, rfl, rfl, rfl, ?_⟩
  rw [opV_form hr hs, (t_zero _).1, (t_zero _).2.1, (t_zero _).2.2, opV_form (show fitR (addOp r s) = true from fit_sum hr hs ho) hs]
  exact add_back r s
theorem fld_div {b c : Bool} {xs ys zs ts : List Int} (h1 : opE mulOk b xs ys c zs ts = 0) (h2 : opG divEr (tB 0 (opV mulOp b xs ys c zs ts)) (tX 0 (opV mulOp b xs ys c zs ts)) (tY 0 (opV mulOp b xs ys c zs ts)) c zs ts = 0) :
    ∃ r, fitR r = true ∧ b = negR r ∧ xs = topL r ∧ ys = botL r ∧ opV divOp (tB 0 (opV mulOp b xs ys c zs ts)) (tX 0 (opV mulOp b xs ys c zs ts)) (tY 0 (opV mulOp b xs ys c zs ts)) c zs ts = r := by
  obtain ⟨r, s, ⟨hr, rfl, rfl, rfl⟩, ⟨hs, rfl, rfl, rfl⟩, ho⟩ := opE_zero h1
  refine ⟨r, hr, rfl, rfl, rfl, ?_⟩
  rw [opV_form hr hs, (t_zero _).1, (t_zero _).2.1, (t_zero _).2.2] at h2 ⊢
  have hf : fitR (mulOp r s) = true := fit_mul hr hs ho
  have h3 : divEr (mulOp r s) s = 0 := by rw [← (opG_form (er := divEr) (f := divOp) hf hs).1]; exact h2
  have h0 : s.num ≠ 0 := by
    intro e; rw [divEr_zero e] at h3; cases h3
  rw [opV_form hf hs]
  exact mul_back r s h0
theorem fld_self {b : Bool} {xs ys : List Int} (h1 : opE subOk b xs ys b xs ys = 0) : opV subOp b xs ys b xs ys = 0 := by
  obtain ⟨r, s, ⟨hr, rfl, rfl, rfl⟩, ⟨hs, e1, e2, e3⟩, ho⟩ := opE_zero h1
  rw [opV_form hr hr]
  exact Rat.add_neg_cancel r
theorem fld_dist {b c d : Bool} {xs ys zs ts us vs : List Int} (h1 : opE mulOk b xs ys c zs ts = 0) (h2 : opE sumOk c zs ts d us vs = 0) (h3 : opE mulOk b xs ys d us vs = 0) :
    opV mulOp b xs ys (tB 0 (opV addOp c zs ts d us vs)) (tX 0 (opV addOp c zs ts d us vs)) (tY 0 (opV addOp c zs ts d us vs)) =
    opV addOp (tB 0 (opV mulOp b xs ys c zs ts)) (tX 0 (opV mulOp b xs ys c zs ts)) (tY 0 (opV mulOp b xs ys c zs ts)) (tB 0 (opV mulOp b xs ys d us vs)) (tX 0 (opV mulOp b xs ys d us vs)) (tY 0 (opV mulOp b xs ys d us vs)) := by
  obtain ⟨r, s, ⟨hr, rfl, rfl, rfl⟩, ⟨hs, rfl, rfl, rfl⟩, ho⟩ := opE_zero h1
  obtain ⟨s', t, ⟨hs', e1, e2, e3⟩, ⟨ht, rfl, rfl, rfl⟩, ho2⟩ := opE_zero h2
  obtain rfl : s = s' := form_inj e1 e2 e3
  obtain ⟨r', t', ⟨hr', e4, e5, e6⟩, ⟨ht', e7, e8, e9⟩, ho3⟩ := opE_zero h3
  obtain rfl : r = r' := form_inj e4 e5 e6
  obtain rfl : t = t' := form_inj e7 e8 e9
  rw [opV_form hr hs, opV_form hs ht, opV_form hr ht]
  simp only [t_zero]
  rw [opV_form hr (show fitR (addOp s t) = true from fit_sum hs ht ho2), opV_form (show fitR (mulOp r s) = true from fit_mul hr hs ho) (show fitR (mulOp r t) = true from fit_mul hr ht ho3)]
  exact Rat.mul_add r s t
theorem ne_test {e : Int} (h : e ≠ 0) : (e == 0) = false := beq_false_of_ne h
theorem form_of {w : World} {v : Value} {r : Rat} (h : InR w v (negR r) (topL r) (botL r)) : OutR w v 0 r := OutR.ok h

set_option maxHeartbeats 12800000 in
theorem walk_RatField (w : World) (va : Value) (ba : Bool) (xsa ysa : List Int) (hia : InR w va ba xsa ysa) (vb : Value) (bb : Bool) (xsb ysb : List Int) (hib : InR w vb bb xsb ysb) (vc : Value) (bc : Bool) (xsc ysc : List Int) (hic : InR w vc bc xsc ysc) (ht : Tab w) :
    Calls Tryd.prog 8 #[va, vb, vc] w fun e w' => e = .returned (.bool true) ∧ Below w.heap.size w w' := by
  have HT := Lib.hid ht
  clear ht
  obtain ⟨vpa, vqa, rfl, h1a, h2a⟩ := hia
  obtain ⟨zAa, zda, rfl, h3a⟩ := in_open h1a
  obtain ⟨zBa, zqa, rfl, h4a⟩ := in_open h2a
  have HOa := Lib.hid (show InR w (.agg #[.bool ba, .slice zAa xsa.length zda, .slice zBa ysa.length zqa]) ba xsa ysa from ⟨_, _, rfl, h3a, h4a⟩)
  clear h1a h2a h3a h4a
  obtain ⟨vpb, vqb, rfl, h1b, h2b⟩ := hib
  obtain ⟨zAb, zdb, rfl, h3b⟩ := in_open h1b
  obtain ⟨zBb, zqb, rfl, h4b⟩ := in_open h2b
  have HOb := Lib.hid (show InR w (.agg #[.bool bb, .slice zAb xsb.length zdb, .slice zBb ysb.length zqb]) bb xsb ysb from ⟨_, _, rfl, h3b, h4b⟩)
  clear h1b h2b h3b h4b
  obtain ⟨vpc, vqc, rfl, h1c, h2c⟩ := hic
  obtain ⟨zAc, zdc, rfl, h3c⟩ := in_open h1c
  obtain ⟨zBc, zqc, rfl, h4c⟩ := in_open h2c
  have HOc := Lib.hid (show InR w (.agg #[.bool bc, .slice zAc xsc.length zdc, .slice zBc ysc.length zqc]) bc xsc ysc from ⟨_, _, rfl, h3c, h4c⟩)
  clear h1c h2c h3c h4c
  go_enter Tryd.func8, Tryd.ntmps8
  go_wp2_with fail
  obtain ⟨w1, hw⟩ : ∃ W, W = (((w.alloc (.cells #[.bool ba, .slice zAa xsa.length zda, .slice zBa ysa.length zqa] 25)).alloc (.cells #[.bool bb, .slice zAb xsb.length zdb, .slice zBb ysb.length zqb] 25)).alloc (.cells #[.bool bc, .slice zAc xsc.length zdc, .slice zBc ysc.length zqc] 25)) := ⟨_, rfl⟩
  have hb : Below w.heap.size w w1 := by rw [hw]; exact balloc (balloc (below_alloc _ _) _) _
  have hca := ((Cel.new w (.bool ba) (.slice zAa xsa.length zda) (.slice zBa ysa.length zqa) 25).alloc (.cells #[.bool bb, .slice zAb xsb.length zdb, .slice zBb ysb.length zqb] 25)).alloc (.cells #[.bool bc, .slice zAc xsc.length zdc, .slice zBc ysc.length zqc] 25)
  have HCa : Hid (Cel w1 (w.heap.size) (.bool ba) (.slice zAa xsa.length zda) (.slice zBa ysa.length zqa)) := by rw [hw]; exact hca
  have hcb := (Cel.new (w.alloc (.cells #[.bool ba, .slice zAa xsa.length zda, .slice zBa ysa.length zqa] 25)) (.bool bb) (.slice zAb xsb.length zdb) (.slice zBb ysb.length zqb) 25).alloc (.cells #[.bool bc, .slice zAc xsc.length zdc, .slice zBc ysc.length zqc] 25)
  simp only [World.size_alloc] at hcb
  have HCb : Hid (Cel w1 (w.heap.size + 1) (.bool bb) (.slice zAb xsb.length zdb) (.slice zBb ysb.length zqb)) := by rw [hw]; exact hcb
  have hcc := Cel.new ((w.alloc (.cells #[.bool ba, .slice zAa xsa.length zda, .slice zBa ysa.length zqa] 25)).alloc (.cells #[.bool bb, .slice zAb xsb.length zdb, .slice zBb ysb.length zqb] 25)) (.bool bc) (.slice zAc xsc.length zdc) (.slice zBc ysc.length zqc) 25
  simp only [World.size_alloc] at hcc
  have HCc : Hid (Cel w1 (w.heap.size + 1 + 1) (.bool bc) (.slice zAc xsc.length zdc) (.slice zBc ysc.length zqc)) := by rw [hw]; exact hcc
  rw [← hw]
  replace HOa := Lib.hid (HOa.out.on hb)
  replace HOb := Lib.hid (HOb.out.on hb)
  replace HOc := Lib.hid (HOc.out.on hb)
  have HB := Lib.hid hb
  clear hw hb hca hcb hcc
  obtain ⟨E, hE⟩ : ∃ x : Int, x = opE sumOk ba xsa ysa bb xsb ysb := ⟨_, rfl⟩
  refine (rat_Add ba xsa ysa bb xsb ysb _ _ _ HOa.out HOb.out).mono ?_
  rw [← hE]
  have HE := Lib.hid hE
  clear hE
  rintro e w2 h
  obtain ⟨zbs, zAs, zns, zds, zBs, zms, zqs, rfl, ho, hb⟩ := h.open_
  replace HCa := Lib.hid (HCa.out.on hb)
  replace HCb := Lib.hid (HCb.out.on hb)
  replace HCc := Lib.hid (HCc.out.on hb)
  replace HOa := Lib.hid (HOa.out.on hb)
  replace HOb := Lib.hid (HOb.out.on hb)
  replace HOc := Lib.hid (HOc.out.on hb)
  replace HB : Hid (Below w.heap.size w w2) := bstep HB.out hb
  have HOs := Lib.hid ho
  clear h ho hb
  obtain ⟨⟨xa0, xa1, xa2⟩, ya0, ya1, ya2⟩ := HCa.out
  have lta := HCa.out.lt
  obtain ⟨⟨xb0, xb1, xb2⟩, yb0, yb1, yb2⟩ := HCb.out
  have ltb := HCb.out.lt
  obtain ⟨⟨xc0, xc1, xc2⟩, yc0, yc1, yc2⟩ := HCc.out
  have ltc := HCc.out.lt
  go_wp2_with fail
  clear xa0 xa1 xa2 ya0 ya1 ya2 lta xb0 xb1 xb2 yb0 yb1 yb2 ltb xc0 xc1 xc2 yc0 yc1 yc2 ltc
  obtain ⟨w3, hw⟩ : ∃ W, W = w2.alloc (.cells #[.bool zbs, .slice zAs zns zds, .slice zBs zms zqs] 25) := ⟨_, rfl⟩
  have hb : Below w2.heap.size w2 w3 := by rw [hw]; exact below_alloc _ _
  obtain ⟨gs, hg⟩ : ∃ g, g = w2.heap.size := ⟨_, rfl⟩
  have hcn : Cel w3 gs (.bool zbs) (.slice zAs zns zds) (.slice zBs zms zqs) := by rw [hw, hg]; exact Cel.new _ _ _ _ _
  rw [← hw]
  rw [← hg]
  replace HCa := Lib.hid (HCa.out.on hb)
  replace HCb := Lib.hid (HCb.out.on hb)
  replace HCc := Lib.hid (HCc.out.on hb)
  replace HOa := Lib.hid (HOa.out.on hb)
  replace HOb := Lib.hid (HOb.out.on hb)
  replace HOc := Lib.hid (HOc.out.on hb)
  replace HOs := Lib.hid (HOs.out.on hb)
  replace HB : Hid (Below w.heap.size w w3) := bstep HB.out hb
  have HCs := Lib.hid hcn
  clear hw hb hg hcn
  refine (rat_Add bb xsb ysb ba xsa ysa _ _ _ HOb.out HOa.out).mono ?_
  rw [(addE_swap ba xsa ysa bb xsb ysb).1, (addE_swap ba xsa ysa bb xsb ysb).2, ← HE.out]
  rintro e w4 h
  obtain ⟨zbt, zAt, znt, zdt, zBt, zmt, zqt, rfl, ho, hb⟩ := h.open_
  replace HCa := Lib.hid (HCa.out.on hb)
  replace HCb := Lib.hid (HCb.out.on hb)
  replace HCc := Lib.hid (HCc.out.on hb)
  replace HCs := Lib.hid (HCs.out.on hb)
  replace HOa := Lib.hid (HOa.out.on hb)
  replace HOb := Lib.hid (HOb.out.on hb)
  replace HOc := Lib.hid (HOc.out.on hb)
  replace HOs := Lib.hid (HOs.out.on hb)
  replace HB : Hid (Below w.heap.size w w4) := bstep HB.out hb
  have HOt := Lib.hid ho
  clear h ho hb
  obtain ⟨⟨xa0, xa1, xa2⟩, ya0, ya1, ya2⟩ := HCa.out
  have lta := HCa.out.lt
  obtain ⟨⟨xb0, xb1, xb2⟩, yb0, yb1, yb2⟩ := HCb.out
  have ltb := HCb.out.lt
  obtain ⟨⟨xc0, xc1, xc2⟩, yc0, yc1, yc2⟩ := HCc.out
  have ltc := HCc.out.lt
  obtain ⟨⟨xs0, xs1, xs2⟩, ys0, ys1, ys2⟩ := HCs.out
  have lts := HCs.out.lt
  go_wp2_with fail
  clear xa0 xa1 xa2 ya0 ya1 ya2 lta xb0 xb1 xb2 yb0 yb1 yb2 ltb xc0 xc1 xc2 yc0 yc1 yc2 ltc xs0 xs1 xs2 ys0 ys1 ys2 lts
  obtain ⟨w5, hw⟩ : ∃ W, W = w4.alloc (.cells #[.bool zbt, .slice zAt znt zdt, .slice zBt zmt zqt] 25) := ⟨_, rfl⟩
  have hb : Below w4.heap.size w4 w5 := by rw [hw]; exact below_alloc _ _
  obtain ⟨gt, hg⟩ : ∃ g, g = w4.heap.size := ⟨_, rfl⟩
  have hcn : Cel w5 gt (.bool zbt) (.slice zAt znt zdt) (.slice zBt zmt zqt) := by rw [hw, hg]; exact Cel.new _ _ _ _ _
  rw [← hw]
  rw [← hg]
  replace HCa := Lib.hid (HCa.out.on hb)
  replace HCb := Lib.hid (HCb.out.on hb)
  replace HCc := Lib.hid (HCc.out.on hb)
  replace HCs := Lib.hid (HCs.out.on hb)
  replace HOa := Lib.hid (HOa.out.on hb)
  replace HOb := Lib.hid (HOb.out.on hb)
  replace HOc := Lib.hid (HOc.out.on hb)
  replace HOs := Lib.hid (HOs.out.on hb)
  replace HOt := Lib.hid (HOt.out.on hb)
  replace HB : Hid (Below w.heap.size w w5) := bstep HB.out hb
  have HCt := Lib.hid hcn
  clear hw hb hg hcn
  obtain ⟨G, hG⟩ : ∃ x : Int, x = opE mulOk ba xsa ysa bb xsb ysb := ⟨_, rfl⟩
  refine (rat_Mul ba xsa ysa bb xsb ysb _ _ _ HOa.out HOb.out).mono ?_
  rw [← hG]
  have HG := Lib.hid hG
  clear hG
  rintro e w6 h
  obtain ⟨zbp, zAp, znp, zdp, zBp, zmp, zqp, rfl, ho, hb⟩ := h.open_
  replace HCa := Lib.hid (HCa.out.on hb)
  replace HCb := Lib.hid (HCb.out.on hb)
  replace HCc := Lib.hid (HCc.out.on hb)
  replace HCs := Lib.hid (HCs.out.on hb)
  replace HCt := Lib.hid (HCt.out.on hb)
  replace HOa := Lib.hid (HOa.out.on hb)
  replace HOb := Lib.hid (HOb.out.on hb)
  replace HOc := Lib.hid (HOc.out.on hb)
  replace HOs := Lib.hid (HOs.out.on hb)
  replace HOt := Lib.hid (HOt.out.on hb)
  replace HB : Hid (Below w.heap.size w w6) := bstep HB.out hb
  have HOp := Lib.hid ho
  clear h ho hb
  obtain ⟨⟨xa0, xa1, xa2⟩, ya0, ya1, ya2⟩ := HCa.out
  have lta := HCa.out.lt
  obtain ⟨⟨xb0, xb1, xb2⟩, yb0, yb1, yb2⟩ := HCb.out
  have ltb := HCb.out.lt
  obtain ⟨⟨xc0, xc1, xc2⟩, yc0, yc1, yc2⟩ := HCc.out
  have ltc := HCc.out.lt
  obtain ⟨⟨xs0, xs1, xs2⟩, ys0, ys1, ys2⟩ := HCs.out
  have lts := HCs.out.lt
  obtain ⟨⟨xt0, xt1, xt2⟩, yt0, yt1, yt2⟩ := HCt.out
  have ltt := HCt.out.lt
  go_wp2_with fail
  clear xa0 xa1 xa2 ya0 ya1 ya2 lta xb0 xb1 xb2 yb0 yb1 yb2 ltb xc0 xc1 xc2 yc0 yc1 yc2 ltc xs0 xs1 xs2 ys0 ys1 ys2 lts xt0 xt1 xt2 yt0 yt1 yt2 ltt
  obtain ⟨w7, hw⟩ : ∃ W, W = w6.alloc (.cells #[.bool zbp, .slice zAp znp zdp, .slice zBp zmp zqp] 25) := ⟨_, rfl⟩
  have hb : Below w6.heap.size w6 w7 := by rw [hw]; exact below_alloc _ _
  obtain ⟨gp, hg⟩ : ∃ g, g = w6.heap.size := ⟨_, rfl⟩
  have hcn : Cel w7 gp (.bool zbp) (.slice zAp znp zdp) (.slice zBp zmp zqp) := by rw [hw, hg]; exact Cel.new _ _ _ _ _
  rw [← hw]
  rw [← hg]
  replace HCa := Lib.hid (HCa.out.on hb)
  replace HCb := Lib.hid (HCb.out.on hb)
  replace HCc := Lib.hid (HCc.out.on hb)
  replace HCs := Lib.hid (HCs.out.on hb)
  replace HCt := Lib.hid (HCt.out.on hb)
  replace HOa := Lib.hid (HOa.out.on hb)
  replace HOb := Lib.hid (HOb.out.on hb)
  replace HOc := Lib.hid (HOc.out.on hb)
  replace HOs := Lib.hid (HOs.out.on hb)
  replace HOt := Lib.hid (HOt.out.on hb)
  replace HOp := Lib.hid (HOp.out.on hb)
  replace HB : Hid (Below w.heap.size w w7) := bstep HB.out hb
  have HCp := Lib.hid hcn
  clear hw hb hg hcn
  refine (rat_Mul bb xsb ysb ba xsa ysa _ _ _ HOb.out HOa.out).mono ?_
  rw [(mulE_swap ba xsa ysa bb xsb ysb).1, (mulE_swap ba xsa ysa bb xsb ysb).2, ← HG.out]
  rintro e w8 h
  obtain ⟨zbq, zAq, znq, zdq, zBq, zmq, zqq, rfl, ho, hb⟩ := h.open_
  replace HCa := Lib.hid (HCa.out.on hb)
  replace HCb := Lib.hid (HCb.out.on hb)
  replace HCc := Lib.hid (HCc.out.on hb)
  replace HCs := Lib.hid (HCs.out.on hb)
  replace HCt := Lib.hid (HCt.out.on hb)
  replace HCp := Lib.hid (HCp.out.on hb)
  replace HOa := Lib.hid (HOa.out.on hb)
  replace HOb := Lib.hid (HOb.out.on hb)
  replace HOc := Lib.hid (HOc.out.on hb)
  replace HOs := Lib.hid (HOs.out.on hb)
  replace HOt := Lib.hid (HOt.out.on hb)
  replace HOp := Lib.hid (HOp.out.on hb)
  replace HB : Hid (Below w.heap.size w w8) := bstep HB.out hb
  have HOq := Lib.hid ho
  clear h ho hb
  obtain ⟨⟨xa0, xa1, xa2⟩, ya0, ya1, ya2⟩ := HCa.out
  have lta := HCa.out.lt
  obtain ⟨⟨xb0, xb1, xb2⟩, yb0, yb1, yb2⟩ := HCb.out
  have ltb := HCb.out.lt
  obtain ⟨⟨xc0, xc1, xc2⟩, yc0, yc1, yc2⟩ := HCc.out
  have ltc := HCc.out.lt
  obtain ⟨⟨xs0, xs1, xs2⟩, ys0, ys1, ys2⟩ := HCs.out
  have lts := HCs.out.lt
  obtain ⟨⟨xt0, xt1, xt2⟩, yt0, yt1, yt2⟩ := HCt.out
  have ltt := HCt.out.lt
  obtain ⟨⟨xp0, xp1, xp2⟩, yp0, yp1, yp2⟩ := HCp.out
  have ltp := HCp.out.lt
  go_wp2_with fail
  clear xa0 xa1 xa2 ya0 ya1 ya2 lta xb0 xb1 xb2 yb0 yb1 yb2 ltb xc0 xc1 xc2 yc0 yc1 yc2 ltc xs0 xs1 xs2 ys0 ys1 ys2 lts xt0 xt1 xt2 yt0 yt1 yt2 ltt xp0 xp1 xp2 yp0 yp1 yp2 ltp
  obtain ⟨w9, hw⟩ : ∃ W, W = w8.alloc (.cells #[.bool zbq, .slice zAq znq zdq, .slice zBq zmq zqq] 25) := ⟨_, rfl⟩
  have hb : Below w8.heap.size w8 w9 := by rw [hw]; exact below_alloc _ _
  obtain ⟨gq, hg⟩ : ∃ g, g = w8.heap.size := ⟨_, rfl⟩
  have hcn : Cel w9 gq (.bool zbq) (.slice zAq znq zdq) (.slice zBq zmq zqq) := by rw [hw, hg]; exact Cel.new _ _ _ _ _
  rw [← hw]
  rw [← hg]
  replace HCa := Lib.hid (HCa.out.on hb)
  replace HCb := Lib.hid (HCb.out.on hb)
  replace HCc := Lib.hid (HCc.out.on hb)
  replace HCs := Lib.hid (HCs.out.on hb)
  replace HCt := Lib.hid (HCt.out.on hb)
  replace HCp := Lib.hid (HCp.out.on hb)
  replace HOa := Lib.hid (HOa.out.on hb)
  replace HOb := Lib.hid (HOb.out.on hb)
  replace HOc := Lib.hid (HOc.out.on hb)
  replace HOs := Lib.hid (HOs.out.on hb)
  replace HOt := Lib.hid (HOt.out.on hb)
  replace HOp := Lib.hid (HOp.out.on hb)
  replace HOq := Lib.hid (HOq.out.on hb)
  replace HB : Hid (Below w.heap.size w w9) := bstep HB.out hb
  have HCq := Lib.hid hcn
  clear hw hb hg hcn
  refine (same_out HOs.out HOt.out).mono ?_
  rintro e w10 ⟨rfl, hb⟩
  replace HCa := Lib.hid (HCa.out.on hb)
  replace HCb := Lib.hid (HCb.out.on hb)
  replace HCc := Lib.hid (HCc.out.on hb)
  replace HCs := Lib.hid (HCs.out.on hb)
  replace HCt := Lib.hid (HCt.out.on hb)
  replace HCp := Lib.hid (HCp.out.on hb)
  replace HCq := Lib.hid (HCq.out.on hb)
  replace HOa := Lib.hid (HOa.out.on hb)
  replace HOb := Lib.hid (HOb.out.on hb)
  replace HOc := Lib.hid (HOc.out.on hb)
  replace HOs := Lib.hid (HOs.out.on hb)
  replace HOt := Lib.hid (HOt.out.on hb)
  replace HOp := Lib.hid (HOp.out.on hb)
  replace HOq := Lib.hid (HOq.out.on hb)
  replace HB : Hid (Below w.heap.size w w10) := bstep HB.out hb
  clear hb
  obtain ⟨⟨xa0, xa1, xa2⟩, ya0, ya1, ya2⟩ := HCa.out
  have lta := HCa.out.lt
  obtain ⟨⟨xb0, xb1, xb2⟩, yb0, yb1, yb2⟩ := HCb.out
  have ltb := HCb.out.lt
  obtain ⟨⟨xc0, xc1, xc2⟩, yc0, yc1, yc2⟩ := HCc.out
  have ltc := HCc.out.lt
  obtain ⟨⟨xs0, xs1, xs2⟩, ys0, ys1, ys2⟩ := HCs.out
  have lts := HCs.out.lt
  obtain ⟨⟨xt0, xt1, xt2⟩, yt0, yt1, yt2⟩ := HCt.out
  have ltt := HCt.out.lt
  obtain ⟨⟨xp0, xp1, xp2⟩, yp0, yp1, yp2⟩ := HCp.out
  have ltp := HCp.out.lt
  obtain ⟨⟨xq0, xq1, xq2⟩, yq0, yq1, yq2⟩ := HCq.out
  have ltq := HCq.out.lt
  go_wp2_with fail
  clear xa0 xa1 xa2 ya0 ya1 ya2 lta xb0 xb1 xb2 yb0 yb1 yb2 ltb xc0 xc1 xc2 yc0 yc1 yc2 ltc xs0 xs1 xs2 ys0 ys1 ys2 lts xt0 xt1 xt2 yt0 yt1 yt2 ltt xp0 xp1 xp2 yp0 yp1 yp2 ltp xq0 xq1 xq2 yq0 yq1 yq2 ltq
  refine (same_out HOp.out HOq.out).mono ?_
  rintro e w11 ⟨rfl, hb⟩
  replace HCa := Lib.hid (HCa.out.on hb)
  replace HCb := Lib.hid (HCb.out.on hb)
  replace HCc := Lib.hid (HCc.out.on hb)
  replace HCs := Lib.hid (HCs.out.on hb)
  replace HCt := Lib.hid (HCt.out.on hb)
  replace HCp := Lib.hid (HCp.out.on hb)
  replace HCq := Lib.hid (HCq.out.on hb)
  replace HOa := Lib.hid (HOa.out.on hb)
  replace HOb := Lib.hid (HOb.out.on hb)
  replace HOc := Lib.hid (HOc.out.on hb)
  replace HOs := Lib.hid (HOs.out.on hb)
  replace HOt := Lib.hid (HOt.out.on hb)
  replace HOp := Lib.hid (HOp.out.on hb)
  replace HOq := Lib.hid (HOq.out.on hb)
  replace HB : Hid (Below w.heap.size w w11) := bstep HB.out hb
  clear hb
  clear HCt HOt
  clear HCq HOq
  obtain ⟨⟨xa0, xa1, xa2⟩, ya0, ya1, ya2⟩ := HCa.out
  have lta := HCa.out.lt
  obtain ⟨⟨xb0, xb1, xb2⟩, yb0, yb1, yb2⟩ := HCb.out
  have ltb := HCb.out.lt
  obtain ⟨⟨xc0, xc1, xc2⟩, yc0, yc1, yc2⟩ := HCc.out
  have ltc := HCc.out.lt
  obtain ⟨⟨xs0, xs1, xs2⟩, ys0, ys1, ys2⟩ := HCs.out
  have lts := HCs.out.lt
  obtain ⟨⟨xp0, xp1, xp2⟩, yp0, yp1, yp2⟩ := HCp.out
  have ltp := HCp.out.lt
  go_wp2_with fail
  clear xa0 xa1 xa2 ya0 ya1 ya2 lta xb0 xb1 xb2 yb0 yb1 yb2 ltb xc0 xc1 xc2 yc0 yc1 yc2 ltc xs0 xs1 xs2 ys0 ys1 ys2 lts xp0 xp1 xp2 yp0 yp1 yp2 ltp
  obtain ⟨I, hI⟩ : ∃ x : Int, x = opE subOk (tB E (opV addOp ba xsa ysa bb xsb ysb)) (tX E (opV addOp ba xsa ysa bb xsb ysb)) (tY E (opV addOp ba xsa ysa bb xsb ysb)) bb xsb ysb := ⟨_, rfl⟩
  refine (rat_Sub (tB E (opV addOp ba xsa ysa bb xsb ysb)) (tX E (opV addOp ba xsa ysa bb xsb ysb)) (tY E (opV addOp ba xsa ysa bb xsb ysb)) bb xsb ysb _ _ _ HOs.out.inr HOb.out).mono ?_
  rw [← hI]
  have HI := Lib.hid hI
  clear hI
  rintro e w12 h
  obtain ⟨zbx, zAx, znx, zdx, zBx, zmx, zqx, rfl, ho, hb⟩ := h.open_
  replace HCa := Lib.hid (HCa.out.on hb)
  replace HCb := Lib.hid (HCb.out.on hb)
  replace HCc := Lib.hid (HCc.out.on hb)
  replace HCs := Lib.hid (HCs.out.on hb)
  replace HCp := Lib.hid (HCp.out.on hb)
  replace HOa := Lib.hid (HOa.out.on hb)
  replace HOb := Lib.hid (HOb.out.on hb)
  replace HOc := Lib.hid (HOc.out.on hb)
  replace HOs := Lib.hid (HOs.out.on hb)
  replace HOp := Lib.hid (HOp.out.on hb)
  replace HB : Hid (Below w.heap.size w w12) := bstep HB.out hb
  have HOx := Lib.hid ho
  clear h ho hb
  obtain ⟨⟨xa0, xa1, xa2⟩, ya0, ya1, ya2⟩ := HCa.out
  have lta := HCa.out.lt
  obtain ⟨⟨xb0, xb1, xb2⟩, yb0, yb1, yb2⟩ := HCb.out
  have ltb := HCb.out.lt
  obtain ⟨⟨xc0, xc1, xc2⟩, yc0, yc1, yc2⟩ := HCc.out
  have ltc := HCc.out.lt
  obtain ⟨⟨xs0, xs1, xs2⟩, ys0, ys1, ys2⟩ := HCs.out
  have lts := HCs.out.lt
  obtain ⟨⟨xp0, xp1, xp2⟩, yp0, yp1, yp2⟩ := HCp.out
  have ltp := HCp.out.lt
  go_upto_region 8 with fail
  clear xa0 xa1 xa2 ya0 ya1 ya2 lta xb0 xb1 xb2 yb0 yb1 yb2 ltb xc0 xc1 xc2 yc0 yc1 yc2 ltc xs0 xs1 xs2 ys0 ys1 ys2 lts xp0 xp1 xp2 yp0 yp1 yp2 ltp
  obtain ⟨w13, hw⟩ : ∃ W, W = w12.alloc (.cells #[.bool zbx, .slice zAx znx zdx, .slice zBx zmx zqx] 25) := ⟨_, rfl⟩
  have hb : Below w12.heap.size w12 w13 := by rw [hw]; exact below_alloc _ _
  obtain ⟨gx, hg⟩ : ∃ g, g = w12.heap.size := ⟨_, rfl⟩
  have hcn : Cel w13 gx (.bool zbx) (.slice zAx znx zdx) (.slice zBx zmx zqx) := by rw [hw, hg]; exact Cel.new _ _ _ _ _
  rw [← hw]
  rw [← hg]
  replace HCa := Lib.hid (HCa.out.on hb)
  replace HCb := Lib.hid (HCb.out.on hb)
  replace HCc := Lib.hid (HCc.out.on hb)
  replace HCs := Lib.hid (HCs.out.on hb)
  replace HCp := Lib.hid (HCp.out.on hb)
  replace HOa := Lib.hid (HOa.out.on hb)
  replace HOb := Lib.hid (HOb.out.on hb)
  replace HOc := Lib.hid (HOc.out.on hb)
  replace HOs := Lib.hid (HOs.out.on hb)
  replace HOp := Lib.hid (HOp.out.on hb)
  replace HOx := Lib.hid (HOx.out.on hb)
  replace HB : Hid (Below w.heap.size w w13) := bstep HB.out hb
  have HCx := Lib.hid hcn
  clear hw hb hg hcn
  go_cut [90] (fun s wx => s = .bool false ∧ Below w13.heap.size w13 wx)
  case first =>
    by_cases hE : E = 0
    · subst hE
      by_cases hI : I = 0
      · subst hI
        obtain ⟨r, hr, rfl, rfl, rfl, hv⟩ := fld_sub HE.out.symm
        rw [hv] at HOx
        clear hv hr
        obtain ⟨⟨xa0, xa1, xa2⟩, ya0, ya1, ya2⟩ := HCa.out
        have lta := HCa.out.lt
        obtain ⟨⟨xb0, xb1, xb2⟩, yb0, yb1, yb2⟩ := HCb.out
        have ltb := HCb.out.lt
        obtain ⟨⟨xc0, xc1, xc2⟩, yc0, yc1, yc2⟩ := HCc.out
        have ltc := HCc.out.lt
        obtain ⟨⟨xs0, xs1, xs2⟩, ys0, ys1, ys2⟩ := HCs.out
        have lts := HCs.out.lt
        obtain ⟨⟨xp0, xp1, xp2⟩, yp0, yp1, yp2⟩ := HCp.out
        have ltp := HCp.out.lt
        obtain ⟨⟨xx0, xx1, xx2⟩, yx0, yx1, yx2⟩ := HCx.out
        have ltx := HCx.out.lt
        go_wp2_with fail
        clear xa0 xa1 xa2 ya0 ya1 ya2 lta xb0 xb1 xb2 yb0 yb1 yb2 ltb xc0 xc1 xc2 yc0 yc1 yc2 ltc xs0 xs1 xs2 ys0 ys1 ys2 lts xp0 xp1 xp2 yp0 yp1 yp2 ltp xx0 xx1 xx2 yx0 yx1 yx2 ltx
        refine (same_out HOx.out (form_of HOa.out)).mono ?_
        rintro e wv ⟨rfl, hb⟩
        have HM := Lib.hid hb
        clear hb
        go_wp2_with fail
        go_meet
        exact ⟨rfl, HM.out⟩
      · skip
        have e1 := ne_test hI
        clear hI
        obtain ⟨⟨xa0, xa1, xa2⟩, ya0, ya1, ya2⟩ := HCa.out
        have lta := HCa.out.lt
        obtain ⟨⟨xb0, xb1, xb2⟩, yb0, yb1, yb2⟩ := HCb.out
        have ltb := HCb.out.lt
        obtain ⟨⟨xc0, xc1, xc2⟩, yc0, yc1, yc2⟩ := HCc.out
        have ltc := HCc.out.lt
        obtain ⟨⟨xs0, xs1, xs2⟩, ys0, ys1, ys2⟩ := HCs.out
        have lts := HCs.out.lt
        obtain ⟨⟨xp0, xp1, xp2⟩, yp0, yp1, yp2⟩ := HCp.out
        have ltp := HCp.out.lt
        obtain ⟨⟨xx0, xx1, xx2⟩, yx0, yx1, yx2⟩ := HCx.out
        have ltx := HCx.out.lt
        go_wp2_with fail
        go_meet
        exact ⟨rfl, Below.refl _ _⟩
    · skip
      have e1 := ne_test hE
      clear hE
      obtain ⟨⟨xa0, xa1, xa2⟩, ya0, ya1, ya2⟩ := HCa.out
      have lta := HCa.out.lt
      obtain ⟨⟨xb0, xb1, xb2⟩, yb0, yb1, yb2⟩ := HCb.out
      have ltb := HCb.out.lt
      obtain ⟨⟨xc0, xc1, xc2⟩, yc0, yc1, yc2⟩ := HCc.out
      have ltc := HCc.out.lt
      obtain ⟨⟨xs0, xs1, xs2⟩, ys0, ys1, ys2⟩ := HCs.out
      have lts := HCs.out.lt
      obtain ⟨⟨xp0, xp1, xp2⟩, yp0, yp1, yp2⟩ := HCp.out
      have ltp := HCp.out.lt
      obtain ⟨⟨xx0, xx1, xx2⟩, yx0, yx1, yx2⟩ := HCx.out
      have ltx := HCx.out.lt
      go_wp2_with fail
      go_meet
      exact ⟨rfl, Below.refl _ _⟩
  case rest =>
    obtain ⟨rfl, hb⟩ := hcut
    obtain ⟨w14, hw⟩ : ∃ W, W = wc := ⟨_, rfl⟩
    rw [← hw] at hb ⊢
    replace HCa := Lib.hid (HCa.out.on hb)
    replace HCb := Lib.hid (HCb.out.on hb)
    replace HCc := Lib.hid (HCc.out.on hb)
    replace HCs := Lib.hid (HCs.out.on hb)
    replace HCp := Lib.hid (HCp.out.on hb)
    replace HCx := Lib.hid (HCx.out.on hb)
    replace HOa := Lib.hid (HOa.out.on hb)
    replace HOb := Lib.hid (HOb.out.on hb)
    replace HOc := Lib.hid (HOc.out.on hb)
    replace HOs := Lib.hid (HOs.out.on hb)
    replace HOp := Lib.hid (HOp.out.on hb)
    replace HOx := Lib.hid (HOx.out.on hb)
    replace HB : Hid (Below w.heap.size w w14) := bstep HB.out hb
    clear hb hw
    clear HCx HOx HI
    obtain ⟨⟨xa0, xa1, xa2⟩, ya0, ya1, ya2⟩ := HCa.out
    have lta := HCa.out.lt
    obtain ⟨⟨xb0, xb1, xb2⟩, yb0, yb1, yb2⟩ := HCb.out
    have ltb := HCb.out.lt
    obtain ⟨⟨xc0, xc1, xc2⟩, yc0, yc1, yc2⟩ := HCc.out
    have ltc := HCc.out.lt
    obtain ⟨⟨xs0, xs1, xs2⟩, ys0, ys1, ys2⟩ := HCs.out
    have lts := HCs.out.lt
    obtain ⟨⟨xp0, xp1, xp2⟩, yp0, yp1, yp2⟩ := HCp.out
    have ltp := HCp.out.lt
    go_wp2_with fail
    clear xa0 xa1 xa2 ya0 ya1 ya2 lta xb0 xb1 xb2 yb0 yb1 yb2 ltb xc0 xc1 xc2 yc0 yc1 yc2 ltc xs0 xs1 xs2 ys0 ys1 ys2 lts xp0 xp1 xp2 yp0 yp1 yp2 ltp
    obtain ⟨I, hI⟩ : ∃ x : Int, x = opG divEr (tB G (opV mulOp ba xsa ysa bb xsb ysb)) (tX G (opV mulOp ba xsa ysa bb xsb ysb)) (tY G (opV mulOp ba xsa ysa bb xsb ysb)) bb xsb ysb := ⟨_, rfl⟩
    refine (rat_Div (tB G (opV mulOp ba xsa ysa bb xsb ysb)) (tX G (opV mulOp ba xsa ysa bb xsb ysb)) (tY G (opV mulOp ba xsa ysa bb xsb ysb)) bb xsb ysb _ _ _ HOp.out.inr HOb.out).mono ?_
    rw [← hI]
    have HI := Lib.hid hI
    clear hI
    rintro e w15 h
    obtain ⟨zby, zAy, zny, zdy, zBy, zmy, zqy, rfl, ho, hb⟩ := h.open_
    replace HCa := Lib.hid (HCa.out.on hb)
    replace HCb := Lib.hid (HCb.out.on hb)
    replace HCc := Lib.hid (HCc.out.on hb)
    replace HCs := Lib.hid (HCs.out.on hb)
    replace HCp := Lib.hid (HCp.out.on hb)
    replace HOa := Lib.hid (HOa.out.on hb)
    replace HOb := Lib.hid (HOb.out.on hb)
    replace HOc := Lib.hid (HOc.out.on hb)
    replace HOs := Lib.hid (HOs.out.on hb)
    replace HOp := Lib.hid (HOp.out.on hb)
    replace HB : Hid (Below w.heap.size w w15) := bstep HB.out hb
    have HOy := Lib.hid ho
    clear h ho hb
    obtain ⟨⟨xa0, xa1, xa2⟩, ya0, ya1, ya2⟩ := HCa.out
    have lta := HCa.out.lt
    obtain ⟨⟨xb0, xb1, xb2⟩, yb0, yb1, yb2⟩ := HCb.out
    have ltb := HCb.out.lt
    obtain ⟨⟨xc0, xc1, xc2⟩, yc0, yc1, yc2⟩ := HCc.out
    have ltc := HCc.out.lt
    obtain ⟨⟨xs0, xs1, xs2⟩, ys0, ys1, ys2⟩ := HCs.out
    have lts := HCs.out.lt
    obtain ⟨⟨xp0, xp1, xp2⟩, yp0, yp1, yp2⟩ := HCp.out
    have ltp := HCp.out.lt
    go_upto_region 11 with fail
    clear xa0 xa1 xa2 ya0 ya1 ya2 lta xb0 xb1 xb2 yb0 yb1 yb2 ltb xc0 xc1 xc2 yc0 yc1 yc2 ltc xs0 xs1 xs2 ys0 ys1 ys2 lts xp0 xp1 xp2 yp0 yp1 yp2 ltp
    obtain ⟨w16, hw⟩ : ∃ W, W = w15.alloc (.cells #[.bool zby, .slice zAy zny zdy, .slice zBy zmy zqy] 25) := ⟨_, rfl⟩
    have hb : Below w15.heap.size w15 w16 := by rw [hw]; exact below_alloc _ _
    obtain ⟨gy, hg⟩ : ∃ g, g = w15.heap.size := ⟨_, rfl⟩
    have hcn : Cel w16 gy (.bool zby) (.slice zAy zny zdy) (.slice zBy zmy zqy) := by rw [hw, hg]; exact Cel.new _ _ _ _ _
    rw [← hw]
    rw [← hg]
    replace HCa := Lib.hid (HCa.out.on hb)
    replace HCb := Lib.hid (HCb.out.on hb)
    replace HCc := Lib.hid (HCc.out.on hb)
    replace HCs := Lib.hid (HCs.out.on hb)
    replace HCp := Lib.hid (HCp.out.on hb)
    replace HOa := Lib.hid (HOa.out.on hb)
    replace HOb := Lib.hid (HOb.out.on hb)
    replace HOc := Lib.hid (HOc.out.on hb)
    replace HOs := Lib.hid (HOs.out.on hb)
    replace HOp := Lib.hid (HOp.out.on hb)
    replace HOy := Lib.hid (HOy.out.on hb)
    replace HB : Hid (Below w.heap.size w w16) := bstep HB.out hb
    have HCy := Lib.hid hcn
    clear hw hb hg hcn
    go_cut [108] (fun s wx => s = .bool false ∧ Below w16.heap.size w16 wx)
    case first =>
      by_cases hG : G = 0
      · subst hG
        by_cases hI : I = 0
        · subst hI
          obtain ⟨r, hr, rfl, rfl, rfl, hv⟩ := fld_div HG.out.symm HI.out.symm
          rw [hv] at HOy
          clear hv hr
          obtain ⟨⟨xa0, xa1, xa2⟩, ya0, ya1, ya2⟩ := HCa.out
          have lta := HCa.out.lt
          obtain ⟨⟨xb0, xb1, xb2⟩, yb0, yb1, yb2⟩ := HCb.out
          have ltb := HCb.out.lt
          obtain ⟨⟨xc0, xc1, xc2⟩, yc0, yc1, yc2⟩ := HCc.out
          have ltc := HCc.out.lt
          obtain ⟨⟨xs0, xs1, xs2⟩, ys0, ys1, ys2⟩ := HCs.out
          have lts := HCs.out.lt
          obtain ⟨⟨xp0, xp1, xp2⟩, yp0, yp1, yp2⟩ := HCp.out
          have ltp := HCp.out.lt
          obtain ⟨⟨xy0, xy1, xy2⟩, yy0, yy1, yy2⟩ := HCy.out
          have lty := HCy.out.lt
          go_wp2_with fail
          clear xa0 xa1 xa2 ya0 ya1 ya2 lta xb0 xb1 xb2 yb0 yb1 yb2 ltb xc0 xc1 xc2 yc0 yc1 yc2 ltc xs0 xs1 xs2 ys0 ys1 ys2 lts xp0 xp1 xp2 yp0 yp1 yp2 ltp xy0 xy1 xy2 yy0 yy1 yy2 lty
          refine (same_out HOy.out (form_of HOa.out)).mono ?_
          rintro e wv ⟨rfl, hb⟩
          have HM := Lib.hid hb
          clear hb
          go_wp2_with fail
          go_meet
          exact ⟨rfl, HM.out⟩
        · skip
          have e1 := ne_test hI
          clear hI
          obtain ⟨⟨xa0, xa1, xa2⟩, ya0, ya1, ya2⟩ := HCa.out
          have lta := HCa.out.lt
          obtain ⟨⟨xb0, xb1, xb2⟩, yb0, yb1, yb2⟩ := HCb.out
          have ltb := HCb.out.lt
          obtain ⟨⟨xc0, xc1, xc2⟩, yc0, yc1, yc2⟩ := HCc.out
          have ltc := HCc.out.lt
          obtain ⟨⟨xs0, xs1, xs2⟩, ys0, ys1, ys2⟩ := HCs.out
          have lts := HCs.out.lt
          obtain ⟨⟨xp0, xp1, xp2⟩, yp0, yp1, yp2⟩ := HCp.out
          have ltp := HCp.out.lt
          obtain ⟨⟨xy0, xy1, xy2⟩, yy0, yy1, yy2⟩ := HCy.out
          have lty := HCy.out.lt
          go_wp2_with fail
          go_meet
          exact ⟨rfl, Below.refl _ _⟩
      · skip
        have e1 := ne_test hG
        clear hG
        obtain ⟨⟨xa0, xa1, xa2⟩, ya0, ya1, ya2⟩ := HCa.out
        have lta := HCa.out.lt
        obtain ⟨⟨xb0, xb1, xb2⟩, yb0, yb1, yb2⟩ := HCb.out
        have ltb := HCb.out.lt
        obtain ⟨⟨xc0, xc1, xc2⟩, yc0, yc1, yc2⟩ := HCc.out
        have ltc := HCc.out.lt
        obtain ⟨⟨xs0, xs1, xs2⟩, ys0, ys1, ys2⟩ := HCs.out
        have lts := HCs.out.lt
        obtain ⟨⟨xp0, xp1, xp2⟩, yp0, yp1, yp2⟩ := HCp.out
        have ltp := HCp.out.lt
        obtain ⟨⟨xy0, xy1, xy2⟩, yy0, yy1, yy2⟩ := HCy.out
        have lty := HCy.out.lt
        go_wp2_with fail
        go_meet
        exact ⟨rfl, Below.refl _ _⟩
    case rest =>
      obtain ⟨rfl, hb⟩ := hcut
      obtain ⟨w17, hw⟩ : ∃ W, W = wc := ⟨_, rfl⟩
      rw [← hw] at hb ⊢
      replace HCa := Lib.hid (HCa.out.on hb)
      replace HCb := Lib.hid (HCb.out.on hb)
      replace HCc := Lib.hid (HCc.out.on hb)
      replace HCs := Lib.hid (HCs.out.on hb)
      replace HCp := Lib.hid (HCp.out.on hb)
      replace HCy := Lib.hid (HCy.out.on hb)
      replace HOa := Lib.hid (HOa.out.on hb)
      replace HOb := Lib.hid (HOb.out.on hb)
      replace HOc := Lib.hid (HOc.out.on hb)
      replace HOs := Lib.hid (HOs.out.on hb)
      replace HOp := Lib.hid (HOp.out.on hb)
      replace HOy := Lib.hid (HOy.out.on hb)
      replace HB : Hid (Below w.heap.size w w17) := bstep HB.out hb
      clear hb hw
      clear HCy HOy HI
      obtain ⟨⟨xa0, xa1, xa2⟩, ya0, ya1, ya2⟩ := HCa.out
      have lta := HCa.out.lt
      obtain ⟨⟨xb0, xb1, xb2⟩, yb0, yb1, yb2⟩ := HCb.out
      have ltb := HCb.out.lt
      obtain ⟨⟨xc0, xc1, xc2⟩, yc0, yc1, yc2⟩ := HCc.out
      have ltc := HCc.out.lt
      obtain ⟨⟨xs0, xs1, xs2⟩, ys0, ys1, ys2⟩ := HCs.out
      have lts := HCs.out.lt
      obtain ⟨⟨xp0, xp1, xp2⟩, yp0, yp1, yp2⟩ := HCp.out
      have ltp := HCp.out.lt
      go_wp2_with fail
      clear xa0 xa1 xa2 ya0 ya1 ya2 lta xb0 xb1 xb2 yb0 yb1 yb2 ltb xc0 xc1 xc2 yc0 yc1 yc2 ltc xs0 xs1 xs2 ys0 ys1 ys2 lts xp0 xp1 xp2 yp0 yp1 yp2 ltp
      obtain ⟨I, hI⟩ : ∃ x : Int, x = opE subOk ba xsa ysa ba xsa ysa := ⟨_, rfl⟩
      refine (rat_Sub ba xsa ysa ba xsa ysa _ _ _ HOa.out HOa.out).mono ?_
      rw [← hI]
      have HI := Lib.hid hI
      clear hI
      rintro e w18 h
      obtain ⟨zbz, zAz, znz, zdz, zBz, zmz, zqz, rfl, ho, hb⟩ := h.open_
      replace HCa := Lib.hid (HCa.out.on hb)
      replace HCb := Lib.hid (HCb.out.on hb)
      replace HCc := Lib.hid (HCc.out.on hb)
      replace HCs := Lib.hid (HCs.out.on hb)
      replace HCp := Lib.hid (HCp.out.on hb)
      replace HOa := Lib.hid (HOa.out.on hb)
      replace HOb := Lib.hid (HOb.out.on hb)
      replace HOc := Lib.hid (HOc.out.on hb)
      replace HOs := Lib.hid (HOs.out.on hb)
      replace HOp := Lib.hid (HOp.out.on hb)
      replace HB : Hid (Below w.heap.size w w18) := bstep HB.out hb
      have HOz := Lib.hid ho
      clear h ho hb
      obtain ⟨⟨xa0, xa1, xa2⟩, ya0, ya1, ya2⟩ := HCa.out
      have lta := HCa.out.lt
      obtain ⟨⟨xb0, xb1, xb2⟩, yb0, yb1, yb2⟩ := HCb.out
      have ltb := HCb.out.lt
      obtain ⟨⟨xc0, xc1, xc2⟩, yc0, yc1, yc2⟩ := HCc.out
      have ltc := HCc.out.lt
      obtain ⟨⟨xs0, xs1, xs2⟩, ys0, ys1, ys2⟩ := HCs.out
      have lts := HCs.out.lt
      obtain ⟨⟨xp0, xp1, xp2⟩, yp0, yp1, yp2⟩ := HCp.out
      have ltp := HCp.out.lt
      go_upto_region 14 with fail
      clear xa0 xa1 xa2 ya0 ya1 ya2 lta xb0 xb1 xb2 yb0 yb1 yb2 ltb xc0 xc1 xc2 yc0 yc1 yc2 ltc xs0 xs1 xs2 ys0 ys1 ys2 lts xp0 xp1 xp2 yp0 yp1 yp2 ltp
      obtain ⟨w19, hw⟩ : ∃ W, W = w18.alloc (.cells #[.bool zbz, .slice zAz znz zdz, .slice zBz zmz zqz] 25) := ⟨_, rfl⟩
      have hb : Below w18.heap.size w18 w19 := by rw [hw]; exact below_alloc _ _
      obtain ⟨gz, hg⟩ : ∃ g, g = w18.heap.size := ⟨_, rfl⟩
      have hcn : Cel w19 gz (.bool zbz) (.slice zAz znz zdz) (.slice zBz zmz zqz) := by rw [hw, hg]; exact Cel.new _ _ _ _ _
      rw [← hw]
      rw [← hg]
      replace HCa := Lib.hid (HCa.out.on hb)
      replace HCb := Lib.hid (HCb.out.on hb)
      replace HCc := Lib.hid (HCc.out.on hb)
      replace HCs := Lib.hid (HCs.out.on hb)
      replace HCp := Lib.hid (HCp.out.on hb)
      replace HOa := Lib.hid (HOa.out.on hb)
      replace HOb := Lib.hid (HOb.out.on hb)
      replace HOc := Lib.hid (HOc.out.on hb)
      replace HOs := Lib.hid (HOs.out.on hb)
      replace HOp := Lib.hid (HOp.out.on hb)
      replace HOz := Lib.hid (HOz.out.on hb)
      replace HB : Hid (Below w.heap.size w w19) := bstep HB.out hb
      have HCz := Lib.hid hcn
      clear hw hb hg hcn
      go_cut [132] (fun s wx => s = .bool false ∧ Below w19.heap.size w19 wx)
      case first =>
        by_cases hI : I = 0
        · subst hI
          rw [fld_self HI.out.symm] at HOz
          have hz := HOz.out.zero'
          unfold IsR at hz
          rw [zero_form.1, zero_form.2.1, zero_form.2.2] at hz
          obtain ⟨_, _, e, hz1, hz2⟩ := hz
          cases e
          obtain ⟨_, _, e, -⟩ := hz1
          cases e
          obtain ⟨_, _, e, -⟩ := hz2
          cases e
          obtain ⟨⟨xa0, xa1, xa2⟩, ya0, ya1, ya2⟩ := HCa.out
          have lta := HCa.out.lt
          obtain ⟨⟨xb0, xb1, xb2⟩, yb0, yb1, yb2⟩ := HCb.out
          have ltb := HCb.out.lt
          obtain ⟨⟨xc0, xc1, xc2⟩, yc0, yc1, yc2⟩ := HCc.out
          have ltc := HCc.out.lt
          obtain ⟨⟨xs0, xs1, xs2⟩, ys0, ys1, ys2⟩ := HCs.out
          have lts := HCs.out.lt
          obtain ⟨⟨xp0, xp1, xp2⟩, yp0, yp1, yp2⟩ := HCp.out
          have ltp := HCp.out.lt
          obtain ⟨⟨xz0, xz1, xz2⟩, yz0, yz1, yz2⟩ := HCz.out
          have ltz := HCz.out.lt
          go_wp2_with fail
          go_meet
          exact ⟨rfl, Below.refl _ _⟩
        · skip
          have e1 := ne_test hI
          clear hI
          obtain ⟨⟨xa0, xa1, xa2⟩, ya0, ya1, ya2⟩ := HCa.out
          have lta := HCa.out.lt
          obtain ⟨⟨xb0, xb1, xb2⟩, yb0, yb1, yb2⟩ := HCb.out
          have ltb := HCb.out.lt
          obtain ⟨⟨xc0, xc1, xc2⟩, yc0, yc1, yc2⟩ := HCc.out
          have ltc := HCc.out.lt
          obtain ⟨⟨xs0, xs1, xs2⟩, ys0, ys1, ys2⟩ := HCs.out
          have lts := HCs.out.lt
          obtain ⟨⟨xp0, xp1, xp2⟩, yp0, yp1, yp2⟩ := HCp.out
          have ltp := HCp.out.lt
          obtain ⟨⟨xz0, xz1, xz2⟩, yz0, yz1, yz2⟩ := HCz.out
          have ltz := HCz.out.lt
          go_wp2_with fail
          go_meet
          exact ⟨rfl, Below.refl _ _⟩
      case rest =>
        obtain ⟨rfl, hb⟩ := hcut
        obtain ⟨w20, hw⟩ : ∃ W, W = wc := ⟨_, rfl⟩
        rw [← hw] at hb ⊢
        replace HCa := Lib.hid (HCa.out.on hb)
        replace HCb := Lib.hid (HCb.out.on hb)
        replace HCc := Lib.hid (HCc.out.on hb)
        replace HCs := Lib.hid (HCs.out.on hb)
        replace HCp := Lib.hid (HCp.out.on hb)
        replace HCz := Lib.hid (HCz.out.on hb)
        replace HOa := Lib.hid (HOa.out.on hb)
        replace HOb := Lib.hid (HOb.out.on hb)
        replace HOc := Lib.hid (HOc.out.on hb)
        replace HOs := Lib.hid (HOs.out.on hb)
        replace HOp := Lib.hid (HOp.out.on hb)
        replace HOz := Lib.hid (HOz.out.on hb)
        replace HB : Hid (Below w.heap.size w w20) := bstep HB.out hb
        clear hb hw
        clear HCz HOz HI HE
        clear HCs HOs
        obtain ⟨⟨xa0, xa1, xa2⟩, ya0, ya1, ya2⟩ := HCa.out
        have lta := HCa.out.lt
        obtain ⟨⟨xb0, xb1, xb2⟩, yb0, yb1, yb2⟩ := HCb.out
        have ltb := HCb.out.lt
        obtain ⟨⟨xc0, xc1, xc2⟩, yc0, yc1, yc2⟩ := HCc.out
        have ltc := HCc.out.lt
        obtain ⟨⟨xp0, xp1, xp2⟩, yp0, yp1, yp2⟩ := HCp.out
        have ltp := HCp.out.lt
        go_wp2_with fail
        clear xa0 xa1 xa2 ya0 ya1 ya2 lta xb0 xb1 xb2 yb0 yb1 yb2 ltb xc0 xc1 xc2 yc0 yc1 yc2 ltc xp0 xp1 xp2 yp0 yp1 yp2 ltp
        obtain ⟨J, hJ⟩ : ∃ x : Int, x = opE sumOk bb xsb ysb bc xsc ysc := ⟨_, rfl⟩
        refine (rat_Add bb xsb ysb bc xsc ysc _ _ _ HOb.out HOc.out).mono ?_
        rw [← hJ]
        have HJ := Lib.hid hJ
        clear hJ
        rintro e w21 h
        obtain ⟨zbu, zAu, znu, zdu, zBu, zmu, zqu, rfl, ho, hb⟩ := h.open_
        replace HCa := Lib.hid (HCa.out.on hb)
        replace HCb := Lib.hid (HCb.out.on hb)
        replace HCc := Lib.hid (HCc.out.on hb)
        replace HCp := Lib.hid (HCp.out.on hb)
        replace HOa := Lib.hid (HOa.out.on hb)
        replace HOb := Lib.hid (HOb.out.on hb)
        replace HOc := Lib.hid (HOc.out.on hb)
        replace HOp := Lib.hid (HOp.out.on hb)
        replace HB : Hid (Below w.heap.size w w21) := bstep HB.out hb
        have HOu := Lib.hid ho
        clear h ho hb
        obtain ⟨⟨xa0, xa1, xa2⟩, ya0, ya1, ya2⟩ := HCa.out
        have lta := HCa.out.lt
        obtain ⟨⟨xb0, xb1, xb2⟩, yb0, yb1, yb2⟩ := HCb.out
        have ltb := HCb.out.lt
        obtain ⟨⟨xc0, xc1, xc2⟩, yc0, yc1, yc2⟩ := HCc.out
        have ltc := HCc.out.lt
        obtain ⟨⟨xp0, xp1, xp2⟩, yp0, yp1, yp2⟩ := HCp.out
        have ltp := HCp.out.lt
        go_wp2_with fail
        clear xa0 xa1 xa2 ya0 ya1 ya2 lta xb0 xb1 xb2 yb0 yb1 yb2 ltb xc0 xc1 xc2 yc0 yc1 yc2 ltc xp0 xp1 xp2 yp0 yp1 yp2 ltp
        obtain ⟨w22, hw⟩ : ∃ W, W = w21.alloc (.cells #[.bool zbu, .slice zAu znu zdu, .slice zBu zmu zqu] 25) := ⟨_, rfl⟩
        have hb : Below w21.heap.size w21 w22 := by rw [hw]; exact below_alloc _ _
        obtain ⟨gu, hg⟩ : ∃ g, g = w21.heap.size := ⟨_, rfl⟩
        have hcn : Cel w22 gu (.bool zbu) (.slice zAu znu zdu) (.slice zBu zmu zqu) := by rw [hw, hg]; exact Cel.new _ _ _ _ _
        rw [← hw]
        rw [← hg]
        replace HCa := Lib.hid (HCa.out.on hb)
        replace HCb := Lib.hid (HCb.out.on hb)
        replace HCc := Lib.hid (HCc.out.on hb)
        replace HCp := Lib.hid (HCp.out.on hb)
        replace HOa := Lib.hid (HOa.out.on hb)
        replace HOb := Lib.hid (HOb.out.on hb)
        replace HOc := Lib.hid (HOc.out.on hb)
        replace HOp := Lib.hid (HOp.out.on hb)
        replace HOu := Lib.hid (HOu.out.on hb)
        replace HB : Hid (Below w.heap.size w w22) := bstep HB.out hb
        have HCu := Lib.hid hcn
        clear hw hb hg hcn
        obtain ⟨K, hK⟩ : ∃ x : Int, x = opE mulOk ba xsa ysa (tB J (opV addOp bb xsb ysb bc xsc ysc)) (tX J (opV addOp bb xsb ysb bc xsc ysc)) (tY J (opV addOp bb xsb ysb bc xsc ysc)) := ⟨_, rfl⟩
        refine (rat_Mul ba xsa ysa (tB J (opV addOp bb xsb ysb bc xsc ysc)) (tX J (opV addOp bb xsb ysb bc xsc ysc)) (tY J (opV addOp bb xsb ysb bc xsc ysc)) _ _ _ HOa.out HOu.out.inr).mono ?_
        rw [← hK]
        have HK := Lib.hid hK
        clear hK
        rintro e w23 h
        obtain ⟨zbv, zAv, znv, zdv, zBv, zmv, zqv, rfl, ho, hb⟩ := h.open_
        replace HCa := Lib.hid (HCa.out.on hb)
        replace HCb := Lib.hid (HCb.out.on hb)
        replace HCc := Lib.hid (HCc.out.on hb)
        replace HCp := Lib.hid (HCp.out.on hb)
        replace HCu := Lib.hid (HCu.out.on hb)
        replace HOa := Lib.hid (HOa.out.on hb)
        replace HOb := Lib.hid (HOb.out.on hb)
        replace HOc := Lib.hid (HOc.out.on hb)
        replace HOp := Lib.hid (HOp.out.on hb)
        replace HOu := Lib.hid (HOu.out.on hb)
        replace HB : Hid (Below w.heap.size w w23) := bstep HB.out hb
        have HOv := Lib.hid ho
        clear h ho hb
        obtain ⟨⟨xa0, xa1, xa2⟩, ya0, ya1, ya2⟩ := HCa.out
        have lta := HCa.out.lt
        obtain ⟨⟨xb0, xb1, xb2⟩, yb0, yb1, yb2⟩ := HCb.out
        have ltb := HCb.out.lt
        obtain ⟨⟨xc0, xc1, xc2⟩, yc0, yc1, yc2⟩ := HCc.out
        have ltc := HCc.out.lt
        obtain ⟨⟨xp0, xp1, xp2⟩, yp0, yp1, yp2⟩ := HCp.out
        have ltp := HCp.out.lt
        obtain ⟨⟨xu0, xu1, xu2⟩, yu0, yu1, yu2⟩ := HCu.out
        have ltu := HCu.out.lt
        go_wp2_with fail
        clear xa0 xa1 xa2 ya0 ya1 ya2 lta xb0 xb1 xb2 yb0 yb1 yb2 ltb xc0 xc1 xc2 yc0 yc1 yc2 ltc xp0 xp1 xp2 yp0 yp1 yp2 ltp xu0 xu1 xu2 yu0 yu1 yu2 ltu
        obtain ⟨w24, hw⟩ : ∃ W, W = w23.alloc (.cells #[.bool zbv, .slice zAv znv zdv, .slice zBv zmv zqv] 25) := ⟨_, rfl⟩
        have hb : Below w23.heap.size w23 w24 := by rw [hw]; exact below_alloc _ _
        obtain ⟨gv, hg⟩ : ∃ g, g = w23.heap.size := ⟨_, rfl⟩
        have hcn : Cel w24 gv (.bool zbv) (.slice zAv znv zdv) (.slice zBv zmv zqv) := by rw [hw, hg]; exact Cel.new _ _ _ _ _
        rw [← hw]
        rw [← hg]
        replace HCa := Lib.hid (HCa.out.on hb)
        replace HCb := Lib.hid (HCb.out.on hb)
        replace HCc := Lib.hid (HCc.out.on hb)
        replace HCp := Lib.hid (HCp.out.on hb)
        replace HCu := Lib.hid (HCu.out.on hb)
        replace HOa := Lib.hid (HOa.out.on hb)
        replace HOb := Lib.hid (HOb.out.on hb)
        replace HOc := Lib.hid (HOc.out.on hb)
        replace HOp := Lib.hid (HOp.out.on hb)
        replace HOu := Lib.hid (HOu.out.on hb)
        replace HOv := Lib.hid (HOv.out.on hb)
        replace HB : Hid (Below w.heap.size w w24) := bstep HB.out hb
        have HCv := Lib.hid hcn
        clear hw hb hg hcn
        obtain ⟨M, hM⟩ : ∃ x : Int, x = opE mulOk ba xsa ysa bc xsc ysc := ⟨_, rfl⟩
        refine (rat_Mul ba xsa ysa bc xsc ysc _ _ _ HOa.out HOc.out).mono ?_
        rw [← hM]
        have HM := Lib.hid hM
        clear hM
        rintro e w25 h
        obtain ⟨zbm, zAm, znm, zdm, zBm, zmm, zqm, rfl, ho, hb⟩ := h.open_
        replace HCa := Lib.hid (HCa.out.on hb)
        replace HCb := Lib.hid (HCb.out.on hb)
        replace HCc := Lib.hid (HCc.out.on hb)
        replace HCp := Lib.hid (HCp.out.on hb)
        replace HCu := Lib.hid (HCu.out.on hb)
        replace HCv := Lib.hid (HCv.out.on hb)
        replace HOa := Lib.hid (HOa.out.on hb)
        replace HOb := Lib.hid (HOb.out.on hb)
        replace HOc := Lib.hid (HOc.out.on hb)
        replace HOp := Lib.hid (HOp.out.on hb)
        replace HOu := Lib.hid (HOu.out.on hb)
        replace HOv := Lib.hid (HOv.out.on hb)
        replace HB : Hid (Below w.heap.size w w25) := bstep HB.out hb
        have HOm := Lib.hid ho
        clear h ho hb
        obtain ⟨⟨xa0, xa1, xa2⟩, ya0, ya1, ya2⟩ := HCa.out
        have lta := HCa.out.lt
        obtain ⟨⟨xb0, xb1, xb2⟩, yb0, yb1, yb2⟩ := HCb.out
        have ltb := HCb.out.lt
        obtain ⟨⟨xc0, xc1, xc2⟩, yc0, yc1, yc2⟩ := HCc.out
        have ltc := HCc.out.lt
        obtain ⟨⟨xp0, xp1, xp2⟩, yp0, yp1, yp2⟩ := HCp.out
        have ltp := HCp.out.lt
        obtain ⟨⟨xu0, xu1, xu2⟩, yu0, yu1, yu2⟩ := HCu.out
        have ltu := HCu.out.lt
        obtain ⟨⟨xv0, xv1, xv2⟩, yv0, yv1, yv2⟩ := HCv.out
        have ltv := HCv.out.lt
        go_wp2_with fail
        clear xa0 xa1 xa2 ya0 ya1 ya2 lta xb0 xb1 xb2 yb0 yb1 yb2 ltb xc0 xc1 xc2 yc0 yc1 yc2 ltc xp0 xp1 xp2 yp0 yp1 yp2 ltp xu0 xu1 xu2 yu0 yu1 yu2 ltu xv0 xv1 xv2 yv0 yv1 yv2 ltv
        obtain ⟨w26, hw⟩ : ∃ W, W = w25.alloc (.cells #[.bool zbm, .slice zAm znm zdm, .slice zBm zmm zqm] 25) := ⟨_, rfl⟩
        have hb : Below w25.heap.size w25 w26 := by rw [hw]; exact below_alloc _ _
        obtain ⟨gm, hg⟩ : ∃ g, g = w25.heap.size := ⟨_, rfl⟩
        have hcn : Cel w26 gm (.bool zbm) (.slice zAm znm zdm) (.slice zBm zmm zqm) := by rw [hw, hg]; exact Cel.new _ _ _ _ _
        rw [← hw]
        rw [← hg]
        replace HCa := Lib.hid (HCa.out.on hb)
        replace HCb := Lib.hid (HCb.out.on hb)
        replace HCc := Lib.hid (HCc.out.on hb)
        replace HCp := Lib.hid (HCp.out.on hb)
        replace HCu := Lib.hid (HCu.out.on hb)
        replace HCv := Lib.hid (HCv.out.on hb)
        replace HOa := Lib.hid (HOa.out.on hb)
        replace HOb := Lib.hid (HOb.out.on hb)
        replace HOc := Lib.hid (HOc.out.on hb)
        replace HOp := Lib.hid (HOp.out.on hb)
        replace HOu := Lib.hid (HOu.out.on hb)
        replace HOv := Lib.hid (HOv.out.on hb)
        replace HOm := Lib.hid (HOm.out.on hb)
        replace HB : Hid (Below w.heap.size w w26) := bstep HB.out hb
        have HCm := Lib.hid hcn
        clear hw hb hg hcn
        obtain ⟨N, hN⟩ : ∃ x : Int, x = opE sumOk (tB G (opV mulOp ba xsa ysa bb xsb ysb)) (tX G (opV mulOp ba xsa ysa bb xsb ysb)) (tY G (opV mulOp ba xsa ysa bb xsb ysb)) (tB M (opV mulOp ba xsa ysa bc xsc ysc)) (tX M (opV mulOp ba xsa ysa bc xsc ysc)) (tY M (opV mulOp ba xsa ysa bc xsc ysc)) := ⟨_, rfl⟩
        refine (rat_Add (tB G (opV mulOp ba xsa ysa bb xsb ysb)) (tX G (opV mulOp ba xsa ysa bb xsb ysb)) (tY G (opV mulOp ba xsa ysa bb xsb ysb)) (tB M (opV mulOp ba xsa ysa bc xsc ysc)) (tX M (opV mulOp ba xsa ysa bc xsc ysc)) (tY M (opV mulOp ba xsa ysa bc xsc ysc)) _ _ _ HOp.out.inr HOm.out.inr).mono ?_
        rw [← hN]
        have HN := Lib.hid hN
        clear hN
        rintro e w27 h
        obtain ⟨zby, zAy, zny, zdy, zBy, zmy, zqy, rfl, ho, hb⟩ := h.open_
        replace HCa := Lib.hid (HCa.out.on hb)
        replace HCb := Lib.hid (HCb.out.on hb)
        replace HCc := Lib.hid (HCc.out.on hb)
        replace HCp := Lib.hid (HCp.out.on hb)
        replace HCu := Lib.hid (HCu.out.on hb)
        replace HCv := Lib.hid (HCv.out.on hb)
        replace HCm := Lib.hid (HCm.out.on hb)
        replace HOa := Lib.hid (HOa.out.on hb)
        replace HOb := Lib.hid (HOb.out.on hb)
        replace HOc := Lib.hid (HOc.out.on hb)
        replace HOp := Lib.hid (HOp.out.on hb)
        replace HOu := Lib.hid (HOu.out.on hb)
        replace HOv := Lib.hid (HOv.out.on hb)
        replace HOm := Lib.hid (HOm.out.on hb)
        replace HB : Hid (Below w.heap.size w w27) := bstep HB.out hb
        have HOy := Lib.hid ho
        clear h ho hb
        obtain ⟨⟨xa0, xa1, xa2⟩, ya0, ya1, ya2⟩ := HCa.out
        have lta := HCa.out.lt
        obtain ⟨⟨xb0, xb1, xb2⟩, yb0, yb1, yb2⟩ := HCb.out
        have ltb := HCb.out.lt
        obtain ⟨⟨xc0, xc1, xc2⟩, yc0, yc1, yc2⟩ := HCc.out
        have ltc := HCc.out.lt
        obtain ⟨⟨xp0, xp1, xp2⟩, yp0, yp1, yp2⟩ := HCp.out
        have ltp := HCp.out.lt
        obtain ⟨⟨xu0, xu1, xu2⟩, yu0, yu1, yu2⟩ := HCu.out
        have ltu := HCu.out.lt
        obtain ⟨⟨xv0, xv1, xv2⟩, yv0, yv1, yv2⟩ := HCv.out
        have ltv := HCv.out.lt
        obtain ⟨⟨xm0, xm1, xm2⟩, ym0, ym1, ym2⟩ := HCm.out
        have ltm := HCm.out.lt
        go_upto_region 20 with fail
        clear xa0 xa1 xa2 ya0 ya1 ya2 lta xb0 xb1 xb2 yb0 yb1 yb2 ltb xc0 xc1 xc2 yc0 yc1 yc2 ltc xp0 xp1 xp2 yp0 yp1 yp2 ltp xu0 xu1 xu2 yu0 yu1 yu2 ltu xv0 xv1 xv2 yv0 yv1 yv2 ltv xm0 xm1 xm2 ym0 ym1 ym2 ltm
        obtain ⟨w28, hw⟩ : ∃ W, W = w27.alloc (.cells #[.bool zby, .slice zAy zny zdy, .slice zBy zmy zqy] 25) := ⟨_, rfl⟩
        have hb : Below w27.heap.size w27 w28 := by rw [hw]; exact below_alloc _ _
        obtain ⟨gy, hg⟩ : ∃ g, g = w27.heap.size := ⟨_, rfl⟩
        have hcn : Cel w28 gy (.bool zby) (.slice zAy zny zdy) (.slice zBy zmy zqy) := by rw [hw, hg]; exact Cel.new _ _ _ _ _
        rw [← hw]
        rw [← hg]
        replace HCa := Lib.hid (HCa.out.on hb)
        replace HCb := Lib.hid (HCb.out.on hb)
        replace HCc := Lib.hid (HCc.out.on hb)
        replace HCp := Lib.hid (HCp.out.on hb)
        replace HCu := Lib.hid (HCu.out.on hb)
        replace HCv := Lib.hid (HCv.out.on hb)
        replace HCm := Lib.hid (HCm.out.on hb)
        replace HOa := Lib.hid (HOa.out.on hb)
        replace HOb := Lib.hid (HOb.out.on hb)
        replace HOc := Lib.hid (HOc.out.on hb)
        replace HOp := Lib.hid (HOp.out.on hb)
        replace HOu := Lib.hid (HOu.out.on hb)
        replace HOv := Lib.hid (HOv.out.on hb)
        replace HOm := Lib.hid (HOm.out.on hb)
        replace HOy := Lib.hid (HOy.out.on hb)
        replace HB : Hid (Below w.heap.size w w28) := bstep HB.out hb
        have HCy := Lib.hid hcn
        clear hw hb hg hcn
        go_cut [180] (fun s wx => s = .bool false ∧ Below w28.heap.size w28 wx)
        case first =>
          by_cases hc : G = 0 ∧ J = 0 ∧ K = 0 ∧ M = 0 ∧ N = 0
          · obtain ⟨rfl, rfl, rfl, rfl, rfl⟩ := hc
            have hd := fld_dist HG.out.symm HJ.out.symm HM.out.symm
            rw [← hd] at HOy
            clear hd HM
            obtain ⟨⟨xa0, xa1, xa2⟩, ya0, ya1, ya2⟩ := HCa.out
            have lta := HCa.out.lt
            obtain ⟨⟨xb0, xb1, xb2⟩, yb0, yb1, yb2⟩ := HCb.out
            have ltb := HCb.out.lt
            obtain ⟨⟨xc0, xc1, xc2⟩, yc0, yc1, yc2⟩ := HCc.out
            have ltc := HCc.out.lt
            obtain ⟨⟨xp0, xp1, xp2⟩, yp0, yp1, yp2⟩ := HCp.out
            have ltp := HCp.out.lt
            obtain ⟨⟨xu0, xu1, xu2⟩, yu0, yu1, yu2⟩ := HCu.out
            have ltu := HCu.out.lt
            obtain ⟨⟨xv0, xv1, xv2⟩, yv0, yv1, yv2⟩ := HCv.out
            have ltv := HCv.out.lt
            obtain ⟨⟨xm0, xm1, xm2⟩, ym0, ym1, ym2⟩ := HCm.out
            have ltm := HCm.out.lt
            obtain ⟨⟨xy0, xy1, xy2⟩, yy0, yy1, yy2⟩ := HCy.out
            have lty := HCy.out.lt
            go_wp2_with fail
            clear xa0 xa1 xa2 ya0 ya1 ya2 lta xb0 xb1 xb2 yb0 yb1 yb2 ltb xc0 xc1 xc2 yc0 yc1 yc2 ltc xp0 xp1 xp2 yp0 yp1 yp2 ltp xu0 xu1 xu2 yu0 yu1 yu2 ltu xv0 xv1 xv2 yv0 yv1 yv2 ltv xm0 xm1 xm2 ym0 ym1 ym2 ltm xy0 xy1 xy2 yy0 yy1 yy2 lty
            refine (same_out HOv.out HOy.out).mono ?_
            rintro e wv ⟨rfl, hb⟩
            have HM := Lib.hid hb
            clear hb
            go_wp2_with fail
            go_meet
            exact ⟨rfl, HM.out⟩
          · clear HM
            by_cases hG : G = 0
            · subst hG
              by_cases hJ : J = 0
              · subst hJ
                by_cases hK : K = 0
                · subst hK
                  by_cases hM : M = 0
                  · subst hM
                    by_cases hN : N = 0
                    · exact absurd ⟨rfl, rfl, rfl, rfl, hN⟩ hc
                    · clear hc
                      have e1 := ne_test hN
                      clear hN
                      obtain ⟨⟨xa0, xa1, xa2⟩, ya0, ya1, ya2⟩ := HCa.out
                      have lta := HCa.out.lt
                      obtain ⟨⟨xb0, xb1, xb2⟩, yb0, yb1, yb2⟩ := HCb.out
                      have ltb := HCb.out.lt
                      obtain ⟨⟨xc0, xc1, xc2⟩, yc0, yc1, yc2⟩ := HCc.out
                      have ltc := HCc.out.lt
                      obtain ⟨⟨xp0, xp1, xp2⟩, yp0, yp1, yp2⟩ := HCp.out
                      have ltp := HCp.out.lt
                      obtain ⟨⟨xu0, xu1, xu2⟩, yu0, yu1, yu2⟩ := HCu.out
                      have ltu := HCu.out.lt
                      obtain ⟨⟨xv0, xv1, xv2⟩, yv0, yv1, yv2⟩ := HCv.out
                      have ltv := HCv.out.lt
                      obtain ⟨⟨xm0, xm1, xm2⟩, ym0, ym1, ym2⟩ := HCm.out
                      have ltm := HCm.out.lt
                      obtain ⟨⟨xy0, xy1, xy2⟩, yy0, yy1, yy2⟩ := HCy.out
                      have lty := HCy.out.lt
                      go_wp2_with fail
                      go_meet
                      exact ⟨rfl, Below.refl _ _⟩
                  · clear hc
                    have e1 := ne_test hM
                    clear hM
                    obtain ⟨⟨xa0, xa1, xa2⟩, ya0, ya1, ya2⟩ := HCa.out
                    have lta := HCa.out.lt
                    obtain ⟨⟨xb0, xb1, xb2⟩, yb0, yb1, yb2⟩ := HCb.out
                    have ltb := HCb.out.lt
                    obtain ⟨⟨xc0, xc1, xc2⟩, yc0, yc1, yc2⟩ := HCc.out
                    have ltc := HCc.out.lt
                    obtain ⟨⟨xp0, xp1, xp2⟩, yp0, yp1, yp2⟩ := HCp.out
                    have ltp := HCp.out.lt
                    obtain ⟨⟨xu0, xu1, xu2⟩, yu0, yu1, yu2⟩ := HCu.out
                    have ltu := HCu.out.lt
                    obtain ⟨⟨xv0, xv1, xv2⟩, yv0, yv1, yv2⟩ := HCv.out
                    have ltv := HCv.out.lt
                    obtain ⟨⟨xm0, xm1, xm2⟩, ym0, ym1, ym2⟩ := HCm.out
                    have ltm := HCm.out.lt
                    obtain ⟨⟨xy0, xy1, xy2⟩, yy0, yy1, yy2⟩ := HCy.out
                    have lty := HCy.out.lt
                    go_wp2_with fail
                    go_meet
                    exact ⟨rfl, Below.refl _ _⟩
                · clear hc
                  have e1 := ne_test hK
                  clear hK
                  obtain ⟨⟨xa0, xa1, xa2⟩, ya0, ya1, ya2⟩ := HCa.out
                  have lta := HCa.out.lt
                  obtain ⟨⟨xb0, xb1, xb2⟩, yb0, yb1, yb2⟩ := HCb.out
                  have ltb := HCb.out.lt
                  obtain ⟨⟨xc0, xc1, xc2⟩, yc0, yc1, yc2⟩ := HCc.out
                  have ltc := HCc.out.lt
                  obtain ⟨⟨xp0, xp1, xp2⟩, yp0, yp1, yp2⟩ := HCp.out
                  have ltp := HCp.out.lt
                  obtain ⟨⟨xu0, xu1, xu2⟩, yu0, yu1, yu2⟩ := HCu.out
                  have ltu := HCu.out.lt
                  obtain ⟨⟨xv0, xv1, xv2⟩, yv0, yv1, yv2⟩ := HCv.out
                  have ltv := HCv.out.lt
                  obtain ⟨⟨xm0, xm1, xm2⟩, ym0, ym1, ym2⟩ := HCm.out
                  have ltm := HCm.out.lt
                  obtain ⟨⟨xy0, xy1, xy2⟩, yy0, yy1, yy2⟩ := HCy.out
                  have lty := HCy.out.lt
                  go_wp2_with fail
                  go_meet
                  exact ⟨rfl, Below.refl _ _⟩
              · clear hc
                have e1 := ne_test hJ
                clear hJ
                obtain ⟨⟨xa0, xa1, xa2⟩, ya0, ya1, ya2⟩ := HCa.out
                have lta := HCa.out.lt
                obtain ⟨⟨xb0, xb1, xb2⟩, yb0, yb1, yb2⟩ := HCb.out
                have ltb := HCb.out.lt
                obtain ⟨⟨xc0, xc1, xc2⟩, yc0, yc1, yc2⟩ := HCc.out
                have ltc := HCc.out.lt
                obtain ⟨⟨xp0, xp1, xp2⟩, yp0, yp1, yp2⟩ := HCp.out
                have ltp := HCp.out.lt
                obtain ⟨⟨xu0, xu1, xu2⟩, yu0, yu1, yu2⟩ := HCu.out
                have ltu := HCu.out.lt
                obtain ⟨⟨xv0, xv1, xv2⟩, yv0, yv1, yv2⟩ := HCv.out
                have ltv := HCv.out.lt
                obtain ⟨⟨xm0, xm1, xm2⟩, ym0, ym1, ym2⟩ := HCm.out
                have ltm := HCm.out.lt
                obtain ⟨⟨xy0, xy1, xy2⟩, yy0, yy1, yy2⟩ := HCy.out
                have lty := HCy.out.lt
                go_wp2_with fail
                go_meet
                exact ⟨rfl, Below.refl _ _⟩
            · clear hc
              have e1 := ne_test hG
              clear hG
              obtain ⟨⟨xa0, xa1, xa2⟩, ya0, ya1, ya2⟩ := HCa.out
              have lta := HCa.out.lt
              obtain ⟨⟨xb0, xb1, xb2⟩, yb0, yb1, yb2⟩ := HCb.out
              have ltb := HCb.out.lt
              obtain ⟨⟨xc0, xc1, xc2⟩, yc0, yc1, yc2⟩ := HCc.out
              have ltc := HCc.out.lt
              obtain ⟨⟨xp0, xp1, xp2⟩, yp0, yp1, yp2⟩ := HCp.out
              have ltp := HCp.out.lt
              obtain ⟨⟨xu0, xu1, xu2⟩, yu0, yu1, yu2⟩ := HCu.out
              have ltu := HCu.out.lt
              obtain ⟨⟨xv0, xv1, xv2⟩, yv0, yv1, yv2⟩ := HCv.out
              have ltv := HCv.out.lt
              obtain ⟨⟨xm0, xm1, xm2⟩, ym0, ym1, ym2⟩ := HCm.out
              have ltm := HCm.out.lt
              obtain ⟨⟨xy0, xy1, xy2⟩, yy0, yy1, yy2⟩ := HCy.out
              have lty := HCy.out.lt
              go_wp2_with fail
              go_meet
              exact ⟨rfl, Below.refl _ _⟩
        case rest =>
          obtain ⟨rfl, hb⟩ := hcut
          obtain ⟨w29, hw⟩ : ∃ W, W = wc := ⟨_, rfl⟩
          rw [← hw] at hb ⊢
          replace HCa := Lib.hid (HCa.out.on hb)
          replace HCb := Lib.hid (HCb.out.on hb)
          replace HCc := Lib.hid (HCc.out.on hb)
          replace HCp := Lib.hid (HCp.out.on hb)
          replace HCu := Lib.hid (HCu.out.on hb)
          replace HCv := Lib.hid (HCv.out.on hb)
          replace HCm := Lib.hid (HCm.out.on hb)
          replace HCy := Lib.hid (HCy.out.on hb)
          replace HOa := Lib.hid (HOa.out.on hb)
          replace HOb := Lib.hid (HOb.out.on hb)
          replace HOc := Lib.hid (HOc.out.on hb)
          replace HOp := Lib.hid (HOp.out.on hb)
          replace HOu := Lib.hid (HOu.out.on hb)
          replace HOv := Lib.hid (HOv.out.on hb)
          replace HOm := Lib.hid (HOm.out.on hb)
          replace HOy := Lib.hid (HOy.out.on hb)
          replace HB : Hid (Below w.heap.size w w29) := bstep HB.out hb
          clear hb hw
          obtain ⟨⟨xa0, xa1, xa2⟩, ya0, ya1, ya2⟩ := HCa.out
          have lta := HCa.out.lt
          obtain ⟨⟨xb0, xb1, xb2⟩, yb0, yb1, yb2⟩ := HCb.out
          have ltb := HCb.out.lt
          obtain ⟨⟨xc0, xc1, xc2⟩, yc0, yc1, yc2⟩ := HCc.out
          have ltc := HCc.out.lt
          obtain ⟨⟨xp0, xp1, xp2⟩, yp0, yp1, yp2⟩ := HCp.out
          have ltp := HCp.out.lt
          obtain ⟨⟨xu0, xu1, xu2⟩, yu0, yu1, yu2⟩ := HCu.out
          have ltu := HCu.out.lt
          obtain ⟨⟨xv0, xv1, xv2⟩, yv0, yv1, yv2⟩ := HCv.out
          have ltv := HCv.out.lt
          obtain ⟨⟨xm0, xm1, xm2⟩, ym0, ym1, ym2⟩ := HCm.out
          have ltm := HCm.out.lt
          obtain ⟨⟨xy0, xy1, xy2⟩, yy0, yy1, yy2⟩ := HCy.out
          have lty := HCy.out.lt
          go_wp2_with fail
          clear xa0 xa1 xa2 ya0 ya1 ya2 lta xb0 xb1 xb2 yb0 yb1 yb2 ltb xc0 xc1 xc2 yc0 yc1 yc2 ltc xp0 xp1 xp2 yp0 yp1 yp2 ltp xu0 xu1 xu2 yu0 yu1 yu2 ltu xv0 xv1 xv2 yv0 yv1 yv2 ltv xm0 xm1 xm2 ym0 ym1 ym2 ltm xy0 xy1 xy2 yy0 yy1 yy2 lty
          refine (awake3 _ (HT.out.on HB.out)).mono ?_
          rintro e w30 ⟨rfl, hb⟩
          replace HCa := Lib.hid (HCa.out.on hb)
          replace HCb := Lib.hid (HCb.out.on hb)
          replace HCc := Lib.hid (HCc.out.on hb)
          replace HCp := Lib.hid (HCp.out.on hb)
          replace HCu := Lib.hid (HCu.out.on hb)
          replace HCv := Lib.hid (HCv.out.on hb)
          replace HCm := Lib.hid (HCm.out.on hb)
          replace HCy := Lib.hid (HCy.out.on hb)
          replace HOa := Lib.hid (HOa.out.on hb)
          replace HOb := Lib.hid (HOb.out.on hb)
          replace HOc := Lib.hid (HOc.out.on hb)
          replace HOp := Lib.hid (HOp.out.on hb)
          replace HOu := Lib.hid (HOu.out.on hb)
          replace HOv := Lib.hid (HOv.out.on hb)
          replace HOm := Lib.hid (HOm.out.on hb)
          replace HOy := Lib.hid (HOy.out.on hb)
          replace HB : Hid (Below w.heap.size w w30) := bstep HB.out hb
          clear hb
          obtain ⟨⟨xa0, xa1, xa2⟩, ya0, ya1, ya2⟩ := HCa.out
          have lta := HCa.out.lt
          obtain ⟨⟨xb0, xb1, xb2⟩, yb0, yb1, yb2⟩ := HCb.out
          have ltb := HCb.out.lt
          obtain ⟨⟨xc0, xc1, xc2⟩, yc0, yc1, yc2⟩ := HCc.out
          have ltc := HCc.out.lt
          obtain ⟨⟨xp0, xp1, xp2⟩, yp0, yp1, yp2⟩ := HCp.out
          have ltp := HCp.out.lt
          obtain ⟨⟨xu0, xu1, xu2⟩, yu0, yu1, yu2⟩ := HCu.out
          have ltu := HCu.out.lt
          obtain ⟨⟨xv0, xv1, xv2⟩, yv0, yv1, yv2⟩ := HCv.out
          have ltv := HCv.out.lt
          obtain ⟨⟨xm0, xm1, xm2⟩, ym0, ym1, ym2⟩ := HCm.out
          have ltm := HCm.out.lt
          obtain ⟨⟨xy0, xy1, xy2⟩, yy0, yy1, yy2⟩ := HCy.out
          have lty := HCy.out.lt
          go_wp2_with fail
          go_ret
          exact ⟨rfl, HB.out⟩
#print axioms walk_RatField
end Go.Proofs.YthkhaipbdphpeaaDoor
