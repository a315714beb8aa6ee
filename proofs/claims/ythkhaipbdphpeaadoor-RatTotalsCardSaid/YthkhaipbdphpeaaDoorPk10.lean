/- Several texts in one: RatBB. -/
import Derived.Test.YthkhaipbdphpeaaDoorPk9
import Derived.Test.YthkhaipbdphpeaaDoorPk8
import Derived.Test.YthkhaipbdphpeaaDoorPk7
/- The walks of RatValids, RatSums, RatProducts. -/
namespace Go.Proofs.YthkhaipbdphpeaaDoor
open Go.ChangeShapes Go.WideShapes Go.RowKit
set_option linter.unusedVariables false
set_option maxRecDepth 100000

/-- Two results of one value are the same. -/
theorem same_out {v u : Value} {w : World} {err : Int} {r : Rat} (ha : OutR w v err r) (hb : OutR w u err r) :
    Calls Tryd.prog 21 #[v, u] w fun e w' => e = .returned (.bool true) ∧ Below w.heap.size w w' := by
  have k : ∀ b xs ys, InR w v b xs ys → InR w u b xs ys → Calls Tryd.prog 21 #[v, u] w fun e w' => e = .returned (.bool true) ∧ Below w.heap.size w w' := by
    intro b xs ys h1 h2
    have h := ref_Same3 v u b b xs ys xs ys w h1 h2
    have e1 : (b == b) = true := by cases b <;> rfl
    rw [e1, decide_eq_true rfl, decide_eq_true rfl] at h
    exact h
  unfold OutR at ha hb
  split at ha
  · rename_i e; rw [if_pos e] at hb; exact k _ _ _ ha hb
  · rename_i e; rw [if_neg e] at hb; exact k _ _ _ ha hb

set_option maxHeartbeats 12800000 in
theorem walk_RatSums (w : World) (va : Value) (ba : Bool) (xsa ysa : List Int) (hia : InR w va ba xsa ysa) (vb : Value) (bb : Bool) (xsb ysb : List Int) (hib : InR w vb bb xsb ysb) (ht : Tab w) :
    Calls Tryd.prog 5 #[va, vb] w fun e w' => e = .returned (.bool true) ∧ Below w.heap.size w w' := by
  have HT := Lib.hid ht
  clear ht
  obtain ⟨vpa, vqa, rfl, h1a, h2a⟩ := hia
  obtain ⟨zAa, zda, rfl, h3a⟩ := in_open h1a
  obtain ⟨zBa, zqa, rfl, h4a⟩ := in_open h2a
  have HOa := Lib.hid (show InR w (.agg #[.bool ba, .slice zAa xsa.length zda, .slice zBa ysa.length zqa]) ba xsa ysa from ⟨_, _, rfl, h3a, h4a⟩)
  clear h1a h2a h3a h4a
  obtain ⟨vpb, vqb, rfl, h1b, h2b⟩ := hib
  obtain ⟨zAb, zdb, rfl, h3b⟩ := in_open h1b
  obtain ⟨zBb, zqb, rfl, h4b⟩ := in_open h2b
  have HOb := Lib.hid (show InR w (.agg #[.bool bb, .slice zAb xsb.length zdb, .slice zBb ysb.length zqb]) bb xsb ysb from ⟨_, _, rfl, h3b, h4b⟩)
  clear h1b h2b h3b h4b
  go_enter Tryd.func5, Tryd.ntmps5
  go_wp2_with fail
  obtain ⟨w1, hw⟩ : ∃ W, W = ((w.alloc (.cells #[.bool ba, .slice zAa xsa.length zda, .slice zBa ysa.length zqa] 25)).alloc (.cells #[.bool bb, .slice zAb xsb.length zdb, .slice zBb ysb.length zqb] 25)) := ⟨_, rfl⟩
  have hb : Below w.heap.size w w1 := by rw [hw]; exact balloc (below_alloc _ _) _
  have hca := (Cel.new w (.bool ba) (.slice zAa xsa.length zda) (.slice zBa ysa.length zqa) 25).alloc (.cells #[.bool bb, .slice zAb xsb.length zdb, .slice zBb ysb.length zqb] 25)
  have HCa : Hid (Cel w1 (w.heap.size) (.bool ba) (.slice zAa xsa.length zda) (.slice zBa ysa.length zqa)) := by rw [hw]; exact hca
  have hcb := Cel.new (w.alloc (.cells #[.bool ba, .slice zAa xsa.length zda, .slice zBa ysa.length zqa] 25)) (.bool bb) (.slice zAb xsb.length zdb) (.slice zBb ysb.length zqb) 25
  simp only [World.size_alloc] at hcb
  have HCb : Hid (Cel w1 (w.heap.size + 1) (.bool bb) (.slice zAb xsb.length zdb) (.slice zBb ysb.length zqb)) := by rw [hw]; exact hcb
  rw [← hw]
  replace HOa := Lib.hid (HOa.out.on hb)
  replace HOb := Lib.hid (HOb.out.on hb)
  have HB := Lib.hid hb
  clear hw hb hca hcb
  refine (rat_Add ba xsa ysa bb xsb ysb _ _ _ HOa.out HOb.out).mono ?_
  rintro e w2 h
  obtain ⟨zbs, zAs, zns, zds, zBs, zms, zqs, rfl, ho, hb⟩ := h.open_
  replace HCa := Lib.hid (HCa.out.on hb)
  replace HCb := Lib.hid (HCb.out.on hb)
  replace HOa := Lib.hid (HOa.out.on hb)
  replace HOb := Lib.hid (HOb.out.on hb)
  replace HB : Hid (Below w.heap.size w w2) := bstep HB.out hb
  have HOs := Lib.hid ho
  clear h ho hb
  obtain ⟨⟨xa0, xa1, xa2⟩, ya0, ya1, ya2⟩ := HCa.out
  have lta := HCa.out.lt
  obtain ⟨⟨xb0, xb1, xb2⟩, yb0, yb1, yb2⟩ := HCb.out
  have ltb := HCb.out.lt
  go_wp2_with fail
  clear xa0 xa1 xa2 ya0 ya1 ya2 lta xb0 xb1 xb2 yb0 yb1 yb2 ltb
  obtain ⟨w3, hw⟩ : ∃ W, W = w2.alloc (.cells #[.bool zbs, .slice zAs zns zds, .slice zBs zms zqs] 25) := ⟨_, rfl⟩
  have hb : Below w2.heap.size w2 w3 := by rw [hw]; exact below_alloc _ _
  obtain ⟨gs, hg⟩ : ∃ g, g = w2.heap.size := ⟨_, rfl⟩
  have hcn : Cel w3 gs (.bool zbs) (.slice zAs zns zds) (.slice zBs zms zqs) := by rw [hw, hg]; exact Cel.new _ _ _ _ _
  rw [← hw]
  rw [← hg]
  replace HCa := Lib.hid (HCa.out.on hb)
  replace HCb := Lib.hid (HCb.out.on hb)
  replace HOa := Lib.hid (HOa.out.on hb)
  replace HOb := Lib.hid (HOb.out.on hb)
  replace HOs := Lib.hid (HOs.out.on hb)
  replace HB : Hid (Below w.heap.size w w3) := bstep HB.out hb
  have HCs := Lib.hid hcn
  clear hw hb hg hcn
  refine (ref_Add3 ba xsa ysa bb xsb ysb _ _ _ HOa.out HOb.out).mono ?_
  rintro e w4 h
  obtain ⟨zbt, zAt, znt, zdt, zBt, zmt, zqt, rfl, ho, hb⟩ := h.open_
  replace HCa := Lib.hid (HCa.out.on hb)
  replace HCb := Lib.hid (HCb.out.on hb)
  replace HCs := Lib.hid (HCs.out.on hb)
  replace HOa := Lib.hid (HOa.out.on hb)
  replace HOb := Lib.hid (HOb.out.on hb)
  replace HOs := Lib.hid (HOs.out.on hb)
  replace HB : Hid (Below w.heap.size w w4) := bstep HB.out hb
  have HOt := Lib.hid ho
  clear h ho hb
  obtain ⟨⟨xa0, xa1, xa2⟩, ya0, ya1, ya2⟩ := HCa.out
  have lta := HCa.out.lt
  obtain ⟨⟨xb0, xb1, xb2⟩, yb0, yb1, yb2⟩ := HCb.out
  have ltb := HCb.out.lt
  obtain ⟨⟨xs0, xs1, xs2⟩, ys0, ys1, ys2⟩ := HCs.out
  have lts := HCs.out.lt
  go_wp2_with fail
  clear xa0 xa1 xa2 ya0 ya1 ya2 lta xb0 xb1 xb2 yb0 yb1 yb2 ltb xs0 xs1 xs2 ys0 ys1 ys2 lts
  obtain ⟨w5, hw⟩ : ∃ W, W = w4.alloc (.cells #[.bool zbt, .slice zAt znt zdt, .slice zBt zmt zqt] 25) := ⟨_, rfl⟩
  have hb : Below w4.heap.size w4 w5 := by rw [hw]; exact below_alloc _ _
  obtain ⟨gt, hg⟩ : ∃ g, g = w4.heap.size := ⟨_, rfl⟩
  have hcn : Cel w5 gt (.bool zbt) (.slice zAt znt zdt) (.slice zBt zmt zqt) := by rw [hw, hg]; exact Cel.new _ _ _ _ _
  rw [← hw]
  rw [← hg]
  replace HCa := Lib.hid (HCa.out.on hb)
  replace HCb := Lib.hid (HCb.out.on hb)
  replace HCs := Lib.hid (HCs.out.on hb)
  replace HOa := Lib.hid (HOa.out.on hb)
  replace HOb := Lib.hid (HOb.out.on hb)
  replace HOs := Lib.hid (HOs.out.on hb)
  replace HOt := Lib.hid (HOt.out.on hb)
  replace HB : Hid (Below w.heap.size w w5) := bstep HB.out hb
  have HCt := Lib.hid hcn
  clear hw hb hg hcn
  refine (rat_Sub ba xsa ysa bb xsb ysb _ _ _ HOa.out HOb.out).mono ?_
  rintro e w6 h
  obtain ⟨zbx, zAx, znx, zdx, zBx, zmx, zqx, rfl, ho, hb⟩ := h.open_
  replace HCa := Lib.hid (HCa.out.on hb)
  replace HCb := Lib.hid (HCb.out.on hb)
  replace HCs := Lib.hid (HCs.out.on hb)
  replace HCt := Lib.hid (HCt.out.on hb)
  replace HOa := Lib.hid (HOa.out.on hb)
  replace HOb := Lib.hid (HOb.out.on hb)
  replace HOs := Lib.hid (HOs.out.on hb)
  replace HOt := Lib.hid (HOt.out.on hb)
  replace HB : Hid (Below w.heap.size w w6) := bstep HB.out hb
  have HOx := Lib.hid ho
  clear h ho hb
  obtain ⟨⟨xa0, xa1, xa2⟩, ya0, ya1, ya2⟩ := HCa.out
  have lta := HCa.out.lt
  obtain ⟨⟨xb0, xb1, xb2⟩, yb0, yb1, yb2⟩ := HCb.out
  have ltb := HCb.out.lt
  obtain ⟨⟨xs0, xs1, xs2⟩, ys0, ys1, ys2⟩ := HCs.out
  have lts := HCs.out.lt
  obtain ⟨⟨xt0, xt1, xt2⟩, yt0, yt1, yt2⟩ := HCt.out
  have ltt := HCt.out.lt
  go_wp2_with fail
  clear xa0 xa1 xa2 ya0 ya1 ya2 lta xb0 xb1 xb2 yb0 yb1 yb2 ltb xs0 xs1 xs2 ys0 ys1 ys2 lts xt0 xt1 xt2 yt0 yt1 yt2 ltt
  obtain ⟨w7, hw⟩ : ∃ W, W = w6.alloc (.cells #[.bool zbx, .slice zAx znx zdx, .slice zBx zmx zqx] 25) := ⟨_, rfl⟩
  have hb : Below w6.heap.size w6 w7 := by rw [hw]; exact below_alloc _ _
  obtain ⟨gx, hg⟩ : ∃ g, g = w6.heap.size := ⟨_, rfl⟩
  have hcn : Cel w7 gx (.bool zbx) (.slice zAx znx zdx) (.slice zBx zmx zqx) := by rw [hw, hg]; exact Cel.new _ _ _ _ _
  rw [← hw]
  rw [← hg]
  replace HCa := Lib.hid (HCa.out.on hb)
  replace HCb := Lib.hid (HCb.out.on hb)
  replace HCs := Lib.hid (HCs.out.on hb)
  replace HCt := Lib.hid (HCt.out.on hb)
  replace HOa := Lib.hid (HOa.out.on hb)
  replace HOb := Lib.hid (HOb.out.on hb)
  replace HOs := Lib.hid (HOs.out.on hb)
  replace HOt := Lib.hid (HOt.out.on hb)
  replace HOx := Lib.hid (HOx.out.on hb)
  replace HB : Hid (Below w.heap.size w w7) := bstep HB.out hb
  have HCx := Lib.hid hcn
  clear hw hb hg hcn
  refine (ref_Sub3 ba xsa ysa bb xsb ysb _ _ _ HOa.out HOb.out).mono ?_
  rintro e w8 h
  obtain ⟨zby, zAy, zny, zdy, zBy, zmy, zqy, rfl, ho, hb⟩ := h.open_
  replace HCa := Lib.hid (HCa.out.on hb)
  replace HCb := Lib.hid (HCb.out.on hb)
  replace HCs := Lib.hid (HCs.out.on hb)
  replace HCt := Lib.hid (HCt.out.on hb)
  replace HCx := Lib.hid (HCx.out.on hb)
  replace HOa := Lib.hid (HOa.out.on hb)
  replace HOb := Lib.hid (HOb.out.on hb)
  replace HOs := Lib.hid (HOs.out.on hb)
  replace HOt := Lib.hid (HOt.out.on hb)
  replace HOx := Lib.hid (HOx.out.on hb)
  replace HB : Hid (Below w.heap.size w w8) := bstep HB.out hb
  have HOy := Lib.hid ho
  clear h ho hb
  obtain ⟨⟨xa0, xa1, xa2⟩, ya0, ya1, ya2⟩ := HCa.out
  have lta := HCa.out.lt
  obtain ⟨⟨xb0, xb1, xb2⟩, yb0, yb1, yb2⟩ := HCb.out
  have ltb := HCb.out.lt
  obtain ⟨⟨xs0, xs1, xs2⟩, ys0, ys1, ys2⟩ := HCs.out
  have lts := HCs.out.lt
  obtain ⟨⟨xt0, xt1, xt2⟩, yt0, yt1, yt2⟩ := HCt.out
  have ltt := HCt.out.lt
  obtain ⟨⟨xx0, xx1, xx2⟩, yx0, yx1, yx2⟩ := HCx.out
  have ltx := HCx.out.lt
  go_wp2_with fail
  clear xa0 xa1 xa2 ya0 ya1 ya2 lta xb0 xb1 xb2 yb0 yb1 yb2 ltb xs0 xs1 xs2 ys0 ys1 ys2 lts xt0 xt1 xt2 yt0 yt1 yt2 ltt xx0 xx1 xx2 yx0 yx1 yx2 ltx
  obtain ⟨w9, hw⟩ : ∃ W, W = w8.alloc (.cells #[.bool zby, .slice zAy zny zdy, .slice zBy zmy zqy] 25) := ⟨_, rfl⟩
  have hb : Below w8.heap.size w8 w9 := by rw [hw]; exact below_alloc _ _
  obtain ⟨gy, hg⟩ : ∃ g, g = w8.heap.size := ⟨_, rfl⟩
  have hcn : Cel w9 gy (.bool zby) (.slice zAy zny zdy) (.slice zBy zmy zqy) := by rw [hw, hg]; exact Cel.new _ _ _ _ _
  rw [← hw]
  rw [← hg]
  replace HCa := Lib.hid (HCa.out.on hb)
  replace HCb := Lib.hid (HCb.out.on hb)
  replace HCs := Lib.hid (HCs.out.on hb)
  replace HCt := Lib.hid (HCt.out.on hb)
  replace HCx := Lib.hid (HCx.out.on hb)
  replace HOa := Lib.hid (HOa.out.on hb)
  replace HOb := Lib.hid (HOb.out.on hb)
  replace HOs := Lib.hid (HOs.out.on hb)
  replace HOt := Lib.hid (HOt.out.on hb)
  replace HOx := Lib.hid (HOx.out.on hb)
  replace HOy := Lib.hid (HOy.out.on hb)
  replace HB : Hid (Below w.heap.size w w9) := bstep HB.out hb
  have HCy := Lib.hid hcn
  clear hw hb hg hcn
  refine (rat_Cmp ba xsa ysa bb xsb ysb _ _ _ HOa.out HOb.out).mono ?_
  rintro e w10 ⟨rfl, hb⟩
  replace HCa := Lib.hid (HCa.out.on hb)
  replace HCb := Lib.hid (HCb.out.on hb)
  replace HCs := Lib.hid (HCs.out.on hb)
  replace HCt := Lib.hid (HCt.out.on hb)
  replace HCx := Lib.hid (HCx.out.on hb)
  replace HCy := Lib.hid (HCy.out.on hb)
  replace HOa := Lib.hid (HOa.out.on hb)
  replace HOb := Lib.hid (HOb.out.on hb)
  replace HOs := Lib.hid (HOs.out.on hb)
  replace HOt := Lib.hid (HOt.out.on hb)
  replace HOx := Lib.hid (HOx.out.on hb)
  replace HOy := Lib.hid (HOy.out.on hb)
  replace HB : Hid (Below w.heap.size w w10) := bstep HB.out hb
  clear hb
  obtain ⟨⟨xa0, xa1, xa2⟩, ya0, ya1, ya2⟩ := HCa.out
  have lta := HCa.out.lt
  obtain ⟨⟨xb0, xb1, xb2⟩, yb0, yb1, yb2⟩ := HCb.out
  have ltb := HCb.out.lt
  obtain ⟨⟨xs0, xs1, xs2⟩, ys0, ys1, ys2⟩ := HCs.out
  have lts := HCs.out.lt
  obtain ⟨⟨xt0, xt1, xt2⟩, yt0, yt1, yt2⟩ := HCt.out
  have ltt := HCt.out.lt
  obtain ⟨⟨xx0, xx1, xx2⟩, yx0, yx1, yx2⟩ := HCx.out
  have ltx := HCx.out.lt
  obtain ⟨⟨xy0, xy1, xy2⟩, yy0, yy1, yy2⟩ := HCy.out
  have lty := HCy.out.lt
  go_wp2_with fail
  clear xa0 xa1 xa2 ya0 ya1 ya2 lta xb0 xb1 xb2 yb0 yb1 yb2 ltb xs0 xs1 xs2 ys0 ys1 ys2 lts xt0 xt1 xt2 yt0 yt1 yt2 ltt xx0 xx1 xx2 yx0 yx1 yx2 ltx xy0 xy1 xy2 yy0 yy1 yy2 lty
  refine (ref_Cmp3 ba xsa ysa bb xsb ysb _ _ _ HOa.out HOb.out).mono ?_
  rintro e w11 ⟨rfl, hb⟩
  replace HCa := Lib.hid (HCa.out.on hb)
  replace HCb := Lib.hid (HCb.out.on hb)
  replace HCs := Lib.hid (HCs.out.on hb)
  replace HCt := Lib.hid (HCt.out.on hb)
  replace HCx := Lib.hid (HCx.out.on hb)
  replace HCy := Lib.hid (HCy.out.on hb)
  replace HOa := Lib.hid (HOa.out.on hb)
  replace HOb := Lib.hid (HOb.out.on hb)
  replace HOs := Lib.hid (HOs.out.on hb)
  replace HOt := Lib.hid (HOt.out.on hb)
  replace HOx := Lib.hid (HOx.out.on hb)
  replace HOy := Lib.hid (HOy.out.on hb)
  replace HB : Hid (Below w.heap.size w w11) := bstep HB.out hb
  clear hb
  obtain ⟨⟨xa0, xa1, xa2⟩, ya0, ya1, ya2⟩ := HCa.out
  have lta := HCa.out.lt
  obtain ⟨⟨xb0, xb1, xb2⟩, yb0, yb1, yb2⟩ := HCb.out
  have ltb := HCb.out.lt
  obtain ⟨⟨xs0, xs1, xs2⟩, ys0, ys1, ys2⟩ := HCs.out
  have lts := HCs.out.lt
  obtain ⟨⟨xt0, xt1, xt2⟩, yt0, yt1, yt2⟩ := HCt.out
  have ltt := HCt.out.lt
  obtain ⟨⟨xx0, xx1, xx2⟩, yx0, yx1, yx2⟩ := HCx.out
  have ltx := HCx.out.lt
  obtain ⟨⟨xy0, xy1, xy2⟩, yy0, yy1, yy2⟩ := HCy.out
  have lty := HCy.out.lt
  go_wp2_with fail
  clear xa0 xa1 xa2 ya0 ya1 ya2 lta xb0 xb1 xb2 yb0 yb1 yb2 ltb xs0 xs1 xs2 ys0 ys1 ys2 lts xt0 xt1 xt2 yt0 yt1 yt2 ltt xx0 xx1 xx2 yx0 yx1 yx2 ltx xy0 xy1 xy2 yy0 yy1 yy2 lty
  refine (same_out HOs.out HOt.out).mono ?_
  rintro e w12 ⟨rfl, hb⟩
  replace HCa := Lib.hid (HCa.out.on hb)
  replace HCb := Lib.hid (HCb.out.on hb)
  replace HCs := Lib.hid (HCs.out.on hb)
  replace HCt := Lib.hid (HCt.out.on hb)
  replace HCx := Lib.hid (HCx.out.on hb)
  replace HCy := Lib.hid (HCy.out.on hb)
  replace HOa := Lib.hid (HOa.out.on hb)
  replace HOb := Lib.hid (HOb.out.on hb)
  replace HOs := Lib.hid (HOs.out.on hb)
  replace HOt := Lib.hid (HOt.out.on hb)
  replace HOx := Lib.hid (HOx.out.on hb)
  replace HOy := Lib.hid (HOy.out.on hb)
  replace HB : Hid (Below w.heap.size w w12) := bstep HB.out hb
  clear hb
  obtain ⟨⟨xa0, xa1, xa2⟩, ya0, ya1, ya2⟩ := HCa.out
  have lta := HCa.out.lt
  obtain ⟨⟨xb0, xb1, xb2⟩, yb0, yb1, yb2⟩ := HCb.out
  have ltb := HCb.out.lt
  obtain ⟨⟨xs0, xs1, xs2⟩, ys0, ys1, ys2⟩ := HCs.out
  have lts := HCs.out.lt
  obtain ⟨⟨xt0, xt1, xt2⟩, yt0, yt1, yt2⟩ := HCt.out
  have ltt := HCt.out.lt
  obtain ⟨⟨xx0, xx1, xx2⟩, yx0, yx1, yx2⟩ := HCx.out
  have ltx := HCx.out.lt
  obtain ⟨⟨xy0, xy1, xy2⟩, yy0, yy1, yy2⟩ := HCy.out
  have lty := HCy.out.lt
  go_wp2_with fail
  clear xa0 xa1 xa2 ya0 ya1 ya2 lta xb0 xb1 xb2 yb0 yb1 yb2 ltb xs0 xs1 xs2 ys0 ys1 ys2 lts xt0 xt1 xt2 yt0 yt1 yt2 ltt xx0 xx1 xx2 yx0 yx1 yx2 ltx xy0 xy1 xy2 yy0 yy1 yy2 lty
  refine (same_out HOx.out HOy.out).mono ?_
  rintro e w13 ⟨rfl, hb⟩
  replace HCa := Lib.hid (HCa.out.on hb)
  replace HCb := Lib.hid (HCb.out.on hb)
  replace HCs := Lib.hid (HCs.out.on hb)
  replace HCt := Lib.hid (HCt.out.on hb)
  replace HCx := Lib.hid (HCx.out.on hb)
  replace HCy := Lib.hid (HCy.out.on hb)
  replace HOa := Lib.hid (HOa.out.on hb)
  replace HOb := Lib.hid (HOb.out.on hb)
  replace HOs := Lib.hid (HOs.out.on hb)
  replace HOt := Lib.hid (HOt.out.on hb)
  replace HOx := Lib.hid (HOx.out.on hb)
  replace HOy := Lib.hid (HOy.out.on hb)
  replace HB : Hid (Below w.heap.size w w13) := bstep HB.out hb
  clear hb
  obtain ⟨⟨xa0, xa1, xa2⟩, ya0, ya1, ya2⟩ := HCa.out
  have lta := HCa.out.lt
  obtain ⟨⟨xb0, xb1, xb2⟩, yb0, yb1, yb2⟩ := HCb.out
  have ltb := HCb.out.lt
  obtain ⟨⟨xs0, xs1, xs2⟩, ys0, ys1, ys2⟩ := HCs.out
  have lts := HCs.out.lt
  obtain ⟨⟨xt0, xt1, xt2⟩, yt0, yt1, yt2⟩ := HCt.out
  have ltt := HCt.out.lt
  obtain ⟨⟨xx0, xx1, xx2⟩, yx0, yx1, yx2⟩ := HCx.out
  have ltx := HCx.out.lt
  obtain ⟨⟨xy0, xy1, xy2⟩, yy0, yy1, yy2⟩ := HCy.out
  have lty := HCy.out.lt
  go_wp2_with fail
  clear xa0 xa1 xa2 ya0 ya1 ya2 lta xb0 xb1 xb2 yb0 yb1 yb2 ltb xs0 xs1 xs2 ys0 ys1 ys2 lts xt0 xt1 xt2 yt0 yt1 yt2 ltt xx0 xx1 xx2 yx0 yx1 yx2 ltx xy0 xy1 xy2 yy0 yy1 yy2 lty
  refine (awake3 _ (HT.out.on HB.out)).mono ?_
  rintro e w14 ⟨rfl, hb⟩
  replace HCa := Lib.hid (HCa.out.on hb)
  replace HCb := Lib.hid (HCb.out.on hb)
  replace HCs := Lib.hid (HCs.out.on hb)
  replace HCt := Lib.hid (HCt.out.on hb)
  replace HCx := Lib.hid (HCx.out.on hb)
  replace HCy := Lib.hid (HCy.out.on hb)
  replace HOa := Lib.hid (HOa.out.on hb)
  replace HOb := Lib.hid (HOb.out.on hb)
  replace HOs := Lib.hid (HOs.out.on hb)
  replace HOt := Lib.hid (HOt.out.on hb)
  replace HOx := Lib.hid (HOx.out.on hb)
  replace HOy := Lib.hid (HOy.out.on hb)
  replace HB : Hid (Below w.heap.size w w14) := bstep HB.out hb
  clear hb
  obtain ⟨⟨xa0, xa1, xa2⟩, ya0, ya1, ya2⟩ := HCa.out
  have lta := HCa.out.lt
  obtain ⟨⟨xb0, xb1, xb2⟩, yb0, yb1, yb2⟩ := HCb.out
  have ltb := HCb.out.lt
  obtain ⟨⟨xs0, xs1, xs2⟩, ys0, ys1, ys2⟩ := HCs.out
  have lts := HCs.out.lt
  obtain ⟨⟨xt0, xt1, xt2⟩, yt0, yt1, yt2⟩ := HCt.out
  have ltt := HCt.out.lt
  obtain ⟨⟨xx0, xx1, xx2⟩, yx0, yx1, yx2⟩ := HCx.out
  have ltx := HCx.out.lt
  obtain ⟨⟨xy0, xy1, xy2⟩, yy0, yy1, yy2⟩ := HCy.out
  have lty := HCy.out.lt
  go_wp2_with fail
  go_ret
  exact ⟨rfl, HB.out⟩

set_option maxHeartbeats 12800000 in
theorem walk_RatProducts (w : World) (va : Value) (ba : Bool) (xsa ysa : List Int) (hia : InR w va ba xsa ysa) (vb : Value) (bb : Bool) (xsb ysb : List Int) (hib : InR w vb bb xsb ysb) (ht : Tab w) :
    Calls Tryd.prog 6 #[va, vb] w fun e w' => e = .returned (.bool true) ∧ Below w.heap.size w w' := by
  have HT := Lib.hid ht
  clear ht
  obtain ⟨vpa, vqa, rfl, h1a, h2a⟩ := hia
  obtain ⟨zAa, zda, rfl, h3a⟩ := in_open h1a
  obtain ⟨zBa, zqa, rfl, h4a⟩ := in_open h2a
  have HOa := Lib.hid (show InR w (.agg #[.bool ba, .slice zAa xsa.length zda, .slice zBa ysa.length zqa]) ba xsa ysa from ⟨_, _, rfl, h3a, h4a⟩)
  clear h1a h2a h3a h4a
  obtain ⟨vpb, vqb, rfl, h1b, h2b⟩ := hib
  obtain ⟨zAb, zdb, rfl, h3b⟩ := in_open h1b
  obtain ⟨zBb, zqb, rfl, h4b⟩ := in_open h2b
  have HOb := Lib.hid (show InR w (.agg #[.bool bb, .slice zAb xsb.length zdb, .slice zBb ysb.length zqb]) bb xsb ysb from ⟨_, _, rfl, h3b, h4b⟩)
  clear h1b h2b h3b h4b
  go_enter Tryd.func6, Tryd.ntmps6
  go_wp2_with fail
  obtain ⟨w1, hw⟩ : ∃ W, W = ((w.alloc (.cells #[.bool ba, .slice zAa xsa.length zda, .slice zBa ysa.length zqa] 25)).alloc (.cells #[.bool bb, .slice zAb xsb.length zdb, .slice zBb ysb.length zqb] 25)) := ⟨_, rfl⟩
  have hb : Below w.heap.size w w1 := by rw [hw]; exact balloc (below_alloc _ _) _
  have hca := (Cel.new w (.bool ba) (.slice zAa xsa.length zda) (.slice zBa ysa.length zqa) 25).alloc (.cells #[.bool bb, .slice zAb xsb.length zdb, .slice zBb ysb.length zqb] 25)
  have HCa : Hid (Cel w1 (w.heap.size) (.bool ba) (.slice zAa xsa.length zda) (.slice zBa ysa.length zqa)) := by rw [hw]; exact hca
  have hcb := Cel.new (w.alloc (.cells #[.bool ba, .slice zAa xsa.length zda, .slice zBa ysa.length zqa] 25)) (.bool bb) (.slice zAb xsb.length zdb) (.slice zBb ysb.length zqb) 25
  simp only [World.size_alloc] at hcb
  have HCb : Hid (Cel w1 (w.heap.size + 1) (.bool bb) (.slice zAb xsb.length zdb) (.slice zBb ysb.length zqb)) := by rw [hw]; exact hcb
  rw [← hw]
  replace HOa := Lib.hid (HOa.out.on hb)
  replace HOb := Lib.hid (HOb.out.on hb)
  have HB := Lib.hid hb
  clear hw hb hca hcb
  refine (rat_Mul ba xsa ysa bb xsb ysb _ _ _ HOa.out HOb.out).mono ?_
  rintro e w2 h
  obtain ⟨zbs, zAs, zns, zds, zBs, zms, zqs, rfl, ho, hb⟩ := h.open_
  replace HCa := Lib.hid (HCa.out.on hb)
  replace HCb := Lib.hid (HCb.out.on hb)
  replace HOa := Lib.hid (HOa.out.on hb)
  replace HOb := Lib.hid (HOb.out.on hb)
  replace HB : Hid (Below w.heap.size w w2) := bstep HB.out hb
  have HOs := Lib.hid ho
  clear h ho hb
  obtain ⟨⟨xa0, xa1, xa2⟩, ya0, ya1, ya2⟩ := HCa.out
  have lta := HCa.out.lt
  obtain ⟨⟨xb0, xb1, xb2⟩, yb0, yb1, yb2⟩ := HCb.out
  have ltb := HCb.out.lt
  go_wp2_with fail
  clear xa0 xa1 xa2 ya0 ya1 ya2 lta xb0 xb1 xb2 yb0 yb1 yb2 ltb
  obtain ⟨w3, hw⟩ : ∃ W, W = w2.alloc (.cells #[.bool zbs, .slice zAs zns zds, .slice zBs zms zqs] 25) := ⟨_, rfl⟩
  have hb : Below w2.heap.size w2 w3 := by rw [hw]; exact below_alloc _ _
  obtain ⟨gs, hg⟩ : ∃ g, g = w2.heap.size := ⟨_, rfl⟩
  have hcn : Cel w3 gs (.bool zbs) (.slice zAs zns zds) (.slice zBs zms zqs) := by rw [hw, hg]; exact Cel.new _ _ _ _ _
  rw [← hw]
  rw [← hg]
  replace HCa := Lib.hid (HCa.out.on hb)
  replace HCb := Lib.hid (HCb.out.on hb)
  replace HOa := Lib.hid (HOa.out.on hb)
  replace HOb := Lib.hid (HOb.out.on hb)
  replace HOs := Lib.hid (HOs.out.on hb)
  replace HB : Hid (Below w.heap.size w w3) := bstep HB.out hb
  have HCs := Lib.hid hcn
  clear hw hb hg hcn
  refine (ref_Mul3 ba xsa ysa bb xsb ysb _ _ _ HOa.out HOb.out).mono ?_
  rintro e w4 h
  obtain ⟨zbt, zAt, znt, zdt, zBt, zmt, zqt, rfl, ho, hb⟩ := h.open_
  replace HCa := Lib.hid (HCa.out.on hb)
  replace HCb := Lib.hid (HCb.out.on hb)
  replace HCs := Lib.hid (HCs.out.on hb)
  replace HOa := Lib.hid (HOa.out.on hb)
  replace HOb := Lib.hid (HOb.out.on hb)
  replace HOs := Lib.hid (HOs.out.on hb)
  replace HB : Hid (Below w.heap.size w w4) := bstep HB.out hb
  have HOt := Lib.hid ho
  clear h ho hb
  obtain ⟨⟨xa0, xa1, xa2⟩, ya0, ya1, ya2⟩ := HCa.out
  have lta := HCa.out.lt
  obtain ⟨⟨xb0, xb1, xb2⟩, yb0, yb1, yb2⟩ := HCb.out
  have ltb := HCb.out.lt
  obtain ⟨⟨xs0, xs1, xs2⟩, ys0, ys1, ys2⟩ := HCs.out
  have lts := HCs.out.lt
  go_wp2_with fail
  clear xa0 xa1 xa2 ya0 ya1 ya2 lta xb0 xb1 xb2 yb0 yb1 yb2 ltb xs0 xs1 xs2 ys0 ys1 ys2 lts
  obtain ⟨w5, hw⟩ : ∃ W, W = w4.alloc (.cells #[.bool zbt, .slice zAt znt zdt, .slice zBt zmt zqt] 25) := ⟨_, rfl⟩
  have hb : Below w4.heap.size w4 w5 := by rw [hw]; exact below_alloc _ _
  obtain ⟨gt, hg⟩ : ∃ g, g = w4.heap.size := ⟨_, rfl⟩
  have hcn : Cel w5 gt (.bool zbt) (.slice zAt znt zdt) (.slice zBt zmt zqt) := by rw [hw, hg]; exact Cel.new _ _ _ _ _
  rw [← hw]
  rw [← hg]
  replace HCa := Lib.hid (HCa.out.on hb)
  replace HCb := Lib.hid (HCb.out.on hb)
  replace HCs := Lib.hid (HCs.out.on hb)
  replace HOa := Lib.hid (HOa.out.on hb)
  replace HOb := Lib.hid (HOb.out.on hb)
  replace HOs := Lib.hid (HOs.out.on hb)
  replace HOt := Lib.hid (HOt.out.on hb)
  replace HB : Hid (Below w.heap.size w w5) := bstep HB.out hb
  have HCt := Lib.hid hcn
  clear hw hb hg hcn
  refine (rat_Div ba xsa ysa bb xsb ysb _ _ _ HOa.out HOb.out).mono ?_
  rintro e w6 h
  obtain ⟨zbx, zAx, znx, zdx, zBx, zmx, zqx, rfl, ho, hb⟩ := h.open_
  replace HCa := Lib.hid (HCa.out.on hb)
  replace HCb := Lib.hid (HCb.out.on hb)
  replace HCs := Lib.hid (HCs.out.on hb)
  replace HCt := Lib.hid (HCt.out.on hb)
  replace HOa := Lib.hid (HOa.out.on hb)
  replace HOb := Lib.hid (HOb.out.on hb)
  replace HOs := Lib.hid (HOs.out.on hb)
  replace HOt := Lib.hid (HOt.out.on hb)
  replace HB : Hid (Below w.heap.size w w6) := bstep HB.out hb
  have HOx := Lib.hid ho
  clear h ho hb
  obtain ⟨⟨xa0, xa1, xa2⟩, ya0, ya1, ya2⟩ := HCa.out
  have lta := HCa.out.lt
  obtain ⟨⟨xb0, xb1, xb2⟩, yb0, yb1, yb2⟩ := HCb.out
  have ltb := HCb.out.lt
  obtain ⟨⟨xs0, xs1, xs2⟩, ys0, ys1, ys2⟩ := HCs.out
  have lts := HCs.out.lt
  obtain ⟨⟨xt0, xt1, xt2⟩, yt0, yt1, yt2⟩ := HCt.out
  have ltt := HCt.out.lt
  go_wp2_with fail
  clear xa0 xa1 xa2 ya0 ya1 ya2 lta xb0 xb1 xb2 yb0 yb1 yb2 ltb xs0 xs1 xs2 ys0 ys1 ys2 lts xt0 xt1 xt2 yt0 yt1 yt2 ltt
  obtain ⟨w7, hw⟩ : ∃ W, W = w6.alloc (.cells #[.bool zbx, .slice zAx znx zdx, .slice zBx zmx zqx] 25) := ⟨_, rfl⟩
  have hb : Below w6.heap.size w6 w7 := by rw [hw]; exact below_alloc _ _
  obtain ⟨gx, hg⟩ : ∃ g, g = w6.heap.size := ⟨_, rfl⟩
  have hcn : Cel w7 gx (.bool zbx) (.slice zAx znx zdx) (.slice zBx zmx zqx) := by rw [hw, hg]; exact Cel.new _ _ _ _ _
  rw [← hw]
  rw [← hg]
  replace HCa := Lib.hid (HCa.out.on hb)
  replace HCb := Lib.hid (HCb.out.on hb)
  replace HCs := Lib.hid (HCs.out.on hb)
  replace HCt := Lib.hid (HCt.out.on hb)
  replace HOa := Lib.hid (HOa.out.on hb)
  replace HOb := Lib.hid (HOb.out.on hb)
  replace HOs := Lib.hid (HOs.out.on hb)
  replace HOt := Lib.hid (HOt.out.on hb)
  replace HOx := Lib.hid (HOx.out.on hb)
  replace HB : Hid (Below w.heap.size w w7) := bstep HB.out hb
  have HCx := Lib.hid hcn
  clear hw hb hg hcn
  refine (ref_Div3 ba xsa ysa bb xsb ysb _ _ _ HOa.out HOb.out).mono ?_
  rintro e w8 h
  obtain ⟨zby, zAy, zny, zdy, zBy, zmy, zqy, rfl, ho, hb⟩ := h.open_
  replace HCa := Lib.hid (HCa.out.on hb)
  replace HCb := Lib.hid (HCb.out.on hb)
  replace HCs := Lib.hid (HCs.out.on hb)
  replace HCt := Lib.hid (HCt.out.on hb)
  replace HCx := Lib.hid (HCx.out.on hb)
  replace HOa := Lib.hid (HOa.out.on hb)
  replace HOb := Lib.hid (HOb.out.on hb)
  replace HOs := Lib.hid (HOs.out.on hb)
  replace HOt := Lib.hid (HOt.out.on hb)
  replace HOx := Lib.hid (HOx.out.on hb)
  replace HB : Hid (Below w.heap.size w w8) := bstep HB.out hb
  have HOy := Lib.hid ho
  clear h ho hb
  obtain ⟨⟨xa0, xa1, xa2⟩, ya0, ya1, ya2⟩ := HCa.out
  have lta := HCa.out.lt
  obtain ⟨⟨xb0, xb1, xb2⟩, yb0, yb1, yb2⟩ := HCb.out
  have ltb := HCb.out.lt
  obtain ⟨⟨xs0, xs1, xs2⟩, ys0, ys1, ys2⟩ := HCs.out
  have lts := HCs.out.lt
  obtain ⟨⟨xt0, xt1, xt2⟩, yt0, yt1, yt2⟩ := HCt.out
  have ltt := HCt.out.lt
  obtain ⟨⟨xx0, xx1, xx2⟩, yx0, yx1, yx2⟩ := HCx.out
  have ltx := HCx.out.lt
  go_wp2_with fail
  clear xa0 xa1 xa2 ya0 ya1 ya2 lta xb0 xb1 xb2 yb0 yb1 yb2 ltb xs0 xs1 xs2 ys0 ys1 ys2 lts xt0 xt1 xt2 yt0 yt1 yt2 ltt xx0 xx1 xx2 yx0 yx1 yx2 ltx
  obtain ⟨w9, hw⟩ : ∃ W, W = w8.alloc (.cells #[.bool zby, .slice zAy zny zdy, .slice zBy zmy zqy] 25) := ⟨_, rfl⟩
  have hb : Below w8.heap.size w8 w9 := by rw [hw]; exact below_alloc _ _
  obtain ⟨gy, hg⟩ : ∃ g, g = w8.heap.size := ⟨_, rfl⟩
  have hcn : Cel w9 gy (.bool zby) (.slice zAy zny zdy) (.slice zBy zmy zqy) := by rw [hw, hg]; exact Cel.new _ _ _ _ _
  rw [← hw]
  rw [← hg]
  replace HCa := Lib.hid (HCa.out.on hb)
  replace HCb := Lib.hid (HCb.out.on hb)
  replace HCs := Lib.hid (HCs.out.on hb)
  replace HCt := Lib.hid (HCt.out.on hb)
  replace HCx := Lib.hid (HCx.out.on hb)
  replace HOa := Lib.hid (HOa.out.on hb)
  replace HOb := Lib.hid (HOb.out.on hb)
  replace HOs := Lib.hid (HOs.out.on hb)
  replace HOt := Lib.hid (HOt.out.on hb)
  replace HOx := Lib.hid (HOx.out.on hb)
  replace HOy := Lib.hid (HOy.out.on hb)
  replace HB : Hid (Below w.heap.size w w9) := bstep HB.out hb
  have HCy := Lib.hid hcn
  clear hw hb hg hcn
  refine (same_out HOs.out HOt.out).mono ?_
  rintro e w10 ⟨rfl, hb⟩
  replace HCa := Lib.hid (HCa.out.on hb)
  replace HCb := Lib.hid (HCb.out.on hb)
  replace HCs := Lib.hid (HCs.out.on hb)
  replace HCt := Lib.hid (HCt.out.on hb)
  replace HCx := Lib.hid (HCx.out.on hb)
  replace HCy := Lib.hid (HCy.out.on hb)
  replace HOa := Lib.hid (HOa.out.on hb)
  replace HOb := Lib.hid (HOb.out.on hb)
  replace HOs := Lib.hid (HOs.out.on hb)
  replace HOt := Lib.hid (HOt.out.on hb)
  replace HOx := Lib.hid (HOx.out.on hb)
  replace HOy := Lib.hid (HOy.out.on hb)
  replace HB : Hid (Below w.heap.size w w10) := bstep HB.out hb
  clear hb
  obtain ⟨⟨xa0, xa1, xa2⟩, ya0, ya1, ya2⟩ := HCa.out
  have lta := HCa.out.lt
  obtain ⟨⟨xb0, xb1, xb2⟩, yb0, yb1, yb2⟩ := HCb.out
  have ltb := HCb.out.lt
  obtain ⟨⟨xs0, xs1, xs2⟩, ys0, ys1, ys2⟩ := HCs.out
  have lts := HCs.out.lt
  obtain ⟨⟨xt0, xt1, xt2⟩, yt0, yt1, yt2⟩ := HCt.out
  have ltt := HCt.out.lt
  obtain ⟨⟨xx0, xx1, xx2⟩, yx0, yx1, yx2⟩ := HCx.out
  have ltx := HCx.out.lt
  obtain ⟨⟨xy0, xy1, xy2⟩, yy0, yy1, yy2⟩ := HCy.out
  have lty := HCy.out.lt
  go_wp2_with fail
  clear xa0 xa1 xa2 ya0 ya1 ya2 lta xb0 xb1 xb2 yb0 yb1 yb2 ltb xs0 xs1 xs2 ys0 ys1 ys2 lts xt0 xt1 xt2 yt0 yt1 yt2 ltt xx0 xx1 xx2 yx0 yx1 yx2 ltx xy0 xy1 xy2 yy0 yy1 yy2 lty
  refine (same_out HOx.out HOy.out).mono ?_
  rintro e w11 ⟨rfl, hb⟩
  replace HCa := Lib.hid (HCa.out.on hb)
  replace HCb := Lib.hid (HCb.out.on hb)
  replace HCs := Lib.hid (HCs.out.on hb)
  replace HCt := Lib.hid (HCt.out.on hb)
  replace HCx := Lib.hid (HCx.out.on hb)
  replace HCy := Lib.hid (HCy.out.on hb)
  replace HOa := Lib.hid (HOa.out.on hb)
  replace HOb := Lib.hid (HOb.out.on hb)
  replace HOs := Lib.hid (HOs.out.on hb)
  replace HOt := Lib.hid (HOt.out.on hb)
  replace HOx := Lib.hid (HOx.out.on hb)
  replace HOy := Lib.hid (HOy.out.on hb)
  replace HB : Hid (Below w.heap.size w w11) := bstep HB.out hb
  clear hb
  obtain ⟨⟨xa0, xa1, xa2⟩, ya0, ya1, ya2⟩ := HCa.out
  have lta := HCa.out.lt
  obtain ⟨⟨xb0, xb1, xb2⟩, yb0, yb1, yb2⟩ := HCb.out
  have ltb := HCb.out.lt
  obtain ⟨⟨xs0, xs1, xs2⟩, ys0, ys1, ys2⟩ := HCs.out
  have lts := HCs.out.lt
  obtain ⟨⟨xt0, xt1, xt2⟩, yt0, yt1, yt2⟩ := HCt.out
  have ltt := HCt.out.lt
  obtain ⟨⟨xx0, xx1, xx2⟩, yx0, yx1, yx2⟩ := HCx.out
  have ltx := HCx.out.lt
  obtain ⟨⟨xy0, xy1, xy2⟩, yy0, yy1, yy2⟩ := HCy.out
  have lty := HCy.out.lt
  go_wp2_with fail
  clear xa0 xa1 xa2 ya0 ya1 ya2 lta xb0 xb1 xb2 yb0 yb1 yb2 ltb xs0 xs1 xs2 ys0 ys1 ys2 lts xt0 xt1 xt2 yt0 yt1 yt2 ltt xx0 xx1 xx2 yx0 yx1 yx2 ltx xy0 xy1 xy2 yy0 yy1 yy2 lty
  refine (awake3 _ (HT.out.on HB.out)).mono ?_
  rintro e w12 ⟨rfl, hb⟩
  replace HCa := Lib.hid (HCa.out.on hb)
  replace HCb := Lib.hid (HCb.out.on hb)
  replace HCs := Lib.hid (HCs.out.on hb)
  replace HCt := Lib.hid (HCt.out.on hb)
  replace HCx := Lib.hid (HCx.out.on hb)
  replace HCy := Lib.hid (HCy.out.on hb)
  replace HOa := Lib.hid (HOa.out.on hb)
  replace HOb := Lib.hid (HOb.out.on hb)
  replace HOs := Lib.hid (HOs.out.on hb)
  replace HOt := Lib.hid (HOt.out.on hb)
  replace HOx := Lib.hid (HOx.out.on hb)
  replace HOy := Lib.hid (HOy.out.on hb)
  replace HB : Hid (Below w.heap.size w w12) := bstep HB.out hb
  clear hb
  obtain ⟨⟨xa0, xa1, xa2⟩, ya0, ya1, ya2⟩ := HCa.out
  have lta := HCa.out.lt
  obtain ⟨⟨xb0, xb1, xb2⟩, yb0, yb1, yb2⟩ := HCb.out
  have ltb := HCb.out.lt
  obtain ⟨⟨xs0, xs1, xs2⟩, ys0, ys1, ys2⟩ := HCs.out
  have lts := HCs.out.lt
  obtain ⟨⟨xt0, xt1, xt2⟩, yt0, yt1, yt2⟩ := HCt.out
  have ltt := HCt.out.lt
  obtain ⟨⟨xx0, xx1, xx2⟩, yx0, yx1, yx2⟩ := HCx.out
  have ltx := HCx.out.lt
  obtain ⟨⟨xy0, xy1, xy2⟩, yy0, yy1, yy2⟩ := HCy.out
  have lty := HCy.out.lt
  go_wp2_with fail
  go_ret
  exact ⟨rfl, HB.out⟩

set_option maxHeartbeats 12800000 in
theorem walk_RatValids (w : World) (va : Value) (ba : Bool) (xsa ysa : List Int) (hia : InR w va ba xsa ysa) (ht : Tab w) :
    Calls Tryd.prog 3 #[va] w fun e w' => e = .returned (.bool true) ∧ Below w.heap.size w w' := by
  have HT := Lib.hid ht
  clear ht
  obtain ⟨vpa, vqa, rfl, h1a, h2a⟩ := hia
  obtain ⟨zAa, zda, rfl, h3a⟩ := in_open h1a
  obtain ⟨zBa, zqa, rfl, h4a⟩ := in_open h2a
  have HOa := Lib.hid (show InR w (.agg #[.bool ba, .slice zAa xsa.length zda, .slice zBa ysa.length zqa]) ba xsa ysa from ⟨_, _, rfl, h3a, h4a⟩)
  clear h1a h2a h3a h4a
  go_enter Tryd.func3, Tryd.ntmps3
  go_wp2_with fail
  obtain ⟨w1, hw⟩ : ∃ W, W = (w.alloc (.cells #[.bool ba, .slice zAa xsa.length zda, .slice zBa ysa.length zqa] 25)) := ⟨_, rfl⟩
  have hb : Below w.heap.size w w1 := by rw [hw]; exact below_alloc _ _
  have hca := Cel.new w (.bool ba) (.slice zAa xsa.length zda) (.slice zBa ysa.length zqa) 25
  have HCa : Hid (Cel w1 (w.heap.size) (.bool ba) (.slice zAa xsa.length zda) (.slice zBa ysa.length zqa)) := by rw [hw]; exact hca
  rw [← hw]
  replace HOa := Lib.hid (HOa.out.on hb)
  have HB := Lib.hid hb
  clear hw hb hca
  refine (rat_Neg ba xsa ysa _ _ HOa.out).mono ?_
  rintro e w2 h
  obtain ⟨zbx, zAx, znx, zdx, zBx, zmx, zqx, rfl, ho, hb⟩ := h.open_
  replace HCa := Lib.hid (HCa.out.on hb)
  replace HOa := Lib.hid (HOa.out.on hb)
  replace HB : Hid (Below w.heap.size w w2) := bstep HB.out hb
  have HOx := Lib.hid ho
  clear h ho hb
  obtain ⟨⟨xa0, xa1, xa2⟩, ya0, ya1, ya2⟩ := HCa.out
  have lta := HCa.out.lt
  go_wp2_with fail
  clear xa0 xa1 xa2 ya0 ya1 ya2 lta
  obtain ⟨w3, hw⟩ : ∃ W, W = w2.alloc (.cells #[.bool zbx, .slice zAx znx zdx, .slice zBx zmx zqx] 25) := ⟨_, rfl⟩
  have hb : Below w2.heap.size w2 w3 := by rw [hw]; exact below_alloc _ _
  obtain ⟨gx, hg⟩ : ∃ g, g = w2.heap.size := ⟨_, rfl⟩
  have hcn : Cel w3 gx (.bool zbx) (.slice zAx znx zdx) (.slice zBx zmx zqx) := by rw [hw, hg]; exact Cel.new _ _ _ _ _
  rw [← hw]
  rw [← hg]
  replace HCa := Lib.hid (HCa.out.on hb)
  replace HOa := Lib.hid (HOa.out.on hb)
  replace HOx := Lib.hid (HOx.out.on hb)
  replace HB : Hid (Below w.heap.size w w3) := bstep HB.out hb
  have HCx := Lib.hid hcn
  clear hw hb hg hcn
  refine (ref_Neg3 ba xsa ysa _ _ HOa.out).mono ?_
  rintro e w4 h
  obtain ⟨zby, zAy, zny, zdy, zBy, zmy, zqy, rfl, ho, hb⟩ := h.open_
  replace HCa := Lib.hid (HCa.out.on hb)
  replace HCx := Lib.hid (HCx.out.on hb)
  replace HOa := Lib.hid (HOa.out.on hb)
  replace HOx := Lib.hid (HOx.out.on hb)
  replace HB : Hid (Below w.heap.size w w4) := bstep HB.out hb
  have HOy := Lib.hid ho
  clear h ho hb
  obtain ⟨⟨xa0, xa1, xa2⟩, ya0, ya1, ya2⟩ := HCa.out
  have lta := HCa.out.lt
  obtain ⟨⟨xx0, xx1, xx2⟩, yx0, yx1, yx2⟩ := HCx.out
  have ltx := HCx.out.lt
  go_wp2_with fail
  clear xa0 xa1 xa2 ya0 ya1 ya2 lta xx0 xx1 xx2 yx0 yx1 yx2 ltx
  obtain ⟨w5, hw⟩ : ∃ W, W = w4.alloc (.cells #[.bool zby, .slice zAy zny zdy, .slice zBy zmy zqy] 25) := ⟨_, rfl⟩
  have hb : Below w4.heap.size w4 w5 := by rw [hw]; exact below_alloc _ _
  obtain ⟨gy, hg⟩ : ∃ g, g = w4.heap.size := ⟨_, rfl⟩
  have hcn : Cel w5 gy (.bool zby) (.slice zAy zny zdy) (.slice zBy zmy zqy) := by rw [hw, hg]; exact Cel.new _ _ _ _ _
  rw [← hw]
  rw [← hg]
  replace HCa := Lib.hid (HCa.out.on hb)
  replace HCx := Lib.hid (HCx.out.on hb)
  replace HOa := Lib.hid (HOa.out.on hb)
  replace HOx := Lib.hid (HOx.out.on hb)
  replace HOy := Lib.hid (HOy.out.on hb)
  replace HB : Hid (Below w.heap.size w w5) := bstep HB.out hb
  have HCy := Lib.hid hcn
  clear hw hb hg hcn
  refine (rat_Floor ba xsa ysa _ _ HOa.out).mono ?_
  rintro e w6 ⟨rfl, hb⟩
  replace HCa := Lib.hid (HCa.out.on hb)
  replace HCx := Lib.hid (HCx.out.on hb)
  replace HCy := Lib.hid (HCy.out.on hb)
  replace HOa := Lib.hid (HOa.out.on hb)
  replace HOx := Lib.hid (HOx.out.on hb)
  replace HOy := Lib.hid (HOy.out.on hb)
  replace HB : Hid (Below w.heap.size w w6) := bstep HB.out hb
  clear hb
  obtain ⟨⟨xa0, xa1, xa2⟩, ya0, ya1, ya2⟩ := HCa.out
  have lta := HCa.out.lt
  obtain ⟨⟨xx0, xx1, xx2⟩, yx0, yx1, yx2⟩ := HCx.out
  have ltx := HCx.out.lt
  obtain ⟨⟨xy0, xy1, xy2⟩, yy0, yy1, yy2⟩ := HCy.out
  have lty := HCy.out.lt
  go_wp2_with fail
  clear xa0 xa1 xa2 ya0 ya1 ya2 lta xx0 xx1 xx2 yx0 yx1 yx2 ltx xy0 xy1 xy2 yy0 yy1 yy2 lty
  refine (ref_Floor3 ba xsa ysa _ _ HOa.out).mono ?_
  rintro e w7 ⟨rfl, hb⟩
  replace HCa := Lib.hid (HCa.out.on hb)
  replace HCx := Lib.hid (HCx.out.on hb)
  replace HCy := Lib.hid (HCy.out.on hb)
  replace HOa := Lib.hid (HOa.out.on hb)
  replace HOx := Lib.hid (HOx.out.on hb)
  replace HOy := Lib.hid (HOy.out.on hb)
  replace HB : Hid (Below w.heap.size w w7) := bstep HB.out hb
  clear hb
  obtain ⟨⟨xa0, xa1, xa2⟩, ya0, ya1, ya2⟩ := HCa.out
  have lta := HCa.out.lt
  obtain ⟨⟨xx0, xx1, xx2⟩, yx0, yx1, yx2⟩ := HCx.out
  have ltx := HCx.out.lt
  obtain ⟨⟨xy0, xy1, xy2⟩, yy0, yy1, yy2⟩ := HCy.out
  have lty := HCy.out.lt
  go_wp2_with fail
  clear xa0 xa1 xa2 ya0 ya1 ya2 lta xx0 xx1 xx2 yx0 yx1 yx2 ltx xy0 xy1 xy2 yy0 yy1 yy2 lty
  refine (rat_Ceil ba xsa ysa _ _ HOa.out).mono ?_
  rintro e w8 ⟨rfl, hb⟩
  replace HCa := Lib.hid (HCa.out.on hb)
  replace HCx := Lib.hid (HCx.out.on hb)
  replace HCy := Lib.hid (HCy.out.on hb)
  replace HOa := Lib.hid (HOa.out.on hb)
  replace HOx := Lib.hid (HOx.out.on hb)
  replace HOy := Lib.hid (HOy.out.on hb)
  replace HB : Hid (Below w.heap.size w w8) := bstep HB.out hb
  clear hb
  obtain ⟨⟨xa0, xa1, xa2⟩, ya0, ya1, ya2⟩ := HCa.out
  have lta := HCa.out.lt
  obtain ⟨⟨xx0, xx1, xx2⟩, yx0, yx1, yx2⟩ := HCx.out
  have ltx := HCx.out.lt
  obtain ⟨⟨xy0, xy1, xy2⟩, yy0, yy1, yy2⟩ := HCy.out
  have lty := HCy.out.lt
  go_wp2_with fail
  clear xa0 xa1 xa2 ya0 ya1 ya2 lta xx0 xx1 xx2 yx0 yx1 yx2 ltx xy0 xy1 xy2 yy0 yy1 yy2 lty
  refine (ref_Ceil3 ba xsa ysa _ _ HOa.out).mono ?_
  rintro e w9 ⟨rfl, hb⟩
  replace HCa := Lib.hid (HCa.out.on hb)
  replace HCx := Lib.hid (HCx.out.on hb)
  replace HCy := Lib.hid (HCy.out.on hb)
  replace HOa := Lib.hid (HOa.out.on hb)
  replace HOx := Lib.hid (HOx.out.on hb)
  replace HOy := Lib.hid (HOy.out.on hb)
  replace HB : Hid (Below w.heap.size w w9) := bstep HB.out hb
  clear hb
  obtain ⟨⟨xa0, xa1, xa2⟩, ya0, ya1, ya2⟩ := HCa.out
  have lta := HCa.out.lt
  obtain ⟨⟨xx0, xx1, xx2⟩, yx0, yx1, yx2⟩ := HCx.out
  have ltx := HCx.out.lt
  obtain ⟨⟨xy0, xy1, xy2⟩, yy0, yy1, yy2⟩ := HCy.out
  have lty := HCy.out.lt
  go_wp2_with fail
  clear xa0 xa1 xa2 ya0 ya1 ya2 lta xx0 xx1 xx2 yx0 yx1 yx2 ltx xy0 xy1 xy2 yy0 yy1 yy2 lty
  refine (rat_Text ba xsa ysa _ _ HOa.out (HT.out.on HB.out)).mono ?_
  rintro e w10 ⟨rfl, hb⟩
  replace HCa := Lib.hid (HCa.out.on hb)
  replace HCx := Lib.hid (HCx.out.on hb)
  replace HCy := Lib.hid (HCy.out.on hb)
  replace HOa := Lib.hid (HOa.out.on hb)
  replace HOx := Lib.hid (HOx.out.on hb)
  replace HOy := Lib.hid (HOy.out.on hb)
  replace HB : Hid (Below w.heap.size w w10) := bstep HB.out hb
  clear hb
  obtain ⟨⟨xa0, xa1, xa2⟩, ya0, ya1, ya2⟩ := HCa.out
  have lta := HCa.out.lt
  obtain ⟨⟨xx0, xx1, xx2⟩, yx0, yx1, yx2⟩ := HCx.out
  have ltx := HCx.out.lt
  obtain ⟨⟨xy0, xy1, xy2⟩, yy0, yy1, yy2⟩ := HCy.out
  have lty := HCy.out.lt
  go_wp2_with fail
  clear xa0 xa1 xa2 ya0 ya1 ya2 lta xx0 xx1 xx2 yx0 yx1 yx2 ltx xy0 xy1 xy2 yy0 yy1 yy2 lty
  refine (ref_Text3 ba xsa ysa _ _ HOa.out).mono ?_
  rintro e w11 ⟨rfl, hb⟩
  replace HCa := Lib.hid (HCa.out.on hb)
  replace HCx := Lib.hid (HCx.out.on hb)
  replace HCy := Lib.hid (HCy.out.on hb)
  replace HOa := Lib.hid (HOa.out.on hb)
  replace HOx := Lib.hid (HOx.out.on hb)
  replace HOy := Lib.hid (HOy.out.on hb)
  replace HB : Hid (Below w.heap.size w w11) := bstep HB.out hb
  clear hb
  obtain ⟨⟨xa0, xa1, xa2⟩, ya0, ya1, ya2⟩ := HCa.out
  have lta := HCa.out.lt
  obtain ⟨⟨xx0, xx1, xx2⟩, yx0, yx1, yx2⟩ := HCx.out
  have ltx := HCx.out.lt
  obtain ⟨⟨xy0, xy1, xy2⟩, yy0, yy1, yy2⟩ := HCy.out
  have lty := HCy.out.lt
  have KA := Lib.hid HCa.out.drew
  have KX := Lib.hid HCx.out.drew
  have KY := Lib.hid HCy.out.drew
  have HBD := Lib.hid HB.out.drew
  have HAD : Hid (InR w11.drew _ ba xsa ysa) := HOa.out
  have HXD : Hid (OutR w11.drew _ (opH noE ba xsa ysa) (opU negOp ba xsa ysa)) := HOx.out
  have HYD : Hid (OutR w11.drew _ (opH noE ba xsa ysa) (opU negOp ba xsa ysa)) := HOy.out
  go_wp2_with fail
  go_region_held3 (fun W' => (W'.cell? ⟨w.heap.size, 0, none⟩ = some (.bool ba) ∧ W'.cell? ⟨w.heap.size, 1, none⟩ = some (.slice zAa xsa.length zda) ∧ W'.cell? ⟨w.heap.size, 2, none⟩ = some (.slice zBa ysa.length zqa)) ∧ (W'.cell? ⟨gx, 0, none⟩ = some (.bool zbx) ∧ W'.cell? ⟨gx, 1, none⟩ = some (.slice zAx znx zdx) ∧ W'.cell? ⟨gx, 2, none⟩ = some (.slice zBx zmx zqx)) ∧ (W'.cell? ⟨gy, 0, none⟩ = some (.bool zby) ∧ W'.cell? ⟨gy, 1, none⟩ = some (.slice zAy zny zdy) ∧ W'.cell? ⟨gy, 2, none⟩ = some (.slice zBy zmy zqy)))
    (first | exact ⟨⟨xa0, xa1, xa2⟩, ⟨xx0, xx1, xx2⟩, xy0, xy1, xy2⟩ | exact ⟨((KA.out).on k1).1, ((KX.out).on k1).1, ((KY.out).on k1).1⟩ | exact ⟨(((KA.out).on k1).on k2).1, (((KX.out).on k1).on k2).1, (((KY.out).on k1).on k2).1⟩ | exact ⟨((((KA.out).on k1).on k2).on k3).1, ((((KX.out).on k1).on k2).on k3).1, ((((KY.out).on k1).on k2).on k3).1⟩ | exact ⟨(((((KA.out).on k1).on k2).on k3).on k4).1, (((((KX.out).on k1).on k2).on k3).on k4).1, (((((KY.out).on k1).on k2).on k3).on k4).1⟩)
    (first | (go_at_call 19; (with_reducible refine (rat_Valid _ ba xsa ysa _ HAD.out).mono ?_); rintro e v1 ⟨rfl, k1⟩) | (go_at_call 20; (with_reducible refine (ref_Valid3 _ ba xsa ysa _ (HAD.out.on k1)).mono ?_); rintro e v2 ⟨rfl, k2⟩) | (go_at_call 21; (with_reducible refine (same_out ((HXD.out.on k1).on k2) ((HYD.out.on k1).on k2)).mono ?_); rintro e v3 ⟨rfl, k3⟩) | (go_at_call 22; (with_reducible refine (awake3 _ (HT.out.on (bstep (bstep (bstep HBD.out k1) k2) k3))).mono ?_); rintro e v4 ⟨rfl, k4⟩))
  all_goals go_wp2_with fail
  all_goals go_ret
  all_goals exact ⟨rfl, bstep (bstep (bstep (bstep HBD.out k1) k2) k3) k4⟩
#print axioms walk_RatSums
#print axioms walk_RatProducts
#print axioms walk_RatValids
end Go.Proofs.YthkhaipbdphpeaaDoor
