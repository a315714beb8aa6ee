/- The walk of RatForms. -/
import Derived.Test.YthkhaipbdphpeaaDoorCRatEE
import Derived.Test.YthkhaipbdphpeaaDoorPk10
import Derived.Test.YthkhaipbdphpeaaDoorPk8
import Derived.Deep.DeepCutAuto
namespace Go.Proofs.YthkhaipbdphpeaaDoor
open Go.ChangeShapes Go.WideShapes Go.RowKit
set_option linter.unusedVariables false
set_option maxRecDepth 100000

/-- The four results and their errors. -/
def Items (w : World) (gl gc : Nat) : Prop :=
  ∀ k, k < 4 → ∃ err r b A n c B m d, w.cell? ⟨gc, k, none⟩ = some (.int .i64 err) ∧
    (w.cell? ⟨gl, k * 3, none⟩ = some (.bool b) ∧ w.cell? ⟨gl, k * 3 + 1, none⟩ = some (.slice A n c) ∧ w.cell? ⟨gl, k * 3 + 2, none⟩ = some (.slice B m d)) ∧
    OutR w (.agg #[.bool b, .slice A n c, .slice B m d]) err r ∧ (err = 0 → fitR r = true)
theorem Items.on {w w' : World} {gl gc : Nat} (h : Items w gl gc) (hb : Below w.heap.size w w') : Items w' gl gc := by
  intro k hk
  obtain ⟨err, r, b, A, n, c, B, m, d, h0, ⟨h1, h2, h3⟩, h4, h5⟩ := h k hk
  have e : ∀ g o u, w.cell? ⟨g, o, none⟩ = some u → w'.cell? ⟨g, o, none⟩ = some u := fun g o u hu => (hb.cell (p := ⟨g, o, none⟩) (World.block_lt_of_cell? w _ hu)).trans hu
  exact ⟨err, r, b, A, n, c, B, m, d, e _ _ _ h0, ⟨e _ _ _ h1, e _ _ _ h2, e _ _ _ h3⟩, h4.on hb, h5⟩
theorem opE_fit {ok : Rat → Rat → Bool} {f : Rat → Rat → Rat} (hf : ∀ r s, fitR r = true → fitR s = true → ok r s = true → fitR (f r s) = true) {b c : Bool} {xs ys zs ts : List Int} (h : opE ok b xs ys c zs ts = 0) : fitR (opV f b xs ys c zs ts) = true := by
  rcases two_cases b xs ys c zs ts with ⟨_, h1⟩ | ⟨_, _, h1⟩ | ⟨h1, r, s, ⟨hr, rfl, rfl, rfl⟩, hs, rfl, rfl, rfl⟩
  · rw [opE_no h1] at h; cases h
  · rw [opE_no h1] at h; cases h
  · rw [(op_form (ok := ok) (f := f) hr hs).1] at h
    rw [(op_form (ok := ok) (f := f) hr hs).2]
    refine hf r s hr hs ?_
    cases ho : ok r s with
    | true => rfl
    | false => rw [ho] at h; cases h
theorem divE_fit {b c : Bool} {xs ys zs ts : List Int} (h : opG divEr b xs ys c zs ts = 0) : fitR (opV divOp b xs ys c zs ts) = true := by
  rcases two_cases b xs ys c zs ts with ⟨_, h1⟩ | ⟨_, _, h1⟩ | ⟨h1, r, s, ⟨hr, rfl, rfl, rfl⟩, hs, rfl, rfl, rfl⟩
  · rw [opG_no h1] at h; cases h
  · rw [opG_no h1] at h; cases h
  · rw [(opG_form (er := divEr) (f := divOp) hr hs).1] at h
    rw [(opG_form (er := divEr) (f := divOp) hr hs).2]
    by_cases h0 : s.num = 0
    · rw [divEr_zero h0] at h; cases h
    · rw [divEr_inv h0] at h
      refine fit_mul hr ((inv_form h0).2.2.2 hs) ?_
      cases ho : mulOk r s⁻¹ with
      | true => rfl
      | false => rw [ho] at h; cases h
theorem negE_fit {b : Bool} {xs ys : List Int} (h : opH noE b xs ys = 0) : fitR (opU negOp b xs ys) = true := by
  rcases bcase (valR b xs ys) with h1 | h1
  · obtain ⟨r, hr, rfl, rfl, rfl⟩ := val_form h1
    rw [(opH_form (er := noE) (f := negOp) hr).2]; exact fit_neg hr
  · rw [opH_no h1] at h; cases h
theorem cells_row {w : World} {g : Nat} {cs : Array Value} {t : TypeId} (h : w.heap[g]? = some (.cells cs t (0, 0))) (i : Nat) : w.cell? ⟨g, i, none⟩ = cs[i]? := cell_of_row w g i cs t (0, 0) h

set_option maxHeartbeats 12800000 in
theorem walk_RatForms (w : World) (va : Value) (ba : Bool) (xsa ysa : List Int) (hia : InR w va ba xsa ysa) (vb : Value) (bb : Bool) (xsb ysb : List Int) (hib : InR w vb bb xsb ysb) (ht : Tab w) :
    Calls Tryd.prog 10 #[va, vb] w fun e w' => e = .returned (.bool true) ∧ Below w.heap.size w w' := by
  have HT := Lib.hid ht
  clear ht
  obtain ⟨vpa, vqa, rfl, h1a, h2a⟩ := hia
  obtain ⟨zAa, zda, rfl, h3a⟩ := in_open h1a
  obtain ⟨zBa, zqa, rfl, h4a⟩ := in_open h2a
  have HOa := Lib.hid (show InR w (.agg #[.bool ba, .slice zAa xsa.length zda, .slice zBa ysa.length zqa]) ba xsa ysa from ⟨_, _, rfl, h3a, h4a⟩)
  clear h1a h2a h3a h4a
  obtain ⟨vpb, vqb, rfl, h1b, h2b⟩ := hib
  obtain ⟨zAb, zdb, rfl, h3b⟩ := in_open h1b
  obtain ⟨zBb, zqb, rfl, h4b⟩ := in_open h2b
  have HOb := Lib.hid (show InR w (.agg #[.bool bb, .slice zAb xsb.length zdb, .slice zBb ysb.length zqb]) bb xsb ysb from ⟨_, _, rfl, h3b, h4b⟩)
  clear h1b h2b h3b h4b
  go_enter Tryd.func10, Tryd.ntmps10
  go_wp2_with fail
  obtain ⟨w1, hw⟩ : ∃ W, W = ((w.alloc (.cells #[.bool ba, .slice zAa xsa.length zda, .slice zBa ysa.length zqa] 25)).alloc (.cells #[.bool bb, .slice zAb xsb.length zdb, .slice zBb ysb.length zqb] 25)) := ⟨_, rfl⟩
  have hb : Below w.heap.size w w1 := by rw [hw]; exact balloc (below_alloc _ _) _
  have hca := (Cel.new w (.bool ba) (.slice zAa xsa.length zda) (.slice zBa ysa.length zqa) 25).alloc (.cells #[.bool bb, .slice zAb xsb.length zdb, .slice zBb ysb.length zqb] 25)
  have HCa : Hid (Cel w1 (w.heap.size) (.bool ba) (.slice zAa xsa.length zda) (.slice zBa ysa.length zqa)) := by rw [hw]; exact hca
  have hcb := Cel.new (w.alloc (.cells #[.bool ba, .slice zAa xsa.length zda, .slice zBa ysa.length zqa] 25)) (.bool bb) (.slice zAb xsb.length zdb) (.slice zBb ysb.length zqb) 25
  simp only [World.size_alloc] at hcb
  have HCb : Hid (Cel w1 (w.heap.size + 1) (.bool bb) (.slice zAb xsb.length zdb) (.slice zBb ysb.length zqb)) := by rw [hw]; exact hcb
  rw [← hw]
  replace HOa := Lib.hid (HOa.out.on hb)
  replace HOb := Lib.hid (HOb.out.on hb)
  have HB := Lib.hid hb
  clear hw hb hca hcb
  obtain ⟨E, hE⟩ : ∃ x : Int, x = opE sumOk ba xsa ysa bb xsb ysb := ⟨_, rfl⟩
  refine (rat_Add ba xsa ysa bb xsb ysb _ _ _ HOa.out HOb.out).mono ?_
  rw [← hE]
  have HE := Lib.hid hE
  clear hE
  rintro e w2 h
  obtain ⟨zbs, zAs, zns, zds, zBs, zms, zqs, rfl, ho, hb⟩ := h.open_
  replace HCa := Lib.hid (HCa.out.on hb)
  replace HCb := Lib.hid (HCb.out.on hb)
  replace HOa := Lib.hid (HOa.out.on hb)
  replace HOb := Lib.hid (HOb.out.on hb)
  replace HB : Hid (Below w.heap.size w w2) := bstep HB.out hb
  have HOs := Lib.hid ho
  clear h ho hb
  obtain ⟨⟨xa0, xa1, xa2⟩, ya0, ya1, ya2⟩ := HCa.out
  have lta := HCa.out.lt
  obtain ⟨⟨xb0, xb1, xb2⟩, yb0, yb1, yb2⟩ := HCb.out
  have ltb := HCb.out.lt
  go_wp2_with fail
  clear xa0 xa1 xa2 ya0 ya1 ya2 lta xb0 xb1 xb2 yb0 yb1 yb2 ltb
  obtain ⟨w3, hw⟩ : ∃ W, W = w2.alloc (.cells #[.bool zbs, .slice zAs zns zds, .slice zBs zms zqs] 25) := ⟨_, rfl⟩
  have hb : Below w2.heap.size w2 w3 := by rw [hw]; exact below_alloc _ _
  obtain ⟨gs, hg⟩ : ∃ g, g = w2.heap.size := ⟨_, rfl⟩
  have hcn : Cel w3 gs (.bool zbs) (.slice zAs zns zds) (.slice zBs zms zqs) := by rw [hw, hg]; exact Cel.new _ _ _ _ _
  rw [← hw]
  rw [← hg]
  replace HCa := Lib.hid (HCa.out.on hb)
  replace HCb := Lib.hid (HCb.out.on hb)
  replace HOa := Lib.hid (HOa.out.on hb)
  replace HOb := Lib.hid (HOb.out.on hb)
  replace HOs := Lib.hid (HOs.out.on hb)
  replace HB : Hid (Below w.heap.size w w3) := bstep HB.out hb
  have HCs := Lib.hid hcn
  clear hw hb hg hcn
  obtain ⟨F, hF⟩ : ∃ x : Int, x = opE mulOk ba xsa ysa bb xsb ysb := ⟨_, rfl⟩
  refine (rat_Mul ba xsa ysa bb xsb ysb _ _ _ HOa.out HOb.out).mono ?_
  rw [← hF]
  have HF := Lib.hid hF
  clear hF
  rintro e w4 h
  obtain ⟨zbp, zAp, znp, zdp, zBp, zmp, zqp, rfl, ho, hb⟩ := h.open_
  replace HCa := Lib.hid (HCa.out.on hb)
  replace HCb := Lib.hid (HCb.out.on hb)
  replace HCs := Lib.hid (HCs.out.on hb)
  replace HOa := Lib.hid (HOa.out.on hb)
  replace HOb := Lib.hid (HOb.out.on hb)
  replace HOs := Lib.hid (HOs.out.on hb)
  replace HB : Hid (Below w.heap.size w w4) := bstep HB.out hb
  have HOp := Lib.hid ho
  clear h ho hb
  obtain ⟨⟨xa0, xa1, xa2⟩, ya0, ya1, ya2⟩ := HCa.out
  have lta := HCa.out.lt
  obtain ⟨⟨xb0, xb1, xb2⟩, yb0, yb1, yb2⟩ := HCb.out
  have ltb := HCb.out.lt
  obtain ⟨⟨xs0, xs1, xs2⟩, ys0, ys1, ys2⟩ := HCs.out
  have lts := HCs.out.lt
  go_wp2_with fail
  clear xa0 xa1 xa2 ya0 ya1 ya2 lta xb0 xb1 xb2 yb0 yb1 yb2 ltb xs0 xs1 xs2 ys0 ys1 ys2 lts
  obtain ⟨w5, hw⟩ : ∃ W, W = w4.alloc (.cells #[.bool zbp, .slice zAp znp zdp, .slice zBp zmp zqp] 25) := ⟨_, rfl⟩
  have hb : Below w4.heap.size w4 w5 := by rw [hw]; exact below_alloc _ _
  obtain ⟨gp, hg⟩ : ∃ g, g = w4.heap.size := ⟨_, rfl⟩
  have hcn : Cel w5 gp (.bool zbp) (.slice zAp znp zdp) (.slice zBp zmp zqp) := by rw [hw, hg]; exact Cel.new _ _ _ _ _
  rw [← hw]
  rw [← hg]
  replace HCa := Lib.hid (HCa.out.on hb)
  replace HCb := Lib.hid (HCb.out.on hb)
  replace HCs := Lib.hid (HCs.out.on hb)
  replace HOa := Lib.hid (HOa.out.on hb)
  replace HOb := Lib.hid (HOb.out.on hb)
  replace HOs := Lib.hid (HOs.out.on hb)
  replace HOp := Lib.hid (HOp.out.on hb)
  replace HB : Hid (Below w.heap.size w w5) := bstep HB.out hb
  have HCp := Lib.hid hcn
  clear hw hb hg hcn
  obtain ⟨G, hG⟩ : ∃ x : Int, x = opG divEr ba xsa ysa bb xsb ysb := ⟨_, rfl⟩
  refine (rat_Div ba xsa ysa bb xsb ysb _ _ _ HOa.out HOb.out).mono ?_
  rw [← hG]
  have HG := Lib.hid hG
  clear hG
  rintro e w6 h
  obtain ⟨zbq, zAq, znq, zdq, zBq, zmq, zqq, rfl, ho, hb⟩ := h.open_
  replace HCa := Lib.hid (HCa.out.on hb)
  replace HCb := Lib.hid (HCb.out.on hb)
  replace HCs := Lib.hid (HCs.out.on hb)
  replace HCp := Lib.hid (HCp.out.on hb)
  replace HOa := Lib.hid (HOa.out.on hb)
  replace HOb := Lib.hid (HOb.out.on hb)
  replace HOs := Lib.hid (HOs.out.on hb)
  replace HOp := Lib.hid (HOp.out.on hb)
  replace HB : Hid (Below w.heap.size w w6) := bstep HB.out hb
  have HOq := Lib.hid ho
  clear h ho hb
  obtain ⟨⟨xa0, xa1, xa2⟩, ya0, ya1, ya2⟩ := HCa.out
  have lta := HCa.out.lt
  obtain ⟨⟨xb0, xb1, xb2⟩, yb0, yb1, yb2⟩ := HCb.out
  have ltb := HCb.out.lt
  obtain ⟨⟨xs0, xs1, xs2⟩, ys0, ys1, ys2⟩ := HCs.out
  have lts := HCs.out.lt
  obtain ⟨⟨xp0, xp1, xp2⟩, yp0, yp1, yp2⟩ := HCp.out
  have ltp := HCp.out.lt
  go_wp2_with fail
  clear xa0 xa1 xa2 ya0 ya1 ya2 lta xb0 xb1 xb2 yb0 yb1 yb2 ltb xs0 xs1 xs2 ys0 ys1 ys2 lts xp0 xp1 xp2 yp0 yp1 yp2 ltp
  obtain ⟨w7, hw⟩ : ∃ W, W = w6.alloc (.cells #[.bool zbq, .slice zAq znq zdq, .slice zBq zmq zqq] 25) := ⟨_, rfl⟩
  have hb : Below w6.heap.size w6 w7 := by rw [hw]; exact below_alloc _ _
  obtain ⟨gq, hg⟩ : ∃ g, g = w6.heap.size := ⟨_, rfl⟩
  have hcn : Cel w7 gq (.bool zbq) (.slice zAq znq zdq) (.slice zBq zmq zqq) := by rw [hw, hg]; exact Cel.new _ _ _ _ _
  rw [← hw]
  rw [← hg]
  replace HCa := Lib.hid (HCa.out.on hb)
  replace HCb := Lib.hid (HCb.out.on hb)
  replace HCs := Lib.hid (HCs.out.on hb)
  replace HCp := Lib.hid (HCp.out.on hb)
  replace HOa := Lib.hid (HOa.out.on hb)
  replace HOb := Lib.hid (HOb.out.on hb)
  replace HOs := Lib.hid (HOs.out.on hb)
  replace HOp := Lib.hid (HOp.out.on hb)
  replace HOq := Lib.hid (HOq.out.on hb)
  replace HB : Hid (Below w.heap.size w w7) := bstep HB.out hb
  have HCq := Lib.hid hcn
  clear hw hb hg hcn
  obtain ⟨H, hH⟩ : ∃ x : Int, x = opH noE ba xsa ysa := ⟨_, rfl⟩
  refine (rat_Neg ba xsa ysa _ _ HOa.out).mono ?_
  rw [← hH]
  have HH := Lib.hid hH
  clear hH
  rintro e w8 h
  obtain ⟨zbn, zAn, znn, zdn, zBn, zmn, zqn, rfl, ho, hb⟩ := h.open_
  replace HCa := Lib.hid (HCa.out.on hb)
  replace HCb := Lib.hid (HCb.out.on hb)
  replace HCs := Lib.hid (HCs.out.on hb)
  replace HCp := Lib.hid (HCp.out.on hb)
  replace HCq := Lib.hid (HCq.out.on hb)
  replace HOa := Lib.hid (HOa.out.on hb)
  replace HOb := Lib.hid (HOb.out.on hb)
  replace HOs := Lib.hid (HOs.out.on hb)
  replace HOp := Lib.hid (HOp.out.on hb)
  replace HOq := Lib.hid (HOq.out.on hb)
  replace HB : Hid (Below w.heap.size w w8) := bstep HB.out hb
  have HOn := Lib.hid ho
  clear h ho hb
  obtain ⟨⟨xa0, xa1, xa2⟩, ya0, ya1, ya2⟩ := HCa.out
  have lta := HCa.out.lt
  obtain ⟨⟨xb0, xb1, xb2⟩, yb0, yb1, yb2⟩ := HCb.out
  have ltb := HCb.out.lt
  obtain ⟨⟨xs0, xs1, xs2⟩, ys0, ys1, ys2⟩ := HCs.out
  have lts := HCs.out.lt
  obtain ⟨⟨xp0, xp1, xp2⟩, yp0, yp1, yp2⟩ := HCp.out
  have ltp := HCp.out.lt
  obtain ⟨⟨xq0, xq1, xq2⟩, yq0, yq1, yq2⟩ := HCq.out
  have ltq := HCq.out.lt
  go_wp2_with fail
  clear xa0 xa1 xa2 ya0 ya1 ya2 lta xb0 xb1 xb2 yb0 yb1 yb2 ltb xs0 xs1 xs2 ys0 ys1 ys2 lts xp0 xp1 xp2 yp0 yp1 yp2 ltp xq0 xq1 xq2 yq0 yq1 yq2 ltq
  obtain ⟨w9, hw⟩ : ∃ W, W = w8.alloc (.cells #[.bool zbn, .slice zAn znn zdn, .slice zBn zmn zqn] 25) := ⟨_, rfl⟩
  have hb : Below w8.heap.size w8 w9 := by rw [hw]; exact below_alloc _ _
  obtain ⟨gn, hg⟩ : ∃ g, g = w8.heap.size := ⟨_, rfl⟩
  have hcn : Cel w9 gn (.bool zbn) (.slice zAn znn zdn) (.slice zBn zmn zqn) := by rw [hw, hg]; exact Cel.new _ _ _ _ _
  have hsz : w9.heap.size = gn + 1 := by rw [hw, hg]; simp
  rw [← hw]
  rw [← hg]
  replace HCa := Lib.hid (HCa.out.on hb)
  replace HCb := Lib.hid (HCb.out.on hb)
  replace HCs := Lib.hid (HCs.out.on hb)
  replace HCp := Lib.hid (HCp.out.on hb)
  replace HCq := Lib.hid (HCq.out.on hb)
  replace HOa := Lib.hid (HOa.out.on hb)
  replace HOb := Lib.hid (HOb.out.on hb)
  replace HOs := Lib.hid (HOs.out.on hb)
  replace HOp := Lib.hid (HOp.out.on hb)
  replace HOq := Lib.hid (HOq.out.on hb)
  replace HOn := Lib.hid (HOn.out.on hb)
  replace HB : Hid (Below w.heap.size w w9) := bstep HB.out hb
  have HCn := Lib.hid hcn
  clear hw hb hg hcn
  have FE : Hid (E = 0 → fitR (opV addOp ba xsa ysa bb xsb ysb) = true) := fun h => opE_fit (fun r s hr hs h => fit_sum hr hs h) (HE.out.symm.trans h)
  have FF : Hid (F = 0 → fitR (opV mulOp ba xsa ysa bb xsb ysb) = true) := fun h => opE_fit (fun r s hr hs h => fit_mul hr hs h) (HF.out.symm.trans h)
  have FG : Hid (G = 0 → fitR (opV divOp ba xsa ysa bb xsb ysb) = true) := fun h => divE_fit (HG.out.symm.trans h)
  have FH : Hid (H = 0 → fitR (opU negOp ba xsa ysa) = true) := fun h => negE_fit (HH.out.symm.trans h)
  obtain ⟨w10, hw⟩ : ∃ W, W = ((w9.alloc (.cells #[.bool zbs, .slice zAs zns zds, .slice zBs zms zqs, .bool zbp, .slice zAp znp zdp, .slice zBp zmp zqp, .bool zbq, .slice zAq znq zdq, .slice zBq zmq zqq, .bool zbn, .slice zAn znn zdn, .slice zBn zmn zqn] 25)).alloc (.cells #[.int .i64 E, .int .i64 F, .int .i64 G, .int .i64 H] 26)) := ⟨_, rfl⟩
  have hb : Below w9.heap.size w9 w10 := by rw [hw]; exact balloc (below_alloc _ _) _
  have hrl : w10.heap[gn + 1]? = some (.cells #[.bool zbs, .slice zAs zns zds, .slice zBs zms zqs, .bool zbp, .slice zAp znp zdp, .slice zBp zmp zqp, .bool zbq, .slice zAq znq zdq, .slice zBq zmq zqq, .bool zbn, .slice zAn znn zdn, .slice zBn zmn zqn] 25 (0, 0)) := by
    rw [hw, ← hsz, Below.heap_alloc _ _ _ (by simp)]; exact heap_alloc_new _ _
  have hrc : w10.heap[gn + 1 + 1]? = some (.cells #[.int .i64 E, .int .i64 F, .int .i64 G, .int .i64 H] 26 (0, 0)) := by
    rw [hw, ← hsz]
    have h := heap_alloc_new (w9.alloc (.cells #[.bool zbs, .slice zAs zns zds, .slice zBs zms zqs, .bool zbp, .slice zAp znp zdp, .slice zBp zmp zqp, .bool zbq, .slice zAq znq zdq, .slice zBq zmq zqq, .bool zbn, .slice zAn znn zdn, .slice zBn zmn zqn] 25)) (.cells #[.int .i64 E, .int .i64 F, .int .i64 G, .int .i64 H] 26)
    rw [World.size_alloc] at h
    exact h
  rw [← hw]
  replace HCa := Lib.hid (HCa.out.on hb)
  replace HCb := Lib.hid (HCb.out.on hb)
  replace HCs := Lib.hid (HCs.out.on hb)
  replace HCp := Lib.hid (HCp.out.on hb)
  replace HCq := Lib.hid (HCq.out.on hb)
  replace HCn := Lib.hid (HCn.out.on hb)
  replace HOa := Lib.hid (HOa.out.on hb)
  replace HOb := Lib.hid (HOb.out.on hb)
  replace HOs := Lib.hid (HOs.out.on hb)
  replace HOp := Lib.hid (HOp.out.on hb)
  replace HOq := Lib.hid (HOq.out.on hb)
  replace HOn := Lib.hid (HOn.out.on hb)
  replace HB : Hid (Below w.heap.size w w10) := bstep HB.out hb
  have HIT : Hid (Items w10 (gn + 1) (gn + 1 + 1)) := by
    intro k hk
    match k, hk with
    | 0, _ => exact ⟨_, _, _, _, _, _, _, _, _, cells_row hrc 0, ⟨cells_row hrl 0, cells_row hrl 1, cells_row hrl 2⟩, HOs.out, FE.out⟩
    | 1, _ => exact ⟨_, _, _, _, _, _, _, _, _, cells_row hrc 1, ⟨cells_row hrl 3, cells_row hrl 4, cells_row hrl 5⟩, HOp.out, FF.out⟩
    | 2, _ => exact ⟨_, _, _, _, _, _, _, _, _, cells_row hrc 2, ⟨cells_row hrl 6, cells_row hrl 7, cells_row hrl 8⟩, HOq.out, FG.out⟩
    | 3, _ => exact ⟨_, _, _, _, _, _, _, _, _, cells_row hrc 3, ⟨cells_row hrl 9, cells_row hrl 10, cells_row hrl 11⟩, HOn.out, FH.out⟩
  obtain ⟨gl, hgl⟩ : ∃ g, g = gn + 1 := ⟨_, rfl⟩
  rw [← hgl] at HIT ⊢
  obtain ⟨gc, hgc⟩ : ∃ g, g = gl + 1 := ⟨_, rfl⟩
  rw [← hgc] at HIT ⊢
  clear hw hb hsz hrl hrc hgl hgc FE FF FG FH HE HF HG HH
  go_loopw [15] (fun i wr => ∃ k : Nat, k ≤ 4 ∧ i = .int .i64 k ∧ Below w10.heap.size w10 wr) (fun i _ => 4 - (intOf i).toNat)
  case atStart => exact ⟨0, by omega, rfl, Below.refl _ _⟩
  case round =>
    obtain ⟨k, hk, rfl, hbr⟩ := hrel
    rcases Nat.lt_or_ge k 4 with hlt | hge
    · skip
      obtain ⟨err, r, b, A, n, c, B, m, d, c0, ⟨c1, c2, c3⟩, ho, hfit⟩ := HIT.out.on hbr k hlt
      have HOI := Lib.hid ho
      have HFI := Lib.hid hfit
      have HBR := Lib.hid hbr
      have hk4 : (k : Int) < 4 := by omega
      clear ho hfit hbr
      by_cases h0 : err = 0
      · subst h0
        have HIR := Lib.hid HOI.out.zero'
        have HFR := Lib.hid (HFI.out rfl)
        go_wp2_with fail
        refine (rat_Valid _ (negR r) (topL r) (botL r) _ HIR.out).mono ?_
        rw [(form_val HFR.out).1]
        rintro e w1' ⟨rfl, hb1⟩
        have HB1 := Lib.hid hb1
        obtain ⟨hc1, hf1⟩ := bcell hb1
        have lc := World.block_lt_of_cell? _ _ c0
        clear hb1
        go_wp2_with fail
        go_roundw
        case rel => exact ⟨k + 1, by omega, by go_num, bstep HBR.out HB1.out⟩
        case measure => simp [intOf]; omega
      · have e1 : (err == 0) = false := beq_false_of_ne h0
        have e2 : (err != 0) = true := by simpa using h0
        have HZR : Hid (InR wr (.agg #[.bool b, .slice A n c, .slice B m d]) false [] []) := by
          have h := HOI.out
          unfold OutR at h
          rw [if_neg h0] at h
          exact h
        clear h0
        go_wp2_with fail
        refine (law_zero _ _ HZR.out).mono ?_
        rintro e w1' ⟨rfl, hb1⟩
        have HB1 := Lib.hid hb1
        clear hb1
        go_wp2_with fail
        go_roundw
        case rel => exact ⟨k + 1, by omega, by go_num, bstep HBR.out HB1.out⟩
        case measure => simp [intOf]; omega
    · skip
      obtain rfl : k = 4 := by omega
      obtain ⟨w11, hw⟩ : ∃ W, W = wr := ⟨_, rfl⟩
      rw [← hw] at hbr ⊢
      have hb := hbr
      replace HCa := Lib.hid (HCa.out.on hb)
      replace HCb := Lib.hid (HCb.out.on hb)
      replace HCs := Lib.hid (HCs.out.on hb)
      replace HCp := Lib.hid (HCp.out.on hb)
      replace HCq := Lib.hid (HCq.out.on hb)
      replace HCn := Lib.hid (HCn.out.on hb)
      replace HOa := Lib.hid (HOa.out.on hb)
      replace HOb := Lib.hid (HOb.out.on hb)
      replace HOs := Lib.hid (HOs.out.on hb)
      replace HOp := Lib.hid (HOp.out.on hb)
      replace HOq := Lib.hid (HOq.out.on hb)
      replace HOn := Lib.hid (HOn.out.on hb)
      replace HB : Hid (Below w.heap.size w w11) := bstep HB.out hb
      clear hb hbr hw HIT hk hge
      obtain ⟨⟨xa0, xa1, xa2⟩, ya0, ya1, ya2⟩ := HCa.out
      have lta := HCa.out.lt
      obtain ⟨⟨xb0, xb1, xb2⟩, yb0, yb1, yb2⟩ := HCb.out
      have ltb := HCb.out.lt
      obtain ⟨⟨xs0, xs1, xs2⟩, ys0, ys1, ys2⟩ := HCs.out
      have lts := HCs.out.lt
      obtain ⟨⟨xp0, xp1, xp2⟩, yp0, yp1, yp2⟩ := HCp.out
      have ltp := HCp.out.lt
      obtain ⟨⟨xq0, xq1, xq2⟩, yq0, yq1, yq2⟩ := HCq.out
      have ltq := HCq.out.lt
      obtain ⟨⟨xn0, xn1, xn2⟩, yn0, yn1, yn2⟩ := HCn.out
      have ltn := HCn.out.lt
      go_wp2_with fail
      clear xa0 xa1 xa2 ya0 ya1 ya2 lta xb0 xb1 xb2 yb0 yb1 yb2 ltb xs0 xs1 xs2 ys0 ys1 ys2 lts xp0 xp1 xp2 yp0 yp1 yp2 ltp xq0 xq1 xq2 yq0 yq1 yq2 ltq xn0 xn1 xn2 yn0 yn1 yn2 ltn
      obtain ⟨S, hS⟩ : ∃ x : ByteArray, x = txtW ba xsa ysa := ⟨_, rfl⟩
      obtain ⟨I, hI⟩ : ∃ x : Int, x = opH noE ba xsa ysa := ⟨_, rfl⟩
      refine (rat_Text ba xsa ysa _ _ HOa.out (HT.out.on HB.out)).mono ?_
      rw [← hS, ← hI]
      have HS := Lib.hid hS
      have HI := Lib.hid hI
      clear hS hI
      rintro e w12 ⟨rfl, hb⟩
      replace HCa := Lib.hid (HCa.out.on hb)
      replace HCb := Lib.hid (HCb.out.on hb)
      replace HCs := Lib.hid (HCs.out.on hb)
      replace HCp := Lib.hid (HCp.out.on hb)
      replace HCq := Lib.hid (HCq.out.on hb)
      replace HCn := Lib.hid (HCn.out.on hb)
      replace HOa := Lib.hid (HOa.out.on hb)
      replace HOb := Lib.hid (HOb.out.on hb)
      replace HOs := Lib.hid (HOs.out.on hb)
      replace HOp := Lib.hid (HOp.out.on hb)
      replace HOq := Lib.hid (HOq.out.on hb)
      replace HOn := Lib.hid (HOn.out.on hb)
      replace HB : Hid (Below w.heap.size w w12) := bstep HB.out hb
      clear hb
      obtain ⟨⟨xa0, xa1, xa2⟩, ya0, ya1, ya2⟩ := HCa.out
      have lta := HCa.out.lt
      obtain ⟨⟨xb0, xb1, xb2⟩, yb0, yb1, yb2⟩ := HCb.out
      have ltb := HCb.out.lt
      obtain ⟨⟨xs0, xs1, xs2⟩, ys0, ys1, ys2⟩ := HCs.out
      have lts := HCs.out.lt
      obtain ⟨⟨xp0, xp1, xp2⟩, yp0, yp1, yp2⟩ := HCp.out
      have ltp := HCp.out.lt
      obtain ⟨⟨xq0, xq1, xq2⟩, yq0, yq1, yq2⟩ := HCq.out
      have ltq := HCq.out.lt
      obtain ⟨⟨xn0, xn1, xn2⟩, yn0, yn1, yn2⟩ := HCn.out
      have ltn := HCn.out.lt
      go_wp2_with fail
      clear xa0 xa1 xa2 ya0 ya1 ya2 lta xb0 xb1 xb2 yb0 yb1 yb2 ltb xs0 xs1 xs2 ys0 ys1 ys2 lts xp0 xp1 xp2 yp0 yp1 yp2 ltp xq0 xq1 xq2 yq0 yq1 yq2 ltq xn0 xn1 xn2 yn0 yn1 yn2 ltn
      obtain ⟨U, hU⟩ : ∃ x : ByteArray, x = txtW bb xsb ysb := ⟨_, rfl⟩
      obtain ⟨J, hJ⟩ : ∃ x : Int, x = opH noE bb xsb ysb := ⟨_, rfl⟩
      refine (rat_Text bb xsb ysb _ _ HOb.out (HT.out.on HB.out)).mono ?_
      rw [← hU, ← hJ]
      have HU := Lib.hid hU
      have HJ := Lib.hid hJ
      clear hU hJ
      rintro e w13 ⟨rfl, hb⟩
      replace HCa := Lib.hid (HCa.out.on hb)
      replace HCb := Lib.hid (HCb.out.on hb)
      replace HCs := Lib.hid (HCs.out.on hb)
      replace HCp := Lib.hid (HCp.out.on hb)
      replace HCq := Lib.hid (HCq.out.on hb)
      replace HCn := Lib.hid (HCn.out.on hb)
      replace HOa := Lib.hid (HOa.out.on hb)
      replace HOb := Lib.hid (HOb.out.on hb)
      replace HOs := Lib.hid (HOs.out.on hb)
      replace HOp := Lib.hid (HOp.out.on hb)
      replace HOq := Lib.hid (HOq.out.on hb)
      replace HOn := Lib.hid (HOn.out.on hb)
      replace HB : Hid (Below w.heap.size w w13) := bstep HB.out hb
      clear hb
      obtain ⟨⟨xa0, xa1, xa2⟩, ya0, ya1, ya2⟩ := HCa.out
      have lta := HCa.out.lt
      obtain ⟨⟨xb0, xb1, xb2⟩, yb0, yb1, yb2⟩ := HCb.out
      have ltb := HCb.out.lt
      obtain ⟨⟨xs0, xs1, xs2⟩, ys0, ys1, ys2⟩ := HCs.out
      have lts := HCs.out.lt
      obtain ⟨⟨xp0, xp1, xp2⟩, yp0, yp1, yp2⟩ := HCp.out
      have ltp := HCp.out.lt
      obtain ⟨⟨xq0, xq1, xq2⟩, yq0, yq1, yq2⟩ := HCq.out
      have ltq := HCq.out.lt
      obtain ⟨⟨xn0, xn1, xn2⟩, yn0, yn1, yn2⟩ := HCn.out
      have ltn := HCn.out.lt
      go_upto_region 14 with fail
      clear xa0 xa1 xa2 ya0 ya1 ya2 lta xb0 xb1 xb2 yb0 yb1 yb2 ltb xs0 xs1 xs2 ys0 ys1 ys2 lts xp0 xp1 xp2 yp0 yp1 yp2 ltp xq0 xq1 xq2 yq0 yq1 yq2 ltq xn0 xn1 xn2 yn0 yn1 yn2 ltn
      go_cut [116] (fun s wx => s = .bool false ∧ Below w13.heap.size w13 wx)
      case first =>
        rcases bcase (valR ba xsa ysa) with hv | hv
        · obtain ⟨r, hr, rfl, rfl, rfl⟩ := val_form hv
          obtain rfl : I = 0 := by rw [HI.out]; exact (opH_form (f := negOp) hr).1
          have HVA := Lib.hid hv
          clear hv
          rcases bcase (valR bb xsb ysb) with hv | hv
          · obtain ⟨s, hs, rfl, rfl, rfl⟩ := val_form hv
            obtain rfl : J = 0 := by rw [HJ.out]; exact (opH_form (f := negOp) hs).1
            have e1 : S = txtS r := by rw [HS.out]; exact txtW_form hr
            have e2 : U = txtS s := by rw [HU.out]; exact txtW_form hs
            have HSE := Lib.hid (same_eq r s)
            clear hv
            by_cases hrs : r = s
            · have HEQ : Hid (decide (r = s) = true) := decide_eq_true hrs
              obtain rfl : S = U := by rw [e1, e2, hrs]
              clear e1 e2 hrs
              obtain ⟨⟨xa0, xa1, xa2⟩, ya0, ya1, ya2⟩ := HCa.out
              have lta := HCa.out.lt
              obtain ⟨⟨xb0, xb1, xb2⟩, yb0, yb1, yb2⟩ := HCb.out
              have ltb := HCb.out.lt
              obtain ⟨⟨xs0, xs1, xs2⟩, ys0, ys1, ys2⟩ := HCs.out
              have lts := HCs.out.lt
              obtain ⟨⟨xp0, xp1, xp2⟩, yp0, yp1, yp2⟩ := HCp.out
              have ltp := HCp.out.lt
              obtain ⟨⟨xq0, xq1, xq2⟩, yq0, yq1, yq2⟩ := HCq.out
              have ltq := HCq.out.lt
              obtain ⟨⟨xn0, xn1, xn2⟩, yn0, yn1, yn2⟩ := HCn.out
              have ltn := HCn.out.lt
              go_wp2_with fail
              clear xa0 xa1 xa2 ya0 ya1 ya2 lta xb0 xb1 xb2 yb0 yb1 yb2 ltb xs0 xs1 xs2 ys0 ys1 ys2 lts xp0 xp1 xp2 yp0 yp1 yp2 ltp xq0 xq1 xq2 yq0 yq1 yq2 ltq xn0 xn1 xn2 yn0 yn1 yn2 ltn
              refine (rat_Valid _ (negR r) (topL r) (botL r) _ HOa.out).mono ?_
              rw [HVA.out]
              rintro e wv ⟨rfl, hb⟩
              have HM := Lib.hid hb
              replace HCa := Lib.hid (HCa.out.on hb)
              replace HCb := Lib.hid (HCb.out.on hb)
              replace HCs := Lib.hid (HCs.out.on hb)
              replace HCp := Lib.hid (HCp.out.on hb)
              replace HCq := Lib.hid (HCq.out.on hb)
              replace HCn := Lib.hid (HCn.out.on hb)
              replace HOa := Lib.hid (HOa.out.on hb)
              replace HOb := Lib.hid (HOb.out.on hb)
              replace HOs := Lib.hid (HOs.out.on hb)
              replace HOp := Lib.hid (HOp.out.on hb)
              replace HOq := Lib.hid (HOq.out.on hb)
              replace HOn := Lib.hid (HOn.out.on hb)
              clear hb
              obtain ⟨⟨xa0, xa1, xa2⟩, ya0, ya1, ya2⟩ := HCa.out
              have lta := HCa.out.lt
              obtain ⟨⟨xb0, xb1, xb2⟩, yb0, yb1, yb2⟩ := HCb.out
              have ltb := HCb.out.lt
              obtain ⟨⟨xs0, xs1, xs2⟩, ys0, ys1, ys2⟩ := HCs.out
              have lts := HCs.out.lt
              obtain ⟨⟨xp0, xp1, xp2⟩, yp0, yp1, yp2⟩ := HCp.out
              have ltp := HCp.out.lt
              obtain ⟨⟨xq0, xq1, xq2⟩, yq0, yq1, yq2⟩ := HCq.out
              have ltq := HCq.out.lt
              obtain ⟨⟨xn0, xn1, xn2⟩, yn0, yn1, yn2⟩ := HCn.out
              have ltn := HCn.out.lt
              go_wp2_with fail
              clear xa0 xa1 xa2 ya0 ya1 ya2 lta xb0 xb1 xb2 yb0 yb1 yb2 ltb xs0 xs1 xs2 ys0 ys1 ys2 lts xp0 xp1 xp2 yp0 yp1 yp2 ltp xq0 xq1 xq2 yq0 yq1 yq2 ltq xn0 xn1 xn2 yn0 yn1 yn2 ltn
              refine (ref_Same3 _ _ _ _ _ _ _ _ _ HOa.out HOb.out).mono ?_
              rw [HSE.out, HEQ.out]
              rintro e wv2 ⟨rfl, hb⟩
              have HM2 := Lib.hid hb
              clear hb
              go_wp2_with fail
              go_meet
              exact ⟨rfl, bstep HM.out HM2.out⟩
            · have HEQ : Hid (decide (r = s) = false) := decide_eq_false hrs
              have hST : ¬ S = U := fun e => hrs (txt_inj hr hs (by rw [← e1, ← e2, e]))
              clear e1 e2 hrs
              have hst : (S.toList == U.toList) = false := beq_false_of_ne (fun e => hST (bytes_inj (by rw [← ByteArray.toList_eq, ← ByteArray.toList_eq, e])))
              clear hST
              obtain ⟨⟨xa0, xa1, xa2⟩, ya0, ya1, ya2⟩ := HCa.out
              have lta := HCa.out.lt
              obtain ⟨⟨xb0, xb1, xb2⟩, yb0, yb1, yb2⟩ := HCb.out
              have ltb := HCb.out.lt
              obtain ⟨⟨xs0, xs1, xs2⟩, ys0, ys1, ys2⟩ := HCs.out
              have lts := HCs.out.lt
              obtain ⟨⟨xp0, xp1, xp2⟩, yp0, yp1, yp2⟩ := HCp.out
              have ltp := HCp.out.lt
              obtain ⟨⟨xq0, xq1, xq2⟩, yq0, yq1, yq2⟩ := HCq.out
              have ltq := HCq.out.lt
              obtain ⟨⟨xn0, xn1, xn2⟩, yn0, yn1, yn2⟩ := HCn.out
              have ltn := HCn.out.lt
              go_wp2_with fail
              clear xa0 xa1 xa2 ya0 ya1 ya2 lta xb0 xb1 xb2 yb0 yb1 yb2 ltb xs0 xs1 xs2 ys0 ys1 ys2 lts xp0 xp1 xp2 yp0 yp1 yp2 ltp xq0 xq1 xq2 yq0 yq1 yq2 ltq xn0 xn1 xn2 yn0 yn1 yn2 ltn
              refine (rat_Valid _ (negR r) (topL r) (botL r) _ HOa.out).mono ?_
              rw [HVA.out]
              rintro e wv ⟨rfl, hb⟩
              have HM := Lib.hid hb
              replace HCa := Lib.hid (HCa.out.on hb)
              replace HCb := Lib.hid (HCb.out.on hb)
              replace HCs := Lib.hid (HCs.out.on hb)
              replace HCp := Lib.hid (HCp.out.on hb)
              replace HCq := Lib.hid (HCq.out.on hb)
              replace HCn := Lib.hid (HCn.out.on hb)
              replace HOa := Lib.hid (HOa.out.on hb)
              replace HOb := Lib.hid (HOb.out.on hb)
              replace HOs := Lib.hid (HOs.out.on hb)
              replace HOp := Lib.hid (HOp.out.on hb)
              replace HOq := Lib.hid (HOq.out.on hb)
              replace HOn := Lib.hid (HOn.out.on hb)
              clear hb
              obtain ⟨⟨xa0, xa1, xa2⟩, ya0, ya1, ya2⟩ := HCa.out
              have lta := HCa.out.lt
              obtain ⟨⟨xb0, xb1, xb2⟩, yb0, yb1, yb2⟩ := HCb.out
              have ltb := HCb.out.lt
              obtain ⟨⟨xs0, xs1, xs2⟩, ys0, ys1, ys2⟩ := HCs.out
              have lts := HCs.out.lt
              obtain ⟨⟨xp0, xp1, xp2⟩, yp0, yp1, yp2⟩ := HCp.out
              have ltp := HCp.out.lt
              obtain ⟨⟨xq0, xq1, xq2⟩, yq0, yq1, yq2⟩ := HCq.out
              have ltq := HCq.out.lt
              obtain ⟨⟨xn0, xn1, xn2⟩, yn0, yn1, yn2⟩ := HCn.out
              have ltn := HCn.out.lt
              go_wp2_with fail
              clear xa0 xa1 xa2 ya0 ya1 ya2 lta xb0 xb1 xb2 yb0 yb1 yb2 ltb xs0 xs1 xs2 ys0 ys1 ys2 lts xp0 xp1 xp2 yp0 yp1 yp2 ltp xq0 xq1 xq2 yq0 yq1 yq2 ltq xn0 xn1 xn2 yn0 yn1 yn2 ltn
              refine (ref_Same3 _ _ _ _ _ _ _ _ _ HOa.out HOb.out).mono ?_
              rw [HSE.out, HEQ.out]
              rintro e wv2 ⟨rfl, hb⟩
              have HM2 := Lib.hid hb
              clear hb
              go_wp2_with fail
              go_meet
              exact ⟨rfl, bstep HM.out HM2.out⟩
          · obtain rfl : J = 3 := by rw [HJ.out]; exact opH_no hv
            clear hv
            obtain ⟨⟨xa0, xa1, xa2⟩, ya0, ya1, ya2⟩ := HCa.out
            have lta := HCa.out.lt
            obtain ⟨⟨xb0, xb1, xb2⟩, yb0, yb1, yb2⟩ := HCb.out
            have ltb := HCb.out.lt
            obtain ⟨⟨xs0, xs1, xs2⟩, ys0, ys1, ys2⟩ := HCs.out
            have lts := HCs.out.lt
            obtain ⟨⟨xp0, xp1, xp2⟩, yp0, yp1, yp2⟩ := HCp.out
            have ltp := HCp.out.lt
            obtain ⟨⟨xq0, xq1, xq2⟩, yq0, yq1, yq2⟩ := HCq.out
            have ltq := HCq.out.lt
            obtain ⟨⟨xn0, xn1, xn2⟩, yn0, yn1, yn2⟩ := HCn.out
            have ltn := HCn.out.lt
            go_wp2_with fail
            clear xa0 xa1 xa2 ya0 ya1 ya2 lta xb0 xb1 xb2 yb0 yb1 yb2 ltb xs0 xs1 xs2 ys0 ys1 ys2 lts xp0 xp1 xp2 yp0 yp1 yp2 ltp xq0 xq1 xq2 yq0 yq1 yq2 ltq xn0 xn1 xn2 yn0 yn1 yn2 ltn
            refine (rat_Valid _ (negR r) (topL r) (botL r) _ HOa.out).mono ?_
            rw [HVA.out]
            rintro e wv ⟨rfl, hb⟩
            have HM := Lib.hid hb
            clear hb
            go_wp2_with fail
            go_meet
            exact ⟨rfl, HM.out⟩
        · obtain rfl : I = 3 := by rw [HI.out]; exact opH_no hv
          have HVA := Lib.hid hv
          clear hv
          obtain ⟨⟨xa0, xa1, xa2⟩, ya0, ya1, ya2⟩ := HCa.out
          have lta := HCa.out.lt
          obtain ⟨⟨xb0, xb1, xb2⟩, yb0, yb1, yb2⟩ := HCb.out
          have ltb := HCb.out.lt
          obtain ⟨⟨xs0, xs1, xs2⟩, ys0, ys1, ys2⟩ := HCs.out
          have lts := HCs.out.lt
          obtain ⟨⟨xp0, xp1, xp2⟩, yp0, yp1, yp2⟩ := HCp.out
          have ltp := HCp.out.lt
          obtain ⟨⟨xq0, xq1, xq2⟩, yq0, yq1, yq2⟩ := HCq.out
          have ltq := HCq.out.lt
          obtain ⟨⟨xn0, xn1, xn2⟩, yn0, yn1, yn2⟩ := HCn.out
          have ltn := HCn.out.lt
          go_wp2_with fail
          clear xa0 xa1 xa2 ya0 ya1 ya2 lta xb0 xb1 xb2 yb0 yb1 yb2 ltb xs0 xs1 xs2 ys0 ys1 ys2 lts xp0 xp1 xp2 yp0 yp1 yp2 ltp xq0 xq1 xq2 yq0 yq1 yq2 ltq xn0 xn1 xn2 yn0 yn1 yn2 ltn
          refine (rat_Valid _ ba xsa ysa _ HOa.out).mono ?_
          rw [HVA.out]
          rintro e wv ⟨rfl, hb⟩
          have HM := Lib.hid hb
          clear hb
          go_wp2_with fail
          go_meet
          exact ⟨rfl, HM.out⟩
      case rest =>
        obtain ⟨rfl, hb⟩ := hcut
        obtain ⟨w14, hw⟩ : ∃ W, W = wc := ⟨_, rfl⟩
        rw [← hw] at hb ⊢
        replace HCa := Lib.hid (HCa.out.on hb)
        replace HCb := Lib.hid (HCb.out.on hb)
        replace HCs := Lib.hid (HCs.out.on hb)
        replace HCp := Lib.hid (HCp.out.on hb)
        replace HCq := Lib.hid (HCq.out.on hb)
        replace HCn := Lib.hid (HCn.out.on hb)
        replace HOa := Lib.hid (HOa.out.on hb)
        replace HOb := Lib.hid (HOb.out.on hb)
        replace HOs := Lib.hid (HOs.out.on hb)
        replace HOp := Lib.hid (HOp.out.on hb)
        replace HOq := Lib.hid (HOq.out.on hb)
        replace HOn := Lib.hid (HOn.out.on hb)
        replace HB : Hid (Below w.heap.size w w14) := bstep HB.out hb
        clear hb hw
        obtain ⟨⟨xa0, xa1, xa2⟩, ya0, ya1, ya2⟩ := HCa.out
        have lta := HCa.out.lt
        obtain ⟨⟨xb0, xb1, xb2⟩, yb0, yb1, yb2⟩ := HCb.out
        have ltb := HCb.out.lt
        obtain ⟨⟨xs0, xs1, xs2⟩, ys0, ys1, ys2⟩ := HCs.out
        have lts := HCs.out.lt
        obtain ⟨⟨xp0, xp1, xp2⟩, yp0, yp1, yp2⟩ := HCp.out
        have ltp := HCp.out.lt
        obtain ⟨⟨xq0, xq1, xq2⟩, yq0, yq1, yq2⟩ := HCq.out
        have ltq := HCq.out.lt
        obtain ⟨⟨xn0, xn1, xn2⟩, yn0, yn1, yn2⟩ := HCn.out
        have ltn := HCn.out.lt
        go_wp2_with fail
        clear xa0 xa1 xa2 ya0 ya1 ya2 lta xb0 xb1 xb2 yb0 yb1 yb2 ltb xs0 xs1 xs2 ys0 ys1 ys2 lts xp0 xp1 xp2 yp0 yp1 yp2 ltp xq0 xq1 xq2 yq0 yq1 yq2 ltq xn0 xn1 xn2 yn0 yn1 yn2 ltn
        refine (awake3 _ (HT.out.on HB.out)).mono ?_
        rintro e w15 ⟨rfl, hb⟩
        replace HCa := Lib.hid (HCa.out.on hb)
        replace HCb := Lib.hid (HCb.out.on hb)
        replace HCs := Lib.hid (HCs.out.on hb)
        replace HCp := Lib.hid (HCp.out.on hb)
        replace HCq := Lib.hid (HCq.out.on hb)
        replace HCn := Lib.hid (HCn.out.on hb)
        replace HOa := Lib.hid (HOa.out.on hb)
        replace HOb := Lib.hid (HOb.out.on hb)
        replace HOs := Lib.hid (HOs.out.on hb)
        replace HOp := Lib.hid (HOp.out.on hb)
        replace HOq := Lib.hid (HOq.out.on hb)
        replace HOn := Lib.hid (HOn.out.on hb)
        replace HB : Hid (Below w.heap.size w w15) := bstep HB.out hb
        clear hb
        obtain ⟨⟨xa0, xa1, xa2⟩, ya0, ya1, ya2⟩ := HCa.out
        have lta := HCa.out.lt
        obtain ⟨⟨xb0, xb1, xb2⟩, yb0, yb1, yb2⟩ := HCb.out
        have ltb := HCb.out.lt
        obtain ⟨⟨xs0, xs1, xs2⟩, ys0, ys1, ys2⟩ := HCs.out
        have lts := HCs.out.lt
        obtain ⟨⟨xp0, xp1, xp2⟩, yp0, yp1, yp2⟩ := HCp.out
        have ltp := HCp.out.lt
        obtain ⟨⟨xq0, xq1, xq2⟩, yq0, yq1, yq2⟩ := HCq.out
        have ltq := HCq.out.lt
        obtain ⟨⟨xn0, xn1, xn2⟩, yn0, yn1, yn2⟩ := HCn.out
        have ltn := HCn.out.lt
        go_wp2_with fail
        go_ret
        exact ⟨rfl, HB.out⟩
#print axioms walk_RatForms
end Go.Proofs.YthkhaipbdphpeaaDoor
