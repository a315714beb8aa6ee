/- The walks of RatMakes and RatOrder. -/
import Derived.Test.YthkhaipbdphpeaaDoorCRatCC
import Derived.Test.YthkhaipbdphpeaaDoorPk10
import Derived.Deep.DeepCutAuto
import Derived.OpenShut
namespace Go.Proofs.YthkhaipbdphpeaaDoor
open Go.ChangeShapes Go.WideShapes Go.RowKit
set_option linter.unusedVariables false
set_option maxRecDepth 100000

set_option maxHeartbeats 12800000 in
theorem walk_RatMakes (w : World) (p : Int) (wp : (Lit.int .i64 p).wf = true) (q : Int) (wq : (Lit.int .i64 q).wf = true) (ht : Tab w) :
    Calls Tryd.prog 4 #[.int .i64 p, .int .i64 q] w fun e w' => e = .returned (.bool true) ∧ Below w.heap.size w w' := by
  have bp := bounds_i64 wp
  have bq := bounds_i64 wq
  have HT := Lib.hid ht
  have HO1 := Lib.hid (fun W => rat_Of p W bp.1 bp.2)
  have HO2 := Lib.hid (fun W => ref_Of3 p W bp.1 bp.2)
  have HM1 := Lib.hid (fun W => rat_Make p q W bp.1 bp.2 bq.1 bq.2)
  have HM2 := Lib.hid (fun W => ref_Make3 p q W bp.1 bp.2 bq.1 bq.2)
  have HB := Lib.hid (Below.refl w.heap.size w)
  clear ht wp wq bp bq
  go_enter Tryd.func4, Tryd.ntmps4
  go_wp2_with fail
  refine (HO1.out _).mono ?_
  rintro e w1 h
  obtain ⟨zba, zAa, zna, zda, zBa, zma, zqa, rfl, ho, hb⟩ := h.open_
  replace HB : Hid (Below w.heap.size w w1) := bstep HB.out hb
  have HOa := Lib.hid ho
  clear h ho hb
  go_wp2_with fail
  obtain ⟨w2, hw⟩ : ∃ W, W = w1.alloc (.cells #[.bool zba, .slice zAa zna zda, .slice zBa zma zqa] 25) := ⟨_, rfl⟩
  have hb : Below w1.heap.size w1 w2 := by rw [hw]; exact below_alloc _ _
  obtain ⟨ga, hg⟩ : ∃ g, g = w1.heap.size := ⟨_, rfl⟩
  have hcn : Cel w2 ga (.bool zba) (.slice zAa zna zda) (.slice zBa zma zqa) := by rw [hw, hg]; exact Cel.new _ _ _ _ _
  rw [← hw]
  rw [← hg]
  replace HOa := Lib.hid (HOa.out.on hb)
  replace HB : Hid (Below w.heap.size w w2) := bstep HB.out hb
  have HCa := Lib.hid hcn
  clear hw hb hg hcn
  refine (HO2.out _).mono ?_
  rintro e w3 h
  obtain ⟨zbb, zAb, znb, zdb, zBb, zmb, zqb, rfl, ho, hb⟩ := h.open_
  replace HCa := Lib.hid (HCa.out.on hb)
  replace HOa := Lib.hid (HOa.out.on hb)
  replace HB : Hid (Below w.heap.size w w3) := bstep HB.out hb
  have HOb := Lib.hid ho
  clear h ho hb
  obtain ⟨⟨xa0, xa1, xa2⟩, ya0, ya1, ya2⟩ := HCa.out
  have lta := HCa.out.lt
  go_wp2_with fail
  clear xa0 xa1 xa2 ya0 ya1 ya2 lta
  obtain ⟨w4, hw⟩ : ∃ W, W = w3.alloc (.cells #[.bool zbb, .slice zAb znb zdb, .slice zBb zmb zqb] 25) := ⟨_, rfl⟩
  have hb : Below w3.heap.size w3 w4 := by rw [hw]; exact below_alloc _ _
  obtain ⟨gb, hg⟩ : ∃ g, g = w3.heap.size := ⟨_, rfl⟩
  have hcn : Cel w4 gb (.bool zbb) (.slice zAb znb zdb) (.slice zBb zmb zqb) := by rw [hw, hg]; exact Cel.new _ _ _ _ _
  rw [← hw]
  rw [← hg]
  replace HCa := Lib.hid (HCa.out.on hb)
  replace HOa := Lib.hid (HOa.out.on hb)
  replace HOb := Lib.hid (HOb.out.on hb)
  replace HB : Hid (Below w.heap.size w w4) := bstep HB.out hb
  have HCb := Lib.hid hcn
  clear hw hb hg hcn
  refine (HM1.out _).mono ?_
  rintro e w5 h
  obtain ⟨zbc, zAc, znc, zdc, zBc, zmc, zqc, rfl, ho, hb⟩ := h.open_
  replace HCa := Lib.hid (HCa.out.on hb)
  replace HCb := Lib.hid (HCb.out.on hb)
  replace HOa := Lib.hid (HOa.out.on hb)
  replace HOb := Lib.hid (HOb.out.on hb)
  replace HB : Hid (Below w.heap.size w w5) := bstep HB.out hb
  have HOc := Lib.hid ho
  clear h ho hb
  obtain ⟨⟨xa0, xa1, xa2⟩, ya0, ya1, ya2⟩ := HCa.out
  have lta := HCa.out.lt
  obtain ⟨⟨xb0, xb1, xb2⟩, yb0, yb1, yb2⟩ := HCb.out
  have ltb := HCb.out.lt
  go_wp2_with fail
  clear xa0 xa1 xa2 ya0 ya1 ya2 lta xb0 xb1 xb2 yb0 yb1 yb2 ltb
  obtain ⟨w6, hw⟩ : ∃ W, W = w5.alloc (.cells #[.bool zbc, .slice zAc znc zdc, .slice zBc zmc zqc] 25) := ⟨_, rfl⟩
  have hb : Below w5.heap.size w5 w6 := by rw [hw]; exact below_alloc _ _
  obtain ⟨gc, hg⟩ : ∃ g, g = w5.heap.size := ⟨_, rfl⟩
  have hcn : Cel w6 gc (.bool zbc) (.slice zAc znc zdc) (.slice zBc zmc zqc) := by rw [hw, hg]; exact Cel.new _ _ _ _ _
  rw [← hw]
  rw [← hg]
  replace HCa := Lib.hid (HCa.out.on hb)
  replace HCb := Lib.hid (HCb.out.on hb)
  replace HOa := Lib.hid (HOa.out.on hb)
  replace HOb := Lib.hid (HOb.out.on hb)
  replace HOc := Lib.hid (HOc.out.on hb)
  replace HB : Hid (Below w.heap.size w w6) := bstep HB.out hb
  have HCc := Lib.hid hcn
  clear hw hb hg hcn
  refine (HM2.out _).mono ?_
  rintro e w7 h
  obtain ⟨zbd, zAd, znd, zdd, zBd, zmd, zqd, rfl, ho, hb⟩ := h.open_
  replace HCa := Lib.hid (HCa.out.on hb)
  replace HCb := Lib.hid (HCb.out.on hb)
  replace HCc := Lib.hid (HCc.out.on hb)
  replace HOa := Lib.hid (HOa.out.on hb)
  replace HOb := Lib.hid (HOb.out.on hb)
  replace HOc := Lib.hid (HOc.out.on hb)
  replace HB : Hid (Below w.heap.size w w7) := bstep HB.out hb
  have HOd := Lib.hid ho
  clear h ho hb
  obtain ⟨⟨xa0, xa1, xa2⟩, ya0, ya1, ya2⟩ := HCa.out
  have lta := HCa.out.lt
  obtain ⟨⟨xb0, xb1, xb2⟩, yb0, yb1, yb2⟩ := HCb.out
  have ltb := HCb.out.lt
  obtain ⟨⟨xc0, xc1, xc2⟩, yc0, yc1, yc2⟩ := HCc.out
  have ltc := HCc.out.lt
  go_wp2_with fail
  clear xa0 xa1 xa2 ya0 ya1 ya2 lta xb0 xb1 xb2 yb0 yb1 yb2 ltb xc0 xc1 xc2 yc0 yc1 yc2 ltc
  obtain ⟨w8, hw⟩ : ∃ W, W = w7.alloc (.cells #[.bool zbd, .slice zAd znd zdd, .slice zBd zmd zqd] 25) := ⟨_, rfl⟩
  have hb : Below w7.heap.size w7 w8 := by rw [hw]; exact below_alloc _ _
  obtain ⟨gd, hg⟩ : ∃ g, g = w7.heap.size := ⟨_, rfl⟩
  have hcn : Cel w8 gd (.bool zbd) (.slice zAd znd zdd) (.slice zBd zmd zqd) := by rw [hw, hg]; exact Cel.new _ _ _ _ _
  rw [← hw]
  rw [← hg]
  replace HCa := Lib.hid (HCa.out.on hb)
  replace HCb := Lib.hid (HCb.out.on hb)
  replace HCc := Lib.hid (HCc.out.on hb)
  replace HOa := Lib.hid (HOa.out.on hb)
  replace HOb := Lib.hid (HOb.out.on hb)
  replace HOc := Lib.hid (HOc.out.on hb)
  replace HOd := Lib.hid (HOd.out.on hb)
  replace HB : Hid (Below w.heap.size w w8) := bstep HB.out hb
  have HCd := Lib.hid hcn
  clear hw hb hg hcn
  refine (same_out HOa.out HOb.out).mono ?_
  rintro e w9 ⟨rfl, hb⟩
  replace HCa := Lib.hid (HCa.out.on hb)
  replace HCb := Lib.hid (HCb.out.on hb)
  replace HCc := Lib.hid (HCc.out.on hb)
  replace HCd := Lib.hid (HCd.out.on hb)
  replace HOa := Lib.hid (HOa.out.on hb)
  replace HOb := Lib.hid (HOb.out.on hb)
  replace HOc := Lib.hid (HOc.out.on hb)
  replace HOd := Lib.hid (HOd.out.on hb)
  replace HB : Hid (Below w.heap.size w w9) := bstep HB.out hb
  clear hb
  obtain ⟨⟨xa0, xa1, xa2⟩, ya0, ya1, ya2⟩ := HCa.out
  have lta := HCa.out.lt
  obtain ⟨⟨xb0, xb1, xb2⟩, yb0, yb1, yb2⟩ := HCb.out
  have ltb := HCb.out.lt
  obtain ⟨⟨xc0, xc1, xc2⟩, yc0, yc1, yc2⟩ := HCc.out
  have ltc := HCc.out.lt
  obtain ⟨⟨xd0, xd1, xd2⟩, yd0, yd1, yd2⟩ := HCd.out
  have ltd := HCd.out.lt
  go_wp2_with fail
  clear xa0 xa1 xa2 ya0 ya1 ya2 lta xb0 xb1 xb2 yb0 yb1 yb2 ltb xc0 xc1 xc2 yc0 yc1 yc2 ltc xd0 xd1 xd2 yd0 yd1 yd2 ltd
  refine (same_out HOc.out HOd.out).mono ?_
  rintro e w10 ⟨rfl, hb⟩
  replace HCa := Lib.hid (HCa.out.on hb)
  replace HCb := Lib.hid (HCb.out.on hb)
  replace HCc := Lib.hid (HCc.out.on hb)
  replace HCd := Lib.hid (HCd.out.on hb)
  replace HOa := Lib.hid (HOa.out.on hb)
  replace HOb := Lib.hid (HOb.out.on hb)
  replace HOc := Lib.hid (HOc.out.on hb)
  replace HOd := Lib.hid (HOd.out.on hb)
  replace HB : Hid (Below w.heap.size w w10) := bstep HB.out hb
  clear hb
  obtain ⟨⟨xa0, xa1, xa2⟩, ya0, ya1, ya2⟩ := HCa.out
  have lta := HCa.out.lt
  obtain ⟨⟨xb0, xb1, xb2⟩, yb0, yb1, yb2⟩ := HCb.out
  have ltb := HCb.out.lt
  obtain ⟨⟨xc0, xc1, xc2⟩, yc0, yc1, yc2⟩ := HCc.out
  have ltc := HCc.out.lt
  obtain ⟨⟨xd0, xd1, xd2⟩, yd0, yd1, yd2⟩ := HCd.out
  have ltd := HCd.out.lt
  go_wp2_with fail
  clear xa0 xa1 xa2 ya0 ya1 ya2 lta xb0 xb1 xb2 yb0 yb1 yb2 ltb xc0 xc1 xc2 yc0 yc1 yc2 ltc xd0 xd1 xd2 yd0 yd1 yd2 ltd
  refine (awake3 _ (HT.out.on HB.out)).mono ?_
  rintro e w11 ⟨rfl, hb⟩
  replace HCa := Lib.hid (HCa.out.on hb)
  replace HCb := Lib.hid (HCb.out.on hb)
  replace HCc := Lib.hid (HCc.out.on hb)
  replace HCd := Lib.hid (HCd.out.on hb)
  replace HOa := Lib.hid (HOa.out.on hb)
  replace HOb := Lib.hid (HOb.out.on hb)
  replace HOc := Lib.hid (HOc.out.on hb)
  replace HOd := Lib.hid (HOd.out.on hb)
  replace HB : Hid (Below w.heap.size w w11) := bstep HB.out hb
  clear hb
  obtain ⟨⟨xa0, xa1, xa2⟩, ya0, ya1, ya2⟩ := HCa.out
  have lta := HCa.out.lt
  obtain ⟨⟨xb0, xb1, xb2⟩, yb0, yb1, yb2⟩ := HCb.out
  have ltb := HCb.out.lt
  obtain ⟨⟨xc0, xc1, xc2⟩, yc0, yc1, yc2⟩ := HCc.out
  have ltc := HCc.out.lt
  obtain ⟨⟨xd0, xd1, xd2⟩, yd0, yd1, yd2⟩ := HCd.out
  have ltd := HCd.out.lt
  go_wp2_with fail
  go_ret
  exact ⟨rfl, HB.out⟩

theorem rndE_two (r : Rat) (away : Bool) : rndE r away = 0 ∨ rndE r away = 2 := by unfold rndE; split <;> simp
theorem mkV_fit {n : Int} (h : -1125899906842624 ≤ n ∧ n ≤ 1125899906842624) : fitR (mkV n 1) = true := by
  rw [fitR_iff, (mkV_one n).1, (mkV_one n).2]; exact ⟨small48 (by omega), small48 (by decide)⟩
theorem inR_q {w : World} {b : Bool} {xs ys : List Int} {vp vq : Value} (h : InR w (.agg #[.bool b, vp, vq]) b xs ys) : In w vq ys := by
  obtain ⟨_, _, e, _, h2⟩ := h; cases e; exact h2
theorem okE_t : okE true = 0 := rfl
theorem okE_f : okE false = 2 := rfl
theorem law_sign (r : Rat) (v : Value) (w : World) (hv : IsR w v r) :
    Calls Tryd.prog 39 #[v] w fun e w' => e = .returned (.int .i64 (sgnR r)) ∧ Below w.heap.size w w' := by
  obtain ⟨vp, vq, rfl, h1, h2⟩ := hv
  obtain ⟨A, c, rfl, h1'⟩ := in_open h1
  obtain ⟨B, d, rfl, h2'⟩ := in_open h2
  have hm1 : (topL r).length ≤ 9223372036854775807 := by obtain ⟨_, _, e, k1, k2, _⟩ := h1'; cases e; exact Nat.le_trans k1 k2
  clear h1 h2 h1' h2'
  rcases bcase (decide (topL r = [])) with h | h
  · have h0 := of_decide_eq_true h
    have HS : Hid (sgnR r = 0) := if_pos h0
    rw [h0]
    clear h h0 hm1
    go_enter Tryd.func39, Tryd.ntmps39
    go_wp2_with fail
    go_ret
    rw [HS.out]; exact ⟨rfl, below_alloc _ _⟩
  · have h0 := of_decide_eq_false h
    have hl : (((topL r).length : Int) == 0) = false := beq_false_of_ne (fun e => h0 (List.eq_nil_of_length_eq_zero (by omega)))
    rcases bcase (negR r) with hs | hs
    · have HS : Hid (sgnR r = -1) := by unfold Hid sgnR; rw [if_neg h0, if_pos hs]
      clear h h0
      go_enter Tryd.func39, Tryd.ntmps39
      go_wp2_with fail
      go_ret
      rw [HS.out]; exact ⟨rfl, below_alloc _ _⟩
    · have HS : Hid (sgnR r = 1) := by unfold Hid sgnR; rw [if_neg h0, if_neg (by rw [hs]; decide)]
      clear h h0
      go_enter Tryd.func39, Tryd.ntmps39
      go_wp2_with fail
      go_ret
      rw [HS.out]; exact ⟨rfl, below_alloc _ _⟩

set_option maxHeartbeats 12800000 in
theorem walk_RatOrder (w : World) (va : Value) (ba : Bool) (xsa ysa : List Int) (hia : InR w va ba xsa ysa) (vb : Value) (bb : Bool) (xsb ysb : List Int) (hib : InR w vb bb xsb ysb) (ht : Tab w) :
    Calls Tryd.prog 9 #[va, vb] w fun e w' => e = .returned (.bool true) ∧ Below w.heap.size w w' := by
  have HT := Lib.hid ht
  clear ht
  obtain ⟨vpa, vqa, rfl, h1a, h2a⟩ := hia
  obtain ⟨zAa, zda, rfl, h3a⟩ := in_open h1a
  obtain ⟨zBa, zqa, rfl, h4a⟩ := in_open h2a
  have HOa := Lib.hid (show InR w (.agg #[.bool ba, .slice zAa xsa.length zda, .slice zBa ysa.length zqa]) ba xsa ysa from ⟨_, _, rfl, h3a, h4a⟩)
  clear h1a h2a h3a h4a
  obtain ⟨vpb, vqb, rfl, h1b, h2b⟩ := hib
  obtain ⟨zAb, zdb, rfl, h3b⟩ := in_open h1b
  obtain ⟨zBb, zqb, rfl, h4b⟩ := in_open h2b
  have HOb := Lib.hid (show InR w (.agg #[.bool bb, .slice zAb xsb.length zdb, .slice zBb ysb.length zqb]) bb xsb ysb from ⟨_, _, rfl, h3b, h4b⟩)
  clear h1b h2b h3b h4b
  go_enter Tryd.func9, Tryd.ntmps9
  go_wp2_with fail
  obtain ⟨w1, hw⟩ : ∃ W, W = ((w.alloc (.cells #[.bool ba, .slice zAa xsa.length zda, .slice zBa ysa.length zqa] 25)).alloc (.cells #[.bool bb, .slice zAb xsb.length zdb, .slice zBb ysb.length zqb] 25)) := ⟨_, rfl⟩
  have hb : Below w.heap.size w w1 := by rw [hw]; exact balloc (below_alloc _ _) _
  have hca := (Cel.new w (.bool ba) (.slice zAa xsa.length zda) (.slice zBa ysa.length zqa) 25).alloc (.cells #[.bool bb, .slice zAb xsb.length zdb, .slice zBb ysb.length zqb] 25)
  have HCa : Hid (Cel w1 (w.heap.size) (.bool ba) (.slice zAa xsa.length zda) (.slice zBa ysa.length zqa)) := by rw [hw]; exact hca
  have hcb := Cel.new (w.alloc (.cells #[.bool ba, .slice zAa xsa.length zda, .slice zBa ysa.length zqa] 25)) (.bool bb) (.slice zAb xsb.length zdb) (.slice zBb ysb.length zqb) 25
  simp only [World.size_alloc] at hcb
  have HCb : Hid (Cel w1 (w.heap.size + 1) (.bool bb) (.slice zAb xsb.length zdb) (.slice zBb ysb.length zqb)) := by rw [hw]; exact hcb
  rw [← hw]
  replace HOa := Lib.hid (HOa.out.on hb)
  replace HOb := Lib.hid (HOb.out.on hb)
  have HB := Lib.hid hb
  clear hw hb hca hcb
  obtain ⟨M, hM⟩ : ∃ x : Int, x = cmpW ba xsa ysa bb xsb ysb := ⟨_, rfl⟩
  obtain ⟨E, hE⟩ : ∃ x : Int, x = opE crossOk ba xsa ysa bb xsb ysb := ⟨_, rfl⟩
  refine (rat_Cmp ba xsa ysa bb xsb ysb _ _ _ HOa.out HOb.out).mono ?_
  rw [← hM, ← hE]
  have HM := Lib.hid hM
  have HE := Lib.hid hE
  clear hM hE
  rintro e w2 ⟨rfl, hb⟩
  replace HCa := Lib.hid (HCa.out.on hb)
  replace HCb := Lib.hid (HCb.out.on hb)
  replace HOa := Lib.hid (HOa.out.on hb)
  replace HOb := Lib.hid (HOb.out.on hb)
  replace HB : Hid (Below w.heap.size w w2) := bstep HB.out hb
  clear hb
  obtain ⟨⟨xa0, xa1, xa2⟩, ya0, ya1, ya2⟩ := HCa.out
  have lta := HCa.out.lt
  obtain ⟨⟨xb0, xb1, xb2⟩, yb0, yb1, yb2⟩ := HCb.out
  have ltb := HCb.out.lt
  go_wp2_with fail
  clear xa0 xa1 xa2 ya0 ya1 ya2 lta xb0 xb1 xb2 yb0 yb1 yb2 ltb
  obtain ⟨N, hN⟩ : ∃ x : Int, x = cmpW bb xsb ysb ba xsa ysa := ⟨_, rfl⟩
  obtain ⟨F, hF⟩ : ∃ x : Int, x = opE crossOk bb xsb ysb ba xsa ysa := ⟨_, rfl⟩
  refine (rat_Cmp bb xsb ysb ba xsa ysa _ _ _ HOb.out HOa.out).mono ?_
  rw [← hN, ← hF]
  have HN := Lib.hid hN
  have HF := Lib.hid hF
  clear hN hF
  rintro e w3 ⟨rfl, hb⟩
  replace HCa := Lib.hid (HCa.out.on hb)
  replace HCb := Lib.hid (HCb.out.on hb)
  replace HOa := Lib.hid (HOa.out.on hb)
  replace HOb := Lib.hid (HOb.out.on hb)
  replace HB : Hid (Below w.heap.size w w3) := bstep HB.out hb
  clear hb
  obtain ⟨⟨xa0, xa1, xa2⟩, ya0, ya1, ya2⟩ := HCa.out
  have lta := HCa.out.lt
  obtain ⟨⟨xb0, xb1, xb2⟩, yb0, yb1, yb2⟩ := HCb.out
  have ltb := HCb.out.lt
  go_wp2_with fail
  clear xa0 xa1 xa2 ya0 ya1 ya2 lta xb0 xb1 xb2 yb0 yb1 yb2 ltb
  obtain ⟨G, hG⟩ : ∃ x : Int, x = opE subOk ba xsa ysa bb xsb ysb := ⟨_, rfl⟩
  refine (rat_Sub ba xsa ysa bb xsb ysb _ _ _ HOa.out HOb.out).mono ?_
  rw [← hG]
  have HG := Lib.hid hG
  clear hG
  rintro e w4 h
  obtain ⟨zbd, zAd, znd, zdd, zBd, zmd, zqd, rfl, ho, hb⟩ := h.open_
  replace HCa := Lib.hid (HCa.out.on hb)
  replace HCb := Lib.hid (HCb.out.on hb)
  replace HOa := Lib.hid (HOa.out.on hb)
  replace HOb := Lib.hid (HOb.out.on hb)
  replace HB : Hid (Below w.heap.size w w4) := bstep HB.out hb
  have HOd := Lib.hid ho
  clear h ho hb
  obtain ⟨⟨xa0, xa1, xa2⟩, ya0, ya1, ya2⟩ := HCa.out
  have lta := HCa.out.lt
  obtain ⟨⟨xb0, xb1, xb2⟩, yb0, yb1, yb2⟩ := HCb.out
  have ltb := HCb.out.lt
  go_upto_region 4 with fail
  clear xa0 xa1 xa2 ya0 ya1 ya2 lta xb0 xb1 xb2 yb0 yb1 yb2 ltb
  obtain ⟨w5, hw⟩ : ∃ W, W = w4.alloc (.cells #[.bool zbd, .slice zAd znd zdd, .slice zBd zmd zqd] 25) := ⟨_, rfl⟩
  have hb : Below w4.heap.size w4 w5 := by rw [hw]; exact below_alloc _ _
  obtain ⟨gd, hg⟩ : ∃ g, g = w4.heap.size := ⟨_, rfl⟩
  have hcn : Cel w5 gd (.bool zbd) (.slice zAd znd zdd) (.slice zBd zmd zqd) := by rw [hw, hg]; exact Cel.new _ _ _ _ _
  rw [← hw]
  rw [← hg]
  replace HCa := Lib.hid (HCa.out.on hb)
  replace HCb := Lib.hid (HCb.out.on hb)
  replace HOa := Lib.hid (HOa.out.on hb)
  replace HOb := Lib.hid (HOb.out.on hb)
  replace HOd := Lib.hid (HOd.out.on hb)
  replace HB : Hid (Below w.heap.size w w5) := bstep HB.out hb
  have HCd := Lib.hid hcn
  clear hw hb hg hcn
  go_cut [63] (fun s wx => s = .bool false ∧ Below w5.heap.size w5 wx)
  case first =>
    rcases two_cases ba xsa ysa bb xsb ysb with ⟨h1, h⟩ | ⟨h1, h2, h⟩ | ⟨h, r, s, ⟨hr, rfl, rfl, rfl⟩, hs, rfl, rfl, rfl⟩
    · have h' := h
      rw [← two_swap] at h'
      obtain rfl : M = 0 := by rw [HM.out, cmpW_no h]
      clear HM
      obtain rfl : N = 0 := by rw [HN.out, cmpW_no h']
      clear HN
      obtain rfl : E = 3 := by rw [HE.out, opE_no (ok := crossOk) h]
      clear HE
      obtain rfl : F = 3 := by rw [HF.out, opE_no (ok := crossOk) h']
      clear HF
      clear h h' h1
      obtain ⟨⟨xa0, xa1, xa2⟩, ya0, ya1, ya2⟩ := HCa.out
      have lta := HCa.out.lt
      obtain ⟨⟨xb0, xb1, xb2⟩, yb0, yb1, yb2⟩ := HCb.out
      have ltb := HCb.out.lt
      obtain ⟨⟨xd0, xd1, xd2⟩, yd0, yd1, yd2⟩ := HCd.out
      have ltd := HCd.out.lt
      go_wp2_with fail
      go_meet
      exact ⟨rfl, Below.refl _ _⟩
    · have h' := h
      rw [← two_swap] at h'
      obtain rfl : M = 0 := by rw [HM.out, cmpW_no h]
      clear HM
      obtain rfl : N = 0 := by rw [HN.out, cmpW_no h']
      clear HN
      obtain rfl : E = 3 := by rw [HE.out, opE_no (ok := crossOk) h]
      clear HE
      obtain rfl : F = 3 := by rw [HF.out, opE_no (ok := crossOk) h']
      clear HF
      clear h h' h1 h2
      obtain ⟨⟨xa0, xa1, xa2⟩, ya0, ya1, ya2⟩ := HCa.out
      have lta := HCa.out.lt
      obtain ⟨⟨xb0, xb1, xb2⟩, yb0, yb1, yb2⟩ := HCb.out
      have ltb := HCb.out.lt
      obtain ⟨⟨xd0, xd1, xd2⟩, yd0, yd1, yd2⟩ := HCd.out
      have ltd := HCd.out.lt
      go_wp2_with fail
      go_meet
      exact ⟨rfl, Below.refl _ _⟩
    · obtain ⟨k1, k2⟩ := cmpG_bd r s
      have KS := Lib.hid (cmp_sub r s)
      obtain rfl : N = -M := by rw [HN.out, HM.out, cmpW_form hs hr, cmpW_form hr hs, cmpG_swap]
      obtain rfl : E = F := by rw [HF.out, HE.out, (op_form (ok := crossOk) (f := addOp) hs hr).1, (op_form (ok := crossOk) (f := addOp) hr hs).1, crossOk_swap]
      have e1 : M = cmpG r s := by rw [HM.out, cmpW_form hr hs]
      rw [← e1] at k1 k2 KS
      have e5 := (op_form (ok := subOk) (f := subOp) hr hs).2
      rw [e5] at HOd
      clear h HN HF e1 e5
      rcases bcase (crossOk r s) with hc | hc
      · have hks := KS.out hc
        obtain rfl : E = 0 := by rw [HE.out, (op_form (ok := crossOk) (f := addOp) hr hs).1, hc, okE_t]
        clear HE
        rcases bcase (subOk r s) with hd | hd
        · obtain rfl : G = 0 := by rw [HG.out, (op_form (ok := subOk) (f := subOp) hr hs).1, hd, okE_t]
          have HIS : Hid (IsR _ _ (r + -s)) := HOd.out.zero'
          have HKS := Lib.hid hks
          clear hd hks hc HG
          obtain ⟨⟨xa0, xa1, xa2⟩, ya0, ya1, ya2⟩ := HCa.out
          have lta := HCa.out.lt
          obtain ⟨⟨xb0, xb1, xb2⟩, yb0, yb1, yb2⟩ := HCb.out
          have ltb := HCb.out.lt
          obtain ⟨⟨xd0, xd1, xd2⟩, yd0, yd1, yd2⟩ := HCd.out
          have ltd := HCd.out.lt
          go_wp2_with fail
          clear xa0 xa1 xa2 ya0 ya1 ya2 lta xb0 xb1 xb2 yb0 yb1 yb2 ltb xd0 xd1 xd2 yd0 yd1 yd2 ltd
          refine (law_sign (r + -s) _ _ HIS.out).mono ?_
          rw [← HKS.out]
          rintro e wq ⟨rfl, hb⟩
          have HMM := Lib.hid hb
          clear hb
          go_wp2_with fail
          go_meet
          exact ⟨rfl, HMM.out⟩
        · obtain rfl : G = 2 := by rw [HG.out, (op_form (ok := subOk) (f := subOp) hr hs).1, hd, okE_f]
          clear hd hks hc HG
          obtain ⟨⟨xa0, xa1, xa2⟩, ya0, ya1, ya2⟩ := HCa.out
          have lta := HCa.out.lt
          obtain ⟨⟨xb0, xb1, xb2⟩, yb0, yb1, yb2⟩ := HCb.out
          have ltb := HCb.out.lt
          obtain ⟨⟨xd0, xd1, xd2⟩, yd0, yd1, yd2⟩ := HCd.out
          have ltd := HCd.out.lt
          go_wp2_with fail
          go_meet
          exact ⟨rfl, Below.refl _ _⟩
      · obtain rfl : E = 2 := by rw [HE.out, (op_form (ok := crossOk) (f := addOp) hr hs).1, hc, okE_f]
        clear hc HE
        obtain ⟨⟨xa0, xa1, xa2⟩, ya0, ya1, ya2⟩ := HCa.out
        have lta := HCa.out.lt
        obtain ⟨⟨xb0, xb1, xb2⟩, yb0, yb1, yb2⟩ := HCb.out
        have ltb := HCb.out.lt
        obtain ⟨⟨xd0, xd1, xd2⟩, yd0, yd1, yd2⟩ := HCd.out
        have ltd := HCd.out.lt
        go_wp2_with fail
        go_meet
        exact ⟨rfl, Below.refl _ _⟩
  case rest =>
    obtain ⟨rfl, hb⟩ := hcut
    obtain ⟨w6, hw⟩ : ∃ W, W = wc := ⟨_, rfl⟩
    rw [← hw] at hb ⊢
    replace HCa := Lib.hid (HCa.out.on hb)
    replace HCb := Lib.hid (HCb.out.on hb)
    replace HCd := Lib.hid (HCd.out.on hb)
    replace HOa := Lib.hid (HOa.out.on hb)
    replace HOb := Lib.hid (HOb.out.on hb)
    replace HOd := Lib.hid (HOd.out.on hb)
    replace HB : Hid (Below w.heap.size w w6) := bstep HB.out hb
    clear hb hw
    obtain ⟨⟨xa0, xa1, xa2⟩, ya0, ya1, ya2⟩ := HCa.out
    have lta := HCa.out.lt
    obtain ⟨⟨xb0, xb1, xb2⟩, yb0, yb1, yb2⟩ := HCb.out
    have ltb := HCb.out.lt
    obtain ⟨⟨xd0, xd1, xd2⟩, yd0, yd1, yd2⟩ := HCd.out
    have ltd := HCd.out.lt
    go_wp2_with fail
    clear xa0 xa1 xa2 ya0 ya1 ya2 lta xb0 xb1 xb2 yb0 yb1 yb2 ltb xd0 xd1 xd2 yd0 yd1 yd2 ltd
    obtain ⟨P1, hP1⟩ : ∃ x : Int, x = floorV ba xsa ysa := ⟨_, rfl⟩
    obtain ⟨E1, hE1⟩ : ∃ x : Int, x = floorE ba xsa ysa := ⟨_, rfl⟩
    refine (rat_Floor ba xsa ysa _ _ HOa.out).mono ?_
    rw [← hP1, ← hE1]
    have HP1 := Lib.hid hP1
    have HE1 := Lib.hid hE1
    clear hP1 hE1
    rintro e w7 ⟨rfl, hb⟩
    replace HCa := Lib.hid (HCa.out.on hb)
    replace HCb := Lib.hid (HCb.out.on hb)
    replace HCd := Lib.hid (HCd.out.on hb)
    replace HOa := Lib.hid (HOa.out.on hb)
    replace HOb := Lib.hid (HOb.out.on hb)
    replace HOd := Lib.hid (HOd.out.on hb)
    replace HB : Hid (Below w.heap.size w w7) := bstep HB.out hb
    clear hb
    obtain ⟨⟨xa0, xa1, xa2⟩, ya0, ya1, ya2⟩ := HCa.out
    have lta := HCa.out.lt
    obtain ⟨⟨xb0, xb1, xb2⟩, yb0, yb1, yb2⟩ := HCb.out
    have ltb := HCb.out.lt
    obtain ⟨⟨xd0, xd1, xd2⟩, yd0, yd1, yd2⟩ := HCd.out
    have ltd := HCd.out.lt
    go_wp2_with fail
    clear xa0 xa1 xa2 ya0 ya1 ya2 lta xb0 xb1 xb2 yb0 yb1 yb2 ltb xd0 xd1 xd2 yd0 yd1 yd2 ltd
    obtain ⟨P2, hP2⟩ : ∃ x : Int, x = ceilV ba xsa ysa := ⟨_, rfl⟩
    obtain ⟨E2, hE2⟩ : ∃ x : Int, x = ceilE ba xsa ysa := ⟨_, rfl⟩
    refine (rat_Ceil ba xsa ysa _ _ HOa.out).mono ?_
    rw [← hP2, ← hE2]
    have HP2 := Lib.hid hP2
    have HE2 := Lib.hid hE2
    clear hP2 hE2
    rintro e w8 ⟨rfl, hb⟩
    replace HCa := Lib.hid (HCa.out.on hb)
    replace HCb := Lib.hid (HCb.out.on hb)
    replace HCd := Lib.hid (HCd.out.on hb)
    replace HOa := Lib.hid (HOa.out.on hb)
    replace HOb := Lib.hid (HOb.out.on hb)
    replace HOd := Lib.hid (HOd.out.on hb)
    replace HB : Hid (Below w.heap.size w w8) := bstep HB.out hb
    clear hb
    rcases bcase (valR ba xsa ysa) with hv | hv
    · obtain ⟨r, hr, rfl, rfl, rfl⟩ := val_form hv
      obtain rfl : P1 = rndV r (negR r) := by rw [HP1.out]; exact rW_form hr
      obtain rfl : P2 = rndV r (!negR r) := by rw [HP2.out]; exact rW_form hr
      have e1 : E1 = rndE r (negR r) := by rw [HE1.out]; exact rE_form hr
      have e2 : E2 = rndE r (!negR r) := by rw [HE2.out]; exact rE_form hr
      clear hv HP1 HP2 HE1 HE2
      rcases rndE_two r (negR r) with h1 | h1
      · skip
        rcases rndE_two r (!negR r) with h2 | h2
        · skip
          obtain rfl : E1 = 0 := e1.trans h1
          obtain rfl : E2 = 0 := e2.trans h2
          have FC := Lib.hid (floor_ceil h1 h2)
          have b1 := rndV_bd r (negR r)
          have b2 := rndV_bd r (!negR r)
          have ML := Lib.hid (fun W => rat_Of (rndV r (negR r)) W (by omega) (by omega))
          have MH := Lib.hid (fun W => rat_Of (rndV r (!negR r)) W (by omega) (by omega))
          have z1 : mkE (rndV r (negR r)) 1 = 0 := mkE_4 (inRB_iff.mpr b1) (by decide) (by decide)
          have z2 : mkE (rndV r (!negR r)) 1 = 0 := mkE_4 (inRB_iff.mpr b2) (by decide) (by decide)
          rw [z1] at ML
          rw [z2] at MH
          have FL : Hid (fitR (mkV (rndV r (negR r)) 1) = true) := mkV_fit b1
          have FH : Hid (fitR (mkV (rndV r (!negR r)) 1) = true) := mkV_fit b2
          have HR := Lib.hid hr
          obtain ⟨LO, hLO⟩ : ∃ x, x = rndV r (negR r) := ⟨_, rfl⟩
          obtain ⟨HI, hHI⟩ : ∃ x, x = rndV r (!negR r) := ⟨_, rfl⟩
          rw [← hLO] at ML FL FC b1 ⊢
          rw [← hHI] at MH FH FC b2 ⊢
          obtain ⟨b1a, b1b⟩ := b1
          obtain ⟨b2a, b2b⟩ := b2
          clear h1 h2 e1 e2 z1 z2 hr hLO hHI
          obtain ⟨⟨xa0, xa1, xa2⟩, ya0, ya1, ya2⟩ := HCa.out
          have lta := HCa.out.lt
          obtain ⟨⟨xb0, xb1, xb2⟩, yb0, yb1, yb2⟩ := HCb.out
          have ltb := HCb.out.lt
          obtain ⟨⟨xd0, xd1, xd2⟩, yd0, yd1, yd2⟩ := HCd.out
          have ltd := HCd.out.lt
          go_wp2_with fail
          clear xa0 xa1 xa2 ya0 ya1 ya2 lta xb0 xb1 xb2 yb0 yb1 yb2 ltb xd0 xd1 xd2 yd0 yd1 yd2 ltd
          refine (ML.out _).mono ?_
          rintro e w9 h
          obtain ⟨zbx, zAx, znx, zdx, zBx, zmx, zqx, rfl, ho, hb⟩ := h.open_
          replace HCa := Lib.hid (HCa.out.on hb)
          replace HCb := Lib.hid (HCb.out.on hb)
          replace HCd := Lib.hid (HCd.out.on hb)
          replace HOa := Lib.hid (HOa.out.on hb)
          replace HOb := Lib.hid (HOb.out.on hb)
          replace HOd := Lib.hid (HOd.out.on hb)
          replace HB : Hid (Below w.heap.size w w9) := bstep HB.out hb
          have HOx := Lib.hid ho
          clear h ho hb
          obtain ⟨⟨xa0, xa1, xa2⟩, ya0, ya1, ya2⟩ := HCa.out
          have lta := HCa.out.lt
          obtain ⟨⟨xb0, xb1, xb2⟩, yb0, yb1, yb2⟩ := HCb.out
          have ltb := HCb.out.lt
          obtain ⟨⟨xd0, xd1, xd2⟩, yd0, yd1, yd2⟩ := HCd.out
          have ltd := HCd.out.lt
          go_wp2_with fail
          clear xa0 xa1 xa2 ya0 ya1 ya2 lta xb0 xb1 xb2 yb0 yb1 yb2 ltb xd0 xd1 xd2 yd0 yd1 yd2 ltd
          obtain ⟨w10, hw⟩ : ∃ W, W = w9.alloc (.cells #[.bool zbx, .slice zAx znx zdx, .slice zBx zmx zqx] 25) := ⟨_, rfl⟩
          have hb : Below w9.heap.size w9 w10 := by rw [hw]; exact below_alloc _ _
          obtain ⟨gx, hg⟩ : ∃ g, g = w9.heap.size := ⟨_, rfl⟩
          have hcn : Cel w10 gx (.bool zbx) (.slice zAx znx zdx) (.slice zBx zmx zqx) := by rw [hw, hg]; exact Cel.new _ _ _ _ _
          rw [← hw]
          rw [← hg]
          replace HCa := Lib.hid (HCa.out.on hb)
          replace HCb := Lib.hid (HCb.out.on hb)
          replace HCd := Lib.hid (HCd.out.on hb)
          replace HOa := Lib.hid (HOa.out.on hb)
          replace HOb := Lib.hid (HOb.out.on hb)
          replace HOd := Lib.hid (HOd.out.on hb)
          replace HOx := Lib.hid (HOx.out.on hb)
          replace HB : Hid (Below w.heap.size w w10) := bstep HB.out hb
          have HCx := Lib.hid hcn
          clear hw hb hg hcn
          refine (MH.out _).mono ?_
          rintro e w11 h
          obtain ⟨zby, zAy, zny, zdy, zBy, zmy, zqy, rfl, ho, hb⟩ := h.open_
          replace HCa := Lib.hid (HCa.out.on hb)
          replace HCb := Lib.hid (HCb.out.on hb)
          replace HCd := Lib.hid (HCd.out.on hb)
          replace HCx := Lib.hid (HCx.out.on hb)
          replace HOa := Lib.hid (HOa.out.on hb)
          replace HOb := Lib.hid (HOb.out.on hb)
          replace HOd := Lib.hid (HOd.out.on hb)
          replace HOx := Lib.hid (HOx.out.on hb)
          replace HB : Hid (Below w.heap.size w w11) := bstep HB.out hb
          have HOy := Lib.hid ho
          clear h ho hb
          obtain ⟨⟨xa0, xa1, xa2⟩, ya0, ya1, ya2⟩ := HCa.out
          have lta := HCa.out.lt
          obtain ⟨⟨xb0, xb1, xb2⟩, yb0, yb1, yb2⟩ := HCb.out
          have ltb := HCb.out.lt
          obtain ⟨⟨xd0, xd1, xd2⟩, yd0, yd1, yd2⟩ := HCd.out
          have ltd := HCd.out.lt
          obtain ⟨⟨xx0, xx1, xx2⟩, yx0, yx1, yx2⟩ := HCx.out
          have ltx := HCx.out.lt
          go_wp2_with fail
          clear xa0 xa1 xa2 ya0 ya1 ya2 lta xb0 xb1 xb2 yb0 yb1 yb2 ltb xd0 xd1 xd2 yd0 yd1 yd2 ltd xx0 xx1 xx2 yx0 yx1 yx2 ltx
          obtain ⟨w12, hw⟩ : ∃ W, W = w11.alloc (.cells #[.bool zby, .slice zAy zny zdy, .slice zBy zmy zqy] 25) := ⟨_, rfl⟩
          have hb : Below w11.heap.size w11 w12 := by rw [hw]; exact below_alloc _ _
          obtain ⟨gy, hg⟩ : ∃ g, g = w11.heap.size := ⟨_, rfl⟩
          have hcn : Cel w12 gy (.bool zby) (.slice zAy zny zdy) (.slice zBy zmy zqy) := by rw [hw, hg]; exact Cel.new _ _ _ _ _
          rw [← hw]
          rw [← hg]
          replace HCa := Lib.hid (HCa.out.on hb)
          replace HCb := Lib.hid (HCb.out.on hb)
          replace HCd := Lib.hid (HCd.out.on hb)
          replace HCx := Lib.hid (HCx.out.on hb)
          replace HOa := Lib.hid (HOa.out.on hb)
          replace HOb := Lib.hid (HOb.out.on hb)
          replace HOd := Lib.hid (HOd.out.on hb)
          replace HOx := Lib.hid (HOx.out.on hb)
          replace HOy := Lib.hid (HOy.out.on hb)
          replace HB : Hid (Below w.heap.size w w12) := bstep HB.out hb
          have HCy := Lib.hid hcn
          clear hw hb hg hcn
          obtain ⟨P, hP⟩ : ∃ x : Int, x = cmpG (mkV LO 1) r := ⟨_, rfl⟩
          obtain ⟨E3, hE3⟩ : ∃ x : Int, x = okE (crossOk (mkV LO 1) r) := ⟨_, rfl⟩
          refine (rat_CmpF (mkV LO 1) r FL.out HR.out _ _ _ HOx.out.zero' HOa.out).mono ?_
          rw [← hP, ← hE3]
          have HP := Lib.hid hP
          have HE3 := Lib.hid hE3
          clear hP hE3
          rintro e w13 ⟨rfl, hb⟩
          replace HCa := Lib.hid (HCa.out.on hb)
          replace HCb := Lib.hid (HCb.out.on hb)
          replace HCd := Lib.hid (HCd.out.on hb)
          replace HCx := Lib.hid (HCx.out.on hb)
          replace HCy := Lib.hid (HCy.out.on hb)
          replace HOa := Lib.hid (HOa.out.on hb)
          replace HOb := Lib.hid (HOb.out.on hb)
          replace HOd := Lib.hid (HOd.out.on hb)
          replace HOx := Lib.hid (HOx.out.on hb)
          replace HOy := Lib.hid (HOy.out.on hb)
          replace HB : Hid (Below w.heap.size w w13) := bstep HB.out hb
          clear hb
          obtain ⟨⟨xa0, xa1, xa2⟩, ya0, ya1, ya2⟩ := HCa.out
          have lta := HCa.out.lt
          obtain ⟨⟨xb0, xb1, xb2⟩, yb0, yb1, yb2⟩ := HCb.out
          have ltb := HCb.out.lt
          obtain ⟨⟨xd0, xd1, xd2⟩, yd0, yd1, yd2⟩ := HCd.out
          have ltd := HCd.out.lt
          obtain ⟨⟨xx0, xx1, xx2⟩, yx0, yx1, yx2⟩ := HCx.out
          have ltx := HCx.out.lt
          obtain ⟨⟨xy0, xy1, xy2⟩, yy0, yy1, yy2⟩ := HCy.out
          have lty := HCy.out.lt
          go_wp2_with fail
          clear xa0 xa1 xa2 ya0 ya1 ya2 lta xb0 xb1 xb2 yb0 yb1 yb2 ltb xd0 xd1 xd2 yd0 yd1 yd2 ltd xx0 xx1 xx2 yx0 yx1 yx2 ltx xy0 xy1 xy2 yy0 yy1 yy2 lty
          obtain ⟨Q, hQ⟩ : ∃ x : Int, x = cmpG (mkV HI 1) r := ⟨_, rfl⟩
          obtain ⟨E4, hE4⟩ : ∃ x : Int, x = okE (crossOk (mkV HI 1) r) := ⟨_, rfl⟩
          refine (rat_CmpF (mkV HI 1) r FH.out HR.out _ _ _ HOy.out.zero' HOa.out).mono ?_
          rw [← hQ, ← hE4]
          have HQ := Lib.hid hQ
          have HE4 := Lib.hid hE4
          clear hQ hE4
          rintro e w14 ⟨rfl, hb⟩
          replace HCa := Lib.hid (HCa.out.on hb)
          replace HCb := Lib.hid (HCb.out.on hb)
          replace HCd := Lib.hid (HCd.out.on hb)
          replace HCx := Lib.hid (HCx.out.on hb)
          replace HCy := Lib.hid (HCy.out.on hb)
          replace HOa := Lib.hid (HOa.out.on hb)
          replace HOb := Lib.hid (HOb.out.on hb)
          replace HOd := Lib.hid (HOd.out.on hb)
          replace HOx := Lib.hid (HOx.out.on hb)
          replace HOy := Lib.hid (HOy.out.on hb)
          replace HB : Hid (Below w.heap.size w w14) := bstep HB.out hb
          clear hb
          have c1 : P ≤ 0 := by rw [HP.out]; exact cmp_low FC.out.1
          have c2 : 0 ≤ Q := by rw [HQ.out]; exact cmp_high FC.out.2.1
          have c3 : E3 = 0 ∨ E3 = 2 := by rw [HE3.out]; cases crossOk (mkV LO 1) r <;> simp [okE]
          have c4 : E4 = 0 ∨ E4 = 2 := by rw [HE4.out]; cases crossOk (mkV HI 1) r <;> simp [okE]
          clear HP HQ HE3 HE4
          obtain ⟨⟨xa0, xa1, xa2⟩, ya0, ya1, ya2⟩ := HCa.out
          have lta := HCa.out.lt
          obtain ⟨⟨xb0, xb1, xb2⟩, yb0, yb1, yb2⟩ := HCb.out
          have ltb := HCb.out.lt
          obtain ⟨⟨xd0, xd1, xd2⟩, yd0, yd1, yd2⟩ := HCd.out
          have ltd := HCd.out.lt
          obtain ⟨⟨xx0, xx1, xx2⟩, yx0, yx1, yx2⟩ := HCx.out
          have ltx := HCx.out.lt
          obtain ⟨⟨xy0, xy1, xy2⟩, yy0, yy1, yy2⟩ := HCy.out
          have lty := HCy.out.lt
          go_upto_region 14 with fail
          clear xa0 xa1 xa2 ya0 ya1 ya2 lta xb0 xb1 xb2 yb0 yb1 yb2 ltb xd0 xd1 xd2 yd0 yd1 yd2 ltd xx0 xx1 xx2 yx0 yx1 yx2 ltx xy0 xy1 xy2 yy0 yy1 yy2 lty
          go_cut [116] (fun s wx => s = .bool false ∧ Below w14.heap.size w14 wx)
          case first =>
            have c5 : decide (0 < P) = false := decide_eq_false (by omega)
            have c6 : decide (Q < 0) = false := decide_eq_false (by omega)
            rcases c3 with rfl | rfl <;> rcases c4 with rfl | rfl
            all_goals clear c1 c2
            all_goals
              obtain ⟨⟨xa0, xa1, xa2⟩, ya0, ya1, ya2⟩ := HCa.out
              have lta := HCa.out.lt
              obtain ⟨⟨xb0, xb1, xb2⟩, yb0, yb1, yb2⟩ := HCb.out
              have ltb := HCb.out.lt
              obtain ⟨⟨xd0, xd1, xd2⟩, yd0, yd1, yd2⟩ := HCd.out
              have ltd := HCd.out.lt
              obtain ⟨⟨xx0, xx1, xx2⟩, yx0, yx1, yx2⟩ := HCx.out
              have ltx := HCx.out.lt
              obtain ⟨⟨xy0, xy1, xy2⟩, yy0, yy1, yy2⟩ := HCy.out
              have lty := HCy.out.lt
              go_wp2_with fail
              go_meet
              exact ⟨rfl, Below.refl _ _⟩
          case rest =>
            obtain ⟨rfl, hb⟩ := hcut
            obtain ⟨w15, hw⟩ : ∃ W, W = wc := ⟨_, rfl⟩
            rw [← hw] at hb ⊢
            replace HCa := Lib.hid (HCa.out.on hb)
            replace HCb := Lib.hid (HCb.out.on hb)
            replace HCd := Lib.hid (HCd.out.on hb)
            replace HCx := Lib.hid (HCx.out.on hb)
            replace HCy := Lib.hid (HCy.out.on hb)
            replace HOa := Lib.hid (HOa.out.on hb)
            replace HOb := Lib.hid (HOb.out.on hb)
            replace HOd := Lib.hid (HOd.out.on hb)
            replace HOx := Lib.hid (HOx.out.on hb)
            replace HOy := Lib.hid (HOy.out.on hb)
            replace HB : Hid (Below w.heap.size w w15) := bstep HB.out hb
            clear hb hw
            clear c1 c2 c3 c4
            by_cases hd : r.den = 1
            · skip
              have hbl : botL r = [1] := by unfold botL; rw [hd]; exact limbs_one
              have hlh := FC.out.2.2.1 hd
              clear hd
              have HIN : In _ _ (botL r) := inR_q HOa.out
              rw [hbl] at HIN ⊢
              obtain ⟨A', c', e', _, _, hh⟩ := HIN
              cases e'
              obtain ⟨b', off', rfl, _, _, hcell⟩ := hh 0 1 rfl
              rw [Nat.add_zero] at hcell
              rw [hbl] at HCa
              subst hlh
              clear hh hbl
              obtain ⟨⟨xa0, xa1, xa2⟩, ya0, ya1, ya2⟩ := HCa.out
              have lta := HCa.out.lt
              obtain ⟨⟨xb0, xb1, xb2⟩, yb0, yb1, yb2⟩ := HCb.out
              have ltb := HCb.out.lt
              obtain ⟨⟨xd0, xd1, xd2⟩, yd0, yd1, yd2⟩ := HCd.out
              have ltd := HCd.out.lt
              obtain ⟨⟨xx0, xx1, xx2⟩, yx0, yx1, yx2⟩ := HCx.out
              have ltx := HCx.out.lt
              obtain ⟨⟨xy0, xy1, xy2⟩, yy0, yy1, yy2⟩ := HCy.out
              have lty := HCy.out.lt
              go_wp2_with fail
              clear xa0 xa1 xa2 ya0 ya1 ya2 lta xb0 xb1 xb2 yb0 yb1 yb2 ltb xd0 xd1 xd2 yd0 yd1 yd2 ltd xx0 xx1 xx2 yx0 yx1 yx2 ltx xy0 xy1 xy2 yy0 yy1 yy2 lty
              refine (awake3 _ (HT.out.on HB.out)).mono ?_
              rintro e w16 ⟨rfl, hb⟩
              replace HCa := Lib.hid (HCa.out.on hb)
              replace HCb := Lib.hid (HCb.out.on hb)
              replace HCd := Lib.hid (HCd.out.on hb)
              replace HCx := Lib.hid (HCx.out.on hb)
              replace HCy := Lib.hid (HCy.out.on hb)
              replace HOa := Lib.hid (HOa.out.on hb)
              replace HOb := Lib.hid (HOb.out.on hb)
              replace HOd := Lib.hid (HOd.out.on hb)
              replace HOx := Lib.hid (HOx.out.on hb)
              replace HOy := Lib.hid (HOy.out.on hb)
              replace HB : Hid (Below w.heap.size w w16) := bstep HB.out hb
              clear hb
              obtain ⟨⟨xa0, xa1, xa2⟩, ya0, ya1, ya2⟩ := HCa.out
              have lta := HCa.out.lt
              obtain ⟨⟨xb0, xb1, xb2⟩, yb0, yb1, yb2⟩ := HCb.out
              have ltb := HCb.out.lt
              obtain ⟨⟨xd0, xd1, xd2⟩, yd0, yd1, yd2⟩ := HCd.out
              have ltd := HCd.out.lt
              obtain ⟨⟨xx0, xx1, xx2⟩, yx0, yx1, yx2⟩ := HCx.out
              have ltx := HCx.out.lt
              obtain ⟨⟨xy0, xy1, xy2⟩, yy0, yy1, yy2⟩ := HCy.out
              have lty := HCy.out.lt
              go_wp2_with fail
              go_ret
              exact ⟨rfl, HB.out⟩
            · skip
              have hlh : HI - LO = 1 := FC.out.2.2.2 hd
              by_cases hl : (botL r).length = 1
              · skip
                obtain ⟨z, hbl⟩ := List.length_eq_one_iff.mp hl
                have hz : (z == 1) = false := beq_false_of_ne (fun e => hd (by rw [e, ← limbs_one] at hbl; exact limbs_inj hbl))
                have HIN : In _ _ (botL r) := inR_q HOa.out
                rw [hbl] at HIN ⊢
                obtain ⟨A', c', e', _, _, hh⟩ := HIN
                cases e'
                obtain ⟨b', off', rfl, _, _, hcell⟩ := hh 0 z rfl
                rw [Nat.add_zero] at hcell
                rw [hbl] at HCa
                clear hh hbl hd hl
                obtain ⟨⟨xa0, xa1, xa2⟩, ya0, ya1, ya2⟩ := HCa.out
                have lta := HCa.out.lt
                obtain ⟨⟨xb0, xb1, xb2⟩, yb0, yb1, yb2⟩ := HCb.out
                have ltb := HCb.out.lt
                obtain ⟨⟨xd0, xd1, xd2⟩, yd0, yd1, yd2⟩ := HCd.out
                have ltd := HCd.out.lt
                obtain ⟨⟨xx0, xx1, xx2⟩, yx0, yx1, yx2⟩ := HCx.out
                have ltx := HCx.out.lt
                obtain ⟨⟨xy0, xy1, xy2⟩, yy0, yy1, yy2⟩ := HCy.out
                have lty := HCy.out.lt
                go_wp2_with fail
                clear xa0 xa1 xa2 ya0 ya1 ya2 lta xb0 xb1 xb2 yb0 yb1 yb2 ltb xd0 xd1 xd2 yd0 yd1 yd2 ltd xx0 xx1 xx2 yx0 yx1 yx2 ltx xy0 xy1 xy2 yy0 yy1 yy2 lty
                refine (awake3 _ (HT.out.on HB.out)).mono ?_
                rintro e w16 ⟨rfl, hb⟩
                replace HCa := Lib.hid (HCa.out.on hb)
                replace HCb := Lib.hid (HCb.out.on hb)
                replace HCd := Lib.hid (HCd.out.on hb)
                replace HCx := Lib.hid (HCx.out.on hb)
                replace HCy := Lib.hid (HCy.out.on hb)
                replace HOa := Lib.hid (HOa.out.on hb)
                replace HOb := Lib.hid (HOb.out.on hb)
                replace HOd := Lib.hid (HOd.out.on hb)
                replace HOx := Lib.hid (HOx.out.on hb)
                replace HOy := Lib.hid (HOy.out.on hb)
                replace HB : Hid (Below w.heap.size w w16) := bstep HB.out hb
                clear hb
                obtain ⟨⟨xa0, xa1, xa2⟩, ya0, ya1, ya2⟩ := HCa.out
                have lta := HCa.out.lt
                obtain ⟨⟨xb0, xb1, xb2⟩, yb0, yb1, yb2⟩ := HCb.out
                have ltb := HCb.out.lt
                obtain ⟨⟨xd0, xd1, xd2⟩, yd0, yd1, yd2⟩ := HCd.out
                have ltd := HCd.out.lt
                obtain ⟨⟨xx0, xx1, xx2⟩, yx0, yx1, yx2⟩ := HCx.out
                have ltx := HCx.out.lt
                obtain ⟨⟨xy0, xy1, xy2⟩, yy0, yy1, yy2⟩ := HCy.out
                have lty := HCy.out.lt
                go_wp2_with fail
                go_ret
                exact ⟨rfl, HB.out⟩
              · skip
                have hne : (((botL r).length : Int) == 1) = false := beq_false_of_ne (by omega)
                clear hd hl
                obtain ⟨⟨xa0, xa1, xa2⟩, ya0, ya1, ya2⟩ := HCa.out
                have lta := HCa.out.lt
                obtain ⟨⟨xb0, xb1, xb2⟩, yb0, yb1, yb2⟩ := HCb.out
                have ltb := HCb.out.lt
                obtain ⟨⟨xd0, xd1, xd2⟩, yd0, yd1, yd2⟩ := HCd.out
                have ltd := HCd.out.lt
                obtain ⟨⟨xx0, xx1, xx2⟩, yx0, yx1, yx2⟩ := HCx.out
                have ltx := HCx.out.lt
                obtain ⟨⟨xy0, xy1, xy2⟩, yy0, yy1, yy2⟩ := HCy.out
                have lty := HCy.out.lt
                go_wp2_with fail
                clear xa0 xa1 xa2 ya0 ya1 ya2 lta xb0 xb1 xb2 yb0 yb1 yb2 ltb xd0 xd1 xd2 yd0 yd1 yd2 ltd xx0 xx1 xx2 yx0 yx1 yx2 ltx xy0 xy1 xy2 yy0 yy1 yy2 lty
                refine (awake3 _ (HT.out.on HB.out)).mono ?_
                rintro e w16 ⟨rfl, hb⟩
                replace HCa := Lib.hid (HCa.out.on hb)
                replace HCb := Lib.hid (HCb.out.on hb)
                replace HCd := Lib.hid (HCd.out.on hb)
                replace HCx := Lib.hid (HCx.out.on hb)
                replace HCy := Lib.hid (HCy.out.on hb)
                replace HOa := Lib.hid (HOa.out.on hb)
                replace HOb := Lib.hid (HOb.out.on hb)
                replace HOd := Lib.hid (HOd.out.on hb)
                replace HOx := Lib.hid (HOx.out.on hb)
                replace HOy := Lib.hid (HOy.out.on hb)
                replace HB : Hid (Below w.heap.size w w16) := bstep HB.out hb
                clear hb
                obtain ⟨⟨xa0, xa1, xa2⟩, ya0, ya1, ya2⟩ := HCa.out
                have lta := HCa.out.lt
                obtain ⟨⟨xb0, xb1, xb2⟩, yb0, yb1, yb2⟩ := HCb.out
                have ltb := HCb.out.lt
                obtain ⟨⟨xd0, xd1, xd2⟩, yd0, yd1, yd2⟩ := HCd.out
                have ltd := HCd.out.lt
                obtain ⟨⟨xx0, xx1, xx2⟩, yx0, yx1, yx2⟩ := HCx.out
                have ltx := HCx.out.lt
                obtain ⟨⟨xy0, xy1, xy2⟩, yy0, yy1, yy2⟩ := HCy.out
                have lty := HCy.out.lt
                go_wp2_with fail
                go_ret
                exact ⟨rfl, HB.out⟩
        · skip
          obtain rfl : E1 = 0 := e1.trans h1
          obtain rfl : E2 = 2 := e2.trans h2
          clear h1 h2 e1 e2
          obtain ⟨⟨xa0, xa1, xa2⟩, ya0, ya1, ya2⟩ := HCa.out
          have lta := HCa.out.lt
          obtain ⟨⟨xb0, xb1, xb2⟩, yb0, yb1, yb2⟩ := HCb.out
          have ltb := HCb.out.lt
          obtain ⟨⟨xd0, xd1, xd2⟩, yd0, yd1, yd2⟩ := HCd.out
          have ltd := HCd.out.lt
          go_wp2_with fail
          clear xa0 xa1 xa2 ya0 ya1 ya2 lta xb0 xb1 xb2 yb0 yb1 yb2 ltb xd0 xd1 xd2 yd0 yd1 yd2 ltd
          refine (awake3 _ (HT.out.on HB.out)).mono ?_
          rintro e w9 ⟨rfl, hb⟩
          replace HCa := Lib.hid (HCa.out.on hb)
          replace HCb := Lib.hid (HCb.out.on hb)
          replace HCd := Lib.hid (HCd.out.on hb)
          replace HOa := Lib.hid (HOa.out.on hb)
          replace HOb := Lib.hid (HOb.out.on hb)
          replace HOd := Lib.hid (HOd.out.on hb)
          replace HB : Hid (Below w.heap.size w w9) := bstep HB.out hb
          clear hb
          obtain ⟨⟨xa0, xa1, xa2⟩, ya0, ya1, ya2⟩ := HCa.out
          have lta := HCa.out.lt
          obtain ⟨⟨xb0, xb1, xb2⟩, yb0, yb1, yb2⟩ := HCb.out
          have ltb := HCb.out.lt
          obtain ⟨⟨xd0, xd1, xd2⟩, yd0, yd1, yd2⟩ := HCd.out
          have ltd := HCd.out.lt
          go_wp2_with fail
          go_ret
          exact ⟨rfl, HB.out⟩
      · skip
        obtain rfl : E1 = 2 := e1.trans h1
        clear h1 e1 e2
        obtain ⟨⟨xa0, xa1, xa2⟩, ya0, ya1, ya2⟩ := HCa.out
        have lta := HCa.out.lt
        obtain ⟨⟨xb0, xb1, xb2⟩, yb0, yb1, yb2⟩ := HCb.out
        have ltb := HCb.out.lt
        obtain ⟨⟨xd0, xd1, xd2⟩, yd0, yd1, yd2⟩ := HCd.out
        have ltd := HCd.out.lt
        go_wp2_with fail
        clear xa0 xa1 xa2 ya0 ya1 ya2 lta xb0 xb1 xb2 yb0 yb1 yb2 ltb xd0 xd1 xd2 yd0 yd1 yd2 ltd
        refine (awake3 _ (HT.out.on HB.out)).mono ?_
        rintro e w9 ⟨rfl, hb⟩
        replace HCa := Lib.hid (HCa.out.on hb)
        replace HCb := Lib.hid (HCb.out.on hb)
        replace HCd := Lib.hid (HCd.out.on hb)
        replace HOa := Lib.hid (HOa.out.on hb)
        replace HOb := Lib.hid (HOb.out.on hb)
        replace HOd := Lib.hid (HOd.out.on hb)
        replace HB : Hid (Below w.heap.size w w9) := bstep HB.out hb
        clear hb
        obtain ⟨⟨xa0, xa1, xa2⟩, ya0, ya1, ya2⟩ := HCa.out
        have lta := HCa.out.lt
        obtain ⟨⟨xb0, xb1, xb2⟩, yb0, yb1, yb2⟩ := HCb.out
        have ltb := HCb.out.lt
        obtain ⟨⟨xd0, xd1, xd2⟩, yd0, yd1, yd2⟩ := HCd.out
        have ltd := HCd.out.lt
        go_wp2_with fail
        go_ret
        exact ⟨rfl, HB.out⟩
    · skip
      obtain rfl : E1 = 3 := by rw [HE1.out]; exact opH_no hv
      obtain ⟨⟨xa0, xa1, xa2⟩, ya0, ya1, ya2⟩ := HCa.out
      have lta := HCa.out.lt
      obtain ⟨⟨xb0, xb1, xb2⟩, yb0, yb1, yb2⟩ := HCb.out
      have ltb := HCb.out.lt
      obtain ⟨⟨xd0, xd1, xd2⟩, yd0, yd1, yd2⟩ := HCd.out
      have ltd := HCd.out.lt
      go_wp2_with fail
      clear xa0 xa1 xa2 ya0 ya1 ya2 lta xb0 xb1 xb2 yb0 yb1 yb2 ltb xd0 xd1 xd2 yd0 yd1 yd2 ltd
      refine (awake3 _ (HT.out.on HB.out)).mono ?_
      rintro e w9 ⟨rfl, hb⟩
      replace HCa := Lib.hid (HCa.out.on hb)
      replace HCb := Lib.hid (HCb.out.on hb)
      replace HCd := Lib.hid (HCd.out.on hb)
      replace HOa := Lib.hid (HOa.out.on hb)
      replace HOb := Lib.hid (HOb.out.on hb)
      replace HOd := Lib.hid (HOd.out.on hb)
      replace HB : Hid (Below w.heap.size w w9) := bstep HB.out hb
      clear hb
      obtain ⟨⟨xa0, xa1, xa2⟩, ya0, ya1, ya2⟩ := HCa.out
      have lta := HCa.out.lt
      obtain ⟨⟨xb0, xb1, xb2⟩, yb0, yb1, yb2⟩ := HCb.out
      have ltb := HCb.out.lt
      obtain ⟨⟨xd0, xd1, xd2⟩, yd0, yd1, yd2⟩ := HCd.out
      have ltd := HCd.out.lt
      go_wp2_with fail
      go_ret
      exact ⟨rfl, HB.out⟩

#print axioms walk_RatMakes
#print axioms walk_RatOrder
end Go.Proofs.YthkhaipbdphpeaaDoor
