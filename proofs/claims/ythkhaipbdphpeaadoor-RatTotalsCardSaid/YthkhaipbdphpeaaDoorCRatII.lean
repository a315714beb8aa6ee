/- The walk of RatTotals: the lists beyond the limit. -/
import Derived.Test.YthkhaipbdphpeaaDoorCRatHH
namespace Go.Proofs.YthkhaipbdphpeaaDoor
open Go.ChangeShapes Go.WideShapes Go.RowKit
set_option linter.unusedVariables false
set_option maxRecDepth 100000

theorem Fill.step_alloc {w : World} {g N k : Nat} (hf : Fill w g N k) (hk : k < N) (hg : g < w.heap.size) (t : Nat) :
    Fill ((putO w g (k * 3) (.bool false) (.slice none 0 0) (.slice (some ⟨w.heap.size, 0, none⟩) 1 1)).alloc (.cells #[.int .i64 1] t)) g N (k + 1) := by
  have hb := below_alloc (putO w g (k * 3) (.bool false) (.slice none 0 0) (.slice (some ⟨w.heap.size, 0, none⟩) 1 1)) (.cells #[.int .i64 1] t)
  have hn := (One.new (putO w g (k * 3) (.bool false) (.slice none 0 0) (.slice (some ⟨w.heap.size, 0, none⟩) 1 1)) (.int .i64 1) t).1
  rw [putO_size] at hn
  intro j hj
  have hj' := hf j hj
  rcases Nat.lt_trichotomy j k with hjk | hjk | hjk
  · rw [if_pos hjk] at hj'
    obtain ⟨x, h1, h2, h3⟩ := hj'
    have hlt := World.block_lt_of_cell? w _ h3
    rw [if_pos (by omega)]
    refine ⟨x, (h1.far (by omega) _ _ _).on hb, h2, ?_⟩
    exact (hb.cell (p := ⟨x, 0, none⟩) (by rw [putO_size]; exact hlt)).trans ((cell_putO h2 _ _ _).trans h3)
  · subst hjk
    rw [if_neg (by omega)] at hj'
    rw [if_pos (by omega)]
    exact ⟨w.heap.size, (hj'.putO _ _ _).on hb, by omega, hn⟩
  · rw [if_neg (by omega)] at hj'
    rw [if_neg (by omega)]
    exact (hj'.far (by omega) _ _ _).on hb

set_option maxHeartbeats 12800000 in
theorem totals_full (w : World) (A : Option Addr) (c : Nat) (L : List Trip) (ha : Rats w A L) (hm : L.length ≤ 9223372036854775807) (many : Int) (wm : (Lit.int .i64 many).wf = true) (ht : Tab w) (hl : ¬ 40 < L.length) (h1 : 4095 ≤ many) (h2 : many ≤ 4098) (h3 : 0 < L.length) :
    Calls Tryd.prog 7 #[.slice A L.length c, .int .i64 many] w fun e w' => e = .returned (.bool true) ∧ Below w.heap.size w w' := by
  have HT := Lib.hid ht
  have HA := Lib.hid ha
  have bm := bounds_i64 wm
  have HA0 := HA
  have HB := Lib.hid (Below.refl w.heap.size w)
  clear ht ha wm
  have hl' : decide ((40 : Int) < (L.length : Int)) = false := decide_eq_false (by omega)
  have hl2 : decide (40 < L.length) = false := decide_eq_false hl
  have HS1 := Lib.hid (fun W h => rat_Sum L A c W h hm)
  have HS2 := Lib.hid (fun W h => ref_Sum3 L A c W h hm)
  have d1 : decide (many < 4095) = false := decide_eq_false (by omega)
  have d2 : decide (4098 < many) = false := decide_eq_false (by omega)
  have d3 : ((L.length : Int) == 0) = false := beq_false_of_ne (by omega)
  obtain ⟨M, hN⟩ : ∃ M : Nat, many = ((M + 1 : Nat) : Int) := ⟨many.toNat - 1, by omega⟩
  obtain ⟨N, hNM⟩ : ∃ N, N = M + 1 := ⟨_, rfl⟩
  rw [← hNM] at hN
  subst hN
  have hN1 : 4095 ≤ N := by omega
  have hN2 : N ≤ 4098 := by omega
  have e1 : ((N : Nat) : Int) - 1 = (M : Int) := by omega
  have hmk := fun W => make_rats N (by omega) W
  have HNM := Lib.hid hNM
  clear hNM
  go_enter Tryd.func7, Tryd.ntmps7
  go_wp2_with fail
  refine (HS1.out _ HA.out).mono ?_
  rintro e w1 h
  obtain ⟨zbs, zAs, zns, zds, zBs, zms, zqs, rfl, ho, hb⟩ := h.open_
  replace HA := Lib.hid (HA.out.on hb)
  replace HB : Hid (Below w.heap.size w w1) := bstep HB.out hb
  have HOs := Lib.hid ho
  clear h ho hb
  go_wp2_with fail
  obtain ⟨w2, hw⟩ : ∃ W, W = w1.alloc (.cells #[.bool zbs, .slice zAs zns zds, .slice zBs zms zqs] 25) := ⟨_, rfl⟩
  have hb : Below w1.heap.size w1 w2 := by rw [hw]; exact below_alloc _ _
  obtain ⟨gs, hg⟩ : ∃ g, g = w1.heap.size := ⟨_, rfl⟩
  have hgsw : w.heap.size ≤ gs := by rw [hg]; exact (HB.out.size)
  have hcn : Cel w2 gs (.bool zbs) (.slice zAs zns zds) (.slice zBs zms zqs) := by rw [hw, hg]; exact Cel.new _ _ _ _ _
  rw [← hw]
  rw [← hg]
  replace HA := Lib.hid (HA.out.on hb)
  replace HOs := Lib.hid (HOs.out.on hb)
  replace HB : Hid (Below w.heap.size w w2) := bstep HB.out hb
  have HCs := Lib.hid hcn
  clear hw hb hg hcn
  refine (HS2.out _ HA.out).mono ?_
  rintro e w3 h
  obtain ⟨zbt, zAt, znt, zdt, zBt, zmt, zqt, rfl, ho, hb⟩ := h.open_
  replace HCs := Lib.hid (HCs.out.on hb)
  replace HA := Lib.hid (HA.out.on hb)
  replace HOs := Lib.hid (HOs.out.on hb)
  replace HB : Hid (Below w.heap.size w w3) := bstep HB.out hb
  have HOt := Lib.hid ho
  clear h ho hb
  obtain ⟨⟨xs0, xs1, xs2⟩, ys0, ys1, ys2⟩ := HCs.out
  have lts := HCs.out.lt
  go_wp2_with fail
  clear xs0 xs1 xs2 ys0 ys1 ys2 lts
  obtain ⟨w4, hw⟩ : ∃ W, W = w3.alloc (.cells #[.bool zbt, .slice zAt znt zdt, .slice zBt zmt zqt] 25) := ⟨_, rfl⟩
  have hb : Below w3.heap.size w3 w4 := by rw [hw]; exact below_alloc _ _
  obtain ⟨gt, hg⟩ : ∃ g, g = w3.heap.size := ⟨_, rfl⟩
  have hst : gs < gt := by rw [hg]; exact HCs.out.lt
  have hgtw : w.heap.size ≤ gt := by omega
  have hcn : Cel w4 gt (.bool zbt) (.slice zAt znt zdt) (.slice zBt zmt zqt) := by rw [hw, hg]; exact Cel.new _ _ _ _ _
  rw [← hw]
  rw [← hg]
  replace HCs := Lib.hid (HCs.out.on hb)
  replace HA := Lib.hid (HA.out.on hb)
  replace HOs := Lib.hid (HOs.out.on hb)
  replace HOt := Lib.hid (HOt.out.on hb)
  replace HB : Hid (Below w.heap.size w w4) := bstep HB.out hb
  have HCt := Lib.hid hcn
  clear hw hb hg hcn
  refine (same_out HOs.out HOt.out).mono ?_
  rintro e w5 ⟨rfl, hb⟩
  replace HCs := Lib.hid (HCs.out.on hb)
  replace HCt := Lib.hid (HCt.out.on hb)
  replace HA := Lib.hid (HA.out.on hb)
  replace HOs := Lib.hid (HOs.out.on hb)
  replace HOt := Lib.hid (HOt.out.on hb)
  replace HB : Hid (Below w.heap.size w w5) := bstep HB.out hb
  clear hb
  obtain ⟨⟨xs0, xs1, xs2⟩, ys0, ys1, ys2⟩ := HCs.out
  have lts := HCs.out.lt
  obtain ⟨⟨xt0, xt1, xt2⟩, yt0, yt1, yt2⟩ := HCt.out
  have ltt := HCt.out.lt
  go_wp2_with fail
  clear xs0 xs1 xs2 ys0 ys1 ys2 lts xt0 xt1 xt2 yt0 yt1 yt2 ltt
  obtain ⟨w6, hw⟩ : ∃ W, W = w5.alloc (.cells (madeCells #[.bool false, .slice none 0 0, .slice none 0 0] (N * 3)) 25) := ⟨_, rfl⟩
  have hb : Below w5.heap.size w5 w6 := by rw [hw]; exact below_alloc _ _
  obtain ⟨gm, hg⟩ : ∃ g, g = w5.heap.size := ⟨_, rfl⟩
  have hfill : Fill w6 gm N 0 := by rw [hw, hg]; exact fill_start _ _
  have HB6 : Hid (Below gm w5 w6) := by rw [hg]; exact hb
  rw [← hw]
  rw [← hg]
  have hgs : gs < gm := by rw [hg]; exact HCs.out.lt
  have hgt : gt < gm := by rw [hg]; exact HCt.out.lt
  have hgw : w.heap.size ≤ gm := by rw [hg]; exact HB.out.size
  have hgl : gm < w6.heap.size := by rw [hw, hg]; simp
  have HOLD := Lib.hid HB.out
  have HAO := Lib.hid HA.out
  have HCS0 := Lib.hid HCs.out
  have HCT0 := Lib.hid HCt.out
  have HOLDG := Lib.hid hg
  replace HCs := Lib.hid (HCs.out.on hb)
  replace HCt := Lib.hid (HCt.out.on hb)
  replace HA := Lib.hid (HA.out.on hb)
  replace HOs := Lib.hid (HOs.out.on hb)
  replace HOt := Lib.hid (HOt.out.on hb)
  replace HB : Hid (Below w.heap.size w w6) := bstep HB.out hb
  have HF := Lib.hid hfill
  clear hw hb hg hfill
  go_loopw [10] (fun i wr => ∃ k : Nat, k ≤ N ∧ i = .int .i64 k ∧ Fill wr gm N k ∧ Below gm w6 wr) (fun i _ => N - (intOf i).toNat)
  case atStart => exact ⟨0, Nat.zero_le _, rfl, HF.out, Below.refl _ _⟩
  case round =>
    obtain ⟨k, hk, rfl, hfl, hbr⟩ := hrel
    rcases Nat.lt_or_ge k N with hlt | hge
    · skip
      have hb1 := below_alloc wr (.cells #[.int .i64 1] 3)
      have HFL0 := Lib.hid hfl
      have HBR := Lib.hid hbr
      have hzr : gm < wr.heap.size := Nat.lt_of_lt_of_le hgl hbr.size
      have hck := hfl k hlt
      rw [if_neg (by omega)] at hck
      obtain ⟨⟨c0, c1, c2⟩, f0, f1, f2⟩ := hck
      have hone : (wr.alloc (.cells #[.int .i64 1] 3)).cell? ⟨wr.heap.size, 0, none⟩ = some (.int .i64 1) := (One.new wr (.int .i64 1) 3).1
      have HONE := Lib.hid hone
      have hlk : (k : Int) < (N : Int) := by omega
      clear hb1 hfl hbr hone
      go_wp2_with fail
      go_roundw
      case rel =>
        refine ⟨k + 1, by omega, by go_num, HFL0.out.step_alloc hlt hzr _, ?_⟩
        exact (below_putO HBR.out (Nat.le_refl _) _ _ _ _).alloc (by rw [putO_size]; omega) _
      case measure => simp [intOf]; omega
    · skip
      obtain rfl : k = N := by omega
      obtain ⟨t, ht⟩ : ∃ t, L[0]? = some t := ⟨_, List.getElem?_eq_getElem h3⟩
      have hX5 := HB6.out.trans hbr
      have hW := HB.out.trans (hbr.mono hgw)
      obtain ⟨b, off, A1, c1, A2, c2, rfl, hbl, ⟨k0, k1, k2⟩, i1, i2⟩ := HAO.out 0 t ht
      have hbg : b < gm := by rw [HOLDG.out]; exact hbl
      have k0' := (hX5.cell (p := ⟨b, off + 0 * 3, none⟩) hbg).trans k0
      have k1' := (hX5.cell (p := ⟨b, off + 0 * 3 + 1, none⟩) hbg).trans k1
      have k2' := (hX5.cell (p := ⟨b, off + 0 * 3 + 2, none⟩) hbg).trans k2
      simp only [Nat.zero_mul, Nat.add_zero] at k0' k1' k2'
      have hbr' : b < wr.heap.size := World.block_lt_of_cell? wr _ k0'
      have hM := HNM.out
      have hlM : M < k := by omega
      have hck := hfl M hlM
      rw [if_pos hlM] at hck
      obtain ⟨x, hx, hxg, hx1⟩ := hck
      have HFL := Lib.hid hfl
      have HBR := Lib.hid hbr
      have HX5 := Lib.hid hX5
      have HX := Lib.hid hx
      have hzr : gm < wr.heap.size := Nat.lt_of_lt_of_le hgl hbr.size
      have HI1 := Lib.hid i1
      have HI2 := Lib.hid i2
      have HHW := Lib.hid hW
      obtain ⟨⟨m0, m1, m2⟩, f0, f1, f2⟩ := hx
      have hk1 : ((k : Nat) : Int) ≤ (k : Int) := Int.le_refl _
      clear hfl hbr hX5 k0 k1 k2 i1 i2 hW
      go_wp2_with fail
      obtain ⟨wf, hwf⟩ : ∃ W, W = putO wr gm (M * 3) (.bool t.1) (.slice A1 t.2.1.length c1) (.slice A2 t.2.2.length c2) := ⟨_, rfl⟩
      have hbf : Below gm w5 wf := by rw [hwf]; exact below_putO HX5.out (Nat.le_refl _) _ _ _ _
      have hW2 : Below w.heap.size w wf := by rw [hwf]; exact below_putO HHW.out hgw _ _ _ _
      have hb5 : Below w5.heap.size w5 wf := by rw [← HOLDG.out]; exact hbf
      have hL : Rats wf (some ⟨gm, 0, none⟩) (List.replicate M oneT ++ [t]) := by
        refine Fill.rats ?_ ?_ (HI1.out.on hb5) (HI2.out.on hb5)
        · intro j hj
          have hh := HFL.out j (by omega)
          rw [if_pos (by omega)] at hh
          obtain ⟨y, h1, h2, h3⟩ := hh
          rw [hwf]; exact ⟨y, h1.far (by omega) _ _ _, (cell_putO h2 _ _ _).trans h3⟩
        · rw [hwf]; exact HX.out.putO _ _ _
      have hlen : (List.replicate M oneT ++ [t]).length = M + 1 := by simp
      have hs3 := fun W h => rat_Sum (List.replicate M oneT ++ [t]) (some ⟨gm, 0, none⟩) (M + 1) W h (by rw [hlen]; omega)
      have hs4 := fun W h => ref_Sum3 (List.replicate M oneT ++ [t]) (some ⟨gm, 0, none⟩) (M + 1) W h (by rw [hlen]; omega)
      rw [hlen] at hs3 hs4
      have HS4 := Lib.hid hs4
      obtain ⟨L', hL'⟩ : ∃ L', L' = List.replicate M oneT ++ [t] := ⟨_, rfl⟩
      have hcs := HCS0.out.on hb5
      have hct := HCT0.out.on hb5
      have hwf' := hwf
      unfold putO at hwf'
      rw [← hwf']
      clear hwf hwf' m0 m1 m2 f0 f1 f2 k0' k1' k2'
      refine (hs3 _ hL).mono ?_
      rintro e w7 h
      obtain ⟨zbu, zAu, znu, zdu, zBu, zmu, zqu, rfl, ho, hb⟩ := h.open_
      have hcs7 := hcs.on hb
      have hct7 := hct.on hb
      have HW7 := Lib.hid (hW2.trans (hb.mono hW2.size))
      have HR7 := Lib.hid (hL.on hb)
      have HO7 := Lib.hid ho
      have HCs7 := Lib.hid hcs7
      have HCt7 := Lib.hid hct7
      obtain ⟨⟨p0, p1, p2⟩, q0, q1, q2⟩ := hcs7
      have lt7 := HCs7.out.lt
      clear h ho hb hs3 hs4 hcs hct hct7 hbf hW2 hb5 hL
      go_wp2_with fail
      obtain ⟨w8, hw8⟩ : ∃ W, W = put3 w7 gs (.bool zbu) (.slice zAu znu zdu) (.slice zBu zmu zqu) := ⟨_, rfl⟩
      have hw8' := hw8
      unfold put3 at hw8'
      rw [← hw8']
      have HR8 : Hid (Rats w8 (some ⟨gm, 0, none⟩) (List.replicate M oneT ++ [t])) := by rw [hw8]; exact HR7.out.put3 (by omega) HCs7.out _ _ _
      have HW8 : Hid (Below w.heap.size w w8) := by rw [hw8]; exact below_put3 HW7.out hgsw _ _ _
      have HCs8 : Hid (Cel w8 gs (.bool zbu) (.slice zAu znu zdu) (.slice zBu zmu zqu)) := by rw [hw8]; exact HCs7.out.put3 _ _ _
      have HCt8 : Hid (Cel w8 gt (.bool zbt) (.slice zAt znt zdt) (.slice zBt zmt zqt)) := by rw [hw8]; exact HCt7.out.put3o (by omega) _ _ _
      have HO8 : Hid (OutR w8 (.agg #[.bool zbu, .slice zAu znu zdu, .slice zBu zmu zqu]) (sumE (List.replicate M oneT ++ [t])) (sumV (List.replicate M oneT ++ [t]))) := by rw [hw8]; exact HO7.out.put3 HCs7.out _ _ _
      clear hw8 hw8' p0 p1 p2 q0 q1 q2
      refine (HS4.out _ HR8.out).mono ?_
      rintro e w9 h
      obtain ⟨zbv, zAv, znv, zdv, zBv, zmv, zqv, rfl, ho, hb⟩ := h.open_
      have HCs9 := Lib.hid (HCs8.out.on hb)
      have HCt9 := Lib.hid (HCt8.out.on hb)
      have HO9 := Lib.hid (HO8.out.on hb)
      have HP9 := Lib.hid ho
      have HW9 := Lib.hid (HW8.out.trans (hb.mono HW8.out.size))
      have hx := HCs9.out.put3o (g' := gt) (by omega) (.bool zbv) (.slice zAv znv zdv) (.slice zBv zmv zqv)
      have hy := HCt9.out.put3 (.bool zbv) (.slice zAv znv zdv) (.slice zBv zmv zqv)
      obtain ⟨⟨x0, x1, x2⟩, y0, y1, y2⟩ := hx
      obtain ⟨⟨u0, u1, u2⟩, v0, v1, v2⟩ := hy
      obtain ⟨⟨p0, p1, p2⟩, q0, q1, q2⟩ := HCt9.out
      have lt9 := HCt9.out.lt
      have lts9 := HCs9.out.lt
      simp only [put3] at x0 x1 x2 y0 y1 y2 u0 u1 u2 v0 v1 v2
      clear h ho hb
      go_wp2_with fail
      refine (same_out (HO9.out.put3 HCt9.out (.bool zbv) (.slice zAv znv zdv) (.slice zBv zmv zqv)) (HP9.out.put3 HCt9.out (.bool zbv) (.slice zAv znv zdv) (.slice zBv zmv zqv))).mono ?_
      rintro e w10 ⟨rfl, hb⟩
      have HW10 : Hid (Below w.heap.size w w10) := bstep (below_put3 HW9.out hgtw (.bool zbv) (.slice zAv znv zdv) (.slice zBv zmv zqv)) hb
      clear hb x0 x1 x2 y0 y1 y2 u0 u1 u2 v0 v1 v2 p0 p1 p2 q0 q1 q2
      go_wp2_with fail
      refine (awake3 _ (HT.out.on HW10.out)).mono ?_
      rintro e w11 ⟨rfl, hb⟩
      replace HW10 : Hid (Below w.heap.size w w11) := bstep HW10.out hb
      clear hb
      go_wp2_with fail
      go_ret
      exact ⟨rfl, HW10.out⟩

theorem walk_RatTotals (w : World) (A : Option Addr) (c : Nat) (L : List Trip) (hc : L.length ≤ c) (hx : c ≤ maxLen) (ha : Rats w A L) (many : Int) (wm : (Lit.int .i64 many).wf = true) (ht : Tab w) :
    Calls Tryd.prog 7 #[.slice A L.length c, .int .i64 many] w fun e w' => e = .returned (.bool true) ∧ Below w.heap.size w w' := by
  have hm : L.length ≤ 9223372036854775807 := by unfold maxLen at hx; omega
  by_cases hl : 40 < L.length
  · exact totals_long w A c L ha hm many wm ht hl
  · by_cases hf : many < 4095 ∨ (4095 ≤ many ∧ 4098 < many) ∨ (4095 ≤ many ∧ many ≤ 4098 ∧ L.length = 0)
    · exact totals_few w A c L ha hm many wm ht hl hf
    · exact totals_full w A c L ha hm many wm ht hl (by omega) (by omega) (by omega)
#print axioms walk_RatTotals
end Go.Proofs.YthkhaipbdphpeaaDoor
