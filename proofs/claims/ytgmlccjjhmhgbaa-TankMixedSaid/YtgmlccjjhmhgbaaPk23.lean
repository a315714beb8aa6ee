/- Several texts in one: TankQ, TankO, TankV, TankN. -/
import Derived.Test.YtgmlccjjhmhgbaaPk22
import Derived.Test.YtgmlccjjhmhgbaaPk17
import Derived.Test.YtgmlccjjhmhgbaaPk18
import Derived.Test.YtgmlccjjhmhgbaaPk1
import Derived.OpenShut
import Derived.Deep.Slices
/- The chapter's example (gen17/q.py). -/
namespace Go.Proofs.Ytgmlccjjhmhgbaa.Tank
open Go.ChangeShapes Go.WideShapes Go.RowKit Go.Lib
open Go.Proofs.Ytgmlccjjhmhgbaa.Mem (Cl eI Own)
open Go.Proofs.Ytgmlccjjhmhgbaa.Rw (glt get_lt below_alloc bstep wrap_id below_drewN below_drew drew_below)
set_option linter.unusedVariables false
set_option maxRecDepth 100000

/-- Two numbers in a literal. -/
theorem lit_rats2 {w : World} {T : TypeId} {b b' : Bool} {A1 B1 A2 B2 : Option Addr} {n1 c1 m1 d1 n2 c2 m2 d2 : Nat} {t u : Trip} (h : InR w (.agg #[.bool b, .slice A1 n1 c1, .slice B1 m1 d1]) t.1 t.2.1 t.2.2) (k : InR w (.agg #[.bool b', .slice A2 n2 c2, .slice B2 m2 d2]) u.1 u.2.1 u.2.2) {g : Nat} (hg : w.heap.size = g) :
    Rats (w.alloc (.cells #[.bool b, .slice A1 n1 c1, .slice B1 m1 d1, .bool b', .slice A2 n2 c2, .slice B2 m2 d2] T)) (some ⟨g, 0, none⟩) [t, u] := by
  subst hg
  have hc := Rw.Cel.new w [.bool b, .slice A1 n1 c1, .slice B1 m1 d1, .bool b', .slice A2 n2 c2, .slice B2 m2 d2] T
  have hb := below_alloc w (.cells #[.bool b, .slice A1 n1 c1, .slice B1 m1 d1, .bool b', .slice A2 n2 c2, .slice B2 m2 d2] T)
  obtain ⟨e1, i1, i2⟩ := inR_cells h
  obtain ⟨e2, j1, j2⟩ := inR_cells k
  obtain ⟨X1, x1, f1, -⟩ := in_open i1
  obtain ⟨X2, x2, f2, -⟩ := in_open i2
  obtain ⟨Y1, y1, f3, -⟩ := in_open j1
  obtain ⟨Y2, y2, f4, -⟩ := in_open j2
  have hn1 := (Value.slice.inj f1).2.1
  have hn2 := (Value.slice.inj f2).2.1
  have hn3 := (Value.slice.inj f3).2.1
  have hn4 := (Value.slice.inj f4).2.1
  intro i s hs
  match i, hs with
  | 0, hs =>
    simp at hs; subst hs
    exact ⟨_, 0, A1, c1, B1, d1, rfl, hc.lt, ⟨by rw [← e1]; exact hc.at_ 0 _ rfl, by rw [← hn1]; exact hc.at_ 1 _ rfl, by rw [← hn2]; exact hc.at_ 2 _ rfl⟩, by rw [← hn1]; exact i1.on hb, by rw [← hn2]; exact i2.on hb⟩
  | 1, hs =>
    simp at hs; subst hs
    exact ⟨_, 0, A2, c2, B2, d2, rfl, hc.lt, ⟨by rw [← e2]; exact hc.at_ 3 _ rfl, by rw [← hn3]; exact hc.at_ 4 _ rfl, by rw [← hn4]; exact hc.at_ 5 _ rfl⟩, by rw [← hn3]; exact j1.on hb, by rw [← hn4]; exact j2.on hb⟩
theorem lit_two (w : World) (x y : Int) (T : TypeId) {g : Nat} (hg : w.heap.size = g) : Cl eI (w.alloc (.cells #[.int .i64 x, .int .i64 y] T)) (some ⟨g, 0, none⟩) [x, y] := by
  subst hg
  have hc := Rw.Cel.new w [.int .i64 x, .int .i64 y] T
  intro i s hs
  match i, hs with
  | 0, hs => simp at hs; subst hs; exact ⟨_, 0, rfl, hc.lt, hc.at_ 0 _ rfl⟩
  | 1, hs => simp at hs; subst hs; exact ⟨_, 0, rfl, hc.lt, hc.at_ 1 _ rfl⟩
theorem isR_open {w : World} {v : Value} {r : Rat} (h : IsR w v r) : ∃ b A n c B m d, v = .agg #[.bool b, .slice A n c, .slice B m d] ∧ IsR w (.agg #[.bool b, .slice A n c, .slice B m d]) r := by
  obtain ⟨A, c, B, d, rfl, -, -⟩ := inR_open h
  exact ⟨_, _, _, _, _, _, _, rfl, h⟩
abbrev L0 : List Trip := [(false, [10], [1]), (false, [5], [1])]
abbrev L1 : List Trip := [(false, [8], [3]), (false, [4], [3])]
abbrev L2 : List Trip := [(false, [22], [3]), (false, [11], [3])]
abbrev L3 : List Trip := [(false, [], [1]), (false, [], [1])]
theorem aw_draw : drE 100 L0 4 = 0 ∧ drC 100 L0 4 = 100 ∧ drT 100 L0 4 = L1 ∧ drP 100 L0 4 = L2 := by decide +kernel
theorem aw_part : paE 100 L2 0 = 0 ∧ triR (paV L2 0) = (false, [2], [3]) := by decide +kernel
theorem aw_new : nwE 2 100 = 0 ∧ nwC 2 100 = 100 ∧ nwL 2 100 = L3 := by decide +kernel
theorem aw_fill : filE 100 L3 [10, 5] = 0 ∧ filC 100 L3 [10, 5] = 100 ∧ filL 100 L3 [10, 5] = L0 := by decide +kernel
theorem aw_make : (mkE 8 3 = 0 ∧ triR (mkV 8 3) = (false, [8], [3])) ∧ (mkE 4 3 = 0 ∧ triR (mkV 4 3) = (false, [4], [3])) ∧ (mkE 2 3 = 0 ∧ triR (mkV 2 3) = (false, [2], [3])) := by decide +kernel
theorem aw_whole : triR (qI 10) = (false, [10], [1]) ∧ triR (qI 5) = (false, [5], [1]) := by decide +kernel
theorem isR_tri {w : World} {v : Value} {r : Rat} (h : IsR w v r) {t : Trip} (e : triR r = t) : InR w v t.1 t.2.1 t.2.2 := e ▸ h
set_option maxHeartbeats 6400000 in
theorem law_awake (w : World) :
    Calls Try.prog 5 #[] w fun e w' => e = .returned (.bool true) ∧ Below w.heap.size w w' := by
  have KW := Lib.hid fun (n : Int) (h0 : 0 ≤ n) (h1 : n ≤ 1099511627776) W => law_whole n h0 h1 W
  have KD := Lib.hid fun A c (W : World) (h : Rats W A L0) => p_Draw 100 L0 A 2 c rfl 4 W h (by decide)
  have KP := Lib.hid fun A c (W : World) (h : Rats W A L2) => p_Part 100 L2 A 2 c rfl 0 W h (by decide)
  have KN := Lib.hid fun W => p_New 2 100 W
  have KF := Lib.hid fun A c B (W : World) (h : Rats W A L3) (k : Cl eI W B [10, 5]) => p_Fill 100 L3 A 2 c rfl [10, 5] B 2 2 rfl W h k (by decide) (by decide)
  have KM := Lib.hid fun p q W h1 h2 h3 h4 => ref_Make3 p q W h1 h2 h3 h4
  rw [aw_draw.1, aw_draw.2.1, aw_draw.2.2.1, aw_draw.2.2.2] at KD
  rw [aw_part.1] at KP
  rw [aw_new.1, aw_new.2.1, aw_new.2.2] at KN
  rw [aw_fill.1, aw_fill.2.1, aw_fill.2.2] at KF
  have HB := Lib.hid (Below.refl w.heap.size w)
  go_enter Try.func5, Try.ntmps5
  go_wp2_with fail
  refine (KW.out 10 (by decide) (by decide) w).mono ?_
  rintro e w1 ⟨v1, rfl, hv, hb⟩
  obtain ⟨ba, Aa, na, ca, Ba, ma, da, rfl, hv⟩ := isR_open hv
  have VA := Lib.hid (isR_tri hv aw_whole.1)
  replace HB := Lib.hid (bstep HB.out hb)
  clear hv hb
  go_wp2_with fail
  refine (KW.out 5 (by decide) (by decide) w1).mono ?_
  rintro e w2 ⟨v2, rfl, hv, hb⟩
  obtain ⟨bb, Ab, nb, cb, Bb, mb, db, rfl, hv⟩ := isR_open hv
  have VB := Lib.hid (isR_tri hv aw_whole.2)
  replace HB := Lib.hid (bstep HB.out hb)
  replace VA := Lib.hid (VA.out.on hb)
  clear hv hb
  go_upto_region 2 with fail
  obtain ⟨g0, hg0⟩ : ∃ g, w2.heap.size = g := ⟨_, rfl⟩
  obtain ⟨w3, hw⟩ : ∃ W, w2.alloc (.cells #[.bool ba, .slice Aa na ca, .slice Ba ma da, .bool bb, .slice Ab nb cb, .slice Bb mb db] 33) = W := ⟨_, rfl⟩
  have RT : Hid (Rats w3 (some ⟨g0, 0, none⟩) L0) := hw ▸ lit_rats2 VA.out VB.out hg0
  have hb : Below w2.heap.size w2 w3 := hw ▸ below_alloc _ _
  have hsz : w3.heap.size = g0 + 1 := by rw [← hw, ← hg0]; simp
  replace HB := Lib.hid (bstep HB.out hb)
  have HSZ := Lib.hid hsz
  rw [hg0, hw]
  clear hw hb hg0 VA VB hsz
  obtain ⟨w4, hw⟩ : ∃ W, w3.alloc (.cells #[.int .i64 100, .slice (some ⟨g0, 0, none⟩) 2 2] 24) = W := ⟨_, rfl⟩
  have CT : Hid (Rw.Cel w4 (g0 + 1) [.int .i64 100, .slice (some ⟨g0, 0, none⟩) 2 2]) := hw ▸ Rw.Cel.new_at w3 [_, _] _ HSZ.out
  have hb : Below w3.heap.size w3 w4 := hw ▸ below_alloc _ _
  replace HB := Lib.hid (bstep HB.out hb)
  replace RT := Lib.hid (Rats.on RT.out hb)
  rw [hw]
  clear hw hb HSZ
  obtain ⟨x0, x1⟩ := CT.out.two
  go_wp2_with fail
  refine (KD.out _ _ _ RT.out).mono ?_
  rintro e w5 ⟨v, A2, n2, c2, rfl, hT, hn, hm, hr, hb⟩
  obtain ⟨A1, c1, rfl, hl1, hr1⟩ := hT
  obtain rfl : 2 = n2 := hn.symm
  rw [show L2.length = 2 from rfl]
  have RX := Lib.hid hr1
  have RL := Lib.hid hr
  replace HB := Lib.hid (bstep HB.out hb)
  replace RT := Lib.hid (Rats.on RT.out hb)
  replace CT := Lib.hid (CT.out.on hb)
  clear hn hm hr hb hl1 hr1 x0 x1
  go_upto_region 3 with fail
  obtain ⟨w6, hw⟩ : ∃ W, w5.alloc (.cells #[.int .i64 100, .slice A1 2 c1] 24) = W := ⟨_, rfl⟩
  obtain ⟨gCX, hg⟩ : ∃ g, w5.heap.size = g := ⟨_, rfl⟩
  have hb : Below w5.heap.size w5 w6 := hw ▸ below_alloc _ _
  have CX : Hid (Rw.Cel w6 gCX [.int .i64 100, .slice A1 2 c1]) := hw ▸ hg ▸ Rw.Cel.new w5 [_, _] _
  replace HB := Lib.hid (bstep HB.out hb)
  replace RT := Lib.hid (Rats.on RT.out hb)
  replace CT := Lib.hid (CT.out.on hb)
  replace RX := Lib.hid (Rats.on RX.out hb)
  replace RL := Lib.hid (Rats.on RL.out hb)
  rw [hw, hg]
  clear hw hg hb
  obtain ⟨x0, x1⟩ := CX.out.two
  go_wp2_with fail
  refine (KP.out _ _ _ RX.out).mono ?_
  rintro e w7 h
  obtain ⟨bp, Ap, np, cp, Bp, mp, dp, rfl, ho, hb⟩ := RRes.op h
  have VP := Lib.hid (isR_tri (ho.zero rfl) aw_part.2)
  replace HB := Lib.hid (bstep HB.out hb)
  replace RT := Lib.hid (Rats.on RT.out hb)
  replace CT := Lib.hid (CT.out.on hb)
  replace RX := Lib.hid (Rats.on RX.out hb)
  replace RL := Lib.hid (Rats.on RL.out hb)
  replace CX := Lib.hid (CX.out.on hb)
  clear h ho hb x0 x1
  go_upto_region 4 with fail
  obtain ⟨w8, hw⟩ : ∃ W, w7.alloc (.cells #[.bool bp, .slice Ap np cp, .slice Bp mp dp] 33) = W := ⟨_, rfl⟩
  obtain ⟨gCP, hg⟩ : ∃ g, w7.heap.size = g := ⟨_, rfl⟩
  have hb : Below w7.heap.size w7 w8 := hw ▸ below_alloc _ _
  have CP : Hid (Rw.Cel w8 gCP [.bool bp, .slice Ap np cp, .slice Bp mp dp]) := hw ▸ hg ▸ Rw.Cel.new w7 [_, _, _] _
  replace HB := Lib.hid (bstep HB.out hb)
  replace RT := Lib.hid (Rats.on RT.out hb)
  replace CT := Lib.hid (CT.out.on hb)
  replace RX := Lib.hid (Rats.on RX.out hb)
  replace RL := Lib.hid (Rats.on RL.out hb)
  replace CX := Lib.hid (CX.out.on hb)
  replace VP := Lib.hid (VP.out.on hb)
  rw [hw, hg]
  clear hw hg hb
  go_wp2_with fail
  refine (KN.out _).mono ?_
  rintro e w9 ⟨v, rfl, hT, hb⟩
  obtain ⟨A3, c3, rfl, hl3, hr3⟩ := hT
  rw [show L3.length = 2 from rfl]
  have RN := Lib.hid hr3
  replace HB := Lib.hid (bstep HB.out hb)
  replace RT := Lib.hid (Rats.on RT.out hb)
  replace CT := Lib.hid (CT.out.on hb)
  replace RX := Lib.hid (Rats.on RX.out hb)
  replace RL := Lib.hid (Rats.on RL.out hb)
  replace CX := Lib.hid (CX.out.on hb)
  replace VP := Lib.hid (VP.out.on hb)
  replace CP := Lib.hid (CP.out.on hb)
  clear hb hl3 hr3
  go_upto_region 5 with fail
  obtain ⟨w10, hw⟩ : ∃ W, w9.alloc (.cells #[.int .i64 100, .slice A3 2 c3] 24) = W := ⟨_, rfl⟩
  obtain ⟨gCN, hg⟩ : ∃ g, w9.heap.size = g := ⟨_, rfl⟩
  have hb : Below w9.heap.size w9 w10 := hw ▸ below_alloc _ _
  have CN : Hid (Rw.Cel w10 gCN [.int .i64 100, .slice A3 2 c3]) := hw ▸ hg ▸ Rw.Cel.new w9 [_, _] _
  replace HB := Lib.hid (bstep HB.out hb)
  replace RT := Lib.hid (Rats.on RT.out hb)
  replace CT := Lib.hid (CT.out.on hb)
  replace RX := Lib.hid (Rats.on RX.out hb)
  replace RL := Lib.hid (Rats.on RL.out hb)
  replace CX := Lib.hid (CX.out.on hb)
  replace VP := Lib.hid (VP.out.on hb)
  replace CP := Lib.hid (CP.out.on hb)
  replace RN := Lib.hid (Rats.on RN.out hb)
  rw [hw, hg]
  clear hw hg hb
  obtain ⟨x0, x1⟩ := CN.out.two
  go_wp2_with fail
  refine (KF.out _ _ _ _ (Rats.on RN.out (below_alloc _ _)) (lit_two w10 10 5 _ rfl)).mono ?_
  rintro e w11 ⟨v, rfl, hT, hb⟩
  obtain ⟨A4, c4, rfl, hl4, hr4⟩ := hT
  rw [show L0.length = 2 from rfl]
  have RU := Lib.hid hr4
  have hb := bstep (below_alloc _ _) hb
  replace HB := Lib.hid (bstep HB.out hb)
  replace RT := Lib.hid (Rats.on RT.out hb)
  replace CT := Lib.hid (CT.out.on hb)
  replace RX := Lib.hid (Rats.on RX.out hb)
  replace RL := Lib.hid (Rats.on RL.out hb)
  replace CX := Lib.hid (CX.out.on hb)
  replace VP := Lib.hid (VP.out.on hb)
  replace CP := Lib.hid (CP.out.on hb)
  replace RN := Lib.hid (Rats.on RN.out hb)
  replace CN := Lib.hid (CN.out.on hb)
  clear hb hl4 hr4 x0 x1
  go_upto_region 6 with fail
  obtain ⟨w12, hw⟩ : ∃ W, w11.alloc (.cells #[.int .i64 100, .slice A4 2 c4] 24) = W := ⟨_, rfl⟩
  obtain ⟨gCU, hg⟩ : ∃ g, w11.heap.size = g := ⟨_, rfl⟩
  have hb : Below w11.heap.size w11 w12 := hw ▸ below_alloc _ _
  have CU : Hid (Rw.Cel w12 gCU [.int .i64 100, .slice A4 2 c4]) := hw ▸ hg ▸ Rw.Cel.new w11 [_, _] _
  replace HB := Lib.hid (bstep HB.out hb)
  replace RT := Lib.hid (Rats.on RT.out hb)
  replace CT := Lib.hid (CT.out.on hb)
  replace RX := Lib.hid (Rats.on RX.out hb)
  replace RL := Lib.hid (Rats.on RL.out hb)
  replace CX := Lib.hid (CX.out.on hb)
  replace VP := Lib.hid (VP.out.on hb)
  replace CP := Lib.hid (CP.out.on hb)
  replace RN := Lib.hid (Rats.on RN.out hb)
  replace CN := Lib.hid (CN.out.on hb)
  replace RU := Lib.hid (Rats.on RU.out hb)
  rw [hw, hg]
  clear hw hg hb
  have km := KM.out 8 3 w12 (by decide) (by decide) (by decide) (by decide)
  rw [aw_make.1.1] at km
  go_wp2_with fail
  refine km.mono ?_
  rintro e w13 h
  obtain ⟨b0, M0, n0', c0', N0, m0', d0', rfl, ho, hb⟩ := RRes.op h
  have VM := Lib.hid (isR_tri (ho.zero rfl) aw_make.1.2)
  replace HB := Lib.hid (bstep HB.out hb)
  replace RT := Lib.hid (Rats.on RT.out hb)
  replace CT := Lib.hid (CT.out.on hb)
  replace RX := Lib.hid (Rats.on RX.out hb)
  replace RL := Lib.hid (Rats.on RL.out hb)
  replace CX := Lib.hid (CX.out.on hb)
  replace VP := Lib.hid (VP.out.on hb)
  replace CP := Lib.hid (CP.out.on hb)
  replace RN := Lib.hid (Rats.on RN.out hb)
  replace CN := Lib.hid (CN.out.on hb)
  replace RU := Lib.hid (Rats.on RU.out hb)
  replace CU := Lib.hid (CU.out.on hb)
  clear h ho hb km
  go_upto_region 7 with fail
  obtain ⟨w14, hw⟩ : ∃ W, w13.alloc (.cells #[.bool b0, .slice M0 n0' c0', .slice N0 m0' d0'] 33) = W := ⟨_, rfl⟩
  obtain ⟨gCM, hg⟩ : ∃ g, w13.heap.size = g := ⟨_, rfl⟩
  have hb : Below w13.heap.size w13 w14 := hw ▸ below_alloc _ _
  have CM : Hid (Rw.Cel w14 gCM [.bool b0, .slice M0 n0' c0', .slice N0 m0' d0']) := hw ▸ hg ▸ Rw.Cel.new w13 [_, _, _] _
  replace HB := Lib.hid (bstep HB.out hb)
  replace RT := Lib.hid (Rats.on RT.out hb)
  replace CT := Lib.hid (CT.out.on hb)
  replace RX := Lib.hid (Rats.on RX.out hb)
  replace RL := Lib.hid (Rats.on RL.out hb)
  replace CX := Lib.hid (CX.out.on hb)
  replace VP := Lib.hid (VP.out.on hb)
  replace CP := Lib.hid (CP.out.on hb)
  replace RN := Lib.hid (Rats.on RN.out hb)
  replace CN := Lib.hid (CN.out.on hb)
  replace RU := Lib.hid (Rats.on RU.out hb)
  replace CU := Lib.hid (CU.out.on hb)
  replace VM := Lib.hid (VM.out.on hb)
  rw [hw, hg]
  clear hw hg hb
  have km := KM.out 4 3 w14 (by decide) (by decide) (by decide) (by decide)
  rw [aw_make.2.1.1] at km
  go_wp2_with fail
  refine km.mono ?_
  rintro e w15 h
  obtain ⟨b1, M1, n1', c1', N1, m1', d1', rfl, ho, hb⟩ := RRes.op h
  have VO := Lib.hid (isR_tri (ho.zero rfl) aw_make.2.1.2)
  replace HB := Lib.hid (bstep HB.out hb)
  replace RT := Lib.hid (Rats.on RT.out hb)
  replace CT := Lib.hid (CT.out.on hb)
  replace RX := Lib.hid (Rats.on RX.out hb)
  replace RL := Lib.hid (Rats.on RL.out hb)
  replace CX := Lib.hid (CX.out.on hb)
  replace VP := Lib.hid (VP.out.on hb)
  replace CP := Lib.hid (CP.out.on hb)
  replace RN := Lib.hid (Rats.on RN.out hb)
  replace CN := Lib.hid (CN.out.on hb)
  replace RU := Lib.hid (Rats.on RU.out hb)
  replace CU := Lib.hid (CU.out.on hb)
  replace VM := Lib.hid (VM.out.on hb)
  replace CM := Lib.hid (CM.out.on hb)
  clear h ho hb km
  go_upto_region 8 with fail
  obtain ⟨w16, hw⟩ : ∃ W, w15.alloc (.cells #[.bool b1, .slice M1 n1' c1', .slice N1 m1' d1'] 33) = W := ⟨_, rfl⟩
  obtain ⟨gCO, hg⟩ : ∃ g, w15.heap.size = g := ⟨_, rfl⟩
  have hb : Below w15.heap.size w15 w16 := hw ▸ below_alloc _ _
  have CO : Hid (Rw.Cel w16 gCO [.bool b1, .slice M1 n1' c1', .slice N1 m1' d1']) := hw ▸ hg ▸ Rw.Cel.new w15 [_, _, _] _
  replace HB := Lib.hid (bstep HB.out hb)
  replace RT := Lib.hid (Rats.on RT.out hb)
  replace CT := Lib.hid (CT.out.on hb)
  replace RX := Lib.hid (Rats.on RX.out hb)
  replace RL := Lib.hid (Rats.on RL.out hb)
  replace CX := Lib.hid (CX.out.on hb)
  replace VP := Lib.hid (VP.out.on hb)
  replace CP := Lib.hid (CP.out.on hb)
  replace RN := Lib.hid (Rats.on RN.out hb)
  replace CN := Lib.hid (CN.out.on hb)
  replace RU := Lib.hid (Rats.on RU.out hb)
  replace CU := Lib.hid (CU.out.on hb)
  replace VM := Lib.hid (VM.out.on hb)
  replace CM := Lib.hid (CM.out.on hb)
  replace VO := Lib.hid (VO.out.on hb)
  rw [hw, hg]
  clear hw hg hb
  have km := KM.out 2 3 w16 (by decide) (by decide) (by decide) (by decide)
  rw [aw_make.2.2.1] at km
  go_wp2_with fail
  refine km.mono ?_
  rintro e w17 h
  obtain ⟨b2, M2, n2', c2', N2, m2', d2', rfl, ho, hb⟩ := RRes.op h
  have VQ := Lib.hid (isR_tri (ho.zero rfl) aw_make.2.2.2)
  replace HB := Lib.hid (bstep HB.out hb)
  replace RT := Lib.hid (Rats.on RT.out hb)
  replace CT := Lib.hid (CT.out.on hb)
  replace RX := Lib.hid (Rats.on RX.out hb)
  replace RL := Lib.hid (Rats.on RL.out hb)
  replace CX := Lib.hid (CX.out.on hb)
  replace VP := Lib.hid (VP.out.on hb)
  replace CP := Lib.hid (CP.out.on hb)
  replace RN := Lib.hid (Rats.on RN.out hb)
  replace CN := Lib.hid (CN.out.on hb)
  replace RU := Lib.hid (Rats.on RU.out hb)
  replace CU := Lib.hid (CU.out.on hb)
  replace VM := Lib.hid (VM.out.on hb)
  replace CM := Lib.hid (CM.out.on hb)
  replace VO := Lib.hid (VO.out.on hb)
  replace CO := Lib.hid (CO.out.on hb)
  clear h ho hb km
  go_upto_region 9 with fail
  obtain ⟨w18, hw⟩ : ∃ W, w17.alloc (.cells #[.bool b2, .slice M2 n2' c2', .slice N2 m2' d2'] 33) = W := ⟨_, rfl⟩
  obtain ⟨gCQ, hg⟩ : ∃ g, w17.heap.size = g := ⟨_, rfl⟩
  have hb : Below w17.heap.size w17 w18 := hw ▸ below_alloc _ _
  have CQ : Hid (Rw.Cel w18 gCQ [.bool b2, .slice M2 n2' c2', .slice N2 m2' d2']) := hw ▸ hg ▸ Rw.Cel.new w17 [_, _, _] _
  replace HB := Lib.hid (bstep HB.out hb)
  replace RT := Lib.hid (Rats.on RT.out hb)
  replace CT := Lib.hid (CT.out.on hb)
  replace RX := Lib.hid (Rats.on RX.out hb)
  replace RL := Lib.hid (Rats.on RL.out hb)
  replace CX := Lib.hid (CX.out.on hb)
  replace VP := Lib.hid (VP.out.on hb)
  replace CP := Lib.hid (CP.out.on hb)
  replace RN := Lib.hid (Rats.on RN.out hb)
  replace CN := Lib.hid (CN.out.on hb)
  replace RU := Lib.hid (Rats.on RU.out hb)
  replace CU := Lib.hid (CU.out.on hb)
  replace VM := Lib.hid (VM.out.on hb)
  replace CM := Lib.hid (CM.out.on hb)
  replace VO := Lib.hid (VO.out.on hb)
  replace CO := Lib.hid (CO.out.on hb)
  replace VQ := Lib.hid (VQ.out.on hb)
  rw [hw, hg]
  clear hw hg hb
  obtain ⟨x0, x1, x2⟩ := CM.out.three
  obtain ⟨y0, y1, y2⟩ := CO.out.three
  go_wp2_with fail
  refine (law_rats L1 L1 A2 (some ⟨w18.heap.size, 0, none⟩) 2 2 c2 2 rfl rfl _ (Rats.on RL.out (below_alloc _ _)) (lit_rats2 VM.out VO.out rfl) (by decide) (by decide)).mono ?_
  rintro e w19 ⟨rfl, hb⟩
  rw [decide_eq_true (rfl : L1 = L1)]
  have hb := bstep (below_alloc _ _) hb
  replace HB := Lib.hid (bstep HB.out hb)
  replace RT := Lib.hid (Rats.on RT.out hb)
  replace CT := Lib.hid (CT.out.on hb)
  replace RX := Lib.hid (Rats.on RX.out hb)
  replace RL := Lib.hid (Rats.on RL.out hb)
  replace CX := Lib.hid (CX.out.on hb)
  replace VP := Lib.hid (VP.out.on hb)
  replace CP := Lib.hid (CP.out.on hb)
  replace RN := Lib.hid (Rats.on RN.out hb)
  replace CN := Lib.hid (CN.out.on hb)
  replace RU := Lib.hid (Rats.on RU.out hb)
  replace CU := Lib.hid (CU.out.on hb)
  replace VM := Lib.hid (VM.out.on hb)
  replace CM := Lib.hid (CM.out.on hb)
  replace VO := Lib.hid (VO.out.on hb)
  replace CO := Lib.hid (CO.out.on hb)
  replace VQ := Lib.hid (VQ.out.on hb)
  replace CQ := Lib.hid (CQ.out.on hb)
  clear hb x0 x1 x2 y0 y1 y2
  obtain ⟨x0, x1, x2⟩ := CP.out.three
  obtain ⟨y0, y1, y2⟩ := CQ.out.three
  go_wp2_with fail
  refine (tk_Same (false, [2], [3]) (false, [2], [3]) _ _ w19 VP.out VQ.out).mono ?_
  rintro e w20 ⟨rfl, hb⟩
  rw [decide_eq_true (rfl : ((false, [2], [3]) : Trip) = (false, [2], [3]))]
  replace HB := Lib.hid (bstep HB.out hb)
  replace RT := Lib.hid (Rats.on RT.out hb)
  replace CT := Lib.hid (CT.out.on hb)
  replace RX := Lib.hid (Rats.on RX.out hb)
  replace RL := Lib.hid (Rats.on RL.out hb)
  replace CX := Lib.hid (CX.out.on hb)
  replace VP := Lib.hid (VP.out.on hb)
  replace CP := Lib.hid (CP.out.on hb)
  replace RN := Lib.hid (Rats.on RN.out hb)
  replace CN := Lib.hid (CN.out.on hb)
  replace RU := Lib.hid (Rats.on RU.out hb)
  replace CU := Lib.hid (CU.out.on hb)
  replace VM := Lib.hid (VM.out.on hb)
  replace CM := Lib.hid (CM.out.on hb)
  replace VO := Lib.hid (VO.out.on hb)
  replace CO := Lib.hid (CO.out.on hb)
  replace VQ := Lib.hid (VQ.out.on hb)
  replace CQ := Lib.hid (CQ.out.on hb)
  clear hb x0 x1 x2 y0 y1 y2
  obtain ⟨x0, x1⟩ := CT.out.two
  obtain ⟨y0, y1⟩ := CU.out.two
  go_wp2_with fail
  refine (law_same 100 100 L0 L0 (some ⟨g0, 0, none⟩) A4 2 2 2 c4 rfl rfl w20 RT.out RU.out (by decide) (by decide)).mono ?_
  rintro e w21 ⟨rfl, hb⟩
  rw [decide_eq_true (rfl : (100 : Int) = 100), decide_eq_true (rfl : L0 = L0)]
  have HF := Lib.hid (bstep HB.out hb)
  clear hb
  go_wp2_with fail
  go_ret
  exact ⟨rfl, HF.out⟩
end Go.Proofs.Ytgmlccjjhmhgbaa.Tank
/- What a draw keeps, for the stage's theorems (pure). -/
namespace Go.Proofs.Ytgmlccjjhmhgbaa.Tank
set_option linter.unusedVariables false

theorem dr_level {cap : Int} {L : List Trip} {mass : Int} (h : drE cap L mass = 0) (hm : ¬ mass = 0) : sumV L ≠ 0 := fun e => by
  have hd := drE_of h
  have h1 := hd.mass_le
  rw [e, qI_val] at h1
  have h2 : (mass : Rat) ≤ ((0 : Int) : Rat) := h1
  have h3 := Rat.intCast_le_intCast.mp h2
  have := hd.m0
  omega
theorem qI_zero0 : qI 0 = 0 := mkV_zero
/-- What is left and what was taken of a part. -/
theorem dr_part {cap : Int} {L : List Trip} {mass : Int} (h : drE cap L mass = 0) {k : Nat} {p : Rat} (hp : (qs L)[k]? = some p) : ∃ x y, (drX L mass)[k]? = some x ∧ (drY L mass)[k]? = some y ∧ y + x = p ∧ x * sumV L = p * qI mass := by
  unfold drX drY
  rw [List.getElem?_map, List.getElem?_map, hp]
  refine ⟨(if mass = 0 then 0 else tkX p (qI mass) (sumV L)), (if mass = 0 then p else tkY p (qI mass) (sumV L)), rfl, rfl, ?_, ?_⟩
  · by_cases hm : mass = 0
    · rw [if_pos hm, if_pos hm, Rat.add_zero]
    · rw [if_neg hm, if_neg hm]; exact tk_sum _ _ _
  · by_cases hm : mass = 0
    · rw [if_pos hm, hm, qI_zero0, Rat.zero_mul, Rat.mul_zero]
    · rw [if_neg hm]; exact tk_prop (dr_level h hm)
theorem sumR_zero : ∀ l : List Rat, sumR (l.map fun _ => (0 : Rat)) = 0
  | [] => rfl
  | a :: l => by rw [List.map_cons, sumR, sumR_zero l, Rat.zero_add]
/-- What was taken adds up to the mass; what is left to the rest. -/
theorem dr_total {cap : Int} {L : List Trip} {mass : Int} (h : drE cap L mass = 0) : sumR (drX L mass) = qI mass := by
  have hd := drE_of h
  unfold drX
  by_cases hm : mass = 0
  · simp only [if_pos hm]
    rw [hm, qI_zero0]; exact sumR_zero _
  · simp only [if_neg hm]
    exact sumR_X_all (sumV_val hd.t.sum).symm (dr_level h hm)
theorem dr_rest {cap : Int} {L : List Trip} {mass : Int} (h : drE cap L mass = 0) : sumR (drY L mass) = sumV L + -qI mass := by
  have hd := drE_of h
  unfold drY
  by_cases hm : mass = 0
  · simp only [if_pos hm]
    rw [hm, qI_zero0, List.map_id', sumV_val hd.t.sum]
    have : -(0 : Rat) = 0 := by decide +kernel
    rw [this, Rat.add_zero]
  · simp only [if_neg hm]
    exact sumR_Y_all (sumV_val hd.t.sum).symm (dr_level h hm)
/-- The error of a sum of few valid numbers. -/
theorem sumE_few {Q : List Rat} (hl : Q.length ≤ 4096) (h : ∀ q ∈ Q, fitR q = true) : sumE (ts Q) = 0 ∨ sumE (ts Q) = 2 := by
  unfold sumE
  rw [if_neg (by rw [ts_len]; omega), if_pos (List.all_eq_true.mpr fun t ht => by
    obtain ⟨q, hq, rfl⟩ := List.mem_map.mp ht
    exact vT_tri (h q hq))]
  split
  · exact Or.inl rfl
  · exact Or.inr rfl
theorem sumV_ts {Q : List Rat} (hf : ∀ q ∈ Q, fitR q = true) (h : sumE (ts Q) = 0) : sumV (ts Q) = sumR Q := by rw [sumV_val h, qs_ts hf]
end Go.Proofs.Ytgmlccjjhmhgbaa.Tank
/- Tanks that come in (gen17/v.py out of CardKitR). -/
namespace Go.Proofs.Ytgmlccjjhmhgbaa.Tank
open Go Go.ChangeShapes Go.WideShapes Go.RowKit Go.Joins
set_option linter.unusedVariables false
set_option maxRecDepth 100000

section
variable {H : Type} {enc : TypeId × Value → H} {P : Program} {w : World} {held : Bool} {t e : TypeId} {n : Nat}
/-- The limbs in a field that came in. -/
theorem in_trod {v : Value} {y : DataW H × List MemPlace} (ht : P.underlying t = some (.slice e)) (he : P.underlying e = some (.int .i64)) (hce : P.cellsOf e = 1)
    (hf : DataW.trod enc P w 0 (fun _ => true) held n t [v] = some y) : ∃ zs, In w v zs := by
  rcases open_ints ht he hce hf with ⟨hcs, _⟩ | ⟨x, l, c, zs, hcs, _, hl, hm, hz, _, hcell, hwz⟩
  · simp at hcs
    exact ⟨[], none, 0, hcs, Nat.le_refl _, by unfold maxLen; omega, fun k z hz => by simp at hz⟩
  · simp at hcs
    subst hcs
    have hz' : zs.length = c := by simpa using hz
    have hlen : (zs.take l).length = l := by rw [List.length_take]; omega
    refine ⟨zs.take l, some x, c, by rw [hlen], by omega, hm, fun i z hi => ?_⟩
    have hin : i < l := by
      rcases Nat.lt_or_ge i l with h1 | h1
      · exact h1
      · rw [List.getElem?_take, if_neg (by omega)] at hi; cases hi
    rw [List.getElem?_take, if_pos hin] at hi
    obtain ⟨b, off, rfl, hc⟩ := ints_at hcell (by omega)
    have hci := hc i (by omega)
    have ez : zs.getD i 0 = z := by rw [List.getD_eq_getElem?_getD, hi]; rfl
    rw [ez] at hci
    exact ⟨b, off, rfl, ⟨Nat.zero_le _, Or.inl rfl⟩, World.block_lt_of_cell? w _ hci, hci⟩
end
theorem list_of {α : Type} {P : Nat → α → Prop} (n : Nat) (h : ∀ i, i < n → ∃ t, P i t) : ∃ L : List α, L.length = n ∧ ∀ i t, L[i]? = some t → P i t := by
  induction n with
  | zero => exact ⟨[], rfl, fun i t hi => by simp at hi⟩
  | succ n ih =>
    obtain ⟨L, hl, hL⟩ := ih fun i hi => h i (by omega)
    obtain ⟨t, ht⟩ := h n (by omega)
    refine ⟨L ++ [t], by simp [hl], fun i u hu => ?_⟩
    rcases Nat.lt_or_ge i L.length with h1 | h1
    · rw [List.getElem?_append_left h1] at hu; exact hL i u hu
    · rw [List.getElem?_append_right h1] at hu
      have : i - L.length = 0 := by
        rcases Nat.eq_zero_or_pos (i - L.length) with h2 | h2
        · exact h2
        · rw [List.getElem?_eq_none (by simp; omega)] at hu; cases hu
      rw [this] at hu
      simp at hu
      have e : i = n := by omega
      subst hu e; exact ht

section
variable {H : Type} {enc : TypeId × Value → H} {w : World} {held : Bool}
theorem rats_of {fuel : Nat} {cs : List Value} {x : DataW H × List MemPlace} (hf : DataW.trod enc Try.prog w 0 (fun _ => true) held fuel 22 cs = some x) :
    ∃ (A : Option Addr) (c : Nat) (L : List Trip), cs = [.slice A L.length c] ∧ Rats w A L ∧ L.length ≤ c ∧ L.length ≤ 9223372036854775807 := by
  rcases Deep.open_slice Try.underlying22 hf with ⟨hcs, _⟩ | ⟨a, n, cap, m, k, D, Pl, hcs, _, hl, hm, hmm, _, hel⟩
  · exact ⟨none, 0, [], hcs, Rats.nil _ _, Nat.le_refl _, by simp⟩
  · have hmc : m = cap := by simpa using hmm
    subst hmc
    have hC : Try.prog.cellsOf 33 = 3 := by kernel_rfl
    have key : ∀ i, i < n → ∃ t : Trip, ∃ b off A1 c1 A2 c2, a = ⟨b, off, none⟩ ∧ b < w.heap.size ∧
        (w.cell? ⟨b, off + i * 3, none⟩ = some (.bool t.1) ∧ w.cell? ⟨b, off + i * 3 + 1, none⟩ = some (.slice A1 t.2.1.length c1) ∧ w.cell? ⟨b, off + i * 3 + 2, none⟩ = some (.slice A2 t.2.2.length c2)) ∧
        In w (.slice A1 t.2.1.length c1) t.2.1 ∧ In w (.slice A2 t.2.2.length c2) t.2.2 := by
      intro i hi
      obtain ⟨cs, hc, ht⟩ := hel i (by omega)
      rw [hC] at hc
      obtain ⟨xs, n', _, _, hlen, hyl, hg⟩ := DataW.trod_struct Try.underlying33 ht
      obtain ⟨_, hcl, hat⟩ := World.cells?_some hc
      obtain ⟨c0, c1, c2, rfl⟩ : ∃ c0 c1 c2, cs = [c0, c1, c2] := by
        match cs, hcl with
        | [c0, c1, c2], _ => exact ⟨c0, c1, c2, rfl⟩
      obtain ⟨y0, y1, y2, rfl⟩ : ∃ y0 y1 y2, xs = [y0, y1, y2] := by
        match xs, hyl with
        | [y0, y1, y2], _ => exact ⟨y0, y1, y2, rfl⟩
      have g0 := hg 0 _ rfl
      have g1 := hg 1 _ rfl
      have g2 := hg 2 _ rfl
      change DataW.trod enc Try.prog w 0 (fun _ => true) held n' 4 (([c0, c1, c2].drop 0).take (Try.prog.cellsOf 4)) = some y0 at g0
      change DataW.trod enc Try.prog w 0 (fun _ => true) held n' 31 (([c0, c1, c2].drop 1).take (Try.prog.cellsOf 31)) = some y1 at g1
      change DataW.trod enc Try.prog w 0 (fun _ => true) held n' 31 (([c0, c1, c2].drop 2).take (Try.prog.cellsOf 31)) = some y2 at g2
      rw [show Try.prog.cellsOf 4 = 1 by kernel_rfl] at g0
      rw [show Try.prog.cellsOf 31 = 1 by kernel_rfl] at g1 g2
      obtain ⟨bb, hbb, _⟩ := DataW.trod_bool Try.underlying4 g0
      obtain ⟨xs, hx⟩ := in_trod (v := c1) Try.underlying31 Try.underlying3 (by kernel_rfl) g1
      obtain ⟨ys, hy⟩ := in_trod (v := c2) Try.underlying31 Try.underlying3 (by kernel_rfl) g2
      obtain ⟨A1, d1, rfl, hx'⟩ := in_open hx
      obtain ⟨A2, d2, rfl, hy'⟩ := in_open hy
      have hb0 : c0 = .bool bb := by simpa using hbb
      subst hb0
      obtain ⟨b, off, spot⟩ := a
      have hspot : spot = none := by
        obtain ⟨cs0, hc0, ht0⟩ := hel 0 (by omega)
        rw [hC] at hc0
        obtain ⟨_, hl0, hat0⟩ := World.cells?_some hc0
        match cs0, hl0 with
        | [z0, z1, z2], _ =>
          have h := hat0 0 (by omega)
          have e : ∀ x : Addr, x.add 0 = x := fun x => by unfold Addr.add; rw [if_pos rfl]
          rw [Nat.zero_mul, e, e] at h
          exact World.cell?_spot h
      subst hspot
      have k : ∀ j, j < 3 → w.cell? ⟨b, off + i * 3 + j, none⟩ = [Value.bool bb, .slice A1 xs.length d1, .slice A2 ys.length d2][j]? := fun j hj => by
        have := hat j (by omega)
        rw [Go.WideShapes.add_plain, Go.WideShapes.add_plain] at this
        exact this
      have k0 := k 0 (by omega)
      exact ⟨(bb, xs, ys), b, off, A1, d1, A2, d2, rfl, World.block_lt_of_cell? w _ k0, ⟨k0, k 1 (by omega), k 2 (by omega)⟩, hx', hy'⟩
    obtain ⟨L, rfl, hL⟩ := list_of n key
    refine ⟨some a, m, L, hcs, fun k t hk => ?_, hl, by unfold maxLen at hm; omega⟩
    obtain ⟨b, off, A1, c1, A2, c2, rfl, h⟩ := hL k t hk
    exact ⟨b, off, A1, c1, A2, c2, rfl, h⟩
/-- A tank that came in. -/
theorem open_tank {r : Reach} {b0 : Nat} {v : Value} {d : DataW H} {p : List MemPlace} (hv : Value.okWide Try.prog w r b0 24 v) (h : DataW.Trod enc Try.prog w 0 (fun _ => true) held 24 v d p) :
    ∃ (cap : Int) (A : Option Addr) (c : Nat) (L : List Trip), v = .agg #[.int .i64 cap, .slice A L.length c] ∧ Rats w A L ∧ L.length ≤ 9223372036854775807 := by
  obtain ⟨v0, v1, y0, y1, n, rfl, _, _, h0, h1⟩ := open_agg2 Try.underlying24 (by kernel_rfl) (by kernel_rfl) hv h
  obtain ⟨x0, f0, _, _⟩ := DataW.trod_int Try.underlying3 h0
  simp at f0
  subst f0
  obtain ⟨A, c, L, hcs, h2, h3, h4⟩ := rats_of h1
  simp at hcs
  subst hcs
  exact ⟨x0, A, c, L, rfl, h2, h4⟩
end
end Go.Proofs.Ytgmlccjjhmhgbaa.Tank
/- A draw leaves each share as it was: TankMixed (gen17/n.py). -/
namespace Go.Proofs.Ytgmlccjjhmhgbaa.Tank
open Go.ChangeShapes Go.WideShapes Go.RowKit Go.Lib
open Go.Proofs.Ytgmlccjjhmhgbaa.Rw (glt get_lt below_alloc bstep wrap_id below_drewN below_drew drew_below)
set_option linter.unusedVariables false
set_option maxRecDepth 100000

theorem same_numN {t : Trip} {va vb : Value} {w : World} (ha : InR w va t.1 t.2.1 t.2.2) (hb : InR w vb t.1 t.2.1 t.2.2) :
    Calls Try.prog 9 #[va, vb] w fun e w' => e = .returned (.bool true) ∧ Below w.heap.size w w' := by
  have h := tk_Same t t va vb w ha hb
  rw [decide_eq_true (rfl : t = t)] at h
  exact h
theorem dr_nonneg {cap : Int} {L : List Trip} {mass : Int} (h : drE cap L mass = 0) : ∀ q ∈ drY L mass, 0 ≤ q := fun q hq => by
  have hd := drE_of h
  unfold drY at hq
  obtain ⟨p, hp, rfl⟩ := List.mem_map.mp hq
  have hp0 := (hd.t.level.2.2 p hp).2
  by_cases hm : mass = 0
  · rw [if_pos hm]; exact hp0
  · rw [if_neg hm]
    have h0 : (0 : Rat) ≤ qI mass := by rw [← qI_zero0]; exact qI_le hd.m0
    have hv0 : 0 < sumV L := Rat.not_le.mp fun k => dr_level h hm (Rat.le_antisymm k hd.t.pos.1)
    exact (tk_nonneg hp0 h0 hv0 hd.mass_le).2
/-- What Check says of what is left. -/
theorem dr_check {cap : Int} {L : List Trip} {mass : Int} (h : drE cap L mass = 0) : ckT cap (ts (drY L mass)) = 0 ∨ ckT cap (ts (drY L mass)) = 2 := by
  have hd := drE_of h
  have hf := (dr_fit h).2
  have hlen : (ts (drY L mass)).length = L.length := by rw [ts_len, drY_len]
  have hP : ckP (ts (drY L mass)) = 0 := ckP_ok fun j u hu => by
    obtain ⟨q, hq, rfl⟩ := List.mem_map.mp (List.mem_of_getElem? hu)
    exact ⟨vT_tri (hf q hq), neg_iff.mpr (dr_nonneg h q hq)⟩
  have hc := hd.t.c0
  have hc1 := hd.t.c1
  have hn := hd.t.n0
  have hn1 := hd.t.n1
  unfold ckT
  rw [if_pos ⟨hc, hc1⟩]
  unfold ckN
  rw [hlen, if_pos ⟨hn, hn1⟩, if_pos hP]
  unfold ckS
  rcases sumE_few (Q := drY L mass) (by rw [drY_len]; omega) hf with he | he
  · rw [if_pos he]
    by_cases hx : crossOk (sumV (ts (drY L mass))) (qI cap) = true
    · rw [if_pos hx]
      have hle : ¬ 0 < cmpG (sumV (ts (drY L mass))) (qI cap) := fun k => by
        have k2 := (cmpG_pos hx).mp k
        rw [sumV_ts hf he, dr_rest h] at k2
        have h0 : (0 : Rat) ≤ qI mass := by rw [← qI_zero0]; exact qI_le hd.m0
        have h1 := hd.t.level.2.1
        have h2 : sumV L + -qI mass ≤ qI cap := by grind
        exact Rat.not_lt.mpr h2 k2
      rw [if_neg hle]; exact Or.inl rfl
    · rw [if_neg hx]; exact Or.inr rfl
  · rw [if_neg (by rw [he]; decide), he]; exact Or.inr rfl
theorem mx_in {cap : Int} {L : List Trip} {kind : Int} (h0 : ckT cap L = 0) (hp : paE cap L kind = 0) : (0 ≤ kind ∧ kind < (L.length : Int)) ∧ (sumV L).num ≠ 0 := by
  unfold paE paM at hp
  rw [if_pos h0] at hp
  by_cases h1 : 0 ≤ kind ∧ kind < (L.length : Int)
  · rw [if_pos h1] at hp
    refine ⟨h1, fun h2 => ?_⟩
    rw [if_pos h2] at hp; cases hp
  · rw [if_neg h1] at hp; cases hp
theorem mx_part {cap : Int} {L : List Trip} {mass kind : Int} (h : drE cap L mass = 0) (hp : paE cap L kind = 0) (hc : ckT cap (ts (drY L mass)) = 0) :
    ((sumV (ts (drY L mass))).num = 0 → paE cap (ts (drY L mass)) kind = 10) ∧ (¬ (sumV (ts (drY L mass))).num = 0 → (paE cap (ts (drY L mass)) kind = 0 ∨ paE cap (ts (drY L mass)) kind = 2) ∧ paV (ts (drY L mass)) kind = paV L kind) := by
  have hd := drE_of h
  obtain ⟨h1, h2⟩ := mx_in hd.t.err hp
  have hlen : (ts (drY L mass)).length = L.length := by rw [ts_len, drY_len]
  have hf := (dr_fit h).2
  have hpa : paE cap (ts (drY L mass)) kind = if (sumV (ts (drY L mass))).num = 0 then 10 else divEr ((qs (ts (drY L mass))).getD kind.toNat 0) (sumV (ts (drY L mass))) := by
    unfold paE paM
    rw [if_pos hc, hlen, if_pos h1]
  refine ⟨fun h3 => by rw [hpa, if_pos h3], fun h3 => ⟨?_, ?_⟩⟩
  · rw [hpa, if_neg h3]
    unfold divEr
    rw [if_neg h3]
    cases mulOk ((qs (ts (drY L mass))).getD kind.toNat 0) (sumV (ts (drY L mass)))⁻¹ with
    | true => exact Or.inl rfl
    | false => exact Or.inr rfl
  · obtain ⟨t, ht⟩ := get_lt (L := L) (k := kind.toNat) (by omega)
    have hq := qs_at ht
    have hy : (drY L mass)[kind.toNat]? = some (if mass = 0 then rT t else tkY (rT t) (qI mass) (sumV L)) := by unfold drY; rw [List.getElem?_map, hq]; rfl
    unfold paV
    rw [qs_ts hf, getD_at hy, getD_at hq]
    have hs := sumV_ts hf (ckT_of hc).sum
    rw [dr_rest h] at hs
    rw [hs] at h3 ⊢
    by_cases hm : mass = 0
    · rw [if_pos hm, hm, qI_zero0]
      have e : -(0 : Rat) = 0 := by decide +kernel
      rw [e, Rat.add_zero]
    · rw [if_neg hm]
      exact tk_mixed (dr_level h hm) (num_ne h3)
theorem isR_lenN {w : World} {b : Bool} {A B : Option Addr} {n c m d : Nat} {r : Rat} (h : IsR w (.agg #[.bool b, .slice A n c, .slice B m d]) r) : ((n : Int) == 0) = decide (r.num = 0) := by
  obtain ⟨-, h1, -⟩ := IsR.cells h
  obtain ⟨A', c', e, -⟩ := in_open h1
  have hn : n = (topL r).length := (Value.slice.inj e).2.1
  have ht := top_emp r
  by_cases hr : r.num = 0
  · rw [decide_eq_true hr] at ht ⊢
    rw [List.isEmpty_iff] at ht
    rw [hn, ht]; rfl
  · rw [decide_eq_false hr] at ht ⊢
    refine beq_false_of_ne fun k => ?_
    have h4 : (topL r).length = 0 := by omega
    rw [List.eq_nil_of_length_eq_zero h4] at ht
    cases ht
set_option maxHeartbeats 6400000 in
theorem walk_TankMixed (w : World) (cap : Int) (A : Option Addr) (c : Nat) (L : List Trip) (ha : Rats w A L) (hm : L.length ≤ 9223372036854775807) (mass kind : Int) :
    Calls Try.prog 3 #[.agg #[.int .i64 cap, .slice A L.length c], .int .i64 mass, .int .i64 kind] w fun e w' => e = .returned (.bool true) ∧ Below w.heap.size w w' := by
  have HA := Lib.hid ha
  have KQ := Lib.hid fun W => law_awake W
  obtain ⟨n, hn⟩ : ∃ n, n = L.length := ⟨_, rfl⟩
  rw [← hn] at hm ⊢
  have KL := Lib.hid fun (W : World) (h : Rats W A L) => law_light cap L A n c hn W h hm
  obtain ⟨li, hli⟩ : ∃ b, lightB L = b := ⟨_, rfl⟩
  rw [hli] at KL
  have KF := Lib.hid fun (W : World) (h : Rats W A L) => p_Draw cap L A n c hn mass W h hm
  have KP := Lib.hid fun (W : World) (h : Rats W A L) => p_Part cap L A n c hn kind W h hm
  have HN := Lib.hid hn
  obtain ⟨G, hG⟩ : ∃ x, drE cap L mass = x := ⟨_, rfl⟩
  obtain ⟨P, hP⟩ : ∃ x, paE cap L kind = x := ⟨_, rfl⟩
  obtain ⟨PV, hPV⟩ : ∃ x, paV L kind = x := ⟨_, rfl⟩
  have hyes := fun h : G = 0 => dr_yes (hG.trans h)
  obtain ⟨GC, hGC⟩ : ∃ x, drC cap L mass = x := ⟨_, rfl⟩
  obtain ⟨GP, hGP⟩ : ∃ x, drP cap L mass = x := ⟨_, rfl⟩
  obtain ⟨GT, hGT⟩ : ∃ x, drT cap L mass = x := ⟨_, rfl⟩
  rw [hGC, hGP, hGT] at KF hyes
  rw [hG] at KF
  rw [hP, hPV] at KP
  have HG := Lib.hid hG
  have HP := Lib.hid (And.intro hP hPV)
  have YES := Lib.hid hyes
  clear hG hP hPV hGC hGP hGT hyes
  clear ha hn hli hm
  go_enter Try.func3, Try.ntmps3
  go_upto_region 1 with fail
  obtain ⟨w0, hw0⟩ : ∃ W, (w.alloc (.cells #[.int .i64 cap, .slice A n c] 24)) = W := ⟨_, rfl⟩
  have C0 : Hid (Rw.Cel w0 (w.heap.size) [.int .i64 cap, .slice A n c]) := hw0 ▸ (Rw.Cel.new_at _ [_, _] _ (by simp))
  have HB : Hid (Below w.heap.size w w0) := hw0 ▸ below_alloc _ _
  first | rw [hw0] | skip
  clear hw0
  obtain ⟨x0, x1⟩ := C0.out.two
  go_wp2_with fail
  refine (KL.out w0 (Rats.on HA.out HB.out)).mono ?_
  rintro e w1 ⟨rfl, hb⟩
  replace HB := Lib.hid (bstep HB.out hb)
  replace C0 := Lib.hid (C0.out.on hb)
  clear hb x0 x1
  cases li with
  | false =>
    go_wp2_with fail
    refine (KQ.out _).mono ?_
    rintro e wq ⟨rfl, hb⟩
    have HF := Lib.hid (bstep HB.out hb)
    clear hb
    go_wp2_with fail
    go_ret
    exact ⟨rfl, HF.out⟩
  | true =>
  obtain ⟨x0, x1⟩ := C0.out.two
  go_wp2_with fail
  refine (KF.out w1 (Rats.on HA.out HB.out)).mono ?_
  rintro e w2 ⟨v, B1, k1, d1, rfl, hT, hk, hkm, hrt, hb⟩
  obtain ⟨A1, c1, rfl, hl1, hr1⟩ := hT
  obtain ⟨n1, hn1⟩ : ∃ n1, n1 = GP.length := ⟨_, rfl⟩
  rw [← hn1]
  have X1 := Lib.hid hr1
  have N1 := Lib.hid (And.intro hn1 hl1)
  replace HB := Lib.hid (bstep HB.out hb)
  replace C0 := Lib.hid (C0.out.on hb)
  clear hb hn1 hl1 hr1 hk hkm hrt x0 x1
  go_upto_region 4 with fail
  obtain ⟨w3, hw⟩ : ∃ W, w2.alloc (.cells #[.int .i64 GC, .slice A1 n1 c1] 24) = W := ⟨_, rfl⟩
  obtain ⟨gCX, hg⟩ : ∃ g, w2.heap.size = g := ⟨_, rfl⟩
  have hb : Below w2.heap.size w2 w3 := hw ▸ below_alloc _ _
  have CX : Hid (Rw.Cel w3 gCX [.int .i64 GC, .slice A1 n1 c1]) := hw ▸ hg ▸ Rw.Cel.new w2 [_, _] _
  replace HB := Lib.hid (bstep HB.out hb)
  replace C0 := Lib.hid (C0.out.on hb)
  replace X1 := Lib.hid (Rats.on X1.out hb)
  rw [hw, hg]
  clear hw hg hb
  obtain ⟨x0, x1⟩ := C0.out.two
  go_wp2_with fail
  refine (KP.out w3 (Rats.on HA.out HB.out)).mono ?_
  rintro e w4 h
  obtain ⟨ab, AA, an, ac, AB, am, ad, rfl, ho, hb⟩ := RRes.op h
  have OA := Lib.hid ho
  replace HB := Lib.hid (bstep HB.out hb)
  replace C0 := Lib.hid (C0.out.on hb)
  replace X1 := Lib.hid (Rats.on X1.out hb)
  replace CX := Lib.hid (CX.out.on hb)
  clear h ho hb x0 x1
  go_upto_region 5 with fail
  obtain ⟨w5, hw⟩ : ∃ W, w4.alloc (.cells #[.bool ab, .slice AA an ac, .slice AB am ad] 33) = W := ⟨_, rfl⟩
  obtain ⟨gCA, hg⟩ : ∃ g, w4.heap.size = g := ⟨_, rfl⟩
  have hb : Below w4.heap.size w4 w5 := hw ▸ below_alloc _ _
  have CA : Hid (Rw.Cel w5 gCA [.bool ab, .slice AA an ac, .slice AB am ad]) := hw ▸ hg ▸ Rw.Cel.new w4 [_, _, _] _
  replace HB := Lib.hid (bstep HB.out hb)
  replace C0 := Lib.hid (C0.out.on hb)
  replace X1 := Lib.hid (Rats.on X1.out hb)
  replace CX := Lib.hid (CX.out.on hb)
  replace OA := Lib.hid (OA.out.on hb)
  rw [hw, hg]
  clear hw hg hb
  by_cases hz : G = 0
  rotate_left
  · obtain ⟨z1, z2⟩ := ne_zero hz
    clear hz
    go_wp2_with fail
    refine (KQ.out _).mono ?_
    rintro e wq ⟨rfl, hb⟩
    have HF := Lib.hid (bstep HB.out hb)
    clear hb
    go_wp2_with fail
    go_ret
    exact ⟨rfl, HF.out⟩
  subst hz
  by_cases hz : P = 0
  rotate_left
  · obtain ⟨z1, z2⟩ := ne_zero hz
    clear hz
    go_wp2_with fail
    refine (KQ.out _).mono ?_
    rintro e wq ⟨rfl, hb⟩
    have HF := Lib.hid (bstep HB.out hb)
    clear hb
    go_wp2_with fail
    go_ret
    exact ⟨rfl, HF.out⟩
  subst hz
  obtain ⟨h1, h2, h3⟩ := YES.out rfl
  subst h1; subst h2; subst h3
  have HFit := Lib.hid (dr_fit HG.out)
  have hck := dr_check HG.out
  have hmx := mx_part HG.out HP.out.1
  have hnx : ¬ ckT GC (ts (drY L mass)) = 0 → paE GC (ts (drY L mass)) kind = ckT GC (ts (drY L mass)) := fun h => if_neg h
  have KP2 := Lib.hid fun (W : World) (h : Rats W A1 (ts (drY L mass))) => p_Part GC (ts (drY L mass)) A1 n1 c1 N1.out.1 kind W h (by rw [N1.out.1]; exact N1.out.2)
  have KL2 := Lib.hid fun (W : World) (h : Rats W A1 (ts (drY L mass))) => p_Level GC (ts (drY L mass)) A1 n1 c1 N1.out.1 W h (by rw [N1.out.1]; exact N1.out.2)
  obtain ⟨E, hE⟩ : ∃ x, ckT GC (ts (drY L mass)) = x := ⟨_, rfl⟩
  obtain ⟨Q, hQ⟩ : ∃ x, paE GC (ts (drY L mass)) kind = x := ⟨_, rfl⟩
  obtain ⟨V, hV⟩ : ∃ x, sumV (ts (drY L mass)) = x := ⟨_, rfl⟩
  obtain ⟨QV, hQV⟩ : ∃ x, paV (ts (drY L mass)) kind = x := ⟨_, rfl⟩
  rw [hE] at hck hmx hnx KL2
  rw [hQ] at hmx hnx KP2
  rw [hV] at hmx KL2
  rw [hQV] at hmx KP2
  rw [HP.out.2] at hmx
  have HMX := Lib.hid hmx
  have HCK := Lib.hid hck
  have HNX := Lib.hid hnx
  clear hmx hck hnx hE hQ hV hQV
  obtain ⟨x0, x1⟩ := CX.out.two
  go_wp2_with fail
  refine (KP2.out w5 X1.out).mono ?_
  rintro e w6 h
  obtain ⟨bb, BA, bn, bc, BB, bm, bd, rfl, ho, hb⟩ := RRes.op h
  have OB := Lib.hid ho
  replace HB := Lib.hid (bstep HB.out hb)
  replace C0 := Lib.hid (C0.out.on hb)
  replace X1 := Lib.hid (Rats.on X1.out hb)
  replace CX := Lib.hid (CX.out.on hb)
  replace OA := Lib.hid (OA.out.on hb)
  replace CA := Lib.hid (CA.out.on hb)
  clear h ho hb x0 x1
  go_upto_region 8 with fail
  obtain ⟨w7, hw⟩ : ∃ W, w6.alloc (.cells #[.bool bb, .slice BA bn bc, .slice BB bm bd] 33) = W := ⟨_, rfl⟩
  obtain ⟨gCB, hg⟩ : ∃ g, w6.heap.size = g := ⟨_, rfl⟩
  have hb : Below w6.heap.size w6 w7 := hw ▸ below_alloc _ _
  have CB : Hid (Rw.Cel w7 gCB [.bool bb, .slice BA bn bc, .slice BB bm bd]) := hw ▸ hg ▸ Rw.Cel.new w6 [_, _, _] _
  replace HB := Lib.hid (bstep HB.out hb)
  replace C0 := Lib.hid (C0.out.on hb)
  replace X1 := Lib.hid (Rats.on X1.out hb)
  replace CX := Lib.hid (CX.out.on hb)
  replace OA := Lib.hid (OA.out.on hb)
  replace CA := Lib.hid (CA.out.on hb)
  replace OB := Lib.hid (OB.out.on hb)
  rw [hw, hg]
  clear hw hg hb
  obtain ⟨x0, x1⟩ := CX.out.two
  go_wp2_with fail
  refine (KL2.out w7 X1.out).mono ?_
  rintro e w8 h
  obtain ⟨lb, LA, ln, lc, LB, lm, ld, rfl, ho, hb⟩ := RRes.op h
  have OL := Lib.hid ho
  replace HB := Lib.hid (bstep HB.out hb)
  replace C0 := Lib.hid (C0.out.on hb)
  replace X1 := Lib.hid (Rats.on X1.out hb)
  replace CX := Lib.hid (CX.out.on hb)
  replace OA := Lib.hid (OA.out.on hb)
  replace CA := Lib.hid (CA.out.on hb)
  replace OB := Lib.hid (OB.out.on hb)
  replace CB := Lib.hid (CB.out.on hb)
  clear h ho hb x0 x1
  go_upto_region 9 with fail
  obtain ⟨w9, hw⟩ : ∃ W, w8.alloc (.cells #[.bool lb, .slice LA ln lc, .slice LB lm ld] 33) = W := ⟨_, rfl⟩
  obtain ⟨gCL, hg⟩ : ∃ g, w8.heap.size = g := ⟨_, rfl⟩
  have hb : Below w8.heap.size w8 w9 := hw ▸ below_alloc _ _
  have CL : Hid (Rw.Cel w9 gCL [.bool lb, .slice LA ln lc, .slice LB lm ld]) := hw ▸ hg ▸ Rw.Cel.new w8 [_, _, _] _
  replace HB := Lib.hid (bstep HB.out hb)
  replace C0 := Lib.hid (C0.out.on hb)
  replace X1 := Lib.hid (Rats.on X1.out hb)
  replace CX := Lib.hid (CX.out.on hb)
  replace OA := Lib.hid (OA.out.on hb)
  replace CA := Lib.hid (CA.out.on hb)
  replace OB := Lib.hid (OB.out.on hb)
  replace CB := Lib.hid (CB.out.on hb)
  replace OL := Lib.hid (OL.out.on hb)
  rw [hw, hg]
  clear hw hg hb
  rcases HCK.out with he | he
  rotate_left
  · obtain rfl : Q = 2 := by rw [HNX.out (by rw [he]; decide), he]
    subst he
    go_wp2_with fail
    refine (KQ.out _).mono ?_
    rintro e wq ⟨rfl, hb⟩
    have HF := Lib.hid (bstep HB.out hb)
    clear hb
    go_wp2_with fail
    go_ret
    exact ⟨rfl, HF.out⟩
  subst he
  have hl := isR_lenN (OL.out.zero rfl)
  obtain ⟨y0, y1, y2⟩ := CL.out.three
  by_cases hv : V.num = 0
  · rw [decide_eq_true hv] at hl
    obtain rfl : Q = 10 := (HMX.out rfl).1 hv
    clear hv
    go_wp2_with fail
    refine (KQ.out _).mono ?_
    rintro e wq ⟨rfl, hb⟩
    have HF := Lib.hid (bstep HB.out hb)
    clear hb
    go_wp2_with fail
    go_ret
    exact ⟨rfl, HF.out⟩
  rw [decide_eq_false hv] at hl
  obtain ⟨hq, hqv⟩ := (HMX.out rfl).2 hv
  subst hqv
  clear hv
  rcases hq with hq | hq
  rotate_left
  · subst hq
    go_wp2_with fail
    refine (KQ.out _).mono ?_
    rintro e wq ⟨rfl, hb⟩
    have HF := Lib.hid (bstep HB.out hb)
    clear hb
    go_wp2_with fail
    go_ret
    exact ⟨rfl, HF.out⟩
  subst hq
  obtain ⟨x0, x1, x2⟩ := CA.out.three
  obtain ⟨z0, z1, z2⟩ := CB.out.three
  go_wp2_with fail
  refine (same_numN (t := triR QV) (OA.out.zero rfl) (OB.out.zero rfl)).mono ?_
  rintro e w10 ⟨rfl, hb⟩
  replace HB := Lib.hid (bstep HB.out hb)
  clear hb x0 x1 x2 y0 y1 y2 z0 z1 z2
  go_wp2_with fail
  refine (KQ.out _).mono ?_
  rintro e wq ⟨rfl, hb⟩
  have HF := Lib.hid (bstep HB.out hb)
  clear hb
  go_wp2_with fail
  go_ret
  exact ⟨rfl, HF.out⟩
end Go.Proofs.Ytgmlccjjhmhgbaa.Tank
