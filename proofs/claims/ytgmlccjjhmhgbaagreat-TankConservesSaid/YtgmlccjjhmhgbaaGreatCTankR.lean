/- The stage's theorem: TankConserves (gen17/o.py). -/
import Derived.Test.YtgmlccjjhmhgbaaGreatPk30
import Derived.Test.YtgmlccjjhmhgbaaGreatCTankO
import Derived.Test.YtgmlccjjhmhgbaaGreatPk1
import Derived.Test.YtgmlccjjhmhgbaaGreatCTankV
namespace Go.Proofs.YtgmlccjjhmhgbaaGreat.Tank
open Go.ChangeShapes Go.WideShapes Go.RowKit Go.Lib
open Go.Proofs.YtgmlccjjhmhgbaaGreat.Rw (glt get_lt below_alloc bstep wrap_id below_drewN below_drew drew_below)
set_option linter.unusedVariables false
set_option maxRecDepth 100000

theorem same_num {t : Trip} {va vb : Value} {w : World} (ha : InR w va t.1 t.2.1 t.2.2) (hb : InR w vb t.1 t.2.1 t.2.2) :
    Calls Tryz.prog 19 #[va, vb] w fun e w' => e = .returned (.bool true) ∧ Below w.heap.size w w' := by
  have h := tk_Same t t va vb w ha hb
  rw [decide_eq_true (rfl : t = t)] at h
  exact h
theorem valid_ts {Q : List Rat} (h : ∀ q ∈ Q, fitR q = true) : (ts Q).all vT = true := List.all_eq_true.mpr fun t ht => ts_valid h t ht
theorem isR_as {w : World} {v : Value} {t : Trip} (h : vT t = true) (hi : IsR w v (rT t)) : InR w v t.1 t.2.1 t.2.2 := by
  obtain ⟨_, h1, h2, h3⟩ := trip_form h
  unfold IsR at hi
  rw [← h1, ← h2, ← h3] at hi
  exact hi
set_option maxHeartbeats 6400000 in
theorem walk_TankConserves (w : World) (cap : Int) (A : Option Addr) (c : Nat) (L : List Trip) (ha : Rats w A L) (hm : L.length ≤ 9223372036854775807) (mass : Int) :
    Calls Tryz.prog 8 #[.agg #[.int .i64 cap, .slice A L.length c], .int .i64 mass] w fun e w' => e = .returned (.bool true) ∧ Below w.heap.size w w' := by
  have HA := Lib.hid ha
  have KQ := Lib.hid fun W => law_awake W
  obtain ⟨n, hn⟩ : ∃ n, n = L.length := ⟨_, rfl⟩
  rw [← hn] at hm ⊢
  have KL := Lib.hid fun (W : World) (h : Rats W A L) => law_light cap L A n c hn W h hm
  obtain ⟨li, hli⟩ : ∃ b, lightB L = b := ⟨_, rfl⟩
  rw [hli] at KL
  have KF := Lib.hid fun (W : World) (h : Rats W A L) => p_Draw cap L A n c hn mass W h hm
  have KS := Lib.hid fun (W : World) (h : Rats W A L) => ref_Sum3 L A c W h (by omega)
  rw [← hn] at KS
  have HN := Lib.hid hn
  obtain ⟨G, hG⟩ : ∃ x, drE cap L mass = x := ⟨_, rfl⟩
  have hno := fun h => dr_no hG h
  have hyes := fun h : G = 0 => dr_yes (hG.trans h)
  obtain ⟨GC, hGC⟩ : ∃ x, drC cap L mass = x := ⟨_, rfl⟩
  obtain ⟨GP, hGP⟩ : ∃ x, drP cap L mass = x := ⟨_, rfl⟩
  obtain ⟨GT, hGT⟩ : ∃ x, drT cap L mass = x := ⟨_, rfl⟩
  rw [hGC, hGP, hGT] at KF hno hyes
  rw [hG] at KF
  have HG := Lib.hid hG
  have NO := Lib.hid hno
  have YES := Lib.hid hyes
  clear hG hGC hGP hGT hno hyes
  clear ha hn hli hm
  go_enter Tryz.func8, Tryz.ntmps8
  go_upto_region 1 with fail
  obtain ⟨w0, hw0⟩ : ∃ W, (w.alloc (.cells #[.int .i64 cap, .slice A n c] 24)) = W := ⟨_, rfl⟩
  have C0 : Hid (Rw.Cel w0 (w.heap.size) [.int .i64 cap, .slice A n c]) := hw0 ▸ (Rw.Cel.new_at _ [_, _] _ (by simp))
  have HB : Hid (Below w.heap.size w w0) := hw0 ▸ below_alloc _ _
  first | rw [hw0] | skip
  clear hw0
  obtain ⟨x0, x1⟩ := C0.out.two
  go_wp2_with fail
  refine (KL.out w0 (Rats.on HA.out HB.out)).mono ?_
  rintro e w1 ⟨rfl, hb⟩
  replace HB := Lib.hid (bstep HB.out hb)
  replace C0 := Lib.hid (C0.out.on hb)
  clear hb x0 x1
  cases li with
  | false =>
    go_wp2_with fail
    refine (KQ.out _).mono ?_
    rintro e wq ⟨rfl, hb⟩
    have HF := Lib.hid (bstep HB.out hb)
    clear hb
    go_wp2_with fail
    go_ret
    exact ⟨rfl, HF.out⟩
  | true =>
  obtain ⟨x0, x1⟩ := C0.out.two
  go_wp2_with fail
  refine (KF.out w1 (Rats.on HA.out HB.out)).mono ?_
  rintro e w2 ⟨v, B1, k1, d1, rfl, hT, hk, hkm, hrt, hb⟩
  obtain ⟨A1, c1, rfl, hl1, hr1⟩ := hT
  obtain ⟨n1, hn1⟩ : ∃ n1, n1 = GP.length := ⟨_, rfl⟩
  rw [← hn1]
  have X1 := Lib.hid hr1
  have T1 := Lib.hid hrt
  have N1 := Lib.hid (And.intro (And.intro hn1 hl1) (And.intro hk hkm))
  replace HB := Lib.hid (bstep HB.out hb)
  replace C0 := Lib.hid (C0.out.on hb)
  clear hb hn1 hl1 hr1 hk hkm hrt x0 x1
  go_upto_region 4 with fail
  obtain ⟨w3, hw⟩ : ∃ W, w2.alloc (.cells #[.int .i64 GC, .slice A1 n1 c1] 24) = W := ⟨_, rfl⟩
  obtain ⟨gCX, hg⟩ : ∃ g, w2.heap.size = g := ⟨_, rfl⟩
  have hb : Below w2.heap.size w2 w3 := hw ▸ below_alloc _ _
  have CX : Hid (Rw.Cel w3 gCX [.int .i64 GC, .slice A1 n1 c1]) := hw ▸ hg ▸ Rw.Cel.new w2 [_, _] _
  replace HB := Lib.hid (bstep HB.out hb)
  replace C0 := Lib.hid (C0.out.on hb)
  replace X1 := Lib.hid (Rats.on X1.out hb)
  replace T1 := Lib.hid (Rats.on T1.out hb)
  rw [hw, hg]
  clear hw hg hb
  by_cases hz : G = 0
  rotate_left
  · obtain ⟨z1, z2⟩ := ne_zero hz
    obtain ⟨h1, h2, h3⟩ := NO.out hz
    have e1 : n1 = 0 := by rw [N1.out.1.1, h3]; rfl
    have e2 : k1 = 0 := by rw [N1.out.2.1, h2]; rfl
    subst e1; subst e2
    obtain ⟨x0, x1⟩ := CX.out.two
    clear hz h1 h2 h3
    go_wp2_with fail
    refine (KQ.out _).mono ?_
    rintro e wq ⟨rfl, hb⟩
    have HF := Lib.hid (bstep HB.out hb)
    clear hb
    go_wp2_with fail
    go_ret
    exact ⟨rfl, HF.out⟩
  subst hz
  obtain ⟨h1, h2, h3⟩ := YES.out rfl
  subst h1; subst h2; subst h3
  have HD := Lib.hid (drE_of HG.out)
  have HFit := Lib.hid (dr_fit HG.out)
  have FV := Lib.hid HD.out.t.pos.2.2
  have HL : Hid (∀ t ∈ L, vT t = true) := fun t ht => (HD.out.t.all t ht).1
  have hn8 : n ≤ 8 := by have := HD.out.t.n1; have := HN.out; omega
  have HN8 := Lib.hid hn8
  have e1 : n1 = n := by rw [N1.out.1.1, ts_len, drY_len, HN.out]
  have e2 : k1 = n := by rw [N1.out.2.1, ts_len, drX_len, HN.out]
  subst e1; subst e2
  rw [HD.out.t.sum] at KS
  obtain ⟨V, hV⟩ : ∃ V, sumV L = V := ⟨_, rfl⟩
  have HV := Lib.hid hV
  rw [hV] at KS FV
  clear hn8 hV
  obtain ⟨x0, x1⟩ := C0.out.two
  go_wp2_with fail
  refine (KS.out w3 (Rats.on HA.out HB.out)).mono ?_
  rintro e w4 h
  obtain ⟨lb, LA, ln, lc, LB, lm, ld, rfl, ho, hb⟩ := RRes.op h
  have VL := Lib.hid (ho.zero rfl)
  replace HB := Lib.hid (bstep HB.out hb)
  replace C0 := Lib.hid (C0.out.on hb)
  replace X1 := Lib.hid (Rats.on X1.out hb)
  replace T1 := Lib.hid (Rats.on T1.out hb)
  replace CX := Lib.hid (CX.out.on hb)
  clear h ho hb x0 x1
  go_upto_region 7 with fail
  obtain ⟨w5, hw⟩ : ∃ W, w4.alloc (.cells #[.bool lb, .slice LA ln lc, .slice LB lm ld] 33) = W := ⟨_, rfl⟩
  obtain ⟨gCL, hg⟩ : ∃ g, w4.heap.size = g := ⟨_, rfl⟩
  have hb : Below w4.heap.size w4 w5 := hw ▸ below_alloc _ _
  have CL : Hid (Rw.Cel w5 gCL [.bool lb, .slice LA ln lc, .slice LB lm ld]) := hw ▸ hg ▸ Rw.Cel.new w4 [_, _, _] _
  replace HB := Lib.hid (bstep HB.out hb)
  replace C0 := Lib.hid (C0.out.on hb)
  replace X1 := Lib.hid (Rats.on X1.out hb)
  replace T1 := Lib.hid (Rats.on T1.out hb)
  replace CX := Lib.hid (CX.out.on hb)
  replace VL := Lib.hid (VL.out.on hb)
  rw [hw, hg]
  clear hw hg hb
  have z1 : ((k1 : Int) != (k1 : Int)) = false := by simp
  have z2 : ((k1 : Int) == (k1 : Int)) = true := by simp
  have z3 : (GC != GC) = false := by simp
  have z4 : (GC == GC) = true := by simp
  obtain ⟨x0, x1⟩ := C0.out.two
  obtain ⟨y0, y1⟩ := CX.out.two
  have hv1 := law_valid (ts (drX L mass)) B1 k1 d1 N1.out.2.1 w5 T1.out N1.out.2.2
  rw [valid_ts HFit.out.1] at hv1
  go_wp2_with fail
  refine hv1.mono ?_
  rintro e w6 ⟨rfl, hb⟩
  replace HB := Lib.hid (bstep HB.out hb)
  replace C0 := Lib.hid (C0.out.on hb)
  replace X1 := Lib.hid (Rats.on X1.out hb)
  replace T1 := Lib.hid (Rats.on T1.out hb)
  replace CX := Lib.hid (CX.out.on hb)
  replace VL := Lib.hid (VL.out.on hb)
  replace CL := Lib.hid (CL.out.on hb)
  clear hb hv1 x0 x1 y0 y1
  obtain ⟨y0, y1⟩ := CX.out.two
  have hv2 := law_valid (ts (drY L mass)) A1 k1 c1 N1.out.1.1 w6 X1.out (by have := HN8.out; omega)
  rw [valid_ts HFit.out.2] at hv2
  go_wp2_with fail
  refine hv2.mono ?_
  rintro e w7 ⟨rfl, hb⟩
  replace HB := Lib.hid (bstep HB.out hb)
  replace C0 := Lib.hid (C0.out.on hb)
  replace X1 := Lib.hid (Rats.on X1.out hb)
  replace T1 := Lib.hid (Rats.on T1.out hb)
  replace CX := Lib.hid (CX.out.on hb)
  replace VL := Lib.hid (VL.out.on hb)
  replace CL := Lib.hid (CL.out.on hb)
  clear hb hv2 y0 y1 z1 z2 z3 z4
  go_upto_region 10 with fail
  go_loopw [10] (fun i wr => ∃ k : Nat, k ≤ k1 ∧ i = .int .i64 k ∧ Below w7.heap.size w7 wr) (fun i _ => k1 - (RowKit.intOf i).toNat)
  case atStart => exact ⟨0, Nat.zero_le _, rfl, Below.refl _ _⟩
  case round =>
    obtain ⟨k, hk, rfl, hbel⟩ := hrel
    have BL := Lib.hid hbel
    have hb := hbel
    replace HB := Lib.hid (bstep HB.out hb)
    replace C0 := Lib.hid (C0.out.on hb)
    replace X1 := Lib.hid (Rats.on X1.out hb)
    replace T1 := Lib.hid (Rats.on T1.out hb)
    replace CX := Lib.hid (CX.out.on hb)
    replace VL := Lib.hid (VL.out.on hb)
    replace CL := Lib.hid (CL.out.on hb)
    clear hb hbel
    rcases Nat.lt_or_ge k k1 with hlt | hge
    · obtain ⟨t, ht⟩ := get_lt (L := L) (k := k) (by have := HN.out; omega)
      obtain ⟨X, Y, hX, hY, hsum, hprop⟩ := dr_part HG.out (qs_at ht)
      rw [HV.out] at hprop
      have VT := Lib.hid (HL.out t (List.mem_of_getElem? ht))
      have FP := Lib.hid (trip_form VT.out).1
      have FX := Lib.hid (HFit.out.1 X (List.mem_of_getElem? hX))
      have FY := Lib.hid (HFit.out.2 Y (List.mem_of_getElem? hY))
      have FM := Lib.hid (qI_fit HD.out.m0 HD.out.m1)
      obtain ⟨b2, o2, A6, c6, A8, c8, hA0, hb2, y0, y1, y2, hin⟩ := Rats.at_ (Rats.on HA.out HB.out) ht
      obtain ⟨b3, o3, A7, c7, A9, c9, hA1, hb3, p0, p1, p2, hiy⟩ := Rats.at_ X1.out (ts_at hY)
      obtain ⟨b4, o4, A5, c5, A4, c4, hA2, hb4, q0, q1, q2, hix⟩ := Rats.at_ T1.out (ts_at hX)
      subst hA0
      subst hA1
      subst hA2
      have i1 : (k : Int) < (k1 : Int) := by omega
      have i2 : (0 : Int) ≤ (k : Int) := by omega
      have i3 : IntKind.i64.wrap ((k : Int) + 1) = (k : Int) + 1 := Rw.wrap_id (by have := HN8.out; omega)
      have PT := Lib.hid (trip_is VT.out hin)
      have PT0 := Lib.hid hin
      have PY : Hid (IsR wr (.agg #[.bool (triR Y).1, .slice A7 (triR Y).2.1.length c7, .slice A9 (triR Y).2.2.length c9]) Y) := hiy
      have PX : Hid (IsR wr (.agg #[.bool (triR X).1, .slice A5 (triR X).2.1.length c5, .slice A4 (triR X).2.2.length c4]) X) := hix
      obtain ⟨t0, ht0⟩ : ∃ x, t.1 = x := ⟨_, rfl⟩
      obtain ⟨t1, ht1⟩ : ∃ x, t.2.1.length = x := ⟨_, rfl⟩
      obtain ⟨t2, ht2⟩ : ∃ x, t.2.2.length = x := ⟨_, rfl⟩
      obtain ⟨u0, hu0⟩ : ∃ x, (triR Y).1 = x := ⟨_, rfl⟩
      obtain ⟨u1, hu1⟩ : ∃ x, (triR Y).2.1.length = x := ⟨_, rfl⟩
      obtain ⟨u2, hu2⟩ : ∃ x, (triR Y).2.2.length = x := ⟨_, rfl⟩
      obtain ⟨v0, hv0⟩ : ∃ x, (triR X).1 = x := ⟨_, rfl⟩
      obtain ⟨v1, hv1⟩ : ∃ x, (triR X).2.1.length = x := ⟨_, rfl⟩
      obtain ⟨v2, hv2⟩ : ∃ x, (triR X).2.2.length = x := ⟨_, rfl⟩
      rw [ht0, ht1, ht2] at PT
      rw [show (Value.agg #[.bool t.1, .slice A6 t.2.1.length c6, .slice A8 t.2.2.length c8]) = .agg #[.bool t0, .slice A6 t1 c6, .slice A8 t2 c8] by rw [ht0, ht1, ht2]] at PT0
      rw [hu0, hu1, hu2] at PY
      rw [hv0, hv1, hv2] at PX
      rw [ht0] at y0
      rw [ht1] at y1
      rw [ht2] at y2
      rw [hu0] at p0
      rw [hu1] at p1
      rw [hu2] at p2
      rw [hv0] at q0
      rw [hv1] at q1
      rw [hv2] at q2
      have HS := Lib.hid hsum
      have HPr := Lib.hid hprop
      obtain ⟨wq, rfl⟩ : ∃ W, W = wr := ⟨wr, rfl⟩
      have HCE : Hid (∀ W, Below wq.heap.size wq W → ((W.cell? ⟨w.heap.size, 0, none⟩ = some (.int .i64 GC) ∧ W.cell? ⟨w.heap.size, 1, none⟩ = some (.slice (some ⟨b2, o2, none⟩) k1 c)) ∧ (W.cell? ⟨gCX, 0, none⟩ = some (.int .i64 GC) ∧ W.cell? ⟨gCX, 1, none⟩ = some (.slice (some ⟨b3, o3, none⟩) k1 c1)) ∧ (W.cell? ⟨gCL, 0, none⟩ = some (.bool lb) ∧ W.cell? ⟨gCL, 1, none⟩ = some (.slice LA ln lc) ∧ W.cell? ⟨gCL, 2, none⟩ = some (.slice LB lm ld)) ∧ (W.cell? ⟨b2, o2 + k * 3, none⟩ = some (.bool t0) ∧ W.cell? ⟨b2, o2 + k * 3 + 1, none⟩ = some (.slice A6 t1 c6) ∧ W.cell? ⟨b2, o2 + k * 3 + 2, none⟩ = some (.slice A8 t2 c8)) ∧ (W.cell? ⟨b3, o3 + k * 3, none⟩ = some (.bool u0) ∧ W.cell? ⟨b3, o3 + k * 3 + 1, none⟩ = some (.slice A7 u1 c7) ∧ W.cell? ⟨b3, o3 + k * 3 + 2, none⟩ = some (.slice A9 u2 c9)) ∧ (W.cell? ⟨b4, o4 + k * 3, none⟩ = some (.bool v0) ∧ W.cell? ⟨b4, o4 + k * 3 + 1, none⟩ = some (.slice A5 v1 c5) ∧ W.cell? ⟨b4, o4 + k * 3 + 2, none⟩ = some (.slice A4 v2 c4)))) := fun W h =>
        ⟨(C0.out.on h).two, (CX.out.on h).two, (CL.out.on h).three, ⟨(h.cell (p := ⟨b2, o2 + k * 3, none⟩) hb2).trans y0, (h.cell (p := ⟨b2, o2 + k * 3 + 1, none⟩) hb2).trans y1, (h.cell (p := ⟨b2, o2 + k * 3 + 2, none⟩) hb2).trans y2⟩, ⟨(h.cell (p := ⟨b3, o3 + k * 3, none⟩) hb3).trans p0, (h.cell (p := ⟨b3, o3 + k * 3 + 1, none⟩) hb3).trans p1, (h.cell (p := ⟨b3, o3 + k * 3 + 2, none⟩) hb3).trans p2⟩, (h.cell (p := ⟨b4, o4 + k * 3, none⟩) hb4).trans q0, (h.cell (p := ⟨b4, o4 + k * 3 + 1, none⟩) hb4).trans q1, (h.cell (p := ⟨b4, o4 + k * 3 + 2, none⟩) hb4).trans q2⟩
      have KA := Lib.hid fun a b W h1 h2 => x_Add Y X FY.out FX.out a b W h1 h2
      have KM := Lib.hid fun a b W h1 h2 => x_Mul X V FX.out FV.out a b W h1 h2
      have KH := Lib.hid fun a b W h1 h2 => x_Mul (rT t) (qI mass) FP.out FM.out a b W h1 h2
      have KW := Lib.hid fun W => law_whole mass HD.out.m0 HD.out.m1 W
      obtain ⟨F1, hF1⟩ : ∃ x, okE (sumOk Y X) = x := ⟨_, rfl⟩
      obtain ⟨F2, hF2⟩ : ∃ x, okE (mulOk X V) = x := ⟨_, rfl⟩
      obtain ⟨F3, hF3⟩ : ∃ x, okE (mulOk (rT t) (qI mass)) = x := ⟨_, rfl⟩
      rw [hF1, hsum] at KA
      rw [hF2, hprop] at KM
      rw [hF3] at KH
      clear ht hX hY hsum hprop hin hiy hix y0 y1 y2 p0 p1 p2 q0 q1 q2 ht0 ht1 ht2 hu0 hu1 hu2 hv0 hv1 hv2 hF1 hF2 hF3
      obtain ⟨⟨x0, x1⟩, ⟨x2, x3⟩, ⟨x4, x5, x6⟩, ⟨y0, y1, y2⟩, ⟨p0, p1, p2⟩, q0, q1, q2⟩ := HCE.out _ (Below.refl _ _)
      clear x0 x1 x4 x5 x6 y0 y1 y2
      have HC12 : Hid (∀ W, Below wq.heap.size wq W → (W.cell? ⟨gCX, 0, none⟩ = some (.int .i64 GC) ∧ W.cell? ⟨gCX, 1, none⟩ = some (.slice (some ⟨b3, o3, none⟩) k1 c1)) ∧ (W.cell? ⟨b3, o3 + k * 3, none⟩ = some (.bool u0) ∧ W.cell? ⟨b3, o3 + k * 3 + 1, none⟩ = some (.slice A7 u1 c7) ∧ W.cell? ⟨b3, o3 + k * 3 + 2, none⟩ = some (.slice A9 u2 c9)) ∧ (W.cell? ⟨b4, o4 + k * 3, none⟩ = some (.bool v0) ∧ W.cell? ⟨b4, o4 + k * 3 + 1, none⟩ = some (.slice A5 v1 c5) ∧ W.cell? ⟨b4, o4 + k * 3 + 2, none⟩ = some (.slice A4 v2 c4))) := fun W h => ⟨(HCE.out W h).2.1, (HCE.out W h).2.2.2.2.1, (HCE.out W h).2.2.2.2.2⟩
      go_upto_region 12 with fail
      go_cut [11, 12] from 85 to 149 (fun x y wz => Boxed wq F1 (rT t) x y wz)
      case first =>
        go_region_held3 (fun W => (W.cell? ⟨gCX, 0, none⟩ = some (.int .i64 GC) ∧ W.cell? ⟨gCX, 1, none⟩ = some (.slice (some ⟨b3, o3, none⟩) k1 c1)) ∧ (W.cell? ⟨b3, o3 + k * 3, none⟩ = some (.bool u0) ∧ W.cell? ⟨b3, o3 + k * 3 + 1, none⟩ = some (.slice A7 u1 c7) ∧ W.cell? ⟨b3, o3 + k * 3 + 2, none⟩ = some (.slice A9 u2 c9)) ∧ (W.cell? ⟨b4, o4 + k * 3, none⟩ = some (.bool v0) ∧ W.cell? ⟨b4, o4 + k * 3 + 1, none⟩ = some (.slice A5 v1 c5) ∧ W.cell? ⟨b4, o4 + k * 3 + 2, none⟩ = some (.slice A4 v2 c4)))
          (first | exact (HC12.out _ (Below.refl _ _)) | exact (HC12.out _ (drew_below _)) | exact (HC12.out _ (below_drew (below_alloc _ _))) | exact (HC12.out _ (bstep (drew_below _) hb6)) | exact (HC12.out _ (bstep (below_drew (below_alloc _ _)) hb6)) | exact (HC12.out _ (bstep (bstep (drew_below _) hb6) (below_alloc _ _))) | exact (HC12.out _ (Rw.below_put3 (bstep (below_drew (below_alloc _ _)) hb6) (Nat.le_refl _) _ _ _)))
          ((go_at_call 31; (refine (KA.out _ _ _ ?_ ?_).mono ?_); (first | exact PY.out.on (drew_below _) | exact PY.out.on (below_drew (below_alloc _ _))); (first | exact PX.out.on (drew_below _) | exact PX.out.on (below_drew (below_alloc _ _))); rintro e w8 h8; obtain ⟨b6, A10, n8, c10, B8, m8, d8, rfl, ho6, hb6⟩ := h8.open_; have HO6 := Lib.hid ho6; clear h8 ho6; (first | (have hz6 := Lib.hid (after_zero hb6); obtain ⟨s0, s1, s2⟩ := hz6.out.three; obtain ⟨v0, v1, v2⟩ := hz6.out.warm3) | skip)))
        all_goals
          have hbw := cl_below (w := wq) (by first | exact Or.inl hb6 | exact Or.inr hb6)
          go_wp2_with fail
          go_meet
          case rel => first
            | exact Boxed.new HO6.out hbw
            | exact Boxed.put HO6.out hbw hz6.out (Nat.le_refl _)
      case rest =>
      obtain ⟨gS, s11, S12, s13, s14, S15, s16, s17, rfl, rfl, hc7, ho7, hb7, -⟩ := hcut
      have CS := Lib.hid hc7
      have OS := Lib.hid ho7
      have hb := hb7
      replace HB := Lib.hid (bstep HB.out hb)
      clear hc7 ho7 hb7 x2 x3 p0 p1 p2 q0 q1 q2
      have HBa := Lib.hid hb
      have PX2 := Lib.hid (PX.out.on hb)
      have VL2 := Lib.hid (VL.out.on hb)
      have PTb := Lib.hid (PT.out.on hb)
      have PTc := Lib.hid (PT0.out.on hb)
      have HCF : Hid (∀ W, Below wc.heap.size wc W → _) := Lib.hid fun W h => HCE.out W (bstep hb h)
      clear hb
      obtain ⟨wq2, rfl⟩ : ∃ W, W = wc := ⟨wc, rfl⟩
      have HC13 : Hid (∀ W, Below wq2.heap.size wq2 W → (W.cell? ⟨gCL, 0, none⟩ = some (.bool lb) ∧ W.cell? ⟨gCL, 1, none⟩ = some (.slice LA ln lc) ∧ W.cell? ⟨gCL, 2, none⟩ = some (.slice LB lm ld)) ∧ (W.cell? ⟨b4, o4 + k * 3, none⟩ = some (.bool v0) ∧ W.cell? ⟨b4, o4 + k * 3 + 1, none⟩ = some (.slice A5 v1 c5) ∧ W.cell? ⟨b4, o4 + k * 3 + 2, none⟩ = some (.slice A4 v2 c4))) := fun W h => ⟨(HCF.out W h).2.2.1, (HCF.out W h).2.2.2.2.2⟩
      obtain ⟨⟨x4, x5, x6⟩, q0, q1, q2⟩ := HC13.out _ (Below.refl _ _)
      obtain ⟨wq0, rfl⟩ : ∃ W, W = wq := ⟨wq, rfl⟩
      obtain ⟨wq, rfl⟩ : ∃ W, W = wq2 := ⟨wq2, rfl⟩
      go_upto_region 13 with fail
      go_cut [13, 14] from 85 to 149 (fun x y wz => Boxed wq F2 (rT t * qI mass) x y wz)
      case first =>
        go_region_held3 (fun W => (W.cell? ⟨gCL, 0, none⟩ = some (.bool lb) ∧ W.cell? ⟨gCL, 1, none⟩ = some (.slice LA ln lc) ∧ W.cell? ⟨gCL, 2, none⟩ = some (.slice LB lm ld)) ∧ (W.cell? ⟨b4, o4 + k * 3, none⟩ = some (.bool v0) ∧ W.cell? ⟨b4, o4 + k * 3 + 1, none⟩ = some (.slice A5 v1 c5) ∧ W.cell? ⟨b4, o4 + k * 3 + 2, none⟩ = some (.slice A4 v2 c4)))
          (first | exact (HC13.out _ (Below.refl _ _)) | exact (HC13.out _ (drew_below _)) | exact (HC13.out _ (below_drew (below_alloc _ _))) | exact (HC13.out _ (bstep (drew_below _) hb6)) | exact (HC13.out _ (bstep (below_drew (below_alloc _ _)) hb6)) | exact (HC13.out _ (bstep (bstep (drew_below _) hb6) (below_alloc _ _))) | exact (HC13.out _ (Rw.below_put3 (bstep (below_drew (below_alloc _ _)) hb6) (Nat.le_refl _) _ _ _)))
          ((go_at_call 32; (refine (KM.out _ _ _ ?_ ?_).mono ?_); (first | exact PX2.out.on (drew_below _) | exact PX2.out.on (below_drew (below_alloc _ _))); (first | exact VL2.out.on (drew_below _) | exact VL2.out.on (below_drew (below_alloc _ _))); rintro e w8 h8; obtain ⟨b6, A10, n8, c10, B8, m8, d8, rfl, ho6, hb6⟩ := h8.open_; have HO6 := Lib.hid ho6; clear h8 ho6; (first | (have hz6 := Lib.hid (after_zero hb6); obtain ⟨s0, s1, s2⟩ := hz6.out.three; obtain ⟨v0, v1, v2⟩ := hz6.out.warm3) | skip)))
        all_goals
          have hbw := cl_below (w := wq) (by first | exact Or.inl hb6 | exact Or.inr hb6)
          go_wp2_with fail
          go_meet
          case rel => first
            | exact Boxed.new HO6.out hbw
            | exact Boxed.put HO6.out hbw hz6.out (Nat.le_refl _)
      case rest =>
      obtain ⟨gM, s21, S22, s23, s24, S25, s26, s27, rfl, rfl, hc7, ho7, hb7, -⟩ := hcut
      have CM := Lib.hid hc7
      have OM := Lib.hid ho7
      have hb := hb7
      replace HB := Lib.hid (bstep HB.out hb)
      have HBb := Lib.hid hb
      have CS2 := Lib.hid (CS.out.on hb)
      have OS2 := Lib.hid (OS.out.on hb)
      have PTd := Lib.hid (PTb.out.on hb)
      have PTe := Lib.hid (PTc.out.on hb)
      have HCG : Hid (∀ W, Below wc.heap.size wc W → _) := Lib.hid fun W h => HCF.out W (bstep hb h)
      clear hc7 ho7 hb7 hb x4 x5 x6 q0 q1 q2
      obtain ⟨wq2, rfl⟩ : ∃ W, W = wc := ⟨wc, rfl⟩
      obtain ⟨wq1, rfl⟩ : ∃ W, W = wq := ⟨wq, rfl⟩
      obtain ⟨wq, rfl⟩ : ∃ W, W = wq2 := ⟨wq2, rfl⟩
      have HC14 : Hid (∀ W, Below wq.heap.size wq W → (W.cell? ⟨w.heap.size, 0, none⟩ = some (.int .i64 GC) ∧ W.cell? ⟨w.heap.size, 1, none⟩ = some (.slice (some ⟨b2, o2, none⟩) k1 c)) ∧ (W.cell? ⟨b2, o2 + k * 3, none⟩ = some (.bool t0) ∧ W.cell? ⟨b2, o2 + k * 3 + 1, none⟩ = some (.slice A6 t1 c6) ∧ W.cell? ⟨b2, o2 + k * 3 + 2, none⟩ = some (.slice A8 t2 c8))) := fun W h => ⟨(HCG.out W h).1, (HCG.out W h).2.2.2.1⟩
      have HPt := PTd
      go_upto_region 14 with fail
      go_cut [15, 16] from 85 to 149 (fun x y wz => Boxed wq F3 (rT t * qI mass) x y wz)
      case first =>
        refine wp_region_held_drew (S := (fun W => Below wq.heap.size wq W)) (by kernel_rfl) (drew_below _) (fun hHeld => ?_)
        refine wpAnyH_take (i := 0) (oi := { dst := some 114, op := Op.fieldAddr 24 (Operand.tmp 2) 1, type := 0, pos := "law.go:127", after := #[], guard := none }) (v := ?_) rfl (by kernel_rfl) (by kernel_rfl) (by kernel_rfl) (fun _ _ _ h => h) (Or.inl ⟨by rfl, ?_⟩) (by assumption) ?_
        rotate_left
        · intro w hSw
          obtain ⟨⟨x0, x1⟩, y0, y1, y2⟩ := HC14.out _ hSw
          go_simp
          try with_reducible rfl
        try simp only [Act.put, List.setIfInBounds_toArray, List.set_cons_zero, List.set_cons_succ]
        refine wpAnyH_take (i := 1) (oi := { dst := some 115, op := Op.load 22 (Operand.tmp 114), type := 22, pos := "law.go:127", after := #[{ on := 0, ground := Ground.data }], guard := none }) (v := ?_) rfl (by kernel_rfl) (by kernel_rfl) (by kernel_rfl) (fun _ _ _ h => h) (Or.inl ⟨by rfl, ?_⟩) (by assumption) ?_
        rotate_left
        · intro w hSw
          obtain ⟨⟨x0, x1⟩, y0, y1, y2⟩ := HC14.out _ hSw
          go_simp
          try with_reducible rfl
        try simp only [Act.put, List.setIfInBounds_toArray, List.set_cons_zero, List.set_cons_succ]
        refine wpAnyH_take (i := 2) (oi := { dst := some 116, op := Op.move (Operand.tmp 10), type := 3, pos := "law.go:127", after := #[], guard := none }) (v := ?_) rfl (by kernel_rfl) (by kernel_rfl) (by kernel_rfl) (fun _ _ _ h => h) (Or.inl ⟨by rfl, ?_⟩) (by assumption) ?_
        rotate_left
        · intro w hSw
          obtain ⟨⟨x0, x1⟩, y0, y1, y2⟩ := HC14.out _ hSw
          go_simp
          try with_reducible rfl
        try simp only [Act.put, List.setIfInBounds_toArray, List.set_cons_zero, List.set_cons_succ]
        refine wpAnyH_take (i := 3) (oi := { dst := some 117, op := Op.indexAddr 22 (Operand.tmp 115) (Operand.tmp 116), type := 0, pos := "law.go:127", after := #[{ on := 1, ground := Ground.data }, { on := 2, ground := Ground.data }], guard := none }) (v := ?_) rfl (by kernel_rfl) (by kernel_rfl) (by kernel_rfl) (fun _ _ _ h => h) (Or.inl ⟨by rfl, ?_⟩) (by assumption) ?_
        rotate_left
        · intro w hSw
          obtain ⟨⟨x0, x1⟩, y0, y1, y2⟩ := HC14.out _ hSw
          go_simp
          try with_reducible rfl
        try simp only [Act.put, List.setIfInBounds_toArray, List.set_cons_zero, List.set_cons_succ]
        refine wpAnyH_take (i := 4) (oi := { dst := some 118, op := Op.load 33 (Operand.tmp 117), type := 33, pos := "law.go:127", after := #[{ on := 3, ground := Ground.data }], guard := none }) (v := ?_) rfl (by kernel_rfl) (by kernel_rfl) (by kernel_rfl) (fun _ _ _ h => h) (Or.inl ⟨by rfl, ?_⟩) (by assumption) ?_
        rotate_left
        · intro w hSw
          obtain ⟨⟨x0, x1⟩, y0, y1, y2⟩ := HC14.out _ hSw
          go_simp
          try with_reducible rfl
        try simp only [Act.put, List.setIfInBounds_toArray, List.set_cons_zero, List.set_cons_succ]
        refine wpAnyH_take (i := 5) (oi := { dst := some 119, op := Op.move (Operand.tmp 1), type := 3, pos := "law.go:127", after := #[], guard := none }) (v := ?_) rfl (by kernel_rfl) (by kernel_rfl) (by kernel_rfl) (fun _ _ _ h => h) (Or.inl ⟨by rfl, ?_⟩) (by assumption) ?_
        rotate_left
        · intro w hSw
          obtain ⟨⟨x0, x1⟩, y0, y1, y2⟩ := HC14.out _ hSw
          go_simp
          try with_reducible rfl
        try simp only [Act.put, List.setIfInBounds_toArray, List.set_cons_zero, List.set_cons_succ]
        obtain ⟨wd, hwd⟩ : ∃ W, wq.drew = W := ⟨_, rfl⟩
        have HBd : Hid (Below wq.heap.size wq wd) := hwd ▸ drew_below _
        rw [hwd]
        clear hwd hHeld
        refine wpAnyH_ready (rs := [6, 11]) (by kernel_rfl) (by simp) ?_
        refine (AllReadyH.cons (o := { dst := some 120, op := Op.call { callee := Callee.value (Operand.func 33), args := #[Operand.tmp 119], argTypes := #[3] }, type := 33, pos := "law.go:127", after := #[{ on := 5, ground := Ground.data }], guard := none }) rfl (fun K hK => ?_) (AllReadyH.cons (o := { dst := some 15, op := Op.alloc 33, type := 0, pos := "law.go:127", after := #[], guard := none }) rfl (fun K hK => ?_) AllReadyH.nil))
        · go_simp
          refine (KW.out _).mono ?_
          rintro e wz1 ⟨v1, rfl, hv, hb⟩
          obtain ⟨ub, UA, un, uc, UB, um, ud, rfl, hv⟩ := isR_open hv
          have HU1 := Lib.hid hv
          have HB1 := Lib.hid (bstep HBd.out hb)
          go_wp2_with fail
          refine hK.out _ _ ?_ (fun hHeld => ?_)
          · exact HB1.out
          clear hK K hHeld hv hb
          try simp only [Act.put, List.setIfInBounds_toArray, List.set_cons_zero, List.set_cons_succ]
          refine wpAnyH_ready (rs := [7, 11]) (by kernel_rfl) (by simp) ?_
          refine (AllReadyH.cons (o := { dst := some 121, op := Op.call { callee := Callee.value (Operand.func 32), args := #[Operand.tmp 118, Operand.tmp 120], argTypes := #[33, 33] }, type := 34, pos := "law.go:127", after := #[{ on := 4, ground := Ground.data }, { on := 6, ground := Ground.data }, { on := 6, ground := Ground.chain }], guard := none }) rfl (fun K hK => ?_) (AllReadyH.cons (o := { dst := some 15, op := Op.alloc 33, type := 0, pos := "law.go:127", after := #[], guard := none }) rfl (fun K hK => ?_) AllReadyH.nil))
          · go_simp
            refine (KH.out _ _ wz1 (HPt.out.on HB1.out) HU1.out).mono ?_
            rintro e wz2 h
            obtain ⟨zb, ZA, zn, zc, ZB, zm, zd, rfl, ho, hb⟩ := RRes.op h
            have HV2 := Lib.hid ho
            have HB2 := Lib.hid (bstep HB1.out hb)
            go_wp2_with fail
            refine hK.out _ _ ?_ (fun hHeld => ?_)
            · exact HB2.out
            clear hK K h ho hb
            try simp only [Act.put, List.setIfInBounds_toArray, List.set_cons_zero, List.set_cons_succ]
            refine wpAnyH_take (i := 8) (oi := { dst := some 113, op := Op.move (Operand.tmp 121), type := 34, pos := "law.go:127", after := #[{ on := 7, ground := Ground.data }], guard := none }) (v := ?_) rfl (by kernel_rfl) (by kernel_rfl) (by kernel_rfl) (fun _ _ _ h => h) (Or.inl ⟨by rfl, ?_⟩) (by assumption) ?_
            rotate_left
            · intro w hSw
              go_simp
              try with_reducible rfl
            try simp only [Act.put, List.setIfInBounds_toArray, List.set_cons_zero, List.set_cons_succ]
            refine wpAnyH_take (i := 9) (oi := { dst := some 122, op := Op.extract (Operand.tmp 113) 0, type := 33, pos := "law.go:127", after := #[{ on := 8, ground := Ground.data }], guard := none }) (v := ?_) rfl (by kernel_rfl) (by kernel_rfl) (by kernel_rfl) (fun _ _ _ h => h) (Or.inl ⟨by rfl, ?_⟩) (by assumption) ?_
            rotate_left
            · intro w hSw
              go_simp
              try with_reducible rfl
            try simp only [Act.put, List.setIfInBounds_toArray, List.set_cons_zero, List.set_cons_succ]
            refine wpAnyH_take (i := 10) (oi := { dst := some 123, op := Op.extract (Operand.tmp 113) 1, type := 27, pos := "law.go:127", after := #[{ on := 8, ground := Ground.data }, { on := 12, ground := Ground.gcOnly Departure.lateStores }], guard := none }) (v := ?_) rfl (by kernel_rfl) (by kernel_rfl) (by kernel_rfl) (fun _ _ _ h => h) (Or.inl ⟨by rfl, ?_⟩) (by assumption) ?_
            rotate_left
            · intro w hSw
              go_simp
              try with_reducible rfl
            try simp only [Act.put, List.setIfInBounds_toArray, List.set_cons_zero, List.set_cons_succ]
            clear hHeld
            refine wpAnyH_ready (rs := [11]) (by kernel_rfl) (by simp) ?_
            refine (AllReadyH.cons (o := { dst := some 15, op := Op.alloc 33, type := 0, pos := "law.go:127", after := #[], guard := none }) rfl (fun K hK => ?_) AllReadyH.nil)
            · go_simp
              refine hK.out _ _ ?_ (fun hHeld => ?_)
              · exact bstep HB2.out (below_alloc _ _)
              clear hK K hHeld
              try simp only [Act.put, List.setIfInBounds_toArray, List.set_cons_zero, List.set_cons_succ]
              obtain ⟨wz3, hw3⟩ : ∃ W, wz2.alloc (.cells #[.bool false, .slice none 0 0, .slice none 0 0] 33) = W := ⟨_, rfl⟩
              obtain ⟨gz, hg3⟩ : ∃ g, wz2.heap.size = g := ⟨_, rfl⟩
              have hb : Below wz2.heap.size wz2 wz3 := hw3 ▸ below_alloc _ _
              have CZ3 : Hid (Rw.Cel wz3 gz [.bool false, .slice none 0 0, .slice none 0 0]) := hw3 ▸ hg3 ▸ Rw.Cel.new wz2 [_, _, _] _
              have Lgz : Hid (wq.heap.size ≤ gz) := Lib.hid (by have := HB2.out.size; omega)
              have HB3 := Lib.hid (bstep HB2.out hb)
              have HV3 := Lib.hid (OutR.on HV2.out hb)
              rw [hw3, hg3]
              clear hw3 hg3 hb
              refine wpAnyH_ready (rs := [12]) (by kernel_rfl) (by simp) ?_
              refine (AllReadyH.cons (o := { dst := none, op := Op.store 33 (Operand.tmp 15) (Operand.tmp 122), type := 0, pos := "law.go:127", after := #[{ on := 11, ground := Ground.data }, { on := 9, ground := Ground.data }, { on := 7, ground := Ground.chain }, { on := 0, ground := Ground.phase }, { on := 1, ground := Ground.phase }, { on := 2, ground := Ground.phase }, { on := 3, ground := Ground.phase }, { on := 4, ground := Ground.phase }, { on := 5, ground := Ground.phase }, { on := 6, ground := Ground.phase }, { on := 7, ground := Ground.phase }, { on := 8, ground := Ground.phase }, { on := 9, ground := Ground.phase }, { on := 10, ground := Ground.textOnly Departure.lateStores }, { on := 11, ground := Ground.phase }], guard := none }) rfl (fun K hK => ?_) AllReadyH.nil)
              · obtain ⟨s0, s1, s2⟩ := CZ3.out.three
                obtain ⟨f0, f1, f2⟩ := CZ3.out.warm3
                go_simp
                refine hK.out _ _ ?_ (fun hHeld => ?_)
                · exact Rw.below_put3 HB3.out Lgz.out _ _ _
                clear hK K s0 s1 s2 f0 f1 f2
                try simp only [Act.put, List.setIfInBounds_toArray, List.set_cons_zero, List.set_cons_succ]
                obtain ⟨wz4, hw4⟩ : ∃ W, ((wz3.setCell ⟨gz, 0, none⟩ (.bool zb)).setCell ⟨gz, 1, none⟩ (.slice ZA zn zc)).setCell ⟨gz, 2, none⟩ (.slice ZB zm zd) = W := ⟨_, rfl⟩
                have CZ4 : Hid (Rw.Cel wz4 gz [.bool zb, .slice ZA zn zc, .slice ZB zm zd]) := hw4 ▸ CZ3.out.put3 _ _ _
                have HB4 : Hid (Below wq.heap.size wq wz4) := hw4 ▸ Rw.below_put3 HB3.out Lgz.out _ _ _
                have HV4 : Hid (OutR wz4 (.agg #[.bool zb, .slice ZA zn zc, .slice ZB zm zd]) F3 (rT t * qI mass)) := hw4 ▸ OutR.put3 HV3.out (cel_root CZ3.out) (.bool zb) (.slice ZA zn zc) (.slice ZB zm zd)
                rw [hw4]
                clear hw4 hHeld
                have hHeld := HB4.out
                refine wpAnyH_take (i := 13) (oi := { dst := some 16, op := Op.assign (Operand.tmp 123), type := 27, pos := "law.go:127", after := #[{ on := 10, ground := Ground.data }, { on := 12, ground := Ground.chain }, { on := 0, ground := Ground.phase }, { on := 1, ground := Ground.phase }, { on := 2, ground := Ground.phase }, { on := 3, ground := Ground.phase }, { on := 4, ground := Ground.phase }, { on := 5, ground := Ground.phase }, { on := 6, ground := Ground.phase }, { on := 7, ground := Ground.phase }, { on := 8, ground := Ground.phase }, { on := 9, ground := Ground.phase }, { on := 10, ground := Ground.phase }, { on := 11, ground := Ground.phase }, { on := 12, ground := Ground.phase }], guard := none }) (v := ?_) rfl (by kernel_rfl) (by kernel_rfl) (by kernel_rfl) (fun _ _ _ h => h) (Or.inl ⟨by rfl, ?_⟩) (by assumption) ?_
                rotate_left
                · intro w hSw
                  go_simp
                  try with_reducible rfl
                try simp only [Act.put, List.setIfInBounds_toArray, List.set_cons_zero, List.set_cons_succ]
                refine wpAnyH_done (by kernel_rfl) ?_ _
                go_wp2_with fail
                go_meet
                case rel => exact ⟨gz, zb, ZA, zn, zc, ZB, zm, zd, rfl, rfl, CZ4.out, HV4.out, HB4.out, Lgz.out⟩
          · go_simp
            refine hK.out _ _ ?_ (fun hHeld => ?_)
            · exact bstep HB1.out (below_alloc _ _)
            clear hK K hHeld
            try simp only [Act.put, List.setIfInBounds_toArray, List.set_cons_zero, List.set_cons_succ]
            obtain ⟨wz5, hw5⟩ : ∃ W, wz1.alloc (.cells #[.bool false, .slice none 0 0, .slice none 0 0] 33) = W := ⟨_, rfl⟩
            obtain ⟨gz, hg5⟩ : ∃ g, wz1.heap.size = g := ⟨_, rfl⟩
            have hb : Below wz1.heap.size wz1 wz5 := hw5 ▸ below_alloc _ _
            have CZ5 : Hid (Rw.Cel wz5 gz [.bool false, .slice none 0 0, .slice none 0 0]) := hw5 ▸ hg5 ▸ Rw.Cel.new wz1 [_, _, _] _
            have Lgz : Hid (wq.heap.size ≤ gz) := Lib.hid (by have := HB1.out.size; omega)
            have HB5 := Lib.hid (bstep HB1.out hb)
            have HU5 := Lib.hid (IsR.on HU1.out hb)
            rw [hw5, hg5]
            clear hw5 hg5 hb
            refine wpAnyH_ready (rs := [7]) (by kernel_rfl) (by simp) ?_
            refine (AllReadyH.cons (o := { dst := some 121, op := Op.call { callee := Callee.value (Operand.func 32), args := #[Operand.tmp 118, Operand.tmp 120], argTypes := #[33, 33] }, type := 34, pos := "law.go:127", after := #[{ on := 4, ground := Ground.data }, { on := 6, ground := Ground.data }, { on := 6, ground := Ground.chain }], guard := none }) rfl (fun K hK => ?_) AllReadyH.nil)
            · go_simp
              refine (KH.out _ _ wz5 (HPt.out.on HB5.out) HU5.out).mono ?_
              rintro e wz6 h
              obtain ⟨zb, ZA, zn, zc, ZB, zm, zd, rfl, ho, hb⟩ := RRes.op h
              have HV6 := Lib.hid ho
              have HB6 := Lib.hid (bstep HB5.out hb)
              have CZ6 := Lib.hid (CZ5.out.on hb)
              go_wp2_with fail
              refine hK.out _ _ ?_ (fun hHeld => ?_)
              · exact HB6.out
              clear hK K h ho hb
              try simp only [Act.put, List.setIfInBounds_toArray, List.set_cons_zero, List.set_cons_succ]
              refine wpAnyH_take (i := 8) (oi := { dst := some 113, op := Op.move (Operand.tmp 121), type := 34, pos := "law.go:127", after := #[{ on := 7, ground := Ground.data }], guard := none }) (v := ?_) rfl (by kernel_rfl) (by kernel_rfl) (by kernel_rfl) (fun _ _ _ h => h) (Or.inl ⟨by rfl, ?_⟩) (by assumption) ?_
              rotate_left
              · intro w hSw
                go_simp
                try with_reducible rfl
              try simp only [Act.put, List.setIfInBounds_toArray, List.set_cons_zero, List.set_cons_succ]
              refine wpAnyH_take (i := 9) (oi := { dst := some 122, op := Op.extract (Operand.tmp 113) 0, type := 33, pos := "law.go:127", after := #[{ on := 8, ground := Ground.data }], guard := none }) (v := ?_) rfl (by kernel_rfl) (by kernel_rfl) (by kernel_rfl) (fun _ _ _ h => h) (Or.inl ⟨by rfl, ?_⟩) (by assumption) ?_
              rotate_left
              · intro w hSw
                go_simp
                try with_reducible rfl
              try simp only [Act.put, List.setIfInBounds_toArray, List.set_cons_zero, List.set_cons_succ]
              refine wpAnyH_take (i := 10) (oi := { dst := some 123, op := Op.extract (Operand.tmp 113) 1, type := 27, pos := "law.go:127", after := #[{ on := 8, ground := Ground.data }, { on := 12, ground := Ground.gcOnly Departure.lateStores }], guard := none }) (v := ?_) rfl (by kernel_rfl) (by kernel_rfl) (by kernel_rfl) (fun _ _ _ h => h) (Or.inl ⟨by rfl, ?_⟩) (by assumption) ?_
              rotate_left
              · intro w hSw
                go_simp
                try with_reducible rfl
              try simp only [Act.put, List.setIfInBounds_toArray, List.set_cons_zero, List.set_cons_succ]
              clear hHeld
              refine wpAnyH_ready (rs := [12]) (by kernel_rfl) (by simp) ?_
              refine (AllReadyH.cons (o := { dst := none, op := Op.store 33 (Operand.tmp 15) (Operand.tmp 122), type := 0, pos := "law.go:127", after := #[{ on := 11, ground := Ground.data }, { on := 9, ground := Ground.data }, { on := 7, ground := Ground.chain }, { on := 0, ground := Ground.phase }, { on := 1, ground := Ground.phase }, { on := 2, ground := Ground.phase }, { on := 3, ground := Ground.phase }, { on := 4, ground := Ground.phase }, { on := 5, ground := Ground.phase }, { on := 6, ground := Ground.phase }, { on := 7, ground := Ground.phase }, { on := 8, ground := Ground.phase }, { on := 9, ground := Ground.phase }, { on := 10, ground := Ground.textOnly Departure.lateStores }, { on := 11, ground := Ground.phase }], guard := none }) rfl (fun K hK => ?_) AllReadyH.nil)
              · obtain ⟨s0, s1, s2⟩ := CZ6.out.three
                obtain ⟨f0, f1, f2⟩ := CZ6.out.warm3
                go_simp
                refine hK.out _ _ ?_ (fun hHeld => ?_)
                · exact Rw.below_put3 HB6.out Lgz.out _ _ _
                clear hK K s0 s1 s2 f0 f1 f2
                try simp only [Act.put, List.setIfInBounds_toArray, List.set_cons_zero, List.set_cons_succ]
                obtain ⟨wz7, hw7⟩ : ∃ W, ((wz6.setCell ⟨gz, 0, none⟩ (.bool zb)).setCell ⟨gz, 1, none⟩ (.slice ZA zn zc)).setCell ⟨gz, 2, none⟩ (.slice ZB zm zd) = W := ⟨_, rfl⟩
                have CZ7 : Hid (Rw.Cel wz7 gz [.bool zb, .slice ZA zn zc, .slice ZB zm zd]) := hw7 ▸ CZ6.out.put3 _ _ _
                have HB7 : Hid (Below wq.heap.size wq wz7) := hw7 ▸ Rw.below_put3 HB6.out Lgz.out _ _ _
                have HV7 : Hid (OutR wz7 (.agg #[.bool zb, .slice ZA zn zc, .slice ZB zm zd]) F3 (rT t * qI mass)) := hw7 ▸ OutR.put3 HV6.out (cel_root CZ6.out) (.bool zb) (.slice ZA zn zc) (.slice ZB zm zd)
                rw [hw7]
                clear hw7 hHeld
                have hHeld := HB7.out
                refine wpAnyH_take (i := 13) (oi := { dst := some 16, op := Op.assign (Operand.tmp 123), type := 27, pos := "law.go:127", after := #[{ on := 10, ground := Ground.data }, { on := 12, ground := Ground.chain }, { on := 0, ground := Ground.phase }, { on := 1, ground := Ground.phase }, { on := 2, ground := Ground.phase }, { on := 3, ground := Ground.phase }, { on := 4, ground := Ground.phase }, { on := 5, ground := Ground.phase }, { on := 6, ground := Ground.phase }, { on := 7, ground := Ground.phase }, { on := 8, ground := Ground.phase }, { on := 9, ground := Ground.phase }, { on := 10, ground := Ground.phase }, { on := 11, ground := Ground.phase }, { on := 12, ground := Ground.phase }], guard := none }) (v := ?_) rfl (by kernel_rfl) (by kernel_rfl) (by kernel_rfl) (fun _ _ _ h => h) (Or.inl ⟨by rfl, ?_⟩) (by assumption) ?_
                rotate_left
                · intro w hSw
                  go_simp
                  try with_reducible rfl
                try simp only [Act.put, List.setIfInBounds_toArray, List.set_cons_zero, List.set_cons_succ]
                refine wpAnyH_done (by kernel_rfl) ?_ _
                go_wp2_with fail
                go_meet
                case rel => exact ⟨gz, zb, ZA, zn, zc, ZB, zm, zd, rfl, rfl, CZ7.out, HV7.out, HB7.out, Lgz.out⟩
        · go_simp
          refine hK.out _ _ ?_ (fun hHeld => ?_)
          · exact bstep HBd.out (below_alloc _ _)
          clear hK K hHeld
          try simp only [Act.put, List.setIfInBounds_toArray, List.set_cons_zero, List.set_cons_succ]
          obtain ⟨wz8, hw8⟩ : ∃ W, wd.alloc (.cells #[.bool false, .slice none 0 0, .slice none 0 0] 33) = W := ⟨_, rfl⟩
          obtain ⟨gz, hg8⟩ : ∃ g, wd.heap.size = g := ⟨_, rfl⟩
          have hb : Below wd.heap.size wd wz8 := hw8 ▸ below_alloc _ _
          have CZ8 : Hid (Rw.Cel wz8 gz [.bool false, .slice none 0 0, .slice none 0 0]) := hw8 ▸ hg8 ▸ Rw.Cel.new wd [_, _, _] _
          have Lgz : Hid (wq.heap.size ≤ gz) := Lib.hid (by have := HBd.out.size; omega)
          have HB8 := Lib.hid (bstep HBd.out hb)
          rw [hw8, hg8]
          clear hw8 hg8 hb
          refine wpAnyH_ready (rs := [6]) (by kernel_rfl) (by simp) ?_
          refine (AllReadyH.cons (o := { dst := some 120, op := Op.call { callee := Callee.value (Operand.func 33), args := #[Operand.tmp 119], argTypes := #[3] }, type := 33, pos := "law.go:127", after := #[{ on := 5, ground := Ground.data }], guard := none }) rfl (fun K hK => ?_) AllReadyH.nil)
          · go_simp
            refine (KW.out _).mono ?_
            rintro e wz9 ⟨v9, rfl, hv, hb⟩
            obtain ⟨ub, UA, un, uc, UB, um, ud, rfl, hv⟩ := isR_open hv
            have HU9 := Lib.hid hv
            have HB9 := Lib.hid (bstep HB8.out hb)
            have CZ9 := Lib.hid (CZ8.out.on hb)
            go_wp2_with fail
            refine hK.out _ _ ?_ (fun hHeld => ?_)
            · exact HB9.out
            clear hK K hHeld hv hb
            try simp only [Act.put, List.setIfInBounds_toArray, List.set_cons_zero, List.set_cons_succ]
            refine wpAnyH_ready (rs := [7]) (by kernel_rfl) (by simp) ?_
            refine (AllReadyH.cons (o := { dst := some 121, op := Op.call { callee := Callee.value (Operand.func 32), args := #[Operand.tmp 118, Operand.tmp 120], argTypes := #[33, 33] }, type := 34, pos := "law.go:127", after := #[{ on := 4, ground := Ground.data }, { on := 6, ground := Ground.data }, { on := 6, ground := Ground.chain }], guard := none }) rfl (fun K hK => ?_) AllReadyH.nil)
            · go_simp
              refine (KH.out _ _ wz9 (HPt.out.on HB9.out) HU9.out).mono ?_
              rintro e wz10 h
              obtain ⟨zb, ZA, zn, zc, ZB, zm, zd, rfl, ho, hb⟩ := RRes.op h
              have HV10 := Lib.hid ho
              have HB10 := Lib.hid (bstep HB9.out hb)
              have CZ10 := Lib.hid (CZ9.out.on hb)
              go_wp2_with fail
              refine hK.out _ _ ?_ (fun hHeld => ?_)
              · exact HB10.out
              clear hK K h ho hb
              try simp only [Act.put, List.setIfInBounds_toArray, List.set_cons_zero, List.set_cons_succ]
              refine wpAnyH_take (i := 8) (oi := { dst := some 113, op := Op.move (Operand.tmp 121), type := 34, pos := "law.go:127", after := #[{ on := 7, ground := Ground.data }], guard := none }) (v := ?_) rfl (by kernel_rfl) (by kernel_rfl) (by kernel_rfl) (fun _ _ _ h => h) (Or.inl ⟨by rfl, ?_⟩) (by assumption) ?_
              rotate_left
              · intro w hSw
                go_simp
                try with_reducible rfl
              try simp only [Act.put, List.setIfInBounds_toArray, List.set_cons_zero, List.set_cons_succ]
              refine wpAnyH_take (i := 9) (oi := { dst := some 122, op := Op.extract (Operand.tmp 113) 0, type := 33, pos := "law.go:127", after := #[{ on := 8, ground := Ground.data }], guard := none }) (v := ?_) rfl (by kernel_rfl) (by kernel_rfl) (by kernel_rfl) (fun _ _ _ h => h) (Or.inl ⟨by rfl, ?_⟩) (by assumption) ?_
              rotate_left
              · intro w hSw
                go_simp
                try with_reducible rfl
              try simp only [Act.put, List.setIfInBounds_toArray, List.set_cons_zero, List.set_cons_succ]
              refine wpAnyH_take (i := 10) (oi := { dst := some 123, op := Op.extract (Operand.tmp 113) 1, type := 27, pos := "law.go:127", after := #[{ on := 8, ground := Ground.data }, { on := 12, ground := Ground.gcOnly Departure.lateStores }], guard := none }) (v := ?_) rfl (by kernel_rfl) (by kernel_rfl) (by kernel_rfl) (fun _ _ _ h => h) (Or.inl ⟨by rfl, ?_⟩) (by assumption) ?_
              rotate_left
              · intro w hSw
                go_simp
                try with_reducible rfl
              try simp only [Act.put, List.setIfInBounds_toArray, List.set_cons_zero, List.set_cons_succ]
              clear hHeld
              refine wpAnyH_ready (rs := [12]) (by kernel_rfl) (by simp) ?_
              refine (AllReadyH.cons (o := { dst := none, op := Op.store 33 (Operand.tmp 15) (Operand.tmp 122), type := 0, pos := "law.go:127", after := #[{ on := 11, ground := Ground.data }, { on := 9, ground := Ground.data }, { on := 7, ground := Ground.chain }, { on := 0, ground := Ground.phase }, { on := 1, ground := Ground.phase }, { on := 2, ground := Ground.phase }, { on := 3, ground := Ground.phase }, { on := 4, ground := Ground.phase }, { on := 5, ground := Ground.phase }, { on := 6, ground := Ground.phase }, { on := 7, ground := Ground.phase }, { on := 8, ground := Ground.phase }, { on := 9, ground := Ground.phase }, { on := 10, ground := Ground.textOnly Departure.lateStores }, { on := 11, ground := Ground.phase }], guard := none }) rfl (fun K hK => ?_) AllReadyH.nil)
              · obtain ⟨s0, s1, s2⟩ := CZ10.out.three
                obtain ⟨f0, f1, f2⟩ := CZ10.out.warm3
                go_simp
                refine hK.out _ _ ?_ (fun hHeld => ?_)
                · exact Rw.below_put3 HB10.out Lgz.out _ _ _
                clear hK K s0 s1 s2 f0 f1 f2
                try simp only [Act.put, List.setIfInBounds_toArray, List.set_cons_zero, List.set_cons_succ]
                obtain ⟨wz11, hw11⟩ : ∃ W, ((wz10.setCell ⟨gz, 0, none⟩ (.bool zb)).setCell ⟨gz, 1, none⟩ (.slice ZA zn zc)).setCell ⟨gz, 2, none⟩ (.slice ZB zm zd) = W := ⟨_, rfl⟩
                have CZ11 : Hid (Rw.Cel wz11 gz [.bool zb, .slice ZA zn zc, .slice ZB zm zd]) := hw11 ▸ CZ10.out.put3 _ _ _
                have HB11 : Hid (Below wq.heap.size wq wz11) := hw11 ▸ Rw.below_put3 HB10.out Lgz.out _ _ _
                have HV11 : Hid (OutR wz11 (.agg #[.bool zb, .slice ZA zn zc, .slice ZB zm zd]) F3 (rT t * qI mass)) := hw11 ▸ OutR.put3 HV10.out (cel_root CZ10.out) (.bool zb) (.slice ZA zn zc) (.slice ZB zm zd)
                rw [hw11]
                clear hw11 hHeld
                have hHeld := HB11.out
                refine wpAnyH_take (i := 13) (oi := { dst := some 16, op := Op.assign (Operand.tmp 123), type := 27, pos := "law.go:127", after := #[{ on := 10, ground := Ground.data }, { on := 12, ground := Ground.chain }, { on := 0, ground := Ground.phase }, { on := 1, ground := Ground.phase }, { on := 2, ground := Ground.phase }, { on := 3, ground := Ground.phase }, { on := 4, ground := Ground.phase }, { on := 5, ground := Ground.phase }, { on := 6, ground := Ground.phase }, { on := 7, ground := Ground.phase }, { on := 8, ground := Ground.phase }, { on := 9, ground := Ground.phase }, { on := 10, ground := Ground.phase }, { on := 11, ground := Ground.phase }, { on := 12, ground := Ground.phase }], guard := none }) (v := ?_) rfl (by kernel_rfl) (by kernel_rfl) (by kernel_rfl) (fun _ _ _ h => h) (Or.inl ⟨by rfl, ?_⟩) (by assumption) ?_
                rotate_left
                · intro w hSw
                  go_simp
                  try with_reducible rfl
                try simp only [Act.put, List.setIfInBounds_toArray, List.set_cons_zero, List.set_cons_succ]
                refine wpAnyH_done (by kernel_rfl) ?_ _
                go_wp2_with fail
                go_meet
                case rel => exact ⟨gz, zb, ZA, zn, zc, ZB, zm, zd, rfl, rfl, CZ11.out, HV11.out, HB11.out, Lgz.out⟩
      case rest =>
      obtain ⟨gH, s31, S32, s33, s34, S35, s36, s37, rfl, rfl, hc7, ho7, hb7, -⟩ := hcut
      have CH := Lib.hid hc7
      have OH := Lib.hid ho7
      have hb := hb7
      replace HB := Lib.hid (bstep HB.out hb)
      have CS3 := Lib.hid (CS2.out.on hb)
      have OS3 := Lib.hid (OS2.out.on hb)
      have CM3 := Lib.hid (CM.out.on hb)
      have OM3 := Lib.hid (OM.out.on hb)
      have PTf := Lib.hid (PTe.out.on hb)
      have HCH : Hid (∀ W, Below wc.heap.size wc W → _) := Lib.hid fun W h => HC14.out W (bstep hb h)
      have HBr := Lib.hid (bstep (bstep (bstep BL.out HBa.out) HBb.out) hb7)
      clear hc7 ho7 hb7 hb
      obtain ⟨wq2, rfl⟩ : ∃ W, W = wc := ⟨wc, rfl⟩
      obtain ⟨wq3, rfl⟩ : ∃ W, W = wq := ⟨wq, rfl⟩
      obtain ⟨wq, rfl⟩ : ∃ W, W = wq2 := ⟨wq2, rfl⟩
      have HC15 : Hid (∀ W, Below wq.heap.size wq W → (W.cell? ⟨gS, 0, none⟩ = some (.bool s11) ∧ W.cell? ⟨gS, 1, none⟩ = some (.slice S12 s13 s14) ∧ W.cell? ⟨gS, 2, none⟩ = some (.slice S15 s16 s17)) ∧ (W.cell? ⟨gM, 0, none⟩ = some (.bool s21) ∧ W.cell? ⟨gM, 1, none⟩ = some (.slice S22 s23 s24) ∧ W.cell? ⟨gM, 2, none⟩ = some (.slice S25 s26 s27)) ∧ (W.cell? ⟨gH, 0, none⟩ = some (.bool s31) ∧ W.cell? ⟨gH, 1, none⟩ = some (.slice S32 s33 s34) ∧ W.cell? ⟨gH, 2, none⟩ = some (.slice S35 s36 s37)) ∧ (W.cell? ⟨w.heap.size, 0, none⟩ = some (.int .i64 GC) ∧ W.cell? ⟨w.heap.size, 1, none⟩ = some (.slice (some ⟨b2, o2, none⟩) k1 c)) ∧ (W.cell? ⟨b2, o2 + k * 3, none⟩ = some (.bool t0) ∧ W.cell? ⟨b2, o2 + k * 3 + 1, none⟩ = some (.slice A6 t1 c6) ∧ W.cell? ⟨b2, o2 + k * 3 + 2, none⟩ = some (.slice A8 t2 c8))) := fun W h => ⟨(CS3.out.on h).three, (CM3.out.on h).three, (CH.out.on h).three, (HCH.out W h).1, (HCH.out W h).2⟩
      have hbr : Below w7.heap.size w7 wq := HBr.out
      have HBR := Lib.hid hbr
      clear hbr
      go_upto_region 15 with fail
      go_cut [149] from 85 to 149 (fun x wz => x = .bool false ∧ Below wq.heap.size wq wz)
      case first =>
        by_cases e1 : F1 = 0
        · subst e1
          have J1 : Hid (∀ W, Below wq.heap.size wq W → Calls Tryz.prog 19 #[.agg #[.bool s11, .slice S12 s13 s14, .slice S15 s16 s17], .agg #[.bool t0, .slice A6 t1 c6, .slice A8 t2 c8]] W fun e w' => e = .returned (.bool true) ∧ Below W.heap.size W w') := Lib.hid fun W h => same_num (t := t) (by have := IsR.on (OS3.out.zero rfl) h; exact (isR_as VT.out this)) (InR.on PTf.out h)
          by_cases e2 : F2 = 0
          · subst e2
            by_cases e3 : F3 = 0
            · subst e3
              have J2 : Hid (∀ W, Below wq.heap.size wq W → Calls Tryz.prog 19 #[.agg #[.bool s21, .slice S22 s23 s24, .slice S25 s26 s27], .agg #[.bool s31, .slice S32 s33 s34, .slice S35 s36 s37]] W fun e w' => e = .returned (.bool true) ∧ Below W.heap.size W w') := Lib.hid fun W h => same_num (t := triR (rT t * qI mass)) (IsR.on (OM3.out.zero rfl) h) (IsR.on (OH.out.zero rfl) h)
              refine wp_region_held_drew (S := (fun W => Below wq.heap.size wq W)) (by kernel_rfl) (drew_below _) (fun hHeld => ?_)
              refine wpAnyH_take (i := 0) (oi := { dst := some 124, op := Op.move (Operand.tmp 12), type := 27, pos := "law.go:128", after := #[], guard := none }) (v := ?_) rfl (by kernel_rfl) (by kernel_rfl) (by kernel_rfl) (fun _ _ _ h => h) (Or.inl ⟨by rfl, ?_⟩) (by assumption) ?_
              rotate_left
              · intro w hSw
                go_simp
                try with_reducible rfl
              try simp only [Act.put, List.setIfInBounds_toArray, List.set_cons_zero, List.set_cons_succ]
              refine wpAnyH_take (i := 1) (oi := { dst := some 125, op := Op.binOp BinOp.eql 27 (Operand.tmp 124) (Operand.const (Value.int IntKind.i64 0)) 27, type := 4, pos := "law.go:128", after := #[{ on := 0, ground := Ground.data }], guard := none }) (v := ?_) rfl (by kernel_rfl) (by kernel_rfl) (by kernel_rfl) (fun _ _ _ h => h) (Or.inl ⟨by rfl, ?_⟩) (by assumption) ?_
              rotate_left
              · intro w hSw
                go_simp
                try with_reducible rfl
              try simp only [Act.put, List.setIfInBounds_toArray, List.set_cons_zero, List.set_cons_succ]
              refine wpAnyH_take (i := 2) (oi := { dst := some 126, op := Op.move (Operand.tmp 125), type := 4, pos := "law.go:128", after := #[{ on := 1, ground := Ground.data }], guard := none }) (v := ?_) rfl (by kernel_rfl) (by kernel_rfl) (by kernel_rfl) (fun _ _ _ h => h) (Or.inl ⟨by rfl, ?_⟩) (by assumption) ?_
              rotate_left
              · intro w hSw
                go_simp
                try with_reducible rfl
              try simp only [Act.put, List.setIfInBounds_toArray, List.set_cons_zero, List.set_cons_succ]
              refine wpAnyH_take (i := 3) (oi := { dst := some 127, op := Op.load 33 (Operand.tmp 11), type := 33, pos := "law.go:128", after := #[{ on := 2, ground := Ground.guard }], guard := some (2, true) }) (v := ?_) rfl (by kernel_rfl) (by kernel_rfl) (by kernel_rfl) (fun _ _ _ h => h) (Or.inl ⟨by rfl, ?_⟩) (by assumption) ?_
              rotate_left
              · intro w hSw
                obtain ⟨⟨s0, s1, s2⟩, ⟨a0, a1, a2⟩, ⟨b0, b1, b2_⟩, ⟨x0, x1⟩, y0, y1, y2⟩ := HC15.out _ hSw
                go_simp
                try with_reducible rfl
              try simp only [Act.put, List.setIfInBounds_toArray, List.set_cons_zero, List.set_cons_succ]
              refine wpAnyH_take (i := 4) (oi := { dst := some 128, op := Op.fieldAddr 24 (Operand.tmp 2) 1, type := 0, pos := "law.go:128", after := #[{ on := 2, ground := Ground.guard }], guard := some (2, true) }) (v := ?_) rfl (by kernel_rfl) (by kernel_rfl) (by kernel_rfl) (fun _ _ _ h => h) (Or.inl ⟨by rfl, ?_⟩) (by assumption) ?_
              rotate_left
              · intro w hSw
                go_simp
                try with_reducible rfl
              try simp only [Act.put, List.setIfInBounds_toArray, List.set_cons_zero, List.set_cons_succ]
              refine wpAnyH_take (i := 5) (oi := { dst := some 129, op := Op.load 22 (Operand.tmp 128), type := 22, pos := "law.go:128", after := #[{ on := 4, ground := Ground.data }, { on := 2, ground := Ground.guard }], guard := some (2, true) }) (v := ?_) rfl (by kernel_rfl) (by kernel_rfl) (by kernel_rfl) (fun _ _ _ h => h) (Or.inl ⟨by rfl, ?_⟩) (by assumption) ?_
              rotate_left
              · intro w hSw
                obtain ⟨⟨s0, s1, s2⟩, ⟨a0, a1, a2⟩, ⟨b0, b1, b2_⟩, ⟨x0, x1⟩, y0, y1, y2⟩ := HC15.out _ hSw
                go_simp
                try with_reducible rfl
              try simp only [Act.put, List.setIfInBounds_toArray, List.set_cons_zero, List.set_cons_succ]
              refine wpAnyH_take (i := 6) (oi := { dst := some 130, op := Op.move (Operand.tmp 10), type := 3, pos := "law.go:128", after := #[{ on := 2, ground := Ground.guard }], guard := some (2, true) }) (v := ?_) rfl (by kernel_rfl) (by kernel_rfl) (by kernel_rfl) (fun _ _ _ h => h) (Or.inl ⟨by rfl, ?_⟩) (by assumption) ?_
              rotate_left
              · intro w hSw
                go_simp
                try with_reducible rfl
              try simp only [Act.put, List.setIfInBounds_toArray, List.set_cons_zero, List.set_cons_succ]
              refine wpAnyH_take (i := 7) (oi := { dst := some 131, op := Op.indexAddr 22 (Operand.tmp 129) (Operand.tmp 130), type := 0, pos := "law.go:128", after := #[{ on := 5, ground := Ground.data }, { on := 6, ground := Ground.data }, { on := 2, ground := Ground.guard }], guard := some (2, true) }) (v := ?_) rfl (by kernel_rfl) (by kernel_rfl) (by kernel_rfl) (fun _ _ _ h => h) (Or.inl ⟨by rfl, ?_⟩) (by assumption) ?_
              rotate_left
              · intro w hSw
                go_simp
                try with_reducible rfl
              try simp only [Act.put, List.setIfInBounds_toArray, List.set_cons_zero, List.set_cons_succ]
              refine wpAnyH_take (i := 8) (oi := { dst := some 132, op := Op.load 33 (Operand.tmp 131), type := 33, pos := "law.go:128", after := #[{ on := 7, ground := Ground.data }, { on := 2, ground := Ground.guard }], guard := some (2, true) }) (v := ?_) rfl (by kernel_rfl) (by kernel_rfl) (by kernel_rfl) (fun _ _ _ h => h) (Or.inl ⟨by rfl, ?_⟩) (by assumption) ?_
              rotate_left
              · intro w hSw
                obtain ⟨⟨s0, s1, s2⟩, ⟨a0, a1, a2⟩, ⟨b0, b1, b2_⟩, ⟨x0, x1⟩, y0, y1, y2⟩ := HC15.out _ hSw
                go_simp
                try with_reducible rfl
              try simp only [Act.put, List.setIfInBounds_toArray, List.set_cons_zero, List.set_cons_succ]
              refine wpAnyH_ready (rs := [9]) (by kernel_rfl) (by simp) ?_
              refine AllReadyH.cons (o := { dst := some 133, op := Op.call { callee := Callee.value (Operand.func 19), args := #[Operand.tmp 127, Operand.tmp 132], argTypes := #[33, 33] }, type := 4, pos := "law.go:128", after := #[{ on := 3, ground := Ground.data }, { on := 8, ground := Ground.data }, { on := 2, ground := Ground.chain }, { on := 2, ground := Ground.guard }], guard := some (2, true) }) rfl (fun K hK => ?_) AllReadyH.nil
              go_simp
              refine (J1.out _ hHeld).mono ?_
              rintro e v9 ⟨rfl, hb⟩
              have hq := bstep hHeld hb
              go_wp2_with fail
              refine hK.out _ _ hq (fun hHeld => ?_)
              clear hK K hb hq
              try simp only [Act.put, List.setIfInBounds_toArray, List.set_cons_zero, List.set_cons_succ]
              refine wpAnyH_take (i := 10) (oi := { dst := some 134, op := Op.unOp UnOp.not 4 (Operand.tmp 133), type := 4, pos := "law.go:128", after := #[{ on := 9, ground := Ground.data }, { on := 2, ground := Ground.guard }], guard := some (2, true) }) (v := ?_) rfl (by kernel_rfl) (by kernel_rfl) (by kernel_rfl) (fun _ _ _ h => h) (Or.inl ⟨by rfl, ?_⟩) (by assumption) ?_
              rotate_left
              · intro w hSw
                go_simp
                try with_reducible rfl
              try simp only [Act.put, List.setIfInBounds_toArray, List.set_cons_zero, List.set_cons_succ]
              refine wpAnyH_take (i := 11) (oi := { dst := some 135, op := Op.pick (Operand.tmp 126) (Operand.tmp 134) (Operand.const (Value.bool false)), type := 4, pos := "law.go:128", after := #[{ on := 2, ground := Ground.data }, { on := 10, ground := Ground.data }], guard := none }) (v := ?_) rfl (by kernel_rfl) (by kernel_rfl) (by kernel_rfl) (fun _ _ _ h => h) (Or.inl ⟨by rfl, ?_⟩) (by assumption) ?_
              rotate_left
              · intro w hSw
                go_simp
                try with_reducible rfl
              try simp only [Act.put, List.setIfInBounds_toArray, List.set_cons_zero, List.set_cons_succ]
              refine wpAnyH_take (i := 12) (oi := { dst := some 136, op := Op.move (Operand.tmp 135), type := 4, pos := "law.go:128", after := #[{ on := 11, ground := Ground.data }, { on := 9, ground := Ground.chain }], guard := none }) (v := ?_) rfl (by kernel_rfl) (by kernel_rfl) (by kernel_rfl) (fun _ _ _ h => h) (Or.inl ⟨by rfl, ?_⟩) (by assumption) ?_
              rotate_left
              · intro w hSw
                go_simp
                try with_reducible rfl
              try simp only [Act.put, List.setIfInBounds_toArray, List.set_cons_zero, List.set_cons_succ]
              refine wpAnyH_take (i := 13) (oi := { dst := some 137, op := Op.move (Operand.tmp 14), type := 27, pos := "law.go:128", after := #[{ on := 12, ground := Ground.guard }], guard := some (12, false) }) (v := ?_) rfl (by kernel_rfl) (by kernel_rfl) (by kernel_rfl) (fun _ _ _ h => h) (Or.inl ⟨by rfl, ?_⟩) (by assumption) ?_
              rotate_left
              · intro w hSw
                go_simp
                try with_reducible rfl
              try simp only [Act.put, List.setIfInBounds_toArray, List.set_cons_zero, List.set_cons_succ]
              refine wpAnyH_take (i := 14) (oi := { dst := some 138, op := Op.binOp BinOp.eql 27 (Operand.tmp 137) (Operand.const (Value.int IntKind.i64 0)) 27, type := 4, pos := "law.go:128", after := #[{ on := 13, ground := Ground.data }, { on := 12, ground := Ground.guard }], guard := some (12, false) }) (v := ?_) rfl (by kernel_rfl) (by kernel_rfl) (by kernel_rfl) (fun _ _ _ h => h) (Or.inl ⟨by rfl, ?_⟩) (by assumption) ?_
              rotate_left
              · intro w hSw
                go_simp
                try with_reducible rfl
              try simp only [Act.put, List.setIfInBounds_toArray, List.set_cons_zero, List.set_cons_succ]
              refine wpAnyH_take (i := 15) (oi := { dst := some 139, op := Op.move (Operand.tmp 138), type := 4, pos := "law.go:128", after := #[{ on := 14, ground := Ground.data }, { on := 12, ground := Ground.chain }, { on := 12, ground := Ground.guard }], guard := some (12, false) }) (v := ?_) rfl (by kernel_rfl) (by kernel_rfl) (by kernel_rfl) (fun _ _ _ h => h) (Or.inl ⟨by rfl, ?_⟩) (by assumption) ?_
              rotate_left
              · intro w hSw
                go_simp
                try with_reducible rfl
              try simp only [Act.put, List.setIfInBounds_toArray, List.set_cons_zero, List.set_cons_succ]
              refine wpAnyH_take (i := 16) (oi := { dst := some 140, op := Op.move (Operand.tmp 16), type := 27, pos := "law.go:128", after := #[{ on := 15, ground := Ground.guard }], guard := some (15, true) }) (v := ?_) rfl (by kernel_rfl) (by kernel_rfl) (by kernel_rfl) (fun _ _ _ h => h) (Or.inl ⟨by rfl, ?_⟩) (by assumption) ?_
              rotate_left
              · intro w hSw
                go_simp
                try with_reducible rfl
              try simp only [Act.put, List.setIfInBounds_toArray, List.set_cons_zero, List.set_cons_succ]
              refine wpAnyH_take (i := 17) (oi := { dst := some 141, op := Op.binOp BinOp.eql 27 (Operand.tmp 140) (Operand.const (Value.int IntKind.i64 0)) 27, type := 4, pos := "law.go:128", after := #[{ on := 16, ground := Ground.data }, { on := 15, ground := Ground.guard }], guard := some (15, true) }) (v := ?_) rfl (by kernel_rfl) (by kernel_rfl) (by kernel_rfl) (fun _ _ _ h => h) (Or.inl ⟨by rfl, ?_⟩) (by assumption) ?_
              rotate_left
              · intro w hSw
                go_simp
                try with_reducible rfl
              try simp only [Act.put, List.setIfInBounds_toArray, List.set_cons_zero, List.set_cons_succ]
              refine wpAnyH_take (i := 18) (oi := { dst := some 142, op := Op.pick (Operand.tmp 139) (Operand.tmp 141) (Operand.const (Value.bool false)), type := 4, pos := "law.go:128", after := #[{ on := 15, ground := Ground.data }, { on := 17, ground := Ground.data }, { on := 12, ground := Ground.guard }], guard := some (12, false) }) (v := ?_) rfl (by kernel_rfl) (by kernel_rfl) (by kernel_rfl) (fun _ _ _ h => h) (Or.inl ⟨by rfl, ?_⟩) (by assumption) ?_
              rotate_left
              · intro w hSw
                go_simp
                try with_reducible rfl
              try simp only [Act.put, List.setIfInBounds_toArray, List.set_cons_zero, List.set_cons_succ]
              refine wpAnyH_take (i := 19) (oi := { dst := some 143, op := Op.move (Operand.tmp 142), type := 4, pos := "law.go:128", after := #[{ on := 18, ground := Ground.data }, { on := 15, ground := Ground.chain }, { on := 12, ground := Ground.guard }], guard := some (12, false) }) (v := ?_) rfl (by kernel_rfl) (by kernel_rfl) (by kernel_rfl) (fun _ _ _ h => h) (Or.inl ⟨by rfl, ?_⟩) (by assumption) ?_
              rotate_left
              · intro w hSw
                go_simp
                try with_reducible rfl
              try simp only [Act.put, List.setIfInBounds_toArray, List.set_cons_zero, List.set_cons_succ]
              refine wpAnyH_take (i := 20) (oi := { dst := some 144, op := Op.load 33 (Operand.tmp 13), type := 33, pos := "law.go:128", after := #[{ on := 19, ground := Ground.guard }], guard := some (19, true) }) (v := ?_) rfl (by kernel_rfl) (by kernel_rfl) (by kernel_rfl) (fun _ _ _ h => h) (Or.inl ⟨by rfl, ?_⟩) (by assumption) ?_
              rotate_left
              · intro w hSw
                obtain ⟨⟨s0, s1, s2⟩, ⟨a0, a1, a2⟩, ⟨b0, b1, b2_⟩, ⟨x0, x1⟩, y0, y1, y2⟩ := HC15.out _ hSw
                go_simp
                try with_reducible rfl
              try simp only [Act.put, List.setIfInBounds_toArray, List.set_cons_zero, List.set_cons_succ]
              refine wpAnyH_take (i := 21) (oi := { dst := some 145, op := Op.load 33 (Operand.tmp 15), type := 33, pos := "law.go:128", after := #[{ on := 19, ground := Ground.guard }], guard := some (19, true) }) (v := ?_) rfl (by kernel_rfl) (by kernel_rfl) (by kernel_rfl) (fun _ _ _ h => h) (Or.inl ⟨by rfl, ?_⟩) (by assumption) ?_
              rotate_left
              · intro w hSw
                obtain ⟨⟨s0, s1, s2⟩, ⟨a0, a1, a2⟩, ⟨b0, b1, b2_⟩, ⟨x0, x1⟩, y0, y1, y2⟩ := HC15.out _ hSw
                go_simp
                try with_reducible rfl
              try simp only [Act.put, List.setIfInBounds_toArray, List.set_cons_zero, List.set_cons_succ]
              refine wpAnyH_ready (rs := [22]) (by kernel_rfl) (by simp) ?_
              refine AllReadyH.cons (o := { dst := some 146, op := Op.call { callee := Callee.value (Operand.func 19), args := #[Operand.tmp 144, Operand.tmp 145], argTypes := #[33, 33] }, type := 4, pos := "law.go:128", after := #[{ on := 20, ground := Ground.data }, { on := 21, ground := Ground.data }, { on := 19, ground := Ground.chain }, { on := 19, ground := Ground.guard }], guard := some (19, true) }) rfl (fun K hK => ?_) AllReadyH.nil
              go_simp
              refine (J2.out _ hHeld).mono ?_
              rintro e v22 ⟨rfl, hb⟩
              have hq := bstep hHeld hb
              go_wp2_with fail
              refine hK.out _ _ hq (fun hHeld => ?_)
              clear hK K hb hq
              try simp only [Act.put, List.setIfInBounds_toArray, List.set_cons_zero, List.set_cons_succ]
              refine wpAnyH_take (i := 23) (oi := { dst := some 147, op := Op.unOp UnOp.not 4 (Operand.tmp 146), type := 4, pos := "law.go:128", after := #[{ on := 22, ground := Ground.data }, { on := 19, ground := Ground.guard }], guard := some (19, true) }) (v := ?_) rfl (by kernel_rfl) (by kernel_rfl) (by kernel_rfl) (fun _ _ _ h => h) (Or.inl ⟨by rfl, ?_⟩) (by assumption) ?_
              rotate_left
              · intro w hSw
                go_simp
                try with_reducible rfl
              try simp only [Act.put, List.setIfInBounds_toArray, List.set_cons_zero, List.set_cons_succ]
              refine wpAnyH_take (i := 24) (oi := { dst := some 148, op := Op.pick (Operand.tmp 143) (Operand.tmp 147) (Operand.const (Value.bool false)), type := 4, pos := "law.go:128", after := #[{ on := 19, ground := Ground.data }, { on := 23, ground := Ground.data }, { on := 12, ground := Ground.guard }], guard := some (12, false) }) (v := ?_) rfl (by kernel_rfl) (by kernel_rfl) (by kernel_rfl) (fun _ _ _ h => h) (Or.inl ⟨by rfl, ?_⟩) (by assumption) ?_
              rotate_left
              · intro w hSw
                go_simp
                try with_reducible rfl
              try simp only [Act.put, List.setIfInBounds_toArray, List.set_cons_zero, List.set_cons_succ]
              refine wpAnyH_take (i := 25) (oi := { dst := some 149, op := Op.pick (Operand.tmp 136) (Operand.const (Value.bool true)) (Operand.tmp 148), type := 4, pos := "law.go:128", after := #[{ on := 12, ground := Ground.data }, { on := 24, ground := Ground.data }], guard := none }) (v := ?_) rfl (by kernel_rfl) (by kernel_rfl) (by kernel_rfl) (fun _ _ _ h => h) (Or.inl ⟨by rfl, ?_⟩) (by assumption) ?_
              rotate_left
              · intro w hSw
                go_simp
                try with_reducible rfl
              try simp only [Act.put, List.setIfInBounds_toArray, List.set_cons_zero, List.set_cons_succ]
              have HEnd := Lib.hid hHeld
              refine wpAnyH_done (by kernel_rfl) ?_ _
              go_wp2_with fail
              go_meet
              case rel => exact ⟨rfl, HEnd.out⟩
            · obtain ⟨z1, z2⟩ := ne_zero e3
              refine wp_region_held_drew (S := (fun W => Below wq.heap.size wq W)) (by kernel_rfl) (drew_below _) (fun hHeld => ?_)
              refine wpAnyH_take (i := 0) (oi := { dst := some 124, op := Op.move (Operand.tmp 12), type := 27, pos := "law.go:128", after := #[], guard := none }) (v := ?_) rfl (by kernel_rfl) (by kernel_rfl) (by kernel_rfl) (fun _ _ _ h => h) (Or.inl ⟨by rfl, ?_⟩) (by assumption) ?_
              rotate_left
              · intro w hSw
                go_simp
                try with_reducible rfl
              try simp only [Act.put, List.setIfInBounds_toArray, List.set_cons_zero, List.set_cons_succ]
              refine wpAnyH_take (i := 1) (oi := { dst := some 125, op := Op.binOp BinOp.eql 27 (Operand.tmp 124) (Operand.const (Value.int IntKind.i64 0)) 27, type := 4, pos := "law.go:128", after := #[{ on := 0, ground := Ground.data }], guard := none }) (v := ?_) rfl (by kernel_rfl) (by kernel_rfl) (by kernel_rfl) (fun _ _ _ h => h) (Or.inl ⟨by rfl, ?_⟩) (by assumption) ?_
              rotate_left
              · intro w hSw
                go_simp
                try with_reducible rfl
              try simp only [Act.put, List.setIfInBounds_toArray, List.set_cons_zero, List.set_cons_succ]
              refine wpAnyH_take (i := 2) (oi := { dst := some 126, op := Op.move (Operand.tmp 125), type := 4, pos := "law.go:128", after := #[{ on := 1, ground := Ground.data }], guard := none }) (v := ?_) rfl (by kernel_rfl) (by kernel_rfl) (by kernel_rfl) (fun _ _ _ h => h) (Or.inl ⟨by rfl, ?_⟩) (by assumption) ?_
              rotate_left
              · intro w hSw
                go_simp
                try with_reducible rfl
              try simp only [Act.put, List.setIfInBounds_toArray, List.set_cons_zero, List.set_cons_succ]
              refine wpAnyH_take (i := 3) (oi := { dst := some 127, op := Op.load 33 (Operand.tmp 11), type := 33, pos := "law.go:128", after := #[{ on := 2, ground := Ground.guard }], guard := some (2, true) }) (v := ?_) rfl (by kernel_rfl) (by kernel_rfl) (by kernel_rfl) (fun _ _ _ h => h) (Or.inl ⟨by rfl, ?_⟩) (by assumption) ?_
              rotate_left
              · intro w hSw
                obtain ⟨⟨s0, s1, s2⟩, ⟨a0, a1, a2⟩, ⟨b0, b1, b2_⟩, ⟨x0, x1⟩, y0, y1, y2⟩ := HC15.out _ hSw
                go_simp
                try with_reducible rfl
              try simp only [Act.put, List.setIfInBounds_toArray, List.set_cons_zero, List.set_cons_succ]
              refine wpAnyH_take (i := 4) (oi := { dst := some 128, op := Op.fieldAddr 24 (Operand.tmp 2) 1, type := 0, pos := "law.go:128", after := #[{ on := 2, ground := Ground.guard }], guard := some (2, true) }) (v := ?_) rfl (by kernel_rfl) (by kernel_rfl) (by kernel_rfl) (fun _ _ _ h => h) (Or.inl ⟨by rfl, ?_⟩) (by assumption) ?_
              rotate_left
              · intro w hSw
                go_simp
                try with_reducible rfl
              try simp only [Act.put, List.setIfInBounds_toArray, List.set_cons_zero, List.set_cons_succ]
              refine wpAnyH_take (i := 5) (oi := { dst := some 129, op := Op.load 22 (Operand.tmp 128), type := 22, pos := "law.go:128", after := #[{ on := 4, ground := Ground.data }, { on := 2, ground := Ground.guard }], guard := some (2, true) }) (v := ?_) rfl (by kernel_rfl) (by kernel_rfl) (by kernel_rfl) (fun _ _ _ h => h) (Or.inl ⟨by rfl, ?_⟩) (by assumption) ?_
              rotate_left
              · intro w hSw
                obtain ⟨⟨s0, s1, s2⟩, ⟨a0, a1, a2⟩, ⟨b0, b1, b2_⟩, ⟨x0, x1⟩, y0, y1, y2⟩ := HC15.out _ hSw
                go_simp
                try with_reducible rfl
              try simp only [Act.put, List.setIfInBounds_toArray, List.set_cons_zero, List.set_cons_succ]
              refine wpAnyH_take (i := 6) (oi := { dst := some 130, op := Op.move (Operand.tmp 10), type := 3, pos := "law.go:128", after := #[{ on := 2, ground := Ground.guard }], guard := some (2, true) }) (v := ?_) rfl (by kernel_rfl) (by kernel_rfl) (by kernel_rfl) (fun _ _ _ h => h) (Or.inl ⟨by rfl, ?_⟩) (by assumption) ?_
              rotate_left
              · intro w hSw
                go_simp
                try with_reducible rfl
              try simp only [Act.put, List.setIfInBounds_toArray, List.set_cons_zero, List.set_cons_succ]
              refine wpAnyH_take (i := 7) (oi := { dst := some 131, op := Op.indexAddr 22 (Operand.tmp 129) (Operand.tmp 130), type := 0, pos := "law.go:128", after := #[{ on := 5, ground := Ground.data }, { on := 6, ground := Ground.data }, { on := 2, ground := Ground.guard }], guard := some (2, true) }) (v := ?_) rfl (by kernel_rfl) (by kernel_rfl) (by kernel_rfl) (fun _ _ _ h => h) (Or.inl ⟨by rfl, ?_⟩) (by assumption) ?_
              rotate_left
              · intro w hSw
                go_simp
                try with_reducible rfl
              try simp only [Act.put, List.setIfInBounds_toArray, List.set_cons_zero, List.set_cons_succ]
              refine wpAnyH_take (i := 8) (oi := { dst := some 132, op := Op.load 33 (Operand.tmp 131), type := 33, pos := "law.go:128", after := #[{ on := 7, ground := Ground.data }, { on := 2, ground := Ground.guard }], guard := some (2, true) }) (v := ?_) rfl (by kernel_rfl) (by kernel_rfl) (by kernel_rfl) (fun _ _ _ h => h) (Or.inl ⟨by rfl, ?_⟩) (by assumption) ?_
              rotate_left
              · intro w hSw
                obtain ⟨⟨s0, s1, s2⟩, ⟨a0, a1, a2⟩, ⟨b0, b1, b2_⟩, ⟨x0, x1⟩, y0, y1, y2⟩ := HC15.out _ hSw
                go_simp
                try with_reducible rfl
              try simp only [Act.put, List.setIfInBounds_toArray, List.set_cons_zero, List.set_cons_succ]
              refine wpAnyH_ready (rs := [9]) (by kernel_rfl) (by simp) ?_
              refine AllReadyH.cons (o := { dst := some 133, op := Op.call { callee := Callee.value (Operand.func 19), args := #[Operand.tmp 127, Operand.tmp 132], argTypes := #[33, 33] }, type := 4, pos := "law.go:128", after := #[{ on := 3, ground := Ground.data }, { on := 8, ground := Ground.data }, { on := 2, ground := Ground.chain }, { on := 2, ground := Ground.guard }], guard := some (2, true) }) rfl (fun K hK => ?_) AllReadyH.nil
              go_simp
              refine (J1.out _ hHeld).mono ?_
              rintro e v9 ⟨rfl, hb⟩
              have hq := bstep hHeld hb
              go_wp2_with fail
              refine hK.out _ _ hq (fun hHeld => ?_)
              clear hK K hb hq
              try simp only [Act.put, List.setIfInBounds_toArray, List.set_cons_zero, List.set_cons_succ]
              refine wpAnyH_take (i := 10) (oi := { dst := some 134, op := Op.unOp UnOp.not 4 (Operand.tmp 133), type := 4, pos := "law.go:128", after := #[{ on := 9, ground := Ground.data }, { on := 2, ground := Ground.guard }], guard := some (2, true) }) (v := ?_) rfl (by kernel_rfl) (by kernel_rfl) (by kernel_rfl) (fun _ _ _ h => h) (Or.inl ⟨by rfl, ?_⟩) (by assumption) ?_
              rotate_left
              · intro w hSw
                go_simp
                try with_reducible rfl
              try simp only [Act.put, List.setIfInBounds_toArray, List.set_cons_zero, List.set_cons_succ]
              refine wpAnyH_take (i := 11) (oi := { dst := some 135, op := Op.pick (Operand.tmp 126) (Operand.tmp 134) (Operand.const (Value.bool false)), type := 4, pos := "law.go:128", after := #[{ on := 2, ground := Ground.data }, { on := 10, ground := Ground.data }], guard := none }) (v := ?_) rfl (by kernel_rfl) (by kernel_rfl) (by kernel_rfl) (fun _ _ _ h => h) (Or.inl ⟨by rfl, ?_⟩) (by assumption) ?_
              rotate_left
              · intro w hSw
                go_simp
                try with_reducible rfl
              try simp only [Act.put, List.setIfInBounds_toArray, List.set_cons_zero, List.set_cons_succ]
              refine wpAnyH_take (i := 12) (oi := { dst := some 136, op := Op.move (Operand.tmp 135), type := 4, pos := "law.go:128", after := #[{ on := 11, ground := Ground.data }, { on := 9, ground := Ground.chain }], guard := none }) (v := ?_) rfl (by kernel_rfl) (by kernel_rfl) (by kernel_rfl) (fun _ _ _ h => h) (Or.inl ⟨by rfl, ?_⟩) (by assumption) ?_
              rotate_left
              · intro w hSw
                go_simp
                try with_reducible rfl
              try simp only [Act.put, List.setIfInBounds_toArray, List.set_cons_zero, List.set_cons_succ]
              refine wpAnyH_take (i := 13) (oi := { dst := some 137, op := Op.move (Operand.tmp 14), type := 27, pos := "law.go:128", after := #[{ on := 12, ground := Ground.guard }], guard := some (12, false) }) (v := ?_) rfl (by kernel_rfl) (by kernel_rfl) (by kernel_rfl) (fun _ _ _ h => h) (Or.inl ⟨by rfl, ?_⟩) (by assumption) ?_
              rotate_left
              · intro w hSw
                go_simp
                try with_reducible rfl
              try simp only [Act.put, List.setIfInBounds_toArray, List.set_cons_zero, List.set_cons_succ]
              refine wpAnyH_take (i := 14) (oi := { dst := some 138, op := Op.binOp BinOp.eql 27 (Operand.tmp 137) (Operand.const (Value.int IntKind.i64 0)) 27, type := 4, pos := "law.go:128", after := #[{ on := 13, ground := Ground.data }, { on := 12, ground := Ground.guard }], guard := some (12, false) }) (v := ?_) rfl (by kernel_rfl) (by kernel_rfl) (by kernel_rfl) (fun _ _ _ h => h) (Or.inl ⟨by rfl, ?_⟩) (by assumption) ?_
              rotate_left
              · intro w hSw
                go_simp
                try with_reducible rfl
              try simp only [Act.put, List.setIfInBounds_toArray, List.set_cons_zero, List.set_cons_succ]
              refine wpAnyH_take (i := 15) (oi := { dst := some 139, op := Op.move (Operand.tmp 138), type := 4, pos := "law.go:128", after := #[{ on := 14, ground := Ground.data }, { on := 12, ground := Ground.chain }, { on := 12, ground := Ground.guard }], guard := some (12, false) }) (v := ?_) rfl (by kernel_rfl) (by kernel_rfl) (by kernel_rfl) (fun _ _ _ h => h) (Or.inl ⟨by rfl, ?_⟩) (by assumption) ?_
              rotate_left
              · intro w hSw
                go_simp
                try with_reducible rfl
              try simp only [Act.put, List.setIfInBounds_toArray, List.set_cons_zero, List.set_cons_succ]
              refine wpAnyH_take (i := 16) (oi := { dst := some 140, op := Op.move (Operand.tmp 16), type := 27, pos := "law.go:128", after := #[{ on := 15, ground := Ground.guard }], guard := some (15, true) }) (v := ?_) rfl (by kernel_rfl) (by kernel_rfl) (by kernel_rfl) (fun _ _ _ h => h) (Or.inl ⟨by rfl, ?_⟩) (by assumption) ?_
              rotate_left
              · intro w hSw
                go_simp
                try with_reducible rfl
              try simp only [Act.put, List.setIfInBounds_toArray, List.set_cons_zero, List.set_cons_succ]
              refine wpAnyH_take (i := 17) (oi := { dst := some 141, op := Op.binOp BinOp.eql 27 (Operand.tmp 140) (Operand.const (Value.int IntKind.i64 0)) 27, type := 4, pos := "law.go:128", after := #[{ on := 16, ground := Ground.data }, { on := 15, ground := Ground.guard }], guard := some (15, true) }) (v := ?_) rfl (by kernel_rfl) (by kernel_rfl) (by kernel_rfl) (fun _ _ _ h => h) (Or.inl ⟨by rfl, ?_⟩) (by assumption) ?_
              rotate_left
              · intro w hSw
                go_simp
                try with_reducible rfl
              try simp only [Act.put, List.setIfInBounds_toArray, List.set_cons_zero, List.set_cons_succ]
              refine wpAnyH_take (i := 18) (oi := { dst := some 142, op := Op.pick (Operand.tmp 139) (Operand.tmp 141) (Operand.const (Value.bool false)), type := 4, pos := "law.go:128", after := #[{ on := 15, ground := Ground.data }, { on := 17, ground := Ground.data }, { on := 12, ground := Ground.guard }], guard := some (12, false) }) (v := ?_) rfl (by kernel_rfl) (by kernel_rfl) (by kernel_rfl) (fun _ _ _ h => h) (Or.inl ⟨by rfl, ?_⟩) (by assumption) ?_
              rotate_left
              · intro w hSw
                go_simp
                try with_reducible rfl
              try simp only [Act.put, List.setIfInBounds_toArray, List.set_cons_zero, List.set_cons_succ]
              refine wpAnyH_take (i := 19) (oi := { dst := some 143, op := Op.move (Operand.tmp 142), type := 4, pos := "law.go:128", after := #[{ on := 18, ground := Ground.data }, { on := 15, ground := Ground.chain }, { on := 12, ground := Ground.guard }], guard := some (12, false) }) (v := ?_) rfl (by kernel_rfl) (by kernel_rfl) (by kernel_rfl) (fun _ _ _ h => h) (Or.inl ⟨by rfl, ?_⟩) (by assumption) ?_
              rotate_left
              · intro w hSw
                go_simp
                try with_reducible rfl
              try simp only [Act.put, List.setIfInBounds_toArray, List.set_cons_zero, List.set_cons_succ]
              refine wpAnyH_take (i := 20) (oi := { dst := some 144, op := Op.load 33 (Operand.tmp 13), type := 33, pos := "law.go:128", after := #[{ on := 19, ground := Ground.guard }], guard := some (19, true) }) (v := undef) rfl (by kernel_rfl) (by kernel_rfl) (by kernel_rfl) (fun _ _ _ h => h) (Or.inr ⟨by kernel_rfl, rfl⟩) (by assumption) ?_
              try simp only [Act.put, List.setIfInBounds_toArray, List.set_cons_zero, List.set_cons_succ]
              refine wpAnyH_take (i := 21) (oi := { dst := some 145, op := Op.load 33 (Operand.tmp 15), type := 33, pos := "law.go:128", after := #[{ on := 19, ground := Ground.guard }], guard := some (19, true) }) (v := undef) rfl (by kernel_rfl) (by kernel_rfl) (by kernel_rfl) (fun _ _ _ h => h) (Or.inr ⟨by kernel_rfl, rfl⟩) (by assumption) ?_
              try simp only [Act.put, List.setIfInBounds_toArray, List.set_cons_zero, List.set_cons_succ]
              refine wpAnyH_take (i := 22) (oi := { dst := some 146, op := Op.call { callee := Callee.value (Operand.func 19), args := #[Operand.tmp 144, Operand.tmp 145], argTypes := #[33, 33] }, type := 4, pos := "law.go:128", after := #[{ on := 20, ground := Ground.data }, { on := 21, ground := Ground.data }, { on := 19, ground := Ground.chain }, { on := 19, ground := Ground.guard }], guard := some (19, true) }) (v := undef) rfl (by kernel_rfl) (by kernel_rfl) (by kernel_rfl) (fun _ _ _ h => h) (Or.inr ⟨by kernel_rfl, rfl⟩) (by assumption) ?_
              try simp only [Act.put, List.setIfInBounds_toArray, List.set_cons_zero, List.set_cons_succ]
              refine wpAnyH_take (i := 23) (oi := { dst := some 147, op := Op.unOp UnOp.not 4 (Operand.tmp 146), type := 4, pos := "law.go:128", after := #[{ on := 22, ground := Ground.data }, { on := 19, ground := Ground.guard }], guard := some (19, true) }) (v := undef) rfl (by kernel_rfl) (by kernel_rfl) (by kernel_rfl) (fun _ _ _ h => h) (Or.inr ⟨by kernel_rfl, rfl⟩) (by assumption) ?_
              try simp only [Act.put, List.setIfInBounds_toArray, List.set_cons_zero, List.set_cons_succ]
              refine wpAnyH_take (i := 24) (oi := { dst := some 148, op := Op.pick (Operand.tmp 143) (Operand.tmp 147) (Operand.const (Value.bool false)), type := 4, pos := "law.go:128", after := #[{ on := 19, ground := Ground.data }, { on := 23, ground := Ground.data }, { on := 12, ground := Ground.guard }], guard := some (12, false) }) (v := ?_) rfl (by kernel_rfl) (by kernel_rfl) (by kernel_rfl) (fun _ _ _ h => h) (Or.inl ⟨by rfl, ?_⟩) (by assumption) ?_
              rotate_left
              · intro w hSw
                go_simp
                try with_reducible rfl
              try simp only [Act.put, List.setIfInBounds_toArray, List.set_cons_zero, List.set_cons_succ]
              refine wpAnyH_take (i := 25) (oi := { dst := some 149, op := Op.pick (Operand.tmp 136) (Operand.const (Value.bool true)) (Operand.tmp 148), type := 4, pos := "law.go:128", after := #[{ on := 12, ground := Ground.data }, { on := 24, ground := Ground.data }], guard := none }) (v := ?_) rfl (by kernel_rfl) (by kernel_rfl) (by kernel_rfl) (fun _ _ _ h => h) (Or.inl ⟨by rfl, ?_⟩) (by assumption) ?_
              rotate_left
              · intro w hSw
                go_simp
                try with_reducible rfl
              try simp only [Act.put, List.setIfInBounds_toArray, List.set_cons_zero, List.set_cons_succ]
              have HEnd := Lib.hid hHeld
              refine wpAnyH_done (by kernel_rfl) ?_ _
              go_wp2_with fail
              go_meet
              case rel => exact ⟨rfl, HEnd.out⟩
          · obtain ⟨z1, z2⟩ := ne_zero e2
            refine wp_region_held_drew (S := (fun W => Below wq.heap.size wq W)) (by kernel_rfl) (drew_below _) (fun hHeld => ?_)
            refine wpAnyH_take (i := 0) (oi := { dst := some 124, op := Op.move (Operand.tmp 12), type := 27, pos := "law.go:128", after := #[], guard := none }) (v := ?_) rfl (by kernel_rfl) (by kernel_rfl) (by kernel_rfl) (fun _ _ _ h => h) (Or.inl ⟨by rfl, ?_⟩) (by assumption) ?_
            rotate_left
            · intro w hSw
              go_simp
              try with_reducible rfl
            try simp only [Act.put, List.setIfInBounds_toArray, List.set_cons_zero, List.set_cons_succ]
            refine wpAnyH_take (i := 1) (oi := { dst := some 125, op := Op.binOp BinOp.eql 27 (Operand.tmp 124) (Operand.const (Value.int IntKind.i64 0)) 27, type := 4, pos := "law.go:128", after := #[{ on := 0, ground := Ground.data }], guard := none }) (v := ?_) rfl (by kernel_rfl) (by kernel_rfl) (by kernel_rfl) (fun _ _ _ h => h) (Or.inl ⟨by rfl, ?_⟩) (by assumption) ?_
            rotate_left
            · intro w hSw
              go_simp
              try with_reducible rfl
            try simp only [Act.put, List.setIfInBounds_toArray, List.set_cons_zero, List.set_cons_succ]
            refine wpAnyH_take (i := 2) (oi := { dst := some 126, op := Op.move (Operand.tmp 125), type := 4, pos := "law.go:128", after := #[{ on := 1, ground := Ground.data }], guard := none }) (v := ?_) rfl (by kernel_rfl) (by kernel_rfl) (by kernel_rfl) (fun _ _ _ h => h) (Or.inl ⟨by rfl, ?_⟩) (by assumption) ?_
            rotate_left
            · intro w hSw
              go_simp
              try with_reducible rfl
            try simp only [Act.put, List.setIfInBounds_toArray, List.set_cons_zero, List.set_cons_succ]
            refine wpAnyH_take (i := 3) (oi := { dst := some 127, op := Op.load 33 (Operand.tmp 11), type := 33, pos := "law.go:128", after := #[{ on := 2, ground := Ground.guard }], guard := some (2, true) }) (v := ?_) rfl (by kernel_rfl) (by kernel_rfl) (by kernel_rfl) (fun _ _ _ h => h) (Or.inl ⟨by rfl, ?_⟩) (by assumption) ?_
            rotate_left
            · intro w hSw
              obtain ⟨⟨s0, s1, s2⟩, ⟨a0, a1, a2⟩, ⟨b0, b1, b2_⟩, ⟨x0, x1⟩, y0, y1, y2⟩ := HC15.out _ hSw
              go_simp
              try with_reducible rfl
            try simp only [Act.put, List.setIfInBounds_toArray, List.set_cons_zero, List.set_cons_succ]
            refine wpAnyH_take (i := 4) (oi := { dst := some 128, op := Op.fieldAddr 24 (Operand.tmp 2) 1, type := 0, pos := "law.go:128", after := #[{ on := 2, ground := Ground.guard }], guard := some (2, true) }) (v := ?_) rfl (by kernel_rfl) (by kernel_rfl) (by kernel_rfl) (fun _ _ _ h => h) (Or.inl ⟨by rfl, ?_⟩) (by assumption) ?_
            rotate_left
            · intro w hSw
              go_simp
              try with_reducible rfl
            try simp only [Act.put, List.setIfInBounds_toArray, List.set_cons_zero, List.set_cons_succ]
            refine wpAnyH_take (i := 5) (oi := { dst := some 129, op := Op.load 22 (Operand.tmp 128), type := 22, pos := "law.go:128", after := #[{ on := 4, ground := Ground.data }, { on := 2, ground := Ground.guard }], guard := some (2, true) }) (v := ?_) rfl (by kernel_rfl) (by kernel_rfl) (by kernel_rfl) (fun _ _ _ h => h) (Or.inl ⟨by rfl, ?_⟩) (by assumption) ?_
            rotate_left
            · intro w hSw
              obtain ⟨⟨s0, s1, s2⟩, ⟨a0, a1, a2⟩, ⟨b0, b1, b2_⟩, ⟨x0, x1⟩, y0, y1, y2⟩ := HC15.out _ hSw
              go_simp
              try with_reducible rfl
            try simp only [Act.put, List.setIfInBounds_toArray, List.set_cons_zero, List.set_cons_succ]
            refine wpAnyH_take (i := 6) (oi := { dst := some 130, op := Op.move (Operand.tmp 10), type := 3, pos := "law.go:128", after := #[{ on := 2, ground := Ground.guard }], guard := some (2, true) }) (v := ?_) rfl (by kernel_rfl) (by kernel_rfl) (by kernel_rfl) (fun _ _ _ h => h) (Or.inl ⟨by rfl, ?_⟩) (by assumption) ?_
            rotate_left
            · intro w hSw
              go_simp
              try with_reducible rfl
            try simp only [Act.put, List.setIfInBounds_toArray, List.set_cons_zero, List.set_cons_succ]
            refine wpAnyH_take (i := 7) (oi := { dst := some 131, op := Op.indexAddr 22 (Operand.tmp 129) (Operand.tmp 130), type := 0, pos := "law.go:128", after := #[{ on := 5, ground := Ground.data }, { on := 6, ground := Ground.data }, { on := 2, ground := Ground.guard }], guard := some (2, true) }) (v := ?_) rfl (by kernel_rfl) (by kernel_rfl) (by kernel_rfl) (fun _ _ _ h => h) (Or.inl ⟨by rfl, ?_⟩) (by assumption) ?_
            rotate_left
            · intro w hSw
              go_simp
              try with_reducible rfl
            try simp only [Act.put, List.setIfInBounds_toArray, List.set_cons_zero, List.set_cons_succ]
            refine wpAnyH_take (i := 8) (oi := { dst := some 132, op := Op.load 33 (Operand.tmp 131), type := 33, pos := "law.go:128", after := #[{ on := 7, ground := Ground.data }, { on := 2, ground := Ground.guard }], guard := some (2, true) }) (v := ?_) rfl (by kernel_rfl) (by kernel_rfl) (by kernel_rfl) (fun _ _ _ h => h) (Or.inl ⟨by rfl, ?_⟩) (by assumption) ?_
            rotate_left
            · intro w hSw
              obtain ⟨⟨s0, s1, s2⟩, ⟨a0, a1, a2⟩, ⟨b0, b1, b2_⟩, ⟨x0, x1⟩, y0, y1, y2⟩ := HC15.out _ hSw
              go_simp
              try with_reducible rfl
            try simp only [Act.put, List.setIfInBounds_toArray, List.set_cons_zero, List.set_cons_succ]
            refine wpAnyH_ready (rs := [9]) (by kernel_rfl) (by simp) ?_
            refine AllReadyH.cons (o := { dst := some 133, op := Op.call { callee := Callee.value (Operand.func 19), args := #[Operand.tmp 127, Operand.tmp 132], argTypes := #[33, 33] }, type := 4, pos := "law.go:128", after := #[{ on := 3, ground := Ground.data }, { on := 8, ground := Ground.data }, { on := 2, ground := Ground.chain }, { on := 2, ground := Ground.guard }], guard := some (2, true) }) rfl (fun K hK => ?_) AllReadyH.nil
            go_simp
            refine (J1.out _ hHeld).mono ?_
            rintro e v9 ⟨rfl, hb⟩
            have hq := bstep hHeld hb
            go_wp2_with fail
            refine hK.out _ _ hq (fun hHeld => ?_)
            clear hK K hb hq
            try simp only [Act.put, List.setIfInBounds_toArray, List.set_cons_zero, List.set_cons_succ]
            refine wpAnyH_take (i := 10) (oi := { dst := some 134, op := Op.unOp UnOp.not 4 (Operand.tmp 133), type := 4, pos := "law.go:128", after := #[{ on := 9, ground := Ground.data }, { on := 2, ground := Ground.guard }], guard := some (2, true) }) (v := ?_) rfl (by kernel_rfl) (by kernel_rfl) (by kernel_rfl) (fun _ _ _ h => h) (Or.inl ⟨by rfl, ?_⟩) (by assumption) ?_
            rotate_left
            · intro w hSw
              go_simp
              try with_reducible rfl
            try simp only [Act.put, List.setIfInBounds_toArray, List.set_cons_zero, List.set_cons_succ]
            refine wpAnyH_take (i := 11) (oi := { dst := some 135, op := Op.pick (Operand.tmp 126) (Operand.tmp 134) (Operand.const (Value.bool false)), type := 4, pos := "law.go:128", after := #[{ on := 2, ground := Ground.data }, { on := 10, ground := Ground.data }], guard := none }) (v := ?_) rfl (by kernel_rfl) (by kernel_rfl) (by kernel_rfl) (fun _ _ _ h => h) (Or.inl ⟨by rfl, ?_⟩) (by assumption) ?_
            rotate_left
            · intro w hSw
              go_simp
              try with_reducible rfl
            try simp only [Act.put, List.setIfInBounds_toArray, List.set_cons_zero, List.set_cons_succ]
            refine wpAnyH_take (i := 12) (oi := { dst := some 136, op := Op.move (Operand.tmp 135), type := 4, pos := "law.go:128", after := #[{ on := 11, ground := Ground.data }, { on := 9, ground := Ground.chain }], guard := none }) (v := ?_) rfl (by kernel_rfl) (by kernel_rfl) (by kernel_rfl) (fun _ _ _ h => h) (Or.inl ⟨by rfl, ?_⟩) (by assumption) ?_
            rotate_left
            · intro w hSw
              go_simp
              try with_reducible rfl
            try simp only [Act.put, List.setIfInBounds_toArray, List.set_cons_zero, List.set_cons_succ]
            refine wpAnyH_take (i := 13) (oi := { dst := some 137, op := Op.move (Operand.tmp 14), type := 27, pos := "law.go:128", after := #[{ on := 12, ground := Ground.guard }], guard := some (12, false) }) (v := ?_) rfl (by kernel_rfl) (by kernel_rfl) (by kernel_rfl) (fun _ _ _ h => h) (Or.inl ⟨by rfl, ?_⟩) (by assumption) ?_
            rotate_left
            · intro w hSw
              go_simp
              try with_reducible rfl
            try simp only [Act.put, List.setIfInBounds_toArray, List.set_cons_zero, List.set_cons_succ]
            refine wpAnyH_take (i := 14) (oi := { dst := some 138, op := Op.binOp BinOp.eql 27 (Operand.tmp 137) (Operand.const (Value.int IntKind.i64 0)) 27, type := 4, pos := "law.go:128", after := #[{ on := 13, ground := Ground.data }, { on := 12, ground := Ground.guard }], guard := some (12, false) }) (v := ?_) rfl (by kernel_rfl) (by kernel_rfl) (by kernel_rfl) (fun _ _ _ h => h) (Or.inl ⟨by rfl, ?_⟩) (by assumption) ?_
            rotate_left
            · intro w hSw
              go_simp
              try with_reducible rfl
            try simp only [Act.put, List.setIfInBounds_toArray, List.set_cons_zero, List.set_cons_succ]
            refine wpAnyH_take (i := 15) (oi := { dst := some 139, op := Op.move (Operand.tmp 138), type := 4, pos := "law.go:128", after := #[{ on := 14, ground := Ground.data }, { on := 12, ground := Ground.chain }, { on := 12, ground := Ground.guard }], guard := some (12, false) }) (v := ?_) rfl (by kernel_rfl) (by kernel_rfl) (by kernel_rfl) (fun _ _ _ h => h) (Or.inl ⟨by rfl, ?_⟩) (by assumption) ?_
            rotate_left
            · intro w hSw
              go_simp
              try with_reducible rfl
            try simp only [Act.put, List.setIfInBounds_toArray, List.set_cons_zero, List.set_cons_succ]
            refine wpAnyH_take (i := 16) (oi := { dst := some 140, op := Op.move (Operand.tmp 16), type := 27, pos := "law.go:128", after := #[{ on := 15, ground := Ground.guard }], guard := some (15, true) }) (v := undef) rfl (by kernel_rfl) (by kernel_rfl) (by kernel_rfl) (fun _ _ _ h => h) (Or.inr ⟨by kernel_rfl, rfl⟩) (by assumption) ?_
            try simp only [Act.put, List.setIfInBounds_toArray, List.set_cons_zero, List.set_cons_succ]
            refine wpAnyH_take (i := 17) (oi := { dst := some 141, op := Op.binOp BinOp.eql 27 (Operand.tmp 140) (Operand.const (Value.int IntKind.i64 0)) 27, type := 4, pos := "law.go:128", after := #[{ on := 16, ground := Ground.data }, { on := 15, ground := Ground.guard }], guard := some (15, true) }) (v := undef) rfl (by kernel_rfl) (by kernel_rfl) (by kernel_rfl) (fun _ _ _ h => h) (Or.inr ⟨by kernel_rfl, rfl⟩) (by assumption) ?_
            try simp only [Act.put, List.setIfInBounds_toArray, List.set_cons_zero, List.set_cons_succ]
            refine wpAnyH_take (i := 18) (oi := { dst := some 142, op := Op.pick (Operand.tmp 139) (Operand.tmp 141) (Operand.const (Value.bool false)), type := 4, pos := "law.go:128", after := #[{ on := 15, ground := Ground.data }, { on := 17, ground := Ground.data }, { on := 12, ground := Ground.guard }], guard := some (12, false) }) (v := ?_) rfl (by kernel_rfl) (by kernel_rfl) (by kernel_rfl) (fun _ _ _ h => h) (Or.inl ⟨by rfl, ?_⟩) (by assumption) ?_
            rotate_left
            · intro w hSw
              go_simp
              try with_reducible rfl
            try simp only [Act.put, List.setIfInBounds_toArray, List.set_cons_zero, List.set_cons_succ]
            refine wpAnyH_take (i := 19) (oi := { dst := some 143, op := Op.move (Operand.tmp 142), type := 4, pos := "law.go:128", after := #[{ on := 18, ground := Ground.data }, { on := 15, ground := Ground.chain }, { on := 12, ground := Ground.guard }], guard := some (12, false) }) (v := ?_) rfl (by kernel_rfl) (by kernel_rfl) (by kernel_rfl) (fun _ _ _ h => h) (Or.inl ⟨by rfl, ?_⟩) (by assumption) ?_
            rotate_left
            · intro w hSw
              go_simp
              try with_reducible rfl
            try simp only [Act.put, List.setIfInBounds_toArray, List.set_cons_zero, List.set_cons_succ]
            refine wpAnyH_take (i := 20) (oi := { dst := some 144, op := Op.load 33 (Operand.tmp 13), type := 33, pos := "law.go:128", after := #[{ on := 19, ground := Ground.guard }], guard := some (19, true) }) (v := undef) rfl (by kernel_rfl) (by kernel_rfl) (by kernel_rfl) (fun _ _ _ h => h) (Or.inr ⟨by kernel_rfl, rfl⟩) (by assumption) ?_
            try simp only [Act.put, List.setIfInBounds_toArray, List.set_cons_zero, List.set_cons_succ]
            refine wpAnyH_take (i := 21) (oi := { dst := some 145, op := Op.load 33 (Operand.tmp 15), type := 33, pos := "law.go:128", after := #[{ on := 19, ground := Ground.guard }], guard := some (19, true) }) (v := undef) rfl (by kernel_rfl) (by kernel_rfl) (by kernel_rfl) (fun _ _ _ h => h) (Or.inr ⟨by kernel_rfl, rfl⟩) (by assumption) ?_
            try simp only [Act.put, List.setIfInBounds_toArray, List.set_cons_zero, List.set_cons_succ]
            refine wpAnyH_take (i := 22) (oi := { dst := some 146, op := Op.call { callee := Callee.value (Operand.func 19), args := #[Operand.tmp 144, Operand.tmp 145], argTypes := #[33, 33] }, type := 4, pos := "law.go:128", after := #[{ on := 20, ground := Ground.data }, { on := 21, ground := Ground.data }, { on := 19, ground := Ground.chain }, { on := 19, ground := Ground.guard }], guard := some (19, true) }) (v := undef) rfl (by kernel_rfl) (by kernel_rfl) (by kernel_rfl) (fun _ _ _ h => h) (Or.inr ⟨by kernel_rfl, rfl⟩) (by assumption) ?_
            try simp only [Act.put, List.setIfInBounds_toArray, List.set_cons_zero, List.set_cons_succ]
            refine wpAnyH_take (i := 23) (oi := { dst := some 147, op := Op.unOp UnOp.not 4 (Operand.tmp 146), type := 4, pos := "law.go:128", after := #[{ on := 22, ground := Ground.data }, { on := 19, ground := Ground.guard }], guard := some (19, true) }) (v := undef) rfl (by kernel_rfl) (by kernel_rfl) (by kernel_rfl) (fun _ _ _ h => h) (Or.inr ⟨by kernel_rfl, rfl⟩) (by assumption) ?_
            try simp only [Act.put, List.setIfInBounds_toArray, List.set_cons_zero, List.set_cons_succ]
            refine wpAnyH_take (i := 24) (oi := { dst := some 148, op := Op.pick (Operand.tmp 143) (Operand.tmp 147) (Operand.const (Value.bool false)), type := 4, pos := "law.go:128", after := #[{ on := 19, ground := Ground.data }, { on := 23, ground := Ground.data }, { on := 12, ground := Ground.guard }], guard := some (12, false) }) (v := ?_) rfl (by kernel_rfl) (by kernel_rfl) (by kernel_rfl) (fun _ _ _ h => h) (Or.inl ⟨by rfl, ?_⟩) (by assumption) ?_
            rotate_left
            · intro w hSw
              go_simp
              try with_reducible rfl
            try simp only [Act.put, List.setIfInBounds_toArray, List.set_cons_zero, List.set_cons_succ]
            refine wpAnyH_take (i := 25) (oi := { dst := some 149, op := Op.pick (Operand.tmp 136) (Operand.const (Value.bool true)) (Operand.tmp 148), type := 4, pos := "law.go:128", after := #[{ on := 12, ground := Ground.data }, { on := 24, ground := Ground.data }], guard := none }) (v := ?_) rfl (by kernel_rfl) (by kernel_rfl) (by kernel_rfl) (fun _ _ _ h => h) (Or.inl ⟨by rfl, ?_⟩) (by assumption) ?_
            rotate_left
            · intro w hSw
              go_simp
              try with_reducible rfl
            try simp only [Act.put, List.setIfInBounds_toArray, List.set_cons_zero, List.set_cons_succ]
            have HEnd := Lib.hid hHeld
            refine wpAnyH_done (by kernel_rfl) ?_ _
            go_wp2_with fail
            go_meet
            case rel => exact ⟨rfl, HEnd.out⟩
        · obtain ⟨y1_, y2_⟩ := ne_zero e1
          by_cases e2 : F2 = 0
          · subst e2
            by_cases e3 : F3 = 0
            · subst e3
              have J2 : Hid (∀ W, Below wq.heap.size wq W → Calls Tryz.prog 19 #[.agg #[.bool s21, .slice S22 s23 s24, .slice S25 s26 s27], .agg #[.bool s31, .slice S32 s33 s34, .slice S35 s36 s37]] W fun e w' => e = .returned (.bool true) ∧ Below W.heap.size W w') := Lib.hid fun W h => same_num (t := triR (rT t * qI mass)) (IsR.on (OM3.out.zero rfl) h) (IsR.on (OH.out.zero rfl) h)
              refine wp_region_held_drew (S := (fun W => Below wq.heap.size wq W)) (by kernel_rfl) (drew_below _) (fun hHeld => ?_)
              refine wpAnyH_take (i := 0) (oi := { dst := some 124, op := Op.move (Operand.tmp 12), type := 27, pos := "law.go:128", after := #[], guard := none }) (v := ?_) rfl (by kernel_rfl) (by kernel_rfl) (by kernel_rfl) (fun _ _ _ h => h) (Or.inl ⟨by rfl, ?_⟩) (by assumption) ?_
              rotate_left
              · intro w hSw
                go_simp
                try with_reducible rfl
              try simp only [Act.put, List.setIfInBounds_toArray, List.set_cons_zero, List.set_cons_succ]
              refine wpAnyH_take (i := 1) (oi := { dst := some 125, op := Op.binOp BinOp.eql 27 (Operand.tmp 124) (Operand.const (Value.int IntKind.i64 0)) 27, type := 4, pos := "law.go:128", after := #[{ on := 0, ground := Ground.data }], guard := none }) (v := ?_) rfl (by kernel_rfl) (by kernel_rfl) (by kernel_rfl) (fun _ _ _ h => h) (Or.inl ⟨by rfl, ?_⟩) (by assumption) ?_
              rotate_left
              · intro w hSw
                go_simp
                try with_reducible rfl
              try simp only [Act.put, List.setIfInBounds_toArray, List.set_cons_zero, List.set_cons_succ]
              refine wpAnyH_take (i := 2) (oi := { dst := some 126, op := Op.move (Operand.tmp 125), type := 4, pos := "law.go:128", after := #[{ on := 1, ground := Ground.data }], guard := none }) (v := ?_) rfl (by kernel_rfl) (by kernel_rfl) (by kernel_rfl) (fun _ _ _ h => h) (Or.inl ⟨by rfl, ?_⟩) (by assumption) ?_
              rotate_left
              · intro w hSw
                go_simp
                try with_reducible rfl
              try simp only [Act.put, List.setIfInBounds_toArray, List.set_cons_zero, List.set_cons_succ]
              refine wpAnyH_take (i := 3) (oi := { dst := some 127, op := Op.load 33 (Operand.tmp 11), type := 33, pos := "law.go:128", after := #[{ on := 2, ground := Ground.guard }], guard := some (2, true) }) (v := undef) rfl (by kernel_rfl) (by kernel_rfl) (by kernel_rfl) (fun _ _ _ h => h) (Or.inr ⟨by kernel_rfl, rfl⟩) (by assumption) ?_
              try simp only [Act.put, List.setIfInBounds_toArray, List.set_cons_zero, List.set_cons_succ]
              refine wpAnyH_take (i := 4) (oi := { dst := some 128, op := Op.fieldAddr 24 (Operand.tmp 2) 1, type := 0, pos := "law.go:128", after := #[{ on := 2, ground := Ground.guard }], guard := some (2, true) }) (v := undef) rfl (by kernel_rfl) (by kernel_rfl) (by kernel_rfl) (fun _ _ _ h => h) (Or.inr ⟨by kernel_rfl, rfl⟩) (by assumption) ?_
              try simp only [Act.put, List.setIfInBounds_toArray, List.set_cons_zero, List.set_cons_succ]
              refine wpAnyH_take (i := 5) (oi := { dst := some 129, op := Op.load 22 (Operand.tmp 128), type := 22, pos := "law.go:128", after := #[{ on := 4, ground := Ground.data }, { on := 2, ground := Ground.guard }], guard := some (2, true) }) (v := undef) rfl (by kernel_rfl) (by kernel_rfl) (by kernel_rfl) (fun _ _ _ h => h) (Or.inr ⟨by kernel_rfl, rfl⟩) (by assumption) ?_
              try simp only [Act.put, List.setIfInBounds_toArray, List.set_cons_zero, List.set_cons_succ]
              refine wpAnyH_take (i := 6) (oi := { dst := some 130, op := Op.move (Operand.tmp 10), type := 3, pos := "law.go:128", after := #[{ on := 2, ground := Ground.guard }], guard := some (2, true) }) (v := undef) rfl (by kernel_rfl) (by kernel_rfl) (by kernel_rfl) (fun _ _ _ h => h) (Or.inr ⟨by kernel_rfl, rfl⟩) (by assumption) ?_
              try simp only [Act.put, List.setIfInBounds_toArray, List.set_cons_zero, List.set_cons_succ]
              refine wpAnyH_take (i := 7) (oi := { dst := some 131, op := Op.indexAddr 22 (Operand.tmp 129) (Operand.tmp 130), type := 0, pos := "law.go:128", after := #[{ on := 5, ground := Ground.data }, { on := 6, ground := Ground.data }, { on := 2, ground := Ground.guard }], guard := some (2, true) }) (v := undef) rfl (by kernel_rfl) (by kernel_rfl) (by kernel_rfl) (fun _ _ _ h => h) (Or.inr ⟨by kernel_rfl, rfl⟩) (by assumption) ?_
              try simp only [Act.put, List.setIfInBounds_toArray, List.set_cons_zero, List.set_cons_succ]
              refine wpAnyH_take (i := 8) (oi := { dst := some 132, op := Op.load 33 (Operand.tmp 131), type := 33, pos := "law.go:128", after := #[{ on := 7, ground := Ground.data }, { on := 2, ground := Ground.guard }], guard := some (2, true) }) (v := undef) rfl (by kernel_rfl) (by kernel_rfl) (by kernel_rfl) (fun _ _ _ h => h) (Or.inr ⟨by kernel_rfl, rfl⟩) (by assumption) ?_
              try simp only [Act.put, List.setIfInBounds_toArray, List.set_cons_zero, List.set_cons_succ]
              refine wpAnyH_take (i := 9) (oi := { dst := some 133, op := Op.call { callee := Callee.value (Operand.func 19), args := #[Operand.tmp 127, Operand.tmp 132], argTypes := #[33, 33] }, type := 4, pos := "law.go:128", after := #[{ on := 3, ground := Ground.data }, { on := 8, ground := Ground.data }, { on := 2, ground := Ground.chain }, { on := 2, ground := Ground.guard }], guard := some (2, true) }) (v := undef) rfl (by kernel_rfl) (by kernel_rfl) (by kernel_rfl) (fun _ _ _ h => h) (Or.inr ⟨by kernel_rfl, rfl⟩) (by assumption) ?_
              try simp only [Act.put, List.setIfInBounds_toArray, List.set_cons_zero, List.set_cons_succ]
              refine wpAnyH_take (i := 10) (oi := { dst := some 134, op := Op.unOp UnOp.not 4 (Operand.tmp 133), type := 4, pos := "law.go:128", after := #[{ on := 9, ground := Ground.data }, { on := 2, ground := Ground.guard }], guard := some (2, true) }) (v := undef) rfl (by kernel_rfl) (by kernel_rfl) (by kernel_rfl) (fun _ _ _ h => h) (Or.inr ⟨by kernel_rfl, rfl⟩) (by assumption) ?_
              try simp only [Act.put, List.setIfInBounds_toArray, List.set_cons_zero, List.set_cons_succ]
              refine wpAnyH_take (i := 11) (oi := { dst := some 135, op := Op.pick (Operand.tmp 126) (Operand.tmp 134) (Operand.const (Value.bool false)), type := 4, pos := "law.go:128", after := #[{ on := 2, ground := Ground.data }, { on := 10, ground := Ground.data }], guard := none }) (v := ?_) rfl (by kernel_rfl) (by kernel_rfl) (by kernel_rfl) (fun _ _ _ h => h) (Or.inl ⟨by rfl, ?_⟩) (by assumption) ?_
              rotate_left
              · intro w hSw
                go_simp
                try with_reducible rfl
              try simp only [Act.put, List.setIfInBounds_toArray, List.set_cons_zero, List.set_cons_succ]
              refine wpAnyH_take (i := 12) (oi := { dst := some 136, op := Op.move (Operand.tmp 135), type := 4, pos := "law.go:128", after := #[{ on := 11, ground := Ground.data }, { on := 9, ground := Ground.chain }], guard := none }) (v := ?_) rfl (by kernel_rfl) (by kernel_rfl) (by kernel_rfl) (fun _ _ _ h => h) (Or.inl ⟨by rfl, ?_⟩) (by assumption) ?_
              rotate_left
              · intro w hSw
                go_simp
                try with_reducible rfl
              try simp only [Act.put, List.setIfInBounds_toArray, List.set_cons_zero, List.set_cons_succ]
              refine wpAnyH_take (i := 13) (oi := { dst := some 137, op := Op.move (Operand.tmp 14), type := 27, pos := "law.go:128", after := #[{ on := 12, ground := Ground.guard }], guard := some (12, false) }) (v := ?_) rfl (by kernel_rfl) (by kernel_rfl) (by kernel_rfl) (fun _ _ _ h => h) (Or.inl ⟨by rfl, ?_⟩) (by assumption) ?_
              rotate_left
              · intro w hSw
                go_simp
                try with_reducible rfl
              try simp only [Act.put, List.setIfInBounds_toArray, List.set_cons_zero, List.set_cons_succ]
              refine wpAnyH_take (i := 14) (oi := { dst := some 138, op := Op.binOp BinOp.eql 27 (Operand.tmp 137) (Operand.const (Value.int IntKind.i64 0)) 27, type := 4, pos := "law.go:128", after := #[{ on := 13, ground := Ground.data }, { on := 12, ground := Ground.guard }], guard := some (12, false) }) (v := ?_) rfl (by kernel_rfl) (by kernel_rfl) (by kernel_rfl) (fun _ _ _ h => h) (Or.inl ⟨by rfl, ?_⟩) (by assumption) ?_
              rotate_left
              · intro w hSw
                go_simp
                try with_reducible rfl
              try simp only [Act.put, List.setIfInBounds_toArray, List.set_cons_zero, List.set_cons_succ]
              refine wpAnyH_take (i := 15) (oi := { dst := some 139, op := Op.move (Operand.tmp 138), type := 4, pos := "law.go:128", after := #[{ on := 14, ground := Ground.data }, { on := 12, ground := Ground.chain }, { on := 12, ground := Ground.guard }], guard := some (12, false) }) (v := ?_) rfl (by kernel_rfl) (by kernel_rfl) (by kernel_rfl) (fun _ _ _ h => h) (Or.inl ⟨by rfl, ?_⟩) (by assumption) ?_
              rotate_left
              · intro w hSw
                go_simp
                try with_reducible rfl
              try simp only [Act.put, List.setIfInBounds_toArray, List.set_cons_zero, List.set_cons_succ]
              refine wpAnyH_take (i := 16) (oi := { dst := some 140, op := Op.move (Operand.tmp 16), type := 27, pos := "law.go:128", after := #[{ on := 15, ground := Ground.guard }], guard := some (15, true) }) (v := ?_) rfl (by kernel_rfl) (by kernel_rfl) (by kernel_rfl) (fun _ _ _ h => h) (Or.inl ⟨by rfl, ?_⟩) (by assumption) ?_
              rotate_left
              · intro w hSw
                go_simp
                try with_reducible rfl
              try simp only [Act.put, List.setIfInBounds_toArray, List.set_cons_zero, List.set_cons_succ]
              refine wpAnyH_take (i := 17) (oi := { dst := some 141, op := Op.binOp BinOp.eql 27 (Operand.tmp 140) (Operand.const (Value.int IntKind.i64 0)) 27, type := 4, pos := "law.go:128", after := #[{ on := 16, ground := Ground.data }, { on := 15, ground := Ground.guard }], guard := some (15, true) }) (v := ?_) rfl (by kernel_rfl) (by kernel_rfl) (by kernel_rfl) (fun _ _ _ h => h) (Or.inl ⟨by rfl, ?_⟩) (by assumption) ?_
              rotate_left
              · intro w hSw
                go_simp
                try with_reducible rfl
              try simp only [Act.put, List.setIfInBounds_toArray, List.set_cons_zero, List.set_cons_succ]
              refine wpAnyH_take (i := 18) (oi := { dst := some 142, op := Op.pick (Operand.tmp 139) (Operand.tmp 141) (Operand.const (Value.bool false)), type := 4, pos := "law.go:128", after := #[{ on := 15, ground := Ground.data }, { on := 17, ground := Ground.data }, { on := 12, ground := Ground.guard }], guard := some (12, false) }) (v := ?_) rfl (by kernel_rfl) (by kernel_rfl) (by kernel_rfl) (fun _ _ _ h => h) (Or.inl ⟨by rfl, ?_⟩) (by assumption) ?_
              rotate_left
              · intro w hSw
                go_simp
                try with_reducible rfl
              try simp only [Act.put, List.setIfInBounds_toArray, List.set_cons_zero, List.set_cons_succ]
              refine wpAnyH_take (i := 19) (oi := { dst := some 143, op := Op.move (Operand.tmp 142), type := 4, pos := "law.go:128", after := #[{ on := 18, ground := Ground.data }, { on := 15, ground := Ground.chain }, { on := 12, ground := Ground.guard }], guard := some (12, false) }) (v := ?_) rfl (by kernel_rfl) (by kernel_rfl) (by kernel_rfl) (fun _ _ _ h => h) (Or.inl ⟨by rfl, ?_⟩) (by assumption) ?_
              rotate_left
              · intro w hSw
                go_simp
                try with_reducible rfl
              try simp only [Act.put, List.setIfInBounds_toArray, List.set_cons_zero, List.set_cons_succ]
              refine wpAnyH_take (i := 20) (oi := { dst := some 144, op := Op.load 33 (Operand.tmp 13), type := 33, pos := "law.go:128", after := #[{ on := 19, ground := Ground.guard }], guard := some (19, true) }) (v := ?_) rfl (by kernel_rfl) (by kernel_rfl) (by kernel_rfl) (fun _ _ _ h => h) (Or.inl ⟨by rfl, ?_⟩) (by assumption) ?_
              rotate_left
              · intro w hSw
                obtain ⟨⟨s0, s1, s2⟩, ⟨a0, a1, a2⟩, ⟨b0, b1, b2_⟩, ⟨x0, x1⟩, y0, y1, y2⟩ := HC15.out _ hSw
                go_simp
                try with_reducible rfl
              try simp only [Act.put, List.setIfInBounds_toArray, List.set_cons_zero, List.set_cons_succ]
              refine wpAnyH_take (i := 21) (oi := { dst := some 145, op := Op.load 33 (Operand.tmp 15), type := 33, pos := "law.go:128", after := #[{ on := 19, ground := Ground.guard }], guard := some (19, true) }) (v := ?_) rfl (by kernel_rfl) (by kernel_rfl) (by kernel_rfl) (fun _ _ _ h => h) (Or.inl ⟨by rfl, ?_⟩) (by assumption) ?_
              rotate_left
              · intro w hSw
                obtain ⟨⟨s0, s1, s2⟩, ⟨a0, a1, a2⟩, ⟨b0, b1, b2_⟩, ⟨x0, x1⟩, y0, y1, y2⟩ := HC15.out _ hSw
                go_simp
                try with_reducible rfl
              try simp only [Act.put, List.setIfInBounds_toArray, List.set_cons_zero, List.set_cons_succ]
              refine wpAnyH_ready (rs := [22]) (by kernel_rfl) (by simp) ?_
              refine AllReadyH.cons (o := { dst := some 146, op := Op.call { callee := Callee.value (Operand.func 19), args := #[Operand.tmp 144, Operand.tmp 145], argTypes := #[33, 33] }, type := 4, pos := "law.go:128", after := #[{ on := 20, ground := Ground.data }, { on := 21, ground := Ground.data }, { on := 19, ground := Ground.chain }, { on := 19, ground := Ground.guard }], guard := some (19, true) }) rfl (fun K hK => ?_) AllReadyH.nil
              go_simp
              refine (J2.out _ hHeld).mono ?_
              rintro e v22 ⟨rfl, hb⟩
              have hq := bstep hHeld hb
              go_wp2_with fail
              refine hK.out _ _ hq (fun hHeld => ?_)
              clear hK K hb hq
              try simp only [Act.put, List.setIfInBounds_toArray, List.set_cons_zero, List.set_cons_succ]
              refine wpAnyH_take (i := 23) (oi := { dst := some 147, op := Op.unOp UnOp.not 4 (Operand.tmp 146), type := 4, pos := "law.go:128", after := #[{ on := 22, ground := Ground.data }, { on := 19, ground := Ground.guard }], guard := some (19, true) }) (v := ?_) rfl (by kernel_rfl) (by kernel_rfl) (by kernel_rfl) (fun _ _ _ h => h) (Or.inl ⟨by rfl, ?_⟩) (by assumption) ?_
              rotate_left
              · intro w hSw
                go_simp
                try with_reducible rfl
              try simp only [Act.put, List.setIfInBounds_toArray, List.set_cons_zero, List.set_cons_succ]
              refine wpAnyH_take (i := 24) (oi := { dst := some 148, op := Op.pick (Operand.tmp 143) (Operand.tmp 147) (Operand.const (Value.bool false)), type := 4, pos := "law.go:128", after := #[{ on := 19, ground := Ground.data }, { on := 23, ground := Ground.data }, { on := 12, ground := Ground.guard }], guard := some (12, false) }) (v := ?_) rfl (by kernel_rfl) (by kernel_rfl) (by kernel_rfl) (fun _ _ _ h => h) (Or.inl ⟨by rfl, ?_⟩) (by assumption) ?_
              rotate_left
              · intro w hSw
                go_simp
                try with_reducible rfl
              try simp only [Act.put, List.setIfInBounds_toArray, List.set_cons_zero, List.set_cons_succ]
              refine wpAnyH_take (i := 25) (oi := { dst := some 149, op := Op.pick (Operand.tmp 136) (Operand.const (Value.bool true)) (Operand.tmp 148), type := 4, pos := "law.go:128", after := #[{ on := 12, ground := Ground.data }, { on := 24, ground := Ground.data }], guard := none }) (v := ?_) rfl (by kernel_rfl) (by kernel_rfl) (by kernel_rfl) (fun _ _ _ h => h) (Or.inl ⟨by rfl, ?_⟩) (by assumption) ?_
              rotate_left
              · intro w hSw
                go_simp
                try with_reducible rfl
              try simp only [Act.put, List.setIfInBounds_toArray, List.set_cons_zero, List.set_cons_succ]
              have HEnd := Lib.hid hHeld
              refine wpAnyH_done (by kernel_rfl) ?_ _
              go_wp2_with fail
              go_meet
              case rel => exact ⟨rfl, HEnd.out⟩
            · obtain ⟨z1, z2⟩ := ne_zero e3
              refine wp_region_held_drew (S := (fun W => Below wq.heap.size wq W)) (by kernel_rfl) (drew_below _) (fun hHeld => ?_)
              refine wpAnyH_take (i := 0) (oi := { dst := some 124, op := Op.move (Operand.tmp 12), type := 27, pos := "law.go:128", after := #[], guard := none }) (v := ?_) rfl (by kernel_rfl) (by kernel_rfl) (by kernel_rfl) (fun _ _ _ h => h) (Or.inl ⟨by rfl, ?_⟩) (by assumption) ?_
              rotate_left
              · intro w hSw
                go_simp
                try with_reducible rfl
              try simp only [Act.put, List.setIfInBounds_toArray, List.set_cons_zero, List.set_cons_succ]
              refine wpAnyH_take (i := 1) (oi := { dst := some 125, op := Op.binOp BinOp.eql 27 (Operand.tmp 124) (Operand.const (Value.int IntKind.i64 0)) 27, type := 4, pos := "law.go:128", after := #[{ on := 0, ground := Ground.data }], guard := none }) (v := ?_) rfl (by kernel_rfl) (by kernel_rfl) (by kernel_rfl) (fun _ _ _ h => h) (Or.inl ⟨by rfl, ?_⟩) (by assumption) ?_
              rotate_left
              · intro w hSw
                go_simp
                try with_reducible rfl
              try simp only [Act.put, List.setIfInBounds_toArray, List.set_cons_zero, List.set_cons_succ]
              refine wpAnyH_take (i := 2) (oi := { dst := some 126, op := Op.move (Operand.tmp 125), type := 4, pos := "law.go:128", after := #[{ on := 1, ground := Ground.data }], guard := none }) (v := ?_) rfl (by kernel_rfl) (by kernel_rfl) (by kernel_rfl) (fun _ _ _ h => h) (Or.inl ⟨by rfl, ?_⟩) (by assumption) ?_
              rotate_left
              · intro w hSw
                go_simp
                try with_reducible rfl
              try simp only [Act.put, List.setIfInBounds_toArray, List.set_cons_zero, List.set_cons_succ]
              refine wpAnyH_take (i := 3) (oi := { dst := some 127, op := Op.load 33 (Operand.tmp 11), type := 33, pos := "law.go:128", after := #[{ on := 2, ground := Ground.guard }], guard := some (2, true) }) (v := undef) rfl (by kernel_rfl) (by kernel_rfl) (by kernel_rfl) (fun _ _ _ h => h) (Or.inr ⟨by kernel_rfl, rfl⟩) (by assumption) ?_
              try simp only [Act.put, List.setIfInBounds_toArray, List.set_cons_zero, List.set_cons_succ]
              refine wpAnyH_take (i := 4) (oi := { dst := some 128, op := Op.fieldAddr 24 (Operand.tmp 2) 1, type := 0, pos := "law.go:128", after := #[{ on := 2, ground := Ground.guard }], guard := some (2, true) }) (v := undef) rfl (by kernel_rfl) (by kernel_rfl) (by kernel_rfl) (fun _ _ _ h => h) (Or.inr ⟨by kernel_rfl, rfl⟩) (by assumption) ?_
              try simp only [Act.put, List.setIfInBounds_toArray, List.set_cons_zero, List.set_cons_succ]
              refine wpAnyH_take (i := 5) (oi := { dst := some 129, op := Op.load 22 (Operand.tmp 128), type := 22, pos := "law.go:128", after := #[{ on := 4, ground := Ground.data }, { on := 2, ground := Ground.guard }], guard := some (2, true) }) (v := undef) rfl (by kernel_rfl) (by kernel_rfl) (by kernel_rfl) (fun _ _ _ h => h) (Or.inr ⟨by kernel_rfl, rfl⟩) (by assumption) ?_
              try simp only [Act.put, List.setIfInBounds_toArray, List.set_cons_zero, List.set_cons_succ]
              refine wpAnyH_take (i := 6) (oi := { dst := some 130, op := Op.move (Operand.tmp 10), type := 3, pos := "law.go:128", after := #[{ on := 2, ground := Ground.guard }], guard := some (2, true) }) (v := undef) rfl (by kernel_rfl) (by kernel_rfl) (by kernel_rfl) (fun _ _ _ h => h) (Or.inr ⟨by kernel_rfl, rfl⟩) (by assumption) ?_
              try simp only [Act.put, List.setIfInBounds_toArray, List.set_cons_zero, List.set_cons_succ]
              refine wpAnyH_take (i := 7) (oi := { dst := some 131, op := Op.indexAddr 22 (Operand.tmp 129) (Operand.tmp 130), type := 0, pos := "law.go:128", after := #[{ on := 5, ground := Ground.data }, { on := 6, ground := Ground.data }, { on := 2, ground := Ground.guard }], guard := some (2, true) }) (v := undef) rfl (by kernel_rfl) (by kernel_rfl) (by kernel_rfl) (fun _ _ _ h => h) (Or.inr ⟨by kernel_rfl, rfl⟩) (by assumption) ?_
              try simp only [Act.put, List.setIfInBounds_toArray, List.set_cons_zero, List.set_cons_succ]
              refine wpAnyH_take (i := 8) (oi := { dst := some 132, op := Op.load 33 (Operand.tmp 131), type := 33, pos := "law.go:128", after := #[{ on := 7, ground := Ground.data }, { on := 2, ground := Ground.guard }], guard := some (2, true) }) (v := undef) rfl (by kernel_rfl) (by kernel_rfl) (by kernel_rfl) (fun _ _ _ h => h) (Or.inr ⟨by kernel_rfl, rfl⟩) (by assumption) ?_
              try simp only [Act.put, List.setIfInBounds_toArray, List.set_cons_zero, List.set_cons_succ]
              refine wpAnyH_take (i := 9) (oi := { dst := some 133, op := Op.call { callee := Callee.value (Operand.func 19), args := #[Operand.tmp 127, Operand.tmp 132], argTypes := #[33, 33] }, type := 4, pos := "law.go:128", after := #[{ on := 3, ground := Ground.data }, { on := 8, ground := Ground.data }, { on := 2, ground := Ground.chain }, { on := 2, ground := Ground.guard }], guard := some (2, true) }) (v := undef) rfl (by kernel_rfl) (by kernel_rfl) (by kernel_rfl) (fun _ _ _ h => h) (Or.inr ⟨by kernel_rfl, rfl⟩) (by assumption) ?_
              try simp only [Act.put, List.setIfInBounds_toArray, List.set_cons_zero, List.set_cons_succ]
              refine wpAnyH_take (i := 10) (oi := { dst := some 134, op := Op.unOp UnOp.not 4 (Operand.tmp 133), type := 4, pos := "law.go:128", after := #[{ on := 9, ground := Ground.data }, { on := 2, ground := Ground.guard }], guard := some (2, true) }) (v := undef) rfl (by kernel_rfl) (by kernel_rfl) (by kernel_rfl) (fun _ _ _ h => h) (Or.inr ⟨by kernel_rfl, rfl⟩) (by assumption) ?_
              try simp only [Act.put, List.setIfInBounds_toArray, List.set_cons_zero, List.set_cons_succ]
              refine wpAnyH_take (i := 11) (oi := { dst := some 135, op := Op.pick (Operand.tmp 126) (Operand.tmp 134) (Operand.const (Value.bool false)), type := 4, pos := "law.go:128", after := #[{ on := 2, ground := Ground.data }, { on := 10, ground := Ground.data }], guard := none }) (v := ?_) rfl (by kernel_rfl) (by kernel_rfl) (by kernel_rfl) (fun _ _ _ h => h) (Or.inl ⟨by rfl, ?_⟩) (by assumption) ?_
              rotate_left
              · intro w hSw
                go_simp
                try with_reducible rfl
              try simp only [Act.put, List.setIfInBounds_toArray, List.set_cons_zero, List.set_cons_succ]
              refine wpAnyH_take (i := 12) (oi := { dst := some 136, op := Op.move (Operand.tmp 135), type := 4, pos := "law.go:128", after := #[{ on := 11, ground := Ground.data }, { on := 9, ground := Ground.chain }], guard := none }) (v := ?_) rfl (by kernel_rfl) (by kernel_rfl) (by kernel_rfl) (fun _ _ _ h => h) (Or.inl ⟨by rfl, ?_⟩) (by assumption) ?_
              rotate_left
              · intro w hSw
                go_simp
                try with_reducible rfl
              try simp only [Act.put, List.setIfInBounds_toArray, List.set_cons_zero, List.set_cons_succ]
              refine wpAnyH_take (i := 13) (oi := { dst := some 137, op := Op.move (Operand.tmp 14), type := 27, pos := "law.go:128", after := #[{ on := 12, ground := Ground.guard }], guard := some (12, false) }) (v := ?_) rfl (by kernel_rfl) (by kernel_rfl) (by kernel_rfl) (fun _ _ _ h => h) (Or.inl ⟨by rfl, ?_⟩) (by assumption) ?_
              rotate_left
              · intro w hSw
                go_simp
                try with_reducible rfl
              try simp only [Act.put, List.setIfInBounds_toArray, List.set_cons_zero, List.set_cons_succ]
              refine wpAnyH_take (i := 14) (oi := { dst := some 138, op := Op.binOp BinOp.eql 27 (Operand.tmp 137) (Operand.const (Value.int IntKind.i64 0)) 27, type := 4, pos := "law.go:128", after := #[{ on := 13, ground := Ground.data }, { on := 12, ground := Ground.guard }], guard := some (12, false) }) (v := ?_) rfl (by kernel_rfl) (by kernel_rfl) (by kernel_rfl) (fun _ _ _ h => h) (Or.inl ⟨by rfl, ?_⟩) (by assumption) ?_
              rotate_left
              · intro w hSw
                go_simp
                try with_reducible rfl
              try simp only [Act.put, List.setIfInBounds_toArray, List.set_cons_zero, List.set_cons_succ]
              refine wpAnyH_take (i := 15) (oi := { dst := some 139, op := Op.move (Operand.tmp 138), type := 4, pos := "law.go:128", after := #[{ on := 14, ground := Ground.data }, { on := 12, ground := Ground.chain }, { on := 12, ground := Ground.guard }], guard := some (12, false) }) (v := ?_) rfl (by kernel_rfl) (by kernel_rfl) (by kernel_rfl) (fun _ _ _ h => h) (Or.inl ⟨by rfl, ?_⟩) (by assumption) ?_
              rotate_left
              · intro w hSw
                go_simp
                try with_reducible rfl
              try simp only [Act.put, List.setIfInBounds_toArray, List.set_cons_zero, List.set_cons_succ]
              refine wpAnyH_take (i := 16) (oi := { dst := some 140, op := Op.move (Operand.tmp 16), type := 27, pos := "law.go:128", after := #[{ on := 15, ground := Ground.guard }], guard := some (15, true) }) (v := ?_) rfl (by kernel_rfl) (by kernel_rfl) (by kernel_rfl) (fun _ _ _ h => h) (Or.inl ⟨by rfl, ?_⟩) (by assumption) ?_
              rotate_left
              · intro w hSw
                go_simp
                try with_reducible rfl
              try simp only [Act.put, List.setIfInBounds_toArray, List.set_cons_zero, List.set_cons_succ]
              refine wpAnyH_take (i := 17) (oi := { dst := some 141, op := Op.binOp BinOp.eql 27 (Operand.tmp 140) (Operand.const (Value.int IntKind.i64 0)) 27, type := 4, pos := "law.go:128", after := #[{ on := 16, ground := Ground.data }, { on := 15, ground := Ground.guard }], guard := some (15, true) }) (v := ?_) rfl (by kernel_rfl) (by kernel_rfl) (by kernel_rfl) (fun _ _ _ h => h) (Or.inl ⟨by rfl, ?_⟩) (by assumption) ?_
              rotate_left
              · intro w hSw
                go_simp
                try with_reducible rfl
              try simp only [Act.put, List.setIfInBounds_toArray, List.set_cons_zero, List.set_cons_succ]
              refine wpAnyH_take (i := 18) (oi := { dst := some 142, op := Op.pick (Operand.tmp 139) (Operand.tmp 141) (Operand.const (Value.bool false)), type := 4, pos := "law.go:128", after := #[{ on := 15, ground := Ground.data }, { on := 17, ground := Ground.data }, { on := 12, ground := Ground.guard }], guard := some (12, false) }) (v := ?_) rfl (by kernel_rfl) (by kernel_rfl) (by kernel_rfl) (fun _ _ _ h => h) (Or.inl ⟨by rfl, ?_⟩) (by assumption) ?_
              rotate_left
              · intro w hSw
                go_simp
                try with_reducible rfl
              try simp only [Act.put, List.setIfInBounds_toArray, List.set_cons_zero, List.set_cons_succ]
              refine wpAnyH_take (i := 19) (oi := { dst := some 143, op := Op.move (Operand.tmp 142), type := 4, pos := "law.go:128", after := #[{ on := 18, ground := Ground.data }, { on := 15, ground := Ground.chain }, { on := 12, ground := Ground.guard }], guard := some (12, false) }) (v := ?_) rfl (by kernel_rfl) (by kernel_rfl) (by kernel_rfl) (fun _ _ _ h => h) (Or.inl ⟨by rfl, ?_⟩) (by assumption) ?_
              rotate_left
              · intro w hSw
                go_simp
                try with_reducible rfl
              try simp only [Act.put, List.setIfInBounds_toArray, List.set_cons_zero, List.set_cons_succ]
              refine wpAnyH_take (i := 20) (oi := { dst := some 144, op := Op.load 33 (Operand.tmp 13), type := 33, pos := "law.go:128", after := #[{ on := 19, ground := Ground.guard }], guard := some (19, true) }) (v := undef) rfl (by kernel_rfl) (by kernel_rfl) (by kernel_rfl) (fun _ _ _ h => h) (Or.inr ⟨by kernel_rfl, rfl⟩) (by assumption) ?_
              try simp only [Act.put, List.setIfInBounds_toArray, List.set_cons_zero, List.set_cons_succ]
              refine wpAnyH_take (i := 21) (oi := { dst := some 145, op := Op.load 33 (Operand.tmp 15), type := 33, pos := "law.go:128", after := #[{ on := 19, ground := Ground.guard }], guard := some (19, true) }) (v := undef) rfl (by kernel_rfl) (by kernel_rfl) (by kernel_rfl) (fun _ _ _ h => h) (Or.inr ⟨by kernel_rfl, rfl⟩) (by assumption) ?_
              try simp only [Act.put, List.setIfInBounds_toArray, List.set_cons_zero, List.set_cons_succ]
              refine wpAnyH_take (i := 22) (oi := { dst := some 146, op := Op.call { callee := Callee.value (Operand.func 19), args := #[Operand.tmp 144, Operand.tmp 145], argTypes := #[33, 33] }, type := 4, pos := "law.go:128", after := #[{ on := 20, ground := Ground.data }, { on := 21, ground := Ground.data }, { on := 19, ground := Ground.chain }, { on := 19, ground := Ground.guard }], guard := some (19, true) }) (v := undef) rfl (by kernel_rfl) (by kernel_rfl) (by kernel_rfl) (fun _ _ _ h => h) (Or.inr ⟨by kernel_rfl, rfl⟩) (by assumption) ?_
              try simp only [Act.put, List.setIfInBounds_toArray, List.set_cons_zero, List.set_cons_succ]
              refine wpAnyH_take (i := 23) (oi := { dst := some 147, op := Op.unOp UnOp.not 4 (Operand.tmp 146), type := 4, pos := "law.go:128", after := #[{ on := 22, ground := Ground.data }, { on := 19, ground := Ground.guard }], guard := some (19, true) }) (v := undef) rfl (by kernel_rfl) (by kernel_rfl) (by kernel_rfl) (fun _ _ _ h => h) (Or.inr ⟨by kernel_rfl, rfl⟩) (by assumption) ?_
              try simp only [Act.put, List.setIfInBounds_toArray, List.set_cons_zero, List.set_cons_succ]
              refine wpAnyH_take (i := 24) (oi := { dst := some 148, op := Op.pick (Operand.tmp 143) (Operand.tmp 147) (Operand.const (Value.bool false)), type := 4, pos := "law.go:128", after := #[{ on := 19, ground := Ground.data }, { on := 23, ground := Ground.data }, { on := 12, ground := Ground.guard }], guard := some (12, false) }) (v := ?_) rfl (by kernel_rfl) (by kernel_rfl) (by kernel_rfl) (fun _ _ _ h => h) (Or.inl ⟨by rfl, ?_⟩) (by assumption) ?_
              rotate_left
              · intro w hSw
                go_simp
                try with_reducible rfl
              try simp only [Act.put, List.setIfInBounds_toArray, List.set_cons_zero, List.set_cons_succ]
              refine wpAnyH_take (i := 25) (oi := { dst := some 149, op := Op.pick (Operand.tmp 136) (Operand.const (Value.bool true)) (Operand.tmp 148), type := 4, pos := "law.go:128", after := #[{ on := 12, ground := Ground.data }, { on := 24, ground := Ground.data }], guard := none }) (v := ?_) rfl (by kernel_rfl) (by kernel_rfl) (by kernel_rfl) (fun _ _ _ h => h) (Or.inl ⟨by rfl, ?_⟩) (by assumption) ?_
              rotate_left
              · intro w hSw
                go_simp
                try with_reducible rfl
              try simp only [Act.put, List.setIfInBounds_toArray, List.set_cons_zero, List.set_cons_succ]
              have HEnd := Lib.hid hHeld
              refine wpAnyH_done (by kernel_rfl) ?_ _
              go_wp2_with fail
              go_meet
              case rel => exact ⟨rfl, HEnd.out⟩
          · obtain ⟨z1, z2⟩ := ne_zero e2
            refine wp_region_held_drew (S := (fun W => Below wq.heap.size wq W)) (by kernel_rfl) (drew_below _) (fun hHeld => ?_)
            refine wpAnyH_take (i := 0) (oi := { dst := some 124, op := Op.move (Operand.tmp 12), type := 27, pos := "law.go:128", after := #[], guard := none }) (v := ?_) rfl (by kernel_rfl) (by kernel_rfl) (by kernel_rfl) (fun _ _ _ h => h) (Or.inl ⟨by rfl, ?_⟩) (by assumption) ?_
            rotate_left
            · intro w hSw
              go_simp
              try with_reducible rfl
            try simp only [Act.put, List.setIfInBounds_toArray, List.set_cons_zero, List.set_cons_succ]
            refine wpAnyH_take (i := 1) (oi := { dst := some 125, op := Op.binOp BinOp.eql 27 (Operand.tmp 124) (Operand.const (Value.int IntKind.i64 0)) 27, type := 4, pos := "law.go:128", after := #[{ on := 0, ground := Ground.data }], guard := none }) (v := ?_) rfl (by kernel_rfl) (by kernel_rfl) (by kernel_rfl) (fun _ _ _ h => h) (Or.inl ⟨by rfl, ?_⟩) (by assumption) ?_
            rotate_left
            · intro w hSw
              go_simp
              try with_reducible rfl
            try simp only [Act.put, List.setIfInBounds_toArray, List.set_cons_zero, List.set_cons_succ]
            refine wpAnyH_take (i := 2) (oi := { dst := some 126, op := Op.move (Operand.tmp 125), type := 4, pos := "law.go:128", after := #[{ on := 1, ground := Ground.data }], guard := none }) (v := ?_) rfl (by kernel_rfl) (by kernel_rfl) (by kernel_rfl) (fun _ _ _ h => h) (Or.inl ⟨by rfl, ?_⟩) (by assumption) ?_
            rotate_left
            · intro w hSw
              go_simp
              try with_reducible rfl
            try simp only [Act.put, List.setIfInBounds_toArray, List.set_cons_zero, List.set_cons_succ]
            refine wpAnyH_take (i := 3) (oi := { dst := some 127, op := Op.load 33 (Operand.tmp 11), type := 33, pos := "law.go:128", after := #[{ on := 2, ground := Ground.guard }], guard := some (2, true) }) (v := undef) rfl (by kernel_rfl) (by kernel_rfl) (by kernel_rfl) (fun _ _ _ h => h) (Or.inr ⟨by kernel_rfl, rfl⟩) (by assumption) ?_
            try simp only [Act.put, List.setIfInBounds_toArray, List.set_cons_zero, List.set_cons_succ]
            refine wpAnyH_take (i := 4) (oi := { dst := some 128, op := Op.fieldAddr 24 (Operand.tmp 2) 1, type := 0, pos := "law.go:128", after := #[{ on := 2, ground := Ground.guard }], guard := some (2, true) }) (v := undef) rfl (by kernel_rfl) (by kernel_rfl) (by kernel_rfl) (fun _ _ _ h => h) (Or.inr ⟨by kernel_rfl, rfl⟩) (by assumption) ?_
            try simp only [Act.put, List.setIfInBounds_toArray, List.set_cons_zero, List.set_cons_succ]
            refine wpAnyH_take (i := 5) (oi := { dst := some 129, op := Op.load 22 (Operand.tmp 128), type := 22, pos := "law.go:128", after := #[{ on := 4, ground := Ground.data }, { on := 2, ground := Ground.guard }], guard := some (2, true) }) (v := undef) rfl (by kernel_rfl) (by kernel_rfl) (by kernel_rfl) (fun _ _ _ h => h) (Or.inr ⟨by kernel_rfl, rfl⟩) (by assumption) ?_
            try simp only [Act.put, List.setIfInBounds_toArray, List.set_cons_zero, List.set_cons_succ]
            refine wpAnyH_take (i := 6) (oi := { dst := some 130, op := Op.move (Operand.tmp 10), type := 3, pos := "law.go:128", after := #[{ on := 2, ground := Ground.guard }], guard := some (2, true) }) (v := undef) rfl (by kernel_rfl) (by kernel_rfl) (by kernel_rfl) (fun _ _ _ h => h) (Or.inr ⟨by kernel_rfl, rfl⟩) (by assumption) ?_
            try simp only [Act.put, List.setIfInBounds_toArray, List.set_cons_zero, List.set_cons_succ]
            refine wpAnyH_take (i := 7) (oi := { dst := some 131, op := Op.indexAddr 22 (Operand.tmp 129) (Operand.tmp 130), type := 0, pos := "law.go:128", after := #[{ on := 5, ground := Ground.data }, { on := 6, ground := Ground.data }, { on := 2, ground := Ground.guard }], guard := some (2, true) }) (v := undef) rfl (by kernel_rfl) (by kernel_rfl) (by kernel_rfl) (fun _ _ _ h => h) (Or.inr ⟨by kernel_rfl, rfl⟩) (by assumption) ?_
            try simp only [Act.put, List.setIfInBounds_toArray, List.set_cons_zero, List.set_cons_succ]
            refine wpAnyH_take (i := 8) (oi := { dst := some 132, op := Op.load 33 (Operand.tmp 131), type := 33, pos := "law.go:128", after := #[{ on := 7, ground := Ground.data }, { on := 2, ground := Ground.guard }], guard := some (2, true) }) (v := undef) rfl (by kernel_rfl) (by kernel_rfl) (by kernel_rfl) (fun _ _ _ h => h) (Or.inr ⟨by kernel_rfl, rfl⟩) (by assumption) ?_
            try simp only [Act.put, List.setIfInBounds_toArray, List.set_cons_zero, List.set_cons_succ]
            refine wpAnyH_take (i := 9) (oi := { dst := some 133, op := Op.call { callee := Callee.value (Operand.func 19), args := #[Operand.tmp 127, Operand.tmp 132], argTypes := #[33, 33] }, type := 4, pos := "law.go:128", after := #[{ on := 3, ground := Ground.data }, { on := 8, ground := Ground.data }, { on := 2, ground := Ground.chain }, { on := 2, ground := Ground.guard }], guard := some (2, true) }) (v := undef) rfl (by kernel_rfl) (by kernel_rfl) (by kernel_rfl) (fun _ _ _ h => h) (Or.inr ⟨by kernel_rfl, rfl⟩) (by assumption) ?_
            try simp only [Act.put, List.setIfInBounds_toArray, List.set_cons_zero, List.set_cons_succ]
            refine wpAnyH_take (i := 10) (oi := { dst := some 134, op := Op.unOp UnOp.not 4 (Operand.tmp 133), type := 4, pos := "law.go:128", after := #[{ on := 9, ground := Ground.data }, { on := 2, ground := Ground.guard }], guard := some (2, true) }) (v := undef) rfl (by kernel_rfl) (by kernel_rfl) (by kernel_rfl) (fun _ _ _ h => h) (Or.inr ⟨by kernel_rfl, rfl⟩) (by assumption) ?_
            try simp only [Act.put, List.setIfInBounds_toArray, List.set_cons_zero, List.set_cons_succ]
            refine wpAnyH_take (i := 11) (oi := { dst := some 135, op := Op.pick (Operand.tmp 126) (Operand.tmp 134) (Operand.const (Value.bool false)), type := 4, pos := "law.go:128", after := #[{ on := 2, ground := Ground.data }, { on := 10, ground := Ground.data }], guard := none }) (v := ?_) rfl (by kernel_rfl) (by kernel_rfl) (by kernel_rfl) (fun _ _ _ h => h) (Or.inl ⟨by rfl, ?_⟩) (by assumption) ?_
            rotate_left
            · intro w hSw
              go_simp
              try with_reducible rfl
            try simp only [Act.put, List.setIfInBounds_toArray, List.set_cons_zero, List.set_cons_succ]
            refine wpAnyH_take (i := 12) (oi := { dst := some 136, op := Op.move (Operand.tmp 135), type := 4, pos := "law.go:128", after := #[{ on := 11, ground := Ground.data }, { on := 9, ground := Ground.chain }], guard := none }) (v := ?_) rfl (by kernel_rfl) (by kernel_rfl) (by kernel_rfl) (fun _ _ _ h => h) (Or.inl ⟨by rfl, ?_⟩) (by assumption) ?_
            rotate_left
            · intro w hSw
              go_simp
              try with_reducible rfl
            try simp only [Act.put, List.setIfInBounds_toArray, List.set_cons_zero, List.set_cons_succ]
            refine wpAnyH_take (i := 13) (oi := { dst := some 137, op := Op.move (Operand.tmp 14), type := 27, pos := "law.go:128", after := #[{ on := 12, ground := Ground.guard }], guard := some (12, false) }) (v := ?_) rfl (by kernel_rfl) (by kernel_rfl) (by kernel_rfl) (fun _ _ _ h => h) (Or.inl ⟨by rfl, ?_⟩) (by assumption) ?_
            rotate_left
            · intro w hSw
              go_simp
              try with_reducible rfl
            try simp only [Act.put, List.setIfInBounds_toArray, List.set_cons_zero, List.set_cons_succ]
            refine wpAnyH_take (i := 14) (oi := { dst := some 138, op := Op.binOp BinOp.eql 27 (Operand.tmp 137) (Operand.const (Value.int IntKind.i64 0)) 27, type := 4, pos := "law.go:128", after := #[{ on := 13, ground := Ground.data }, { on := 12, ground := Ground.guard }], guard := some (12, false) }) (v := ?_) rfl (by kernel_rfl) (by kernel_rfl) (by kernel_rfl) (fun _ _ _ h => h) (Or.inl ⟨by rfl, ?_⟩) (by assumption) ?_
            rotate_left
            · intro w hSw
              go_simp
              try with_reducible rfl
            try simp only [Act.put, List.setIfInBounds_toArray, List.set_cons_zero, List.set_cons_succ]
            refine wpAnyH_take (i := 15) (oi := { dst := some 139, op := Op.move (Operand.tmp 138), type := 4, pos := "law.go:128", after := #[{ on := 14, ground := Ground.data }, { on := 12, ground := Ground.chain }, { on := 12, ground := Ground.guard }], guard := some (12, false) }) (v := ?_) rfl (by kernel_rfl) (by kernel_rfl) (by kernel_rfl) (fun _ _ _ h => h) (Or.inl ⟨by rfl, ?_⟩) (by assumption) ?_
            rotate_left
            · intro w hSw
              go_simp
              try with_reducible rfl
            try simp only [Act.put, List.setIfInBounds_toArray, List.set_cons_zero, List.set_cons_succ]
            refine wpAnyH_take (i := 16) (oi := { dst := some 140, op := Op.move (Operand.tmp 16), type := 27, pos := "law.go:128", after := #[{ on := 15, ground := Ground.guard }], guard := some (15, true) }) (v := undef) rfl (by kernel_rfl) (by kernel_rfl) (by kernel_rfl) (fun _ _ _ h => h) (Or.inr ⟨by kernel_rfl, rfl⟩) (by assumption) ?_
            try simp only [Act.put, List.setIfInBounds_toArray, List.set_cons_zero, List.set_cons_succ]
            refine wpAnyH_take (i := 17) (oi := { dst := some 141, op := Op.binOp BinOp.eql 27 (Operand.tmp 140) (Operand.const (Value.int IntKind.i64 0)) 27, type := 4, pos := "law.go:128", after := #[{ on := 16, ground := Ground.data }, { on := 15, ground := Ground.guard }], guard := some (15, true) }) (v := undef) rfl (by kernel_rfl) (by kernel_rfl) (by kernel_rfl) (fun _ _ _ h => h) (Or.inr ⟨by kernel_rfl, rfl⟩) (by assumption) ?_
            try simp only [Act.put, List.setIfInBounds_toArray, List.set_cons_zero, List.set_cons_succ]
            refine wpAnyH_take (i := 18) (oi := { dst := some 142, op := Op.pick (Operand.tmp 139) (Operand.tmp 141) (Operand.const (Value.bool false)), type := 4, pos := "law.go:128", after := #[{ on := 15, ground := Ground.data }, { on := 17, ground := Ground.data }, { on := 12, ground := Ground.guard }], guard := some (12, false) }) (v := ?_) rfl (by kernel_rfl) (by kernel_rfl) (by kernel_rfl) (fun _ _ _ h => h) (Or.inl ⟨by rfl, ?_⟩) (by assumption) ?_
            rotate_left
            · intro w hSw
              go_simp
              try with_reducible rfl
            try simp only [Act.put, List.setIfInBounds_toArray, List.set_cons_zero, List.set_cons_succ]
            refine wpAnyH_take (i := 19) (oi := { dst := some 143, op := Op.move (Operand.tmp 142), type := 4, pos := "law.go:128", after := #[{ on := 18, ground := Ground.data }, { on := 15, ground := Ground.chain }, { on := 12, ground := Ground.guard }], guard := some (12, false) }) (v := ?_) rfl (by kernel_rfl) (by kernel_rfl) (by kernel_rfl) (fun _ _ _ h => h) (Or.inl ⟨by rfl, ?_⟩) (by assumption) ?_
            rotate_left
            · intro w hSw
              go_simp
              try with_reducible rfl
            try simp only [Act.put, List.setIfInBounds_toArray, List.set_cons_zero, List.set_cons_succ]
            refine wpAnyH_take (i := 20) (oi := { dst := some 144, op := Op.load 33 (Operand.tmp 13), type := 33, pos := "law.go:128", after := #[{ on := 19, ground := Ground.guard }], guard := some (19, true) }) (v := undef) rfl (by kernel_rfl) (by kernel_rfl) (by kernel_rfl) (fun _ _ _ h => h) (Or.inr ⟨by kernel_rfl, rfl⟩) (by assumption) ?_
            try simp only [Act.put, List.setIfInBounds_toArray, List.set_cons_zero, List.set_cons_succ]
            refine wpAnyH_take (i := 21) (oi := { dst := some 145, op := Op.load 33 (Operand.tmp 15), type := 33, pos := "law.go:128", after := #[{ on := 19, ground := Ground.guard }], guard := some (19, true) }) (v := undef) rfl (by kernel_rfl) (by kernel_rfl) (by kernel_rfl) (fun _ _ _ h => h) (Or.inr ⟨by kernel_rfl, rfl⟩) (by assumption) ?_
            try simp only [Act.put, List.setIfInBounds_toArray, List.set_cons_zero, List.set_cons_succ]
            refine wpAnyH_take (i := 22) (oi := { dst := some 146, op := Op.call { callee := Callee.value (Operand.func 19), args := #[Operand.tmp 144, Operand.tmp 145], argTypes := #[33, 33] }, type := 4, pos := "law.go:128", after := #[{ on := 20, ground := Ground.data }, { on := 21, ground := Ground.data }, { on := 19, ground := Ground.chain }, { on := 19, ground := Ground.guard }], guard := some (19, true) }) (v := undef) rfl (by kernel_rfl) (by kernel_rfl) (by kernel_rfl) (fun _ _ _ h => h) (Or.inr ⟨by kernel_rfl, rfl⟩) (by assumption) ?_
            try simp only [Act.put, List.setIfInBounds_toArray, List.set_cons_zero, List.set_cons_succ]
            refine wpAnyH_take (i := 23) (oi := { dst := some 147, op := Op.unOp UnOp.not 4 (Operand.tmp 146), type := 4, pos := "law.go:128", after := #[{ on := 22, ground := Ground.data }, { on := 19, ground := Ground.guard }], guard := some (19, true) }) (v := undef) rfl (by kernel_rfl) (by kernel_rfl) (by kernel_rfl) (fun _ _ _ h => h) (Or.inr ⟨by kernel_rfl, rfl⟩) (by assumption) ?_
            try simp only [Act.put, List.setIfInBounds_toArray, List.set_cons_zero, List.set_cons_succ]
            refine wpAnyH_take (i := 24) (oi := { dst := some 148, op := Op.pick (Operand.tmp 143) (Operand.tmp 147) (Operand.const (Value.bool false)), type := 4, pos := "law.go:128", after := #[{ on := 19, ground := Ground.data }, { on := 23, ground := Ground.data }, { on := 12, ground := Ground.guard }], guard := some (12, false) }) (v := ?_) rfl (by kernel_rfl) (by kernel_rfl) (by kernel_rfl) (fun _ _ _ h => h) (Or.inl ⟨by rfl, ?_⟩) (by assumption) ?_
            rotate_left
            · intro w hSw
              go_simp
              try with_reducible rfl
            try simp only [Act.put, List.setIfInBounds_toArray, List.set_cons_zero, List.set_cons_succ]
            refine wpAnyH_take (i := 25) (oi := { dst := some 149, op := Op.pick (Operand.tmp 136) (Operand.const (Value.bool true)) (Operand.tmp 148), type := 4, pos := "law.go:128", after := #[{ on := 12, ground := Ground.data }, { on := 24, ground := Ground.data }], guard := none }) (v := ?_) rfl (by kernel_rfl) (by kernel_rfl) (by kernel_rfl) (fun _ _ _ h => h) (Or.inl ⟨by rfl, ?_⟩) (by assumption) ?_
            rotate_left
            · intro w hSw
              go_simp
              try with_reducible rfl
            try simp only [Act.put, List.setIfInBounds_toArray, List.set_cons_zero, List.set_cons_succ]
            have HEnd := Lib.hid hHeld
            refine wpAnyH_done (by kernel_rfl) ?_ _
            go_wp2_with fail
            go_meet
            case rel => exact ⟨rfl, HEnd.out⟩
      case rest =>
        obtain ⟨rfl, hb⟩ := hcut
        have HEnd := Lib.hid (bstep HBR.out hb)
        clear hb
        go_wp2_with fail
        go_roundw
        case rel => exact ⟨k + 1, by omega, by go_num, HEnd.out⟩
        case measure => simp [RowKit.intOf]; omega
    · obtain rfl : k = k1 := by omega
      have KS2 := Lib.hid (ref_Sum3 (ts (drX L mass)) B1 d1 wr T1.out (by rw [← N1.out.2.1]; exact N1.out.2.2))
      have hks := KS2.out
      rw [← N1.out.2.1] at hks
      obtain ⟨E2, hE2⟩ : ∃ x, sumE (ts (drX L mass)) = x := ⟨_, rfl⟩
      have hfew := sumE_few (Q := drX L mass) (by rw [drX_len, ← HN.out]; have := HN8.out; omega) HFit.out.1
      have hval := fun h : E2 = 0 => (sumV_ts HFit.out.1 (hE2.trans h)).trans (dr_total HG.out)
      rw [hE2] at hks hfew
      have HK2 := Lib.hid hks
      have HVal := Lib.hid hval
      have KW := Lib.hid fun W => law_whole mass HD.out.m0 HD.out.m1 W
      clear hks hval hE2 KS2
      obtain ⟨SV, hSV⟩ : ∃ x, sumV (ts (drX L mass)) = x := ⟨_, rfl⟩
      rw [hSV] at HK2 HVal
      clear hSV
      go_wp2_with fail
      refine HK2.out.mono ?_
      rintro e w8 h
      obtain ⟨nb, NA, nn, nc, NB, nm, nd, rfl, ho, hb⟩ := RRes.op h
      have ON := Lib.hid ho
      replace HB := Lib.hid (bstep HB.out hb)
      clear h ho hb
      go_upto_region 18 with fail
      obtain ⟨w9, hw⟩ : ∃ W, w8.alloc (.cells #[.bool nb, .slice NA nn nc, .slice NB nm nd] 33) = W := ⟨_, rfl⟩
      obtain ⟨gN, hg⟩ : ∃ g, w8.heap.size = g := ⟨_, rfl⟩
      have hb : Below w8.heap.size w8 w9 := hw ▸ below_alloc _ _
      have CN : Hid (Rw.Cel w9 gN [.bool nb, .slice NA nn nc, .slice NB nm nd]) := hw ▸ hg ▸ Rw.Cel.new w8 [_, _, _] _
      replace HB := Lib.hid (bstep HB.out hb)
      replace ON := Lib.hid (ON.out.on hb)
      rw [hw, hg]
      clear hw hg hb
      rcases hfew with he | he
      · subst he
        have RN := Lib.hid (HVal.out rfl ▸ ON.out.zero rfl : IsR w9 _ (qI mass))
        have HS20 : Hid (∀ W, Below w9.heap.size w9 W → W.cell? ⟨gN, 0, none⟩ = some (.bool nb) ∧ W.cell? ⟨gN, 1, none⟩ = some (.slice NA nn nc) ∧ W.cell? ⟨gN, 2, none⟩ = some (.slice NB nm nd)) := fun W h => (CN.out.on h).three
        obtain ⟨x0, x1, x2⟩ := CN.out.three
        have z1 : ((0 : Int) == 0) = true := rfl
        go_upto_region 20 with fail
        go_region_held3 (fun W => W.cell? ⟨gN, 0, none⟩ = some (.bool nb) ∧ W.cell? ⟨gN, 1, none⟩ = some (.slice NA nn nc) ∧ W.cell? ⟨gN, 2, none⟩ = some (.slice NB nm nd))
          (first | exact HS20.out _ (Below.refl _ _).drew | exact HS20.out _ (bstep (Below.refl _ _).drew d1_) | exact HS20.out _ (bstep (bstep (Below.refl _ _).drew d1_) d2_) | exact HS20.out _ (bstep (bstep (bstep (Below.refl _ _).drew d1_) d2_) d3_))
          (first | (go_at_call 33; (with_reducible refine (KW.out _).mono ?_); rintro e v1 ⟨vv, rfl, hvv, d1_⟩; obtain ⟨ub, UA, un, uc, UB, um, ud, rfl, hvv⟩ := isR_open hvv; have HVV := Lib.hid hvv; clear hvv) | (go_at_call 19; (refine (same_num (t := triR (qI mass)) ?_ ?_).mono ?_); (exact IsR.on RN.out (bstep (Below.refl _ _).drew d1_)); (exact HVV.out); rintro e v2 ⟨rfl, d2_⟩) | (go_at_call 11; (with_reducible refine (law_awake _).mono ?_); rintro e v3 ⟨rfl, d3_⟩))
        all_goals
          go_wp2_with fail
          go_ret
          exact ⟨rfl, bstep HB.out (bstep (bstep (bstep (Below.refl _ _).drew d1_) d2_) d3_)⟩
      · subst he
        go_wp2_with fail
        refine (KQ.out _).mono ?_
        rintro e wq ⟨rfl, hb⟩
        have HF := Lib.hid (bstep HB.out hb)
        clear hb
        go_wp2_with fail
        go_ret
        exact ⟨rfl, HF.out⟩
#print axioms walk_TankConserves
end Go.Proofs.YtgmlccjjhmhgbaaGreat.Tank
