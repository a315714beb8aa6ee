/- Several texts in one: WetS, WetT, WetU. -/
import Derived.Test.YtohfaoclemcfaaaPk18
import Derived.Test.YtohfaoclemcfaaaPk15
import Derived.Test.YtohfaoclemcfaaaPk17
/- The program: run (gen20/s.py). -/
namespace Go.Proofs.Ytohfaoclemcfaaa.Wet
open Go.ChangeShapes Go.WideShapes Go.RowKit Go.Lib
open Go.Proofs.Ytohfaoclemcfaaa.Rw (ret_bool ret_int bstep below_drewN below_drew drew_below below_alloc)
set_option linter.unusedVariables false
set_option maxRecDepth 100000

theorem clone_n {xs : List Int} {A : Option Addr} {n c : Nat} {w : World} (ha : In w (.slice A n c) xs) (hl : xs.length ≤ 1000) :
    Calls Try.prog 61 #[.slice A n c] w fun e w' => ∃ A' c', e = .returned (.slice A' n c') ∧ In w' (.slice A' n c') xs ∧ Below w.heap.size w w' := by
  have hn : n = xs.length := by
    obtain ⟨A1, c1, e, -⟩ := in_open ha
    cases e; rfl
  refine (nat_Clone xs _ w ha hl).mono ?_
  rintro e w' ⟨v, rfl, h1, h2⟩
  obtain ⟨A1, c1, rfl, h3⟩ := in_open h1
  subst hn
  exact ⟨A1, c1, rfl, h3, h2⟩
/-- White water that is let in, as a number. -/
theorem let_in {f r c : Int} {b : Bool} {xs ys : List Int} (h : stE f r c b xs ys = 0) : ckW f r c = 0 ∧ (∀ n, n ≤ 16 → Wn n (afN f r c (ratV b xs ys) n) (paN f r c (ratV b xs ys) n)) ∧ b = false ∧ negR (ratV b xs ys) = false ∧ xs = topL (ratV b xs ys) ∧ ys = botL (ratV b xs ys) ∧ xs.length ≤ 1000 ∧ ys.length ≤ 1000 := by
  obtain ⟨h0, h1⟩ := stE_of h
  obtain ⟨e1, e2, e3, e4⟩ := whE_of h1
  obtain ⟨q, hq, eb, rfl, rfl, h4, h5, h6⟩ := wh_fr h1
  subst e2
  rw [eb, (form_val hq).2]
  exact ⟨h0, fun n hn => Wn.all h5 h6 h0 n hn, rfl, rfl, rfl, rfl, by omega, by omega⟩
set_option maxHeartbeats 6400000 in
theorem p_run (f r c : Int) (v : Value) (b : Bool) (xs ys : List Int) (n : Int) (w : World) (hv : InR w v b xs ys) :
    Calls Try.prog 42 #[.agg #[.int .i64 f, .int .i64 r, .int .i64 c], v, .int .i64 n] w (RRet2 w (afE f r c b xs ys n) (afN f r c (ratV b xs ys) n.toNat) (paN f r c (ratV b xs ys) n.toNat)) := by
  have KC := Lib.hid fun (v : Value) (W : World) (h : InR W v b xs ys) => p_checkWhite f r c v b xs ys W h
  obtain ⟨G, hG⟩ : ∃ G, stE f r c b xs ys = G := ⟨_, rfl⟩
  obtain ⟨T, hT⟩ : ∃ T, afE f r c b xs ys n = T := ⟨_, rfl⟩
  rw [hG] at KC
  rw [hT]
  have HE := Lib.hid (And.intro hG hT)
  have HQ := Lib.hid fun (h : stE f r c b xs ys = 0) => let_in h
  obtain ⟨Q, hQ⟩ : ∃ q, ratV b xs ys = q := ⟨_, rfl⟩
  rw [hQ] at HQ ⊢
  have R0 := Lib.hid hv
  obtain ⟨vp, vq, rfl, ha, hb⟩ := hv
  obtain ⟨A0, c0, rfl, ha'⟩ := in_open ha
  obtain ⟨B0, d0, rfl, hb'⟩ := in_open hb
  have IA := Lib.hid ha'
  have IB := Lib.hid hb'
  obtain ⟨n0, hn0⟩ : ∃ n, xs.length = n := ⟨_, rfl⟩
  obtain ⟨m0, hm0⟩ : ∃ n, ys.length = n := ⟨_, rfl⟩
  rw [hn0] at IA
  rw [hm0] at IB
  rw [hn0, hm0] at R0 ⊢
  have HB := Lib.hid (Below.refl w.heap.size w)
  clear hG hT hQ ha hb ha' hb' hn0 hm0
  go_enter Try.func42, Try.ntmps42
  go_upto_region 1 with fail
  obtain ⟨w1, gx, z1, z2, hw, hgx, hz1, hz2, cw, cx, cz1, cz2, hb, hsz⟩ := four w (.int .i64 f) (.int .i64 r) (.int .i64 c) (.bool b) (.slice A0 n0 c0) (.slice B0 m0 d0)
  have CW := Lib.hid cw
  have CX := Lib.hid cx
  have Z1 := Lib.hid cz1
  have Z2 := Lib.hid cz2
  have SZ := Lib.hid hsz
  have HZ : Hid (gx = w.heap.size + 1 ∧ z1 = w.heap.size + 2 ∧ z2 = w.heap.size + 3) := Lib.hid (by omega)
  replace HB := Lib.hid (bstep HB.out hb)
  replace R0 := Lib.hid (R0.out.on hb)
  replace IA := Lib.hid (IA.out.on hb)
  replace IB := Lib.hid (IB.out.on hb)
  rw [hgx, hz1, hz2]
  rw [hw]
  clear hw hb hgx hz1 hz2 cw cx cz1 cz2 hsz
  obtain ⟨x00, x01, x02⟩ := CW.out.three
  obtain ⟨x10, x11, x12⟩ := CX.out.three
  go_wp2_with fail
  refine (KC.out _ _ R0.out).mono ?_
  rintro e w2 ⟨rfl, hb⟩
  replace HB := Lib.hid (bstep HB.out hb)
  replace SZ := Lib.hid (Nat.le_trans SZ.out hb.size)
  replace R0 := Lib.hid (R0.out.on hb)
  replace IA := Lib.hid (IA.out.on hb)
  replace IB := Lib.hid (IB.out.on hb)
  replace CW := Lib.hid (CW.out.on hb)
  replace CX := Lib.hid (CX.out.on hb)
  replace Z1 := Lib.hid (Z1.out.on hb)
  replace Z2 := Lib.hid (Z2.out.on hb)
  clear hb
  clear x00 x01 x02 x10 x11 x12
  by_cases hz : G = 0
  rotate_left
  · obtain ⟨y1, y2⟩ := ne_zero hz
    obtain rfl : T = G := by rw [← HE.out.2, ← HE.out.1]; exact afE_st (by rw [HE.out.1]; exact hz)
    have o12 : ¬ z1 = z2 := by have := HZ.out; omega
    have o21 : ¬ z2 = z1 := by have := HZ.out; omega
    obtain ⟨x00, x01, x02⟩ := Z1.out.three
    obtain ⟨x10, x11, x12⟩ := Z2.out.three
    obtain ⟨v10, v11, v12⟩ := Z1.out.warm3
    obtain ⟨v20, v21, v22⟩ := Z2.out.warm3
    go_wp2_with fail
    clear o12 o21 x00 x01 x02 x10 x11 x12 v10 v11 v12 v20 v21 v22
    obtain ⟨wF, hF, F1, F2, FR, FB⟩ := put6 (w := w2) Z1.out Z2.out (by have := HZ.out; omega) (.bool false) (.slice none 0 0) (.slice none 0 0) (.bool false) (.slice none 0 0) (.slice none 0 0)
    rw [hF]
    have G1 := Lib.hid F1
    have G2 := Lib.hid F2
    have GB := Lib.hid (FB _ _ HB.out (by have := HZ.out; omega) (by have := HZ.out; omega))
    clear hF F1 F2 FR FB
    exact bodyPost_ret (res_r5 Try.results42 rfl rfl G1.out G2.out) rfl ⟨_, _, _, _, _, _, _, _, _, _, _, _, _, _, rfl, OutR.no hz, OutR.no hz, GB.out⟩
  subst hz
  have hst := HE.out.1
  have hd : (decide (n < 0) = true ∨ (decide (n < 0) = false ∧ decide (16 < n) = true)) ∨ (decide (n < 0) = false ∧ decide (16 < n) = false) := by
    by_cases h1 : n < 0
    · exact Or.inl (Or.inl (decide_eq_true h1))
    · by_cases h2 : 16 < n
      · exact Or.inl (Or.inr ⟨decide_eq_false h1, decide_eq_true h2⟩)
      · exact Or.inr ⟨decide_eq_false h1, decide_eq_false h2⟩
  rcases hd with hd | ⟨nd1, nd2⟩
  · obtain rfl : T = 1 := by
      rw [← HE.out.2]
      refine afE_n hst fun h => ?_
      rcases hd with h1 | ⟨-, h1⟩
      · have := of_decide_eq_true h1; omega
      · have := of_decide_eq_true h1; omega
    rcases hd with nd1 | ⟨nd1, nd2⟩
    all_goals
      have o12 : ¬ z1 = z2 := by have := HZ.out; omega
      have o21 : ¬ z2 = z1 := by have := HZ.out; omega
      obtain ⟨x00, x01, x02⟩ := Z1.out.three
      obtain ⟨x10, x11, x12⟩ := Z2.out.three
      obtain ⟨v10, v11, v12⟩ := Z1.out.warm3
      obtain ⟨v20, v21, v22⟩ := Z2.out.warm3
      go_wp2_with fail
      clear o12 o21 x00 x01 x02 x10 x11 x12 v10 v11 v12 v20 v21 v22
      obtain ⟨wF, hF, F1, F2, FR, FB⟩ := put6 (w := w2) Z1.out Z2.out (by have := HZ.out; omega) (.bool false) (.slice none 0 0) (.slice none 0 0) (.bool false) (.slice none 0 0) (.slice none 0 0)
      rw [hF]
      have G1 := Lib.hid F1
      have G2 := Lib.hid F2
      have GB := Lib.hid (FB _ _ HB.out (by have := HZ.out; omega) (by have := HZ.out; omega))
      clear hF F1 F2 FR FB
      exact bodyPost_ret (res_r5 Try.results42 rfl rfl G1.out G2.out) rfl ⟨_, _, _, _, _, _, _, _, _, _, _, _, _, _, rfl, OutR.no (by decide), OutR.no (by decide), GB.out⟩
  have hn1 := of_decide_eq_false nd1
  have hn2 := of_decide_eq_false nd2
  obtain rfl : T = 0 := by rw [← HE.out.2]; exact afE_ok hst (by omega)
  obtain ⟨N, rfl⟩ : ∃ N : Nat, n = N := ⟨n.toNat, by omega⟩
  have H16 := Lib.hid (show N ≤ 16 by omega)
  rw [Int.toNat_natCast]
  obtain ⟨hck, hw0, hbf, hneg, hx0, hy0, hl1, hl2⟩ := HQ.out hst
  have HW := Lib.hid hw0
  have HCK := Lib.hid hck
  subst hbf
  have HTop := Lib.hid (And.intro hneg (And.intro hx0 hy0))
  have KP := Lib.hid fun (W : World) (h : In W (.slice A0 n0 c0) xs) => clone_n h hl1
  have KY := Lib.hid fun (W : World) (h : In W (.slice B0 m0 d0) ys) => clone_n h hl2
  have KO := Lib.hid fun (W : World) => q_Of (n := 0) (by decide) (by decide) W
  have DA := Lib.hid (IA.out.on (drew_below w2))
  have DB := Lib.hid (IB.out.on (drew_below w2))
  have DX := Lib.hid CX.out.drew
  clear hn1 hn2 hst hck hw0 hneg hx0 hy0 hl1 hl2 HQ
  obtain ⟨x00, x01, x02⟩ := CX.out.three
  go_upto_region 6 with fail
  go_region_with (first
    | (go_at_call 61; (with_reducible refine (KP.out _ DA.out).mono ?_); rintro e w3 ⟨A3, c3, rfl, hi3, hb3⟩; have I3 := Lib.hid hi3; obtain ⟨x10, x11, x12⟩ := (DX.out.on hb3).three)
    | (go_at_call 61; (with_reducible refine (KY.out _ (DB.out.on hb3)).mono ?_); rintro e w4 ⟨B3, d3, rfl, hj3, hb4⟩; have J3 := Lib.hid hj3; have X4 := Lib.hid ((DX.out.on hb3).on hb4); obtain ⟨x20, x21, x22⟩ := X4.out.three; obtain ⟨v0, v1, v2⟩ := X4.out.warm3))
  all_goals
    clear x00 x01 x02 x10 x11 x12 x20 x21 x22 v0 v1 v2
    have hb := bstep (bstep (drew_below w2) hb3) hb4
    replace HB := Lib.hid (bstep HB.out hb)
    replace SZ := Lib.hid (Nat.le_trans SZ.out hb.size)
    replace CW := Lib.hid (CW.out.on hb)
    replace Z1 := Lib.hid (Z1.out.on hb)
    replace Z2 := Lib.hid (Z2.out.on hb)
    have RX : Hid (IsR w4 (.agg #[.bool false, .slice A3 n0 c3, .slice B3 m0 d3]) Q) := Lib.hid (by
      unfold IsR
      rw [HTop.out.1, ← HTop.out.2.1, ← HTop.out.2.2]
      exact ⟨_, _, rfl, I3.out.on hb4, J3.out⟩)
    obtain ⟨w5, hw, ho, hfar, hin, hbl, hs5⟩ := put3_ X4.out (.bool false) (.slice A3 n0 c3) (.slice B3 m0 d3)
    rw [hw]
    replace CW := Lib.hid (hfar _ _ (by have := HZ.out; omega) CW.out)
    replace Z1 := Lib.hid (hfar _ _ (by have := HZ.out; omega) Z1.out)
    replace Z2 := Lib.hid (hfar _ _ (by have := HZ.out; omega) Z2.out)
    replace R0 : Hid (IsR w5 (.agg #[.bool false, .slice A3 n0 c3, .slice B3 m0 d3]) Q) := Lib.hid (hin _ _ _ _ RX.out)
    replace HB := Lib.hid (hbl _ _ HB.out (by have := HZ.out; omega))
    replace SZ : Hid (w.heap.size + 4 ≤ w5.heap.size) := Lib.hid (by rw [hs5]; exact SZ.out)
    replace CX := Lib.hid ho
    clear hw ho hfar hin hbl hs5 RX X4 I3 J3 hb hb3 hb4 IA IB DA DB DX
    go_wp2_with fail
    refine (KO.out _).mono ?_
    rintro e w6 h
    obtain ⟨b1, A1, n1, c1, B1, m1, d1, rfl, ho, hb⟩ := h.open_
    replace HB := Lib.hid (bstep HB.out hb)
    replace SZ := Lib.hid (Nat.le_trans SZ.out hb.size)
    replace R0 := Lib.hid (R0.out.on hb)
    replace CW := Lib.hid (CW.out.on hb)
    replace CX := Lib.hid (CX.out.on hb)
    replace Z1 := Lib.hid (Z1.out.on hb)
    replace Z2 := Lib.hid (Z2.out.on hb)
    have R1 := Lib.hid (out_zero ho)
    clear h ho hb nd1 nd2
    go_upto_region 8 with fail
    obtain ⟨w7, hw⟩ : ∃ W, w6.alloc (.cells #[.bool b1, .slice A1 n1 c1, .slice B1 m1 d1] 27) = W := ⟨_, rfl⟩
    obtain ⟨gS0, hg⟩ : ∃ g, w6.heap.size = g := ⟨_, rfl⟩
    have hb : Below w6.heap.size w6 w7 := hw ▸ below_alloc _ _
    have S0 : Hid (Rw.Cel w7 gS0 [.bool b1, .slice A1 n1 c1, .slice B1 m1 d1]) := hw ▸ hg ▸ Rw.Cel.new w6 [_, _, _] _
    have SS0 : Hid (w.heap.size + 4 ≤ gS0) := Lib.hid (by have := SZ.out; omega)
    replace HB := Lib.hid (bstep HB.out hb)
    replace SZ := Lib.hid (Nat.le_trans SZ.out hb.size)
    replace R0 := Lib.hid (R0.out.on hb)
    replace CW := Lib.hid (CW.out.on hb)
    replace CX := Lib.hid (CX.out.on hb)
    replace Z1 := Lib.hid (Z1.out.on hb)
    replace Z2 := Lib.hid (Z2.out.on hb)
    replace R1 := Lib.hid (R1.out.on hb)
    first | rw [hw, hg] | rw [hw]
    clear hw hg hb
    have HN := Lib.hid (show 0 ≤ N by omega)
    go_wp2_with fail
    go_loopw [41, 12] (fun iv _ wr => ∃ (k : Nat) (bx : Bool) (Ax : Option Addr) (nx cx : Nat) (Bx : Option Addr) (mx dx : Nat) (bs : Bool) (As : Option Addr) (ns cs : Nat) (Bs : Option Addr) (ms ds : Nat), k ≤ N ∧ iv = .int .i64 k ∧ Rw.Cel wr w.heap.size [.int .i64 f, .int .i64 r, .int .i64 c] ∧ Rw.Cel wr gx [.bool bx, .slice Ax nx cx, .slice Bx mx dx] ∧ IsR wr (.agg #[.bool bx, .slice Ax nx cx, .slice Bx mx dx]) (afN f r c Q k) ∧ Rw.Cel wr gS0 [.bool bs, .slice As ns cs, .slice Bs ms ds] ∧ IsR wr (.agg #[.bool bs, .slice As ns cs, .slice Bs ms ds]) (paN f r c Q k) ∧ Rw.Cel wr z1 [.bool false, .slice none 0 0, .slice none 0 0] ∧ Rw.Cel wr z2 [.bool false, .slice none 0 0, .slice none 0 0] ∧ Below w.heap.size w wr) (fun iv _ _ => N - (RowKit.intOf iv).toNat)
    case atStart => exact ⟨0, _, _, _, _, _, _, _, _, _, _, _, _, _, _, Nat.zero_le _, rfl, CW.out, CX.out, R0.out, S0.out, R1.out, Z1.out, Z2.out, HB.out⟩
    case round =>
      clear HB R0 R1 CW CX S0 Z1 Z2 SZ
      obtain ⟨k, bx, Ax, nx, cx, Bx, mx, dx, bs, As, ns, cs, Bs, ms, ds, hk, rfl, cw, cxx, hq, css, hs, cz1, cz2, hbel⟩ := hrel
      have CW := Lib.hid cw
      have CX := Lib.hid cxx
      have RQ := Lib.hid hq
      have CS := Lib.hid css
      have RS := Lib.hid hs
      have Z1 := Lib.hid cz1
      have Z2 := Lib.hid cz2
      have HB := Lib.hid hbel
      have HWk := Lib.hid (HW.out k (by have := H16.out; omega))
      clear cw cxx hq css hs cz1 cz2 hbel
      rcases Nat.lt_or_ge k N with hlt | hge
      · have hstp := HWk.out.stp HCK.out
        have hsum := HWk.out.sum HCK.out
        obtain ⟨qk, hqk⟩ : ∃ x, afN f r c Q k = x := ⟨_, rfl⟩
        obtain ⟨sk, hsk⟩ : ∃ x, paN f r c Q k = x := ⟨_, rfl⟩
        rw [hqk] at hstp hsum RQ
        rw [hsk] at hsum RS
        have e1 : afN f r c Q (k + 1) = afV f r c qk := by rw [← hqk]; rfl
        have e2 : paN f r c Q (k + 1) = sk + paV f r qk := by rw [← hqk, ← hsk]; rfl
        have KB := Lib.hid fun (v : Value) (W : World) (h : IsR W v qk) => p_begin hstp HCK.out v W h
        have KP := Lib.hid fun (b : Bool) (A : Option Addr) (n c' : Nat) (B : Option Addr) (m d : Nat) (W : World) (h : IsR W (.agg #[.bool b, .slice A n c', .slice B m d]) (hdV f qk)) => p_paper hstp HCK.out b A n c' B m d W h
        have KW := Lib.hid fun (b : Bool) (A : Option Addr) (n c' : Nat) (B : Option Addr) (m d : Nat) (W : World) (h : IsR W (.agg #[.bool b, .slice A n c', .slice B m d]) (hdV f qk)) => p_white hstp HCK.out b A n c' B m d W h
        have KA := Lib.hid fun (v u : Value) (W : World) (h : IsR W v sk) (h2 : IsR W u (paV f r qk)) => q_Add hsum.2 hstp.fp hsum.1 v u W h h2
        rw [← e1] at KW
        rw [← e2] at KA
        obtain ⟨hk0, hhk⟩ : ∃ x, hdV f qk = x := ⟨_, rfl⟩
        obtain ⟨pk, hpk⟩ : ∃ x, paV f r qk = x := ⟨_, rfl⟩
        obtain ⟨q2, hq2⟩ : ∃ x, afN f r c Q (k + 1) = x := ⟨_, rfl⟩
        obtain ⟨s2, hs2⟩ : ∃ x, paN f r c Q (k + 1) = x := ⟨_, rfl⟩
        rw [hhk] at KB KP KW
        rw [hpk] at KP KA
        rw [hq2] at KW
        rw [hs2] at KA
        have HNX := Lib.hid (And.intro hq2 hs2)
        have i1 : (k : Int) < (N : Int) := by omega
        have hk1 : IntKind.i64.wrap ((k : Int) + 1) = ((k + 1 : Nat) : Int) := Rw.wrap_id (by have := H16.out; omega)
        have HLT := Lib.hid hlt
        clear hstp hsum hqk hsk e1 e2 hhk hpk hq2 hs2
        obtain ⟨x00, x01, x02⟩ := CW.out.three
        obtain ⟨x10, x11, x12⟩ := CX.out.three
        go_wp2_with fail
        refine (KB.out _ _ RQ.out).mono ?_
        rintro e w8 ⟨b4, A4, n4, c4, B4, m4, d4, rfl, hp, hb⟩
        have RH := Lib.hid hp
        replace HB := Lib.hid (bstep HB.out hb)
        replace CW := Lib.hid (CW.out.on hb)
        replace CX := Lib.hid (CX.out.on hb)
        replace CS := Lib.hid (CS.out.on hb)
        replace RS := Lib.hid (RS.out.on hb)
        replace Z1 := Lib.hid (Z1.out.on hb)
        replace Z2 := Lib.hid (Z2.out.on hb)
        clear hp hb x00 x01 x02 x10 x11 x12 RQ
        go_upto_region 11 with fail
        obtain ⟨w9, hw⟩ : ∃ W, w8.alloc (.cells #[.int .i64 f, .int .i64 r, .int .i64 c, .bool b4, .slice A4 n4 c4, .slice B4 m4 d4] 50) = W := ⟨_, rfl⟩
        obtain ⟨g, hg⟩ : ∃ g, w8.heap.size = g := ⟨_, rfl⟩
        have hb : Below w8.heap.size w8 w9 := hw ▸ below_alloc _ _
        have CT : Hid (Rw.Cel w9 g [.int .i64 f, .int .i64 r, .int .i64 c, .bool b4, .slice A4 n4 c4, .slice B4 m4 d4]) := hw ▸ hg ▸ Rw.Cel.new w8 [_, _, _, _, _, _] _
        have HG : Hid (gS0 < g ∧ gx < g) := Lib.hid (by have h5 := CS.out.lt; have h6 := CX.out.lt; omega)
        first | rw [hw, hg] | rw [hw]
        replace HB := Lib.hid (bstep HB.out hb)
        replace CW := Lib.hid (CW.out.on hb)
        replace CX := Lib.hid (CX.out.on hb)
        replace CS := Lib.hid (CS.out.on hb)
        replace RS := Lib.hid (RS.out.on hb)
        replace RH := Lib.hid (RH.out.on hb)
        replace Z1 := Lib.hid (Z1.out.on hb)
        replace Z2 := Lib.hid (Z2.out.on hb)
        clear hw hg hb
        have DH := Lib.hid (show IsR w9.drew (.agg #[.bool b4, .slice A4 n4 c4, .slice B4 m4 d4]) hk0 from RH.out.on (drew_below _))
        have DR := Lib.hid (show IsR w9.drew (.agg #[.bool bs, .slice As ns cs, .slice Bs ms ds]) sk from RS.out.on (drew_below _))
        have DS := Lib.hid CS.out.drew
        have DT := Lib.hid CT.out.drew
        obtain ⟨x00, x01, x02⟩ := CS.out.three
        obtain ⟨y0, y1, y2, y3, y4, y5⟩ := cel_six CT.out
        go_region_with (first
          | (go_at_call 38; (with_reducible refine (KP.out _ _ _ _ _ _ _ _ DH.out).mono ?_); rintro e wa ⟨b5, A5, n5, c5, B5, m5, d5, rfl, ho5, hb5⟩; have R5 := Lib.hid ho5; obtain ⟨x10, x11, x12⟩ := (DS.out.on hb5).three)
          | (go_at_call 57; (with_reducible refine (KA.out _ _ _ (DR.out.on hb5) R5.out).mono ?_); rintro e wb h; obtain ⟨b6, A6, n6, c6, B6, m6, d6, rfl, ho6, hb6⟩ := h.open_; have R6 := Lib.hid (out_zero ho6); have S6 := Lib.hid ((DS.out.on hb5).on hb6); obtain ⟨x20, x21, x22⟩ := S6.out.three; obtain ⟨v0, v1, v2⟩ := S6.out.warm3))
        all_goals
          clear x00 x01 x02 x10 x11 x12 x20 x21 x22 v0 v1 v2 y0 y1 y2 y3 y4 y5
          have hb := bstep (bstep (drew_below w9) hb5) hb6
          replace HB := Lib.hid (bstep HB.out hb)
          replace CW := Lib.hid (CW.out.on hb)
          replace CX := Lib.hid (CX.out.on hb)
          replace CT := Lib.hid (CT.out.on hb)
          replace RH := Lib.hid (RH.out.on hb)
          replace Z1 := Lib.hid (Z1.out.on hb)
          replace Z2 := Lib.hid (Z2.out.on hb)
          obtain ⟨wc, hw, ho, hfar, hin, hbl, hsz⟩ := put3_ S6.out (.bool b6) (.slice A6 n6 c6) (.slice B6 m6 d6)
          rw [hw]
          replace CW := Lib.hid (hfar _ _ (by have := SS0.out; omega) CW.out)
          replace CX := Lib.hid (hfar _ _ (by have := SS0.out; have := HZ.out; omega) CX.out)
          replace CT := Lib.hid (hfar _ _ (by have := HG.out; omega) CT.out)
          replace Z1 := Lib.hid (hfar _ _ (by have := SS0.out; have := HZ.out; omega) Z1.out)
          replace Z2 := Lib.hid (hfar _ _ (by have := SS0.out; have := HZ.out; omega) Z2.out)
          replace RH : Hid (IsR wc (.agg #[.bool b4, .slice A4 n4 c4, .slice B4 m4 d4]) hk0) := Lib.hid (hin _ _ _ _ RH.out)
          replace R6 : Hid (IsR wc (.agg #[.bool b6, .slice A6 n6 c6, .slice B6 m6 d6]) s2) := Lib.hid (hin _ _ _ _ R6.out)
          replace HB := Lib.hid (hbl _ _ HB.out (by have := SS0.out; omega))
          replace CS := Lib.hid ho
          clear hw ho hfar hin hbl hsz S6 hb hb5 hb6 DH DR DS DT RS R5
          obtain ⟨y0, y1, y2, y3, y4, y5⟩ := cel_six CT.out
          go_wp2_with fail
          refine (KW.out _ _ _ _ _ _ _ _ RH.out).mono ?_
          rintro e wd ⟨b7, A7, n7, c7, B7, m7, d7, rfl, hp, hb⟩
          have R7 := Lib.hid hp
          replace HB := Lib.hid (bstep HB.out hb)
          replace CW := Lib.hid (CW.out.on hb)
          replace CX := Lib.hid (CX.out.on hb)
          replace CS := Lib.hid (CS.out.on hb)
          replace R6 := Lib.hid (R6.out.on hb)
          replace Z1 := Lib.hid (Z1.out.on hb)
          replace Z2 := Lib.hid (Z2.out.on hb)
          clear hp hb y0 y1 y2 y3 y4 y5 RH CT
          obtain ⟨x10, x11, x12⟩ := CX.out.three
          obtain ⟨v0, v1, v2⟩ := CX.out.warm3
          go_upto_region 13 with fail
          clear x10 x11 x12 v0 v1 v2
          obtain ⟨wA, hw, ho, hfar, hin, hbl, hsz⟩ := put3_ CX.out (.bool b7) (.slice A7 n7 c7) (.slice B7 m7 d7)
          rw [hw]
          replace CW := Lib.hid (hfar _ _ (by have := HZ.out; omega) CW.out)
          replace CS := Lib.hid (hfar _ _ (by have := SS0.out; have := HZ.out; omega) CS.out)
          replace Z1 := Lib.hid (hfar _ _ (by have := HZ.out; omega) Z1.out)
          replace Z2 := Lib.hid (hfar _ _ (by have := HZ.out; omega) Z2.out)
          replace R6 : Hid (IsR wA (.agg #[.bool b6, .slice A6 n6 c6, .slice B6 m6 d6]) s2) := Lib.hid (hin _ _ _ _ R6.out)
          replace R7 : Hid (IsR wA (.agg #[.bool b7, .slice A7 n7 c7, .slice B7 m7 d7]) q2) := Lib.hid (hin _ _ _ _ R7.out)
          replace HB := Lib.hid (hbl _ _ HB.out (by have := HZ.out; omega))
          have CA := Lib.hid ho
          clear hw ho hfar hin hbl hsz CX
          go_wp2_with fail
          go_roundw
          case rel => exact ⟨k + 1, _, _, _, _, _, _, _, _, _, _, _, _, _, _, HLT.out, by go_num, CW.out, CA.out, by rw [HNX.out.1]; exact R7.out, CS.out, by rw [HNX.out.2]; exact R6.out, Z1.out, Z2.out, HB.out⟩
          case measure => have := HLT.out; simp [RowKit.intOf]; omega
      · obtain rfl : N = k := by omega
        have o12 : ¬ z1 = z2 := by have := HZ.out; omega
        have o21 : ¬ z2 = z1 := by have := HZ.out; omega
        have p11 : ¬ gx = z1 := by have := HZ.out; omega
        have p12 : ¬ gx = z2 := by have := HZ.out; omega
        have p21 : ¬ gS0 = z1 := by have := HZ.out; have := SS0.out; omega
        have p22 : ¬ gS0 = z2 := by have := HZ.out; have := SS0.out; omega
        have q11 : ¬ z1 = gx := by have := HZ.out; omega
        have q12 : ¬ z2 = gx := by have := HZ.out; omega
        have q21 : ¬ z1 = gS0 := by have := HZ.out; have := SS0.out; omega
        have q22 : ¬ z2 = gS0 := by have := HZ.out; have := SS0.out; omega
        obtain ⟨x00, x01, x02⟩ := Z1.out.three
        obtain ⟨x10, x11, x12⟩ := Z2.out.three
        obtain ⟨x20, x21, x22⟩ := CX.out.three
        obtain ⟨x30, x31, x32⟩ := CS.out.three
        obtain ⟨v10, v11, v12⟩ := Z1.out.warm3
        obtain ⟨v20, v21, v22⟩ := Z2.out.warm3
        go_wp2_with fail
        go_region
        all_goals
          clear o12 o21 p11 p12 p21 p22 q11 q12 q21 q22 x00 x01 x02 x10 x11 x12 x20 x21 x22 x30 x31 x32 v10 v11 v12 v20 v21 v22
          obtain ⟨wF, hF, F1, F2, FR, FB⟩ := put6 (w := wr) Z1.out Z2.out (by have := HZ.out; omega) (.bool bx) (.slice Ax nx cx) (.slice Bx mx dx) (.bool bs) (.slice As ns cs) (.slice Bs ms ds)
          rw [hF]
          have D1 : Hid (Rw.Cel wF.drew z1 [.bool bx, .slice Ax nx cx, .slice Bx mx dx]) := Lib.hid F1.drew
          have D2 : Hid (Rw.Cel wF.drew z2 [.bool bs, .slice As ns cs, .slice Bs ms ds]) := Lib.hid F2.drew
          have HF : Hid (RRet2 w 0 (afN f r c Q N) (paN f r c Q N) (.returned (.tuple #[.agg #[.bool bx, .slice Ax nx cx, .slice Bx mx dx], .agg #[.bool bs, .slice As ns cs, .slice Bs ms ds], .int .i64 0])) wF.drew) := Lib.hid ⟨_, _, _, _, _, _, _, _, _, _, _, _, _, _, rfl, OutR.ok (FR _ _ _ _ RQ.out), OutR.ok (FR _ _ _ _ RS.out), below_drew (FB _ _ HB.out (by have := HZ.out; omega) (by have := HZ.out; omega))⟩
          clear hF F1 F2 FR FB
          go_wp2_with fail
          exact bodyPost_ret (res_r5 Try.results42 rfl rfl D1.out D2.out) rfl HF.out
end Go.Proofs.Ytohfaoclemcfaaa.Wet
/- The program: After, Paper (gen20/s.py). -/
namespace Go.Proofs.Ytohfaoclemcfaaa.Wet
open Go.ChangeShapes Go.WideShapes Go.RowKit Go.Lib
open Go.Proofs.Ytohfaoclemcfaaa.Rw (ret_bool ret_int bstep below_drewN below_drew drew_below below_alloc)
set_option linter.unusedVariables false
set_option maxRecDepth 100000

set_option maxHeartbeats 3200000 in
theorem p_After (f r c : Int) (v : Value) (b : Bool) (xs ys : List Int) (n : Int) (w : World) (hv : InR w v b xs ys) :
    Calls Try.prog 19 #[.agg #[.int .i64 f, .int .i64 r, .int .i64 c], v, .int .i64 n] w (RRes w (afE f r c b xs ys n) (afN f r c (ratV b xs ys) n.toNat)) := by
  have KS := Lib.hid fun (v : Value) (W : World) (h : InR W v b xs ys) => p_run f r c v b xs ys n W h
  obtain ⟨E, hE⟩ : ∃ E, afE f r c b xs ys n = E := ⟨_, rfl⟩
  obtain ⟨vX, hX⟩ : ∃ x, afN f r c (ratV b xs ys) n.toNat = x := ⟨_, rfl⟩
  obtain ⟨vP, hP⟩ : ∃ x, paN f r c (ratV b xs ys) n.toNat = x := ⟨_, rfl⟩
  rw [hE, hX, hP] at KS
  rw [hE]
  first | rw [hX] | rw [hP]
  have R0 := Lib.hid hv
  obtain ⟨vp, vq, rfl, ha, hb⟩ := hv
  obtain ⟨A0, c0, rfl, -⟩ := in_open ha
  obtain ⟨B0, d0, rfl, -⟩ := in_open hb
  obtain ⟨n0, hn0⟩ : ∃ n, xs.length = n := ⟨_, rfl⟩
  obtain ⟨m0, hm0⟩ : ∃ n, ys.length = n := ⟨_, rfl⟩
  rw [hn0, hm0] at R0 ⊢
  clear hE hX hP ha hb hn0 hm0
  go_enter Try.func19, Try.ntmps19
  go_upto_region 1 with fail
  obtain ⟨w1, gx, z, hw, hgx, hz, cw, cx, cz, hb⟩ := three_box w (.int .i64 f) (.int .i64 r) (.int .i64 c) (.bool b) (.slice A0 n0 c0) (.slice B0 m0 d0)
  have HZ : Hid (w.heap.size ≤ z) := Lib.hid (by omega)
  have HB := Lib.hid hb
  have ZC := Lib.hid cz
  replace R0 := Lib.hid (R0.out.on hb)
  rw [hgx, hz]
  rw [hw]
  clear hw hb hgx hz cz
  obtain ⟨x00, x01, x02⟩ := cw.three
  obtain ⟨x10, x11, x12⟩ := cx.three
  clear cw cx
  go_wp2_with fail
  refine (KS.out _ _ R0.out).mono ?_
  rintro e w2 ⟨b1, A1, n1, c1, B1, m1, d1, b2, A2, n2, c2, B2, m2, d2, rfl, hp, hq, hb⟩
  have R1 := Lib.hid hp
  have R2 := Lib.hid hq
  replace HB := Lib.hid (bstep HB.out hb)
  replace ZC := Lib.hid (ZC.out.on hb)
  clear hp hq hb x00 x01 x02 x10 x11 x12
  go_upto_region 2 with fail
  obtain ⟨w3, g1, g2, hw, hg1, hg2, h1, h2, hb⟩ := duo w2 (.bool b1) (.slice A1 n1 c1) (.slice B1 m1 d1) (.bool b2) (.slice A2 n2 c2) (.slice B2 m2 d2)
  replace HB := Lib.hid (bstep HB.out hb)
  replace ZC := Lib.hid (ZC.out.on hb)
  replace R1 := Lib.hid (R1.out.on hb)
  replace R2 := Lib.hid (R2.out.on hb)
  first | rw [hg1, hg2] | rw [hg1] | skip
  rw [hw]
  clear hw hg1 hg2 hb
  obtain ⟨x00, x01, x02⟩ := h1.three
  obtain ⟨x10, x11, x12⟩ := ZC.out.three
  obtain ⟨v0, v1, v2⟩ := ZC.out.warm3
  clear h1 h2
  go_wp2_with fail
  exact bodyPost_ret (res_r2 Try.results19 rfl (ZC.out.put3 _ _ _)) rfl ⟨_, rfl, OutR.put3 R1.out (cel_root ZC.out) _ _ _, Rw.below_put3 HB.out HZ.out _ _ _⟩
set_option maxHeartbeats 3200000 in
theorem p_Paper (f r c : Int) (v : Value) (b : Bool) (xs ys : List Int) (n : Int) (w : World) (hv : InR w v b xs ys) :
    Calls Try.prog 21 #[.agg #[.int .i64 f, .int .i64 r, .int .i64 c], v, .int .i64 n] w (RRes w (afE f r c b xs ys n) (paN f r c (ratV b xs ys) n.toNat)) := by
  have KS := Lib.hid fun (v : Value) (W : World) (h : InR W v b xs ys) => p_run f r c v b xs ys n W h
  obtain ⟨E, hE⟩ : ∃ E, afE f r c b xs ys n = E := ⟨_, rfl⟩
  obtain ⟨vX, hX⟩ : ∃ x, afN f r c (ratV b xs ys) n.toNat = x := ⟨_, rfl⟩
  obtain ⟨vP, hP⟩ : ∃ x, paN f r c (ratV b xs ys) n.toNat = x := ⟨_, rfl⟩
  rw [hE, hX, hP] at KS
  rw [hE]
  first | rw [hX] | rw [hP]
  have R0 := Lib.hid hv
  obtain ⟨vp, vq, rfl, ha, hb⟩ := hv
  obtain ⟨A0, c0, rfl, -⟩ := in_open ha
  obtain ⟨B0, d0, rfl, -⟩ := in_open hb
  obtain ⟨n0, hn0⟩ : ∃ n, xs.length = n := ⟨_, rfl⟩
  obtain ⟨m0, hm0⟩ : ∃ n, ys.length = n := ⟨_, rfl⟩
  rw [hn0, hm0] at R0 ⊢
  clear hE hX hP ha hb hn0 hm0
  go_enter Try.func21, Try.ntmps21
  go_upto_region 1 with fail
  obtain ⟨w1, gx, z, hw, hgx, hz, cw, cx, cz, hb⟩ := three_box w (.int .i64 f) (.int .i64 r) (.int .i64 c) (.bool b) (.slice A0 n0 c0) (.slice B0 m0 d0)
  have HZ : Hid (w.heap.size ≤ z) := Lib.hid (by omega)
  have HB := Lib.hid hb
  have ZC := Lib.hid cz
  replace R0 := Lib.hid (R0.out.on hb)
  rw [hgx, hz]
  rw [hw]
  clear hw hb hgx hz cz
  obtain ⟨x00, x01, x02⟩ := cw.three
  obtain ⟨x10, x11, x12⟩ := cx.three
  clear cw cx
  go_wp2_with fail
  refine (KS.out _ _ R0.out).mono ?_
  rintro e w2 ⟨b1, A1, n1, c1, B1, m1, d1, b2, A2, n2, c2, B2, m2, d2, rfl, hp, hq, hb⟩
  have R1 := Lib.hid hp
  have R2 := Lib.hid hq
  replace HB := Lib.hid (bstep HB.out hb)
  replace ZC := Lib.hid (ZC.out.on hb)
  clear hp hq hb x00 x01 x02 x10 x11 x12
  go_upto_region 2 with fail
  obtain ⟨w3, g1, g2, hw, hg1, hg2, h1, h2, hb⟩ := duo w2 (.bool b1) (.slice A1 n1 c1) (.slice B1 m1 d1) (.bool b2) (.slice A2 n2 c2) (.slice B2 m2 d2)
  replace HB := Lib.hid (bstep HB.out hb)
  replace ZC := Lib.hid (ZC.out.on hb)
  replace R1 := Lib.hid (R1.out.on hb)
  replace R2 := Lib.hid (R2.out.on hb)
  first | rw [hg1, hg2] | rw [hg1] | skip
  rw [hw]
  clear hw hg1 hg2 hb
  obtain ⟨x00, x01, x02⟩ := h2.three
  obtain ⟨x10, x11, x12⟩ := ZC.out.three
  obtain ⟨v0, v1, v2⟩ := ZC.out.warm3
  clear h1 h2
  go_wp2_with fail
  exact bodyPost_ret (res_r2 Try.results21 rfl (ZC.out.put3 _ _ _)) rfl ⟨_, rfl, OutR.put3 R2.out (cel_root ZC.out) _ _ _, Rw.below_put3 HB.out HZ.out _ _ _⟩
end Go.Proofs.Ytohfaoclemcfaaa.Wet
/- The chapter's example; the contracts as the laws want them (gen20/u.py). -/
namespace Go.Proofs.Ytohfaoclemcfaaa.Wet
open Go.ChangeShapes Go.WideShapes Go.RowKit Go.Lib
open Go.Proofs.Ytohfaoclemcfaaa.Rw (ret_bool ret_int bstep below_drewN below_drew drew_below below_alloc)
set_option linter.unusedVariables false
set_option maxRecDepth 100000

theorem after_zero {w w' : World} (hb : Below (w.alloc (.cells #[.bool false, .slice none 0 0, .slice none 0 0] 27)).heap.size (w.alloc (.cells #[.bool false, .slice none 0 0, .slice none 0 0] 27)) w') : Rw.Cel w' w.heap.size [.bool false, .slice none 0 0, .slice none 0 0] ∧ Below w.heap.size w w' :=
  ⟨(Rw.Cel.new w [_, _, _] _).on hb, bstep (below_alloc _ _) hb⟩
theorem after_zerod {w w' : World} (hb : Below (w.alloc (.cells #[.bool false, .slice none 0 0, .slice none 0 0] 27)).drew.heap.size (w.alloc (.cells #[.bool false, .slice none 0 0, .slice none 0 0] 27)).drew w') : Rw.Cel w' w.heap.size [.bool false, .slice none 0 0, .slice none 0 0] ∧ Below w.heap.size w w' :=
  ⟨(Rw.Cel.new w [_, _, _] _).drew.on hb, bstep (below_drew (below_alloc _ _)) hb⟩
theorem same_is {q : Rat} {va vb : Value} {w : World} (ha : IsR w va q) (hb : IsR w vb q) :
    Calls Try.prog 14 #[va, vb] w fun e w' => e = .returned (.bool true) ∧ Below w.heap.size w w' := out_same (E := 0) (OutR.ok ha) (OutR.ok hb)
theorem whE_fit {q : Rat} (hq : fitR q = true) (h0 : 0 ≤ q.num) (h1 : q.den < lim8) (h2 : q.num.natAbs < lim8) : whE (negR q) (topL q) (botL q) = 0 := by
  have hn : negR q = false := by unfold negR; rw [decide_eq_false_iff_not]; omega
  have hv := (form_val hq).1
  rw [hn] at hv ⊢
  refine whE_ok hv ?_
  have h3 : (topL q).length ≤ 8 := limbs_len_le.mpr h2
  have h4 : (botL q).length ≤ 8 := limbs_len_le.mpr h1
  omega
theorem aw_nums : (paV 900 600 (mkV 100 1) = mkV 600 1 ∧ seV 900 600 500 (mkV 100 1) = mkV 200 1 ∧ afV 900 600 500 (mkV 100 1) = mkV 200 1) ∧ sdV 900 600 500 = mkV 225 1 ∧ afN 900 600 500 (mkV 225 1) 3 = mkV 225 1 ∧ paN 900 600 500 (mkV 225 1) 2 = mkV 1350 1 := by decide +kernel
theorem aw_fit : (fitR (mkV 100 1) = true ∧ 0 ≤ (mkV 100 1).num ∧ (mkV 100 1).den < lim8 ∧ (mkV 100 1).num.natAbs < lim8) ∧ (fitR (mkV 225 1) = true ∧ 0 ≤ (mkV 225 1).num ∧ (mkV 225 1).den < lim8 ∧ (mkV 225 1).num.natAbs < lim8) := by decide +kernel
theorem aw_step (v : Value) (w : World) (hv : IsR w v (mkV 100 1)) : Calls Try.prog 17 #[.agg #[.int .i64 900, .int .i64 600, .int .i64 500], v] w (RRet4 w 0 (mkV 600 1) (mkV 200 1) (mkV 200 1)) := by
  have h := p_Step 900 600 500 v _ _ _ w hv
  obtain ⟨⟨h1, h2, h3, h4⟩, -⟩ := aw_fit
  rw [stE_wh (by decide), whE_fit h1 h2 h3 h4, (form_val h1).2, aw_nums.1.1, aw_nums.1.2.1, aw_nums.1.2.2] at h
  exact h
theorem aw_steady (w : World) : Calls Try.prog 10 #[.agg #[.int .i64 900, .int .i64 600, .int .i64 500]] w (RRes w 0 (mkV 225 1)) := by
  have h := p_Steady 900 600 500 w
  rw [show ckW 900 600 500 = 0 by decide, aw_nums.2.1] at h
  exact h
theorem aw_after (v : Value) (w : World) (hv : IsR w v (mkV 225 1)) : Calls Try.prog 19 #[.agg #[.int .i64 900, .int .i64 600, .int .i64 500], v, .int .i64 3] w (RRes w 0 (mkV 225 1)) := by
  have h := p_After 900 600 500 v _ _ _ 3 w hv
  obtain ⟨-, h1, h2, h3, h4⟩ := aw_fit
  rw [afE_ok ((stE_wh (by decide)).trans (whE_fit h1 h2 h3 h4)) (by decide), (form_val h1).2, show (3 : Int).toNat = 3 from rfl, aw_nums.2.2.1] at h
  exact h
theorem aw_paper (v : Value) (w : World) (hv : IsR w v (mkV 225 1)) : Calls Try.prog 21 #[.agg #[.int .i64 900, .int .i64 600, .int .i64 500], v, .int .i64 2] w (RRes w 0 (mkV 1350 1)) := by
  have h := p_Paper 900 600 500 v _ _ _ 2 w hv
  obtain ⟨-, h1, h2, h3, h4⟩ := aw_fit
  rw [afE_ok ((stE_wh (by decide)).trans (whE_fit h1 h2 h3 h4)) (by decide), (form_val h1).2, show (2 : Int).toNat = 2 from rfl, aw_nums.2.2.2] at h
  exact h
set_option maxHeartbeats 6400000 in
theorem law_awake (w : World) : Calls Try.prog 15 #[] w fun e w' => e = .returned (.bool true) ∧ Below w.heap.size w w' := by
  have KE := Lib.hid fun (W : World) => law_end W
  have KS := Lib.hid fun (v : Value) (W : World) (h : IsR W v (mkV 100 1)) => aw_step v W h
  have KT := Lib.hid fun (W : World) => aw_steady W
  have KX := Lib.hid fun (v : Value) (W : World) (h : IsR W v (mkV 225 1)) => aw_after v W h
  have KP := Lib.hid fun (v : Value) (W : World) (h : IsR W v (mkV 225 1)) => aw_paper v W h
  have W100 := Lib.hid fun (W : World) => law_whole (n := 100) (by decide) (by decide) W
  have W600 := Lib.hid fun (W : World) => law_whole (n := 600) (by decide) (by decide) W
  have W200 := Lib.hid fun (W : World) => law_whole (n := 200) (by decide) (by decide) W
  have W225 := Lib.hid fun (W : World) => law_whole (n := 225) (by decide) (by decide) W
  have W1350 := Lib.hid fun (W : World) => law_whole (n := 1350) (by decide) (by decide) W
  have HB := Lib.hid (Below.refl w.heap.size w)
  go_enter Try.func15, Try.ntmps15
  go_wp2_with fail
  refine (KE.out _).mono ?_
  rintro e w1 ⟨rfl, hb⟩
  replace HB := Lib.hid (bstep HB.out hb)
  clear hb
  go_wp2_with fail
  refine (W100.out _).mono ?_
  rintro e w2 ⟨b0, A0, n0, c0, B0, m0, d0, rfl, ho, hb⟩
  replace HB := Lib.hid (bstep HB.out hb)
  have R0 := Lib.hid ho
  clear ho hb
  go_wp2_with fail
  refine (KS.out _ _ R0.out).mono ?_
  rintro e w3 ⟨b1, A1, n1, c1, B1, m1, d1, b2, A2, n2, c2, B2, m2, d2, b3, A3, n3, c3, B3, m3, d3, rfl, hp, hq, hr, hb⟩
  replace HB := Lib.hid (bstep HB.out hb)
  have R1 := Lib.hid (out_zero hp)
  have R2 := Lib.hid (out_zero hq)
  have R3 := Lib.hid (out_zero hr)
  clear hp hq hr hb R0
  go_upto_region 2 with fail
  obtain ⟨w4, g1, g2, g3, hw, hg1, hg2, hg3, h1, h2, h3, hb⟩ := trio w3 (.bool b1) (.slice A1 n1 c1) (.slice B1 m1 d1) (.bool b2) (.slice A2 n2 c2) (.slice B2 m2 d2) (.bool b3) (.slice A3 n3 c3) (.slice B3 m3 d3)
  first | rw [hg1, hg2, hg3] | rw [hg1, hg2] | rw [hg1] | skip
  rw [hw]
  replace HB := Lib.hid (bstep HB.out hb)
  replace R1 := Lib.hid (R1.out.on hb)
  replace R2 := Lib.hid (R2.out.on hb)
  replace R3 := Lib.hid (R3.out.on hb)
  have C1 := Lib.hid h1
  have C2 := Lib.hid h2
  have C3 := Lib.hid h3
  clear hw hg1 hg2 hg3 h1 h2 h3 hb
  go_wp2_with fail
  refine (KE.out _).mono ?_
  rintro e w5 ⟨rfl, hb⟩
  replace HB := Lib.hid (bstep HB.out hb)
  replace R1 := Lib.hid (R1.out.on hb)
  replace R2 := Lib.hid (R2.out.on hb)
  replace R3 := Lib.hid (R3.out.on hb)
  replace C1 := Lib.hid (C1.out.on hb)
  replace C2 := Lib.hid (C2.out.on hb)
  replace C3 := Lib.hid (C3.out.on hb)
  clear hb
  go_wp2_with fail
  refine (KT.out _).mono ?_
  rintro e w6 h
  obtain ⟨b5, A5, n5, c5, B5, m5, d5, rfl, ho, hb⟩ := h.open_
  replace HB := Lib.hid (bstep HB.out hb)
  replace R1 := Lib.hid (R1.out.on hb)
  replace R2 := Lib.hid (R2.out.on hb)
  replace R3 := Lib.hid (R3.out.on hb)
  replace C1 := Lib.hid (C1.out.on hb)
  replace C2 := Lib.hid (C2.out.on hb)
  replace C3 := Lib.hid (C3.out.on hb)
  have R5 := Lib.hid (out_zero ho)
  clear h ho hb
  go_upto_region 3 with fail
  obtain ⟨w7, g5, hw, hg1, h1, hb⟩ := solo w6 (.bool b5) (.slice A5 n5 c5) (.slice B5 m5 d5)
  first | rw [hg1] | skip
  rw [hw]
  replace HB := Lib.hid (bstep HB.out hb)
  replace R1 := Lib.hid (R1.out.on hb)
  replace R2 := Lib.hid (R2.out.on hb)
  replace R3 := Lib.hid (R3.out.on hb)
  replace C1 := Lib.hid (C1.out.on hb)
  replace C2 := Lib.hid (C2.out.on hb)
  replace C3 := Lib.hid (C3.out.on hb)
  replace R5 := Lib.hid (R5.out.on hb)
  have C5 := Lib.hid h1
  clear hw hg1 h1 hb
  go_cut [7, 8] from 24 to 30 (fun x y wz => ∃ g b A n c B m d, x = .pointer (some ⟨g, 0, none⟩) ∧ y = .int .i64 0 ∧ Rw.Cel wz g [.bool b, .slice A n c, .slice B m d] ∧ IsR wz (.agg #[.bool b, .slice A n c, .slice B m d]) (mkV 225 1) ∧ w7.heap.size ≤ g ∧ Below w7.heap.size w7 wz)
  case first =>
    obtain ⟨x00, x01, x02⟩ := C5.out.three
    have HS : Hid (∀ W, Below w7.heap.size w7 W → W.cell? ⟨g5, 0, none⟩ = some (.bool b5) ∧ W.cell? ⟨g5, 1, none⟩ = some (.slice A5 n5 c5) ∧ W.cell? ⟨g5, 2, none⟩ = some (.slice B5 m5 d5)) := Lib.hid fun W h => by
        obtain ⟨x00, x01, x02⟩ := (C5.out.on h).three
        exact ⟨x00, x01, x02⟩
    go_region_held3 (fun W => W.cell? ⟨g5, 0, none⟩ = some (.bool b5) ∧ W.cell? ⟨g5, 1, none⟩ = some (.slice A5 n5 c5) ∧ W.cell? ⟨g5, 2, none⟩ = some (.slice B5 m5 d5))
      (first | with_reducible exact HS.out _ (drew_below w7) | with_reducible exact HS.out _ (below_drew (below_alloc _ _)) | with_reducible exact HS.out _ H2.out | with_reducible exact HS.out _ (bstep H2.out (below_alloc _ _)) | with_reducible exact HS.out _ H3.out | with_reducible exact HS.out _ (bstep H3.out (below_alloc _ _)) | exact HS.out _ (Rw.below_put3 H3.out (by first | exact Nat.le_refl _ | exact H2.out.size) _ _ _))
      (first
      | (go_at_call 35; (with_reducible refine (KE.out w7.drew).mono ?_); rintro e wa ⟨rfl, hba⟩; (have H2 := Lib.hid (bstep (drew_below w7) hba)); (obtain ⟨y00, y01, y02⟩ := (C5.out.on H2.out).three); clear hba)
      | (go_at_call 35; (with_reducible refine (KE.out (w7.alloc (.cells #[.bool false, .slice none 0 0, .slice none 0 0] 27)).drew).mono ?_); rintro e wa ⟨rfl, hba⟩; (have HZ1 := Lib.hid (after_zerod hba).1); (have H2 := Lib.hid (after_zerod hba).2); (obtain ⟨y00, y01, y02⟩ := (C5.out.on H2.out).three); clear hba)
      | (go_at_call 19; (have HZ0 := HZ1); (with_reducible refine (KX.out _ _ (R5.out.on H2.out)).mono ?_); rintro e wb hx; (obtain ⟨b7, A7, n7, c7, B7, m7, d7, rfl, ho, hbb⟩ := hx.open_); (have RX := Lib.hid (out_zero ho)); (have H3 := Lib.hid (bstep H2.out hbb)); (have HZ2 := Lib.hid (HZ1.out.on hbb)); (obtain ⟨z0, z1, z2⟩ := HZ2.out.three); (obtain ⟨v0, v1, v2⟩ := HZ2.out.warm3); clear ho hbb)
      | (go_at_call 19; (with_reducible refine (KX.out _ _ (R5.out.on H2.out)).mono ?_); rintro e wb hx; (obtain ⟨b7, A7, n7, c7, B7, m7, d7, rfl, ho, hbb⟩ := hx.open_); (have RX := Lib.hid (out_zero ho)); (have H3 := Lib.hid (bstep H2.out hbb)); clear ho hbb)
      | (go_at_call 19; (with_reducible refine (KX.out _ _ (R5.out.on (bstep H2.out (below_alloc wa (.cells #[.bool false, .slice none 0 0, .slice none 0 0] 27))))).mono ?_); rintro e wb hx; (obtain ⟨b7, A7, n7, c7, B7, m7, d7, rfl, ho, hbb⟩ := hx.open_); (have RX := Lib.hid (out_zero ho)); (have HZ2 := Lib.hid (after_zero hbb).1); (have H3 := Lib.hid (bstep H2.out (after_zero hbb).2)); (obtain ⟨z0, z1, z2⟩ := HZ2.out.three); (obtain ⟨v0, v1, v2⟩ := HZ2.out.warm3); clear ho hbb))
    all_goals
      go_wp2_with fail
      go_meet
      case rel => first
        | exact ⟨_, _, _, _, _, _, _, _, rfl, rfl, Rw.Cel.new wb [_, _, _] _, RX.out.on (below_alloc _ _), H3.out.size, bstep H3.out (below_alloc _ _)⟩
        | exact ⟨_, _, _, _, _, _, _, _, rfl, rfl, HZ2.out.put3 _ _ _, InR.put3 RX.out (cel_root HZ2.out) _ _ _, Nat.le_refl _, Rw.below_put3 H3.out (Nat.le_refl _) _ _ _⟩
        | exact ⟨_, _, _, _, _, _, _, _, rfl, rfl, HZ2.out.put3 _ _ _, InR.put3 RX.out (cel_root HZ2.out) _ _ _, H2.out.size, Rw.below_put3 H3.out H2.out.size _ _ _⟩
  obtain ⟨g7, b7, A7, n7, c7, B7, m7, d7, rfl, rfl, hcx, hrx, hgx, hbc⟩ := hcut
  obtain ⟨w8, rfl⟩ : ∃ W, W = wc := ⟨wc, rfl⟩
  have hb := hbc
  replace HB := Lib.hid (bstep HB.out hb)
  replace R1 := Lib.hid (R1.out.on hb)
  replace R2 := Lib.hid (R2.out.on hb)
  replace R3 := Lib.hid (R3.out.on hb)
  replace C1 := Lib.hid (C1.out.on hb)
  replace C2 := Lib.hid (C2.out.on hb)
  replace C3 := Lib.hid (C3.out.on hb)
  replace R5 := Lib.hid (R5.out.on hb)
  replace C5 := Lib.hid (C5.out.on hb)
  have C7 := Lib.hid hcx
  have R7 := Lib.hid hrx
  clear hb hbc hcx hrx
  go_upto_region 4 with fail
  go_cut [9, 10] from 30 to 36 (fun x y wz => ∃ g b A n c B m d, x = .pointer (some ⟨g, 0, none⟩) ∧ y = .int .i64 0 ∧ Rw.Cel wz g [.bool b, .slice A n c, .slice B m d] ∧ IsR wz (.agg #[.bool b, .slice A n c, .slice B m d]) (mkV 1350 1) ∧ w8.heap.size ≤ g ∧ Below w8.heap.size w8 wz)
  case first =>
    obtain ⟨x00, x01, x02⟩ := C5.out.three
    have HS : Hid (∀ W, Below w8.heap.size w8 W → W.cell? ⟨g5, 0, none⟩ = some (.bool b5) ∧ W.cell? ⟨g5, 1, none⟩ = some (.slice A5 n5 c5) ∧ W.cell? ⟨g5, 2, none⟩ = some (.slice B5 m5 d5)) := Lib.hid fun W h => by
        obtain ⟨x00, x01, x02⟩ := (C5.out.on h).three
        exact ⟨x00, x01, x02⟩
    go_region_held3 (fun W => W.cell? ⟨g5, 0, none⟩ = some (.bool b5) ∧ W.cell? ⟨g5, 1, none⟩ = some (.slice A5 n5 c5) ∧ W.cell? ⟨g5, 2, none⟩ = some (.slice B5 m5 d5))
      (first | with_reducible exact HS.out _ (drew_below w8) | with_reducible exact HS.out _ (below_drew (below_alloc _ _)) | with_reducible exact HS.out _ H2.out | with_reducible exact HS.out _ (bstep H2.out (below_alloc _ _)) | with_reducible exact HS.out _ H3.out | with_reducible exact HS.out _ (bstep H3.out (below_alloc _ _)) | exact HS.out _ (Rw.below_put3 H3.out (by first | exact Nat.le_refl _ | exact H2.out.size) _ _ _))
      (first
      | (go_at_call 35; (with_reducible refine (KE.out w8.drew).mono ?_); rintro e wa ⟨rfl, hba⟩; (have H2 := Lib.hid (bstep (drew_below w8) hba)); (obtain ⟨y00, y01, y02⟩ := (C5.out.on H2.out).three); clear hba)
      | (go_at_call 35; (with_reducible refine (KE.out (w8.alloc (.cells #[.bool false, .slice none 0 0, .slice none 0 0] 27)).drew).mono ?_); rintro e wa ⟨rfl, hba⟩; (have HZ1 := Lib.hid (after_zerod hba).1); (have H2 := Lib.hid (after_zerod hba).2); (obtain ⟨y00, y01, y02⟩ := (C5.out.on H2.out).three); clear hba)
      | (go_at_call 21; (have HZ0 := HZ1); (with_reducible refine (KP.out _ _ (R5.out.on H2.out)).mono ?_); rintro e wb hx; (obtain ⟨b9, A9, n9, c9, B9, m9, d9, rfl, ho, hbb⟩ := hx.open_); (have RX := Lib.hid (out_zero ho)); (have H3 := Lib.hid (bstep H2.out hbb)); (have HZ2 := Lib.hid (HZ1.out.on hbb)); (obtain ⟨z0, z1, z2⟩ := HZ2.out.three); (obtain ⟨v0, v1, v2⟩ := HZ2.out.warm3); clear ho hbb)
      | (go_at_call 21; (with_reducible refine (KP.out _ _ (R5.out.on H2.out)).mono ?_); rintro e wb hx; (obtain ⟨b9, A9, n9, c9, B9, m9, d9, rfl, ho, hbb⟩ := hx.open_); (have RX := Lib.hid (out_zero ho)); (have H3 := Lib.hid (bstep H2.out hbb)); clear ho hbb)
      | (go_at_call 21; (with_reducible refine (KP.out _ _ (R5.out.on (bstep H2.out (below_alloc wa (.cells #[.bool false, .slice none 0 0, .slice none 0 0] 27))))).mono ?_); rintro e wb hx; (obtain ⟨b9, A9, n9, c9, B9, m9, d9, rfl, ho, hbb⟩ := hx.open_); (have RX := Lib.hid (out_zero ho)); (have HZ2 := Lib.hid (after_zero hbb).1); (have H3 := Lib.hid (bstep H2.out (after_zero hbb).2)); (obtain ⟨z0, z1, z2⟩ := HZ2.out.three); (obtain ⟨v0, v1, v2⟩ := HZ2.out.warm3); clear ho hbb))
    all_goals
      go_wp2_with fail
      go_meet
      case rel => first
        | exact ⟨_, _, _, _, _, _, _, _, rfl, rfl, Rw.Cel.new wb [_, _, _] _, RX.out.on (below_alloc _ _), H3.out.size, bstep H3.out (below_alloc _ _)⟩
        | exact ⟨_, _, _, _, _, _, _, _, rfl, rfl, HZ2.out.put3 _ _ _, InR.put3 RX.out (cel_root HZ2.out) _ _ _, Nat.le_refl _, Rw.below_put3 H3.out (Nat.le_refl _) _ _ _⟩
        | exact ⟨_, _, _, _, _, _, _, _, rfl, rfl, HZ2.out.put3 _ _ _, InR.put3 RX.out (cel_root HZ2.out) _ _ _, H2.out.size, Rw.below_put3 H3.out H2.out.size _ _ _⟩
  obtain ⟨g9, b9, A9, n9, c9, B9, m9, d9, rfl, rfl, hcx, hrx, hgx, hbc⟩ := hcut
  obtain ⟨w9, rfl⟩ : ∃ W, W = wc := ⟨wc, rfl⟩
  have hb := hbc
  replace HB := Lib.hid (bstep HB.out hb)
  replace R1 := Lib.hid (R1.out.on hb)
  replace R2 := Lib.hid (R2.out.on hb)
  replace R3 := Lib.hid (R3.out.on hb)
  replace C1 := Lib.hid (C1.out.on hb)
  replace C2 := Lib.hid (C2.out.on hb)
  replace C3 := Lib.hid (C3.out.on hb)
  replace R5 := Lib.hid (R5.out.on hb)
  replace C5 := Lib.hid (C5.out.on hb)
  replace C7 := Lib.hid (C7.out.on hb)
  replace R7 := Lib.hid (R7.out.on hb)
  have C9 := Lib.hid hcx
  have R9 := Lib.hid hrx
  clear hb hbc hcx hrx
  go_upto_region 5 with fail
  have E1 := Lib.hid fun (u : Value) (W : World) (h : Below w9.heap.size w9 W) (h2 : IsR W u (mkV 600 1)) => same_is (R1.out.on h) h2
  have E2 := Lib.hid fun (u : Value) (W : World) (h : Below w9.heap.size w9 W) (h2 : IsR W u (mkV 200 1)) => same_is (R2.out.on h) h2
  have E3 := Lib.hid fun (u : Value) (W : World) (h : Below w9.heap.size w9 W) (h2 : IsR W u (mkV 200 1)) => same_is (R3.out.on h) h2
  have E5 := Lib.hid fun (u : Value) (W : World) (h : Below w9.heap.size w9 W) (h2 : IsR W u (mkV 225 1)) => same_is (R5.out.on h) h2
  have E7 := Lib.hid fun (u : Value) (W : World) (h : Below w9.heap.size w9 W) (h2 : IsR W u (mkV 225 1)) => same_is (R7.out.on h) h2
  have E9 := Lib.hid fun (u : Value) (W : World) (h : Below w9.heap.size w9 W) (h2 : IsR W u (mkV 1350 1)) => same_is (R9.out.on h) h2
  have HC : Hid (∀ W, Below w9.heap.size w9 W → W.cell? ⟨g1, 0, none⟩ = some (.bool b1) ∧ W.cell? ⟨g1, 1, none⟩ = some (.slice A1 n1 c1) ∧ W.cell? ⟨g1, 2, none⟩ = some (.slice B1 m1 d1) ∧ W.cell? ⟨g2, 0, none⟩ = some (.bool b2) ∧ W.cell? ⟨g2, 1, none⟩ = some (.slice A2 n2 c2) ∧ W.cell? ⟨g2, 2, none⟩ = some (.slice B2 m2 d2) ∧ W.cell? ⟨g3, 0, none⟩ = some (.bool b3) ∧ W.cell? ⟨g3, 1, none⟩ = some (.slice A3 n3 c3) ∧ W.cell? ⟨g3, 2, none⟩ = some (.slice B3 m3 d3) ∧ W.cell? ⟨g5, 0, none⟩ = some (.bool b5) ∧ W.cell? ⟨g5, 1, none⟩ = some (.slice A5 n5 c5) ∧ W.cell? ⟨g5, 2, none⟩ = some (.slice B5 m5 d5) ∧ W.cell? ⟨g7, 0, none⟩ = some (.bool b7) ∧ W.cell? ⟨g7, 1, none⟩ = some (.slice A7 n7 c7) ∧ W.cell? ⟨g7, 2, none⟩ = some (.slice B7 m7 d7) ∧ W.cell? ⟨g9, 0, none⟩ = some (.bool b9) ∧ W.cell? ⟨g9, 1, none⟩ = some (.slice A9 n9 c9) ∧ W.cell? ⟨g9, 2, none⟩ = some (.slice B9 m9 d9)) := Lib.hid fun W h => by
    obtain ⟨y10, y11, y12⟩ := (C1.out.on h).three
    obtain ⟨y20, y21, y22⟩ := (C2.out.on h).three
    obtain ⟨y30, y31, y32⟩ := (C3.out.on h).three
    obtain ⟨y50, y51, y52⟩ := (C5.out.on h).three
    obtain ⟨y70, y71, y72⟩ := (C7.out.on h).three
    obtain ⟨y90, y91, y92⟩ := (C9.out.on h).three
    exact ⟨y10, y11, y12, y20, y21, y22, y30, y31, y32, y50, y51, y52, y70, y71, y72, y90, y91, y92⟩
  have HBL := Lib.hid (Below.refl w9.heap.size w9)
  have RW : Hid True := Lib.hid trivial
  clear R1 R2 R3 R5 R7 R9
  obtain ⟨y10, y11, y12, y20, y21, y22, y30, y31, y32, y50, y51, y52, y70, y71, y72, y90, y91, y92⟩ := HC.out w9 HBL.out
  clear C1 C2 C3 C5 C7 C9
  go_region_held3 (fun W => W.cell? ⟨g1, 0, none⟩ = some (.bool b1) ∧ W.cell? ⟨g1, 1, none⟩ = some (.slice A1 n1 c1) ∧ W.cell? ⟨g1, 2, none⟩ = some (.slice B1 m1 d1) ∧ W.cell? ⟨g2, 0, none⟩ = some (.bool b2) ∧ W.cell? ⟨g2, 1, none⟩ = some (.slice A2 n2 c2) ∧ W.cell? ⟨g2, 2, none⟩ = some (.slice B2 m2 d2) ∧ W.cell? ⟨g3, 0, none⟩ = some (.bool b3) ∧ W.cell? ⟨g3, 1, none⟩ = some (.slice A3 n3 c3) ∧ W.cell? ⟨g3, 2, none⟩ = some (.slice B3 m3 d3) ∧ W.cell? ⟨g5, 0, none⟩ = some (.bool b5) ∧ W.cell? ⟨g5, 1, none⟩ = some (.slice A5 n5 c5) ∧ W.cell? ⟨g5, 2, none⟩ = some (.slice B5 m5 d5) ∧ W.cell? ⟨g7, 0, none⟩ = some (.bool b7) ∧ W.cell? ⟨g7, 1, none⟩ = some (.slice A7 n7 c7) ∧ W.cell? ⟨g7, 2, none⟩ = some (.slice B7 m7 d7) ∧ W.cell? ⟨g9, 0, none⟩ = some (.bool b9) ∧ W.cell? ⟨g9, 1, none⟩ = some (.slice A9 n9 c9) ∧ W.cell? ⟨g9, 2, none⟩ = some (.slice B9 m9 d9))
    (first | with_reducible exact HC.out _ HBL.out | with_reducible exact HC.out _ (bstep HBL.out (drew_below _)))
    (first
    | (go_at_call 26; (with_reducible refine (W600.out w9.drew).mono ?_); rintro e wa ⟨b6, A6, n6, c6, B6, m6, d6, rfl, hW, hba⟩; (replace RW := Lib.hid hW); (replace HBL := Lib.hid (bstep (bstep HBL.out (drew_below _)) hba)); clear hba hW)
    | (go_at_call 26; (with_reducible refine (W200.out _).mono ?_); rintro e wa ⟨b6, A6, n6, c6, B6, m6, d6, rfl, hW, hba⟩; (replace RW := Lib.hid hW); (replace HBL := Lib.hid (bstep HBL.out hba)); clear hba hW)
    | (go_at_call 26; (with_reducible refine (W225.out _).mono ?_); rintro e wa ⟨b6, A6, n6, c6, B6, m6, d6, rfl, hW, hba⟩; (replace RW := Lib.hid hW); (replace HBL := Lib.hid (bstep HBL.out hba)); clear hba hW)
    | (go_at_call 26; (with_reducible refine (W1350.out _).mono ?_); rintro e wa ⟨b6, A6, n6, c6, B6, m6, d6, rfl, hW, hba⟩; (replace RW := Lib.hid hW); (replace HBL := Lib.hid (bstep HBL.out hba)); clear hba hW)
    | (go_at_call 14; (with_reducible refine (E1.out _ _ HBL.out RW.out).mono ?_); rintro e wa ⟨rfl, hba⟩; (replace HBL := Lib.hid (bstep HBL.out hba)); clear hba)
    | (go_at_call 14; (with_reducible refine (E2.out _ _ HBL.out RW.out).mono ?_); rintro e wa ⟨rfl, hba⟩; (replace HBL := Lib.hid (bstep HBL.out hba)); clear hba)
    | (go_at_call 14; (with_reducible refine (E3.out _ _ HBL.out RW.out).mono ?_); rintro e wa ⟨rfl, hba⟩; (replace HBL := Lib.hid (bstep HBL.out hba)); clear hba)
    | (go_at_call 14; (with_reducible refine (E5.out _ _ HBL.out RW.out).mono ?_); rintro e wa ⟨rfl, hba⟩; (replace HBL := Lib.hid (bstep HBL.out hba)); clear hba)
    | (go_at_call 14; (with_reducible refine (E7.out _ _ HBL.out RW.out).mono ?_); rintro e wa ⟨rfl, hba⟩; (replace HBL := Lib.hid (bstep HBL.out hba)); clear hba)
    | (go_at_call 14; (with_reducible refine (E9.out _ _ HBL.out RW.out).mono ?_); rintro e wa ⟨rfl, hba⟩; (replace HBL := Lib.hid (bstep HBL.out hba)); clear hba))
  all_goals
    go_wp2_with fail
    go_ret
    exact ⟨rfl, bstep HB.out HBL.out⟩

/-- The program's contracts. -/
theorem kit : WeKit := ⟨p_Check, fun f r c v b xs ys w hv => p_Step f r c v b xs ys w hv, p_Steady, fun f r c v b xs ys n w hv => p_After f r c v b xs ys n w hv, fun f r c v b xs ys n w hv => p_Paper f r c v b xs ys n w hv, law_awake⟩
end Go.Proofs.Ytohfaoclemcfaaa.Wet
