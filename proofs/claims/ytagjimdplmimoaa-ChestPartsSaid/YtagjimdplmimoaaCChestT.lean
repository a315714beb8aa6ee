/- What is drawn is the exact proportion, rounded: ChestParts (gen18/t.py). -/
import Derived.Test.YtagjimdplmimoaaCChestS
import Derived.Test.YtagjimdplmimoaaCShareQ
namespace Go.Proofs.Ytagjimdplmimoaa.Chest
open Go.ChangeShapes Go.WideShapes Go.RowKit Go.Lib
open Go.Proofs.Ytagjimdplmimoaa.Mem (Cl eI Own)
open Go.Proofs.Ytagjimdplmimoaa.Share (own_cl partsL partsL_len partsL_at sumK sumK_zero sumK_succ wf wf_at part_near exR exR_mulOk exR_is of_run make_run floor_run ceil_run OutR.is)
open Go.Proofs.Ytagjimdplmimoaa.Tank (MM cl_at lisE_mk)
open Go.Proofs.Ytagjimdplmimoaa.Rw (glt get_lt below_alloc bstep below_drewN below_drew drew_below)
set_option linter.unusedVariables false
set_option maxRecDepth 100000

/-- A draw of the whole level. -/
theorem whole {cap : Int} {L : List Int} (ok : COk cap L) : partsL (sumZ L) L = L := by
  have sok := dr_ok ok ok.pos.1 (Int.le_refl _)
  have hl := partsL_len (sumZ L) L
  have h0 : ∀ z ∈ lessL L (partsL (sumZ L) L), 0 ≤ z := fun z hz => ((ok_less ok ok.pos.1 (Int.le_refl _)).all z hz).1
  have hs : sumZ (lessL L (partsL (sumZ L) L)) = 0 := by rw [sumZ_less hl, dr_sum sok]; omega
  apply List.ext_getElem?
  intro k
  rcases Nat.lt_or_ge k L.length with hk | hk
  · obtain ⟨x, hx⟩ := get_lt (L := L) (k := k) hk
    obtain ⟨p, hp⟩ := get_lt (L := partsL (sumZ L) L) (k := k) (by omega)
    have h1 := le_sum h0 (less_at hx hp)
    have h2 := h0 _ (List.mem_of_getElem? (less_at hx hp))
    rw [hp, hx, show p = x by omega]
  · rw [List.getElem?_eq_none (by omega), List.getElem?_eq_none hk]
theorem whole_zero {L : List Int} : ∀ z ∈ lessL L L, z = 0 := fun z hz => by
  obtain ⟨k, hk⟩ := List.mem_iff_getElem?.mp hz
  have hkl := glt hk
  rw [less_len rfl] at hkl
  obtain ⟨x, hx⟩ := get_lt (L := L) (k := k) hkl
  rw [less_at hx hx] at hk
  have := Option.some.inj hk
  omega
theorem dr_near {t : Int} {L : List Int} (h : Share.Ok t L) {V T : Nat} (hV : sumZ L = (V : Int)) (hT : t = (T : Int)) (h0 : 0 < V) {k x : Nat} {p : Int} (hx : L[k]? = some (x : Int)) (hp : (partsL t L)[k]? = some p) :
    ((T * x / V : Nat) : Int) ≤ p ∧ p ≤ ((T * x / V + (if T * x % V = 0 then 0 else 1) : Nat) : Int) := by
  have hk := glt hx
  rw [partsL_at t hk] at hp
  have hp' := Option.some.inj hp
  have e1 := h.twI
  have e2 : Share.tw (wf L) L.length = V := by unfold sumZ at hV; omega
  have h1 := part_near (T := t.toNat) (w := wf L) (n := L.length) (by rw [e2]; exact h0) k
  unfold Share.quo Share.rst at h1
  have ex : wf L k = x := by have := wf_at hx (by omega); omega
  rw [e2, ex, show t.toNat = T by omega] at h1
  rw [show t.toNat = T by omega] at hp'
  rw [← hp']
  exact ⟨Int.ofNat_le.mpr h1.1, Int.ofNat_le.mpr h1.2⟩
theorem mul_run2 {T x V : Nat} (hV : 0 < V) (hT : T ≤ 1125899906842624) (hx : x ≤ V) (hV2 : V ≤ 1125899906842624) (v u : Value) (w : World) (hv : IsR w v (mkV (x : Int) (V : Int))) (hu : IsR w u (mkV (T : Int) 1)) :
    Calls Try.prog 28 #[v, u] w (RRes w 0 (exR T x V)) := by
  have h := rat_Mul _ _ _ _ _ _ v u w hv hu
  obtain ⟨h1, h2, h3⟩ := exR_mulOk (T := T) hV hT hx hV2
  have h4 : mulOk (mkV (x : Int) (V : Int)) (mkV (T : Int) 1) = true := by
    rw [← h1]; unfold mulOk; rw [Nat.mul_comm (mkV (x : Int) (V : Int)).num.natAbs, Nat.mul_comm (mkV (x : Int) (V : Int)).den]
  have h5 : mulOp (mkV (x : Int) (V : Int)) (mkV (T : Int) 1) = exR T x V := by
    rw [← exR_is]; exact Rat.mul_comm _ _
  rw [(op_form (ok := mulOk) (f := mulOp) h3 h2).1, (op_form (ok := mulOk) (f := mulOp) h3 h2).2, h4, h5] at h
  exact h
theorem drE_no {cap t : Int} {L : List Int} (hk : ckC cap L = 0) (h : ¬ drE cap L t = 0) : t < 0 ∨ sumZ L < t := by
  have ok := ckC_ok hk
  have h1 := ok.pos
  rcases Int.lt_or_le t 0 with h0 | h0
  · exact Or.inl h0
  · rcases Int.lt_or_le (sumZ L) t with h2 | h2
    · exact Or.inr h2
    · exact absurd (drE_ok hk ⟨h0, by omega⟩ (by omega)) h
set_option maxHeartbeats 6400000 in
theorem walk_ChestParts (w : World) (cap : Int) (A : Option Addr) (c : Nat) (L : List Int) (ha : Cl eI w A L) (hm : L.length ≤ 9223372036854775807) (t : Int) :
    Calls Try.prog 8 #[.agg #[.int .i64 cap, .slice A L.length c], .int .i64 t] w fun e w' => e = .returned (.bool true) ∧ Below w.heap.size w w' := by
  have HA := Lib.hid ha
  have KQ := Lib.hid fun W => law_awake W
  obtain ⟨n, hn⟩ : ∃ n, L.length = n := ⟨_, rfl⟩
  rw [hn] at hm ⊢
  have K1 := Lib.hid fun (W : World) (h : Cl eI W A L) => ch_Level cap L A n c hn.symm W h hm
  have K2 := Lib.hid fun (s : Int) (W : World) (h : Cl eI W A L) => ch_Draw cap s L A n c hn W h hm
  obtain ⟨E, hE⟩ : ∃ x, ckC cap L = x := ⟨_, rfl⟩
  obtain ⟨V, hV⟩ : ∃ x, levV cap L = x := ⟨_, rfl⟩
  rw [hE, hV] at K1
  have HE := Lib.hid (And.intro hE hV)
  have HN := Lib.hid hn
  clear ha hn hE hV
  go_enter Try.func8, Try.ntmps8
  go_upto_region 1 with fail
  obtain ⟨w0, hw0⟩ : ∃ W, w.alloc (.cells #[.int .i64 cap, .slice A n c] 24) = W := ⟨_, rfl⟩
  have C0 : Hid (Rw.Cel w0 w.heap.size [.int .i64 cap, .slice A n c]) := hw0 ▸ Rw.Cel.new w [_, _] _
  have HB : Hid (Below w.heap.size w w0) := hw0 ▸ below_alloc _ _
  rw [hw0]
  clear hw0
  by_cases hl : 20 < n
  · have d0 : decide ((20 : Int) < (n : Int)) = true := decide_eq_true (by omega)
    obtain ⟨x0, x1⟩ := C0.out.two
    go_wp2_with fail
    refine (KQ.out _).mono ?_
    rintro e wq ⟨rfl, hb⟩
    have HF := Lib.hid (bstep HB.out hb)
    clear hb
    go_wp2_with fail
    go_ret
    exact ⟨rfl, HF.out⟩
  have d0 : decide ((20 : Int) < (n : Int)) = false := decide_eq_false (by omega)
  obtain ⟨x0, x1⟩ := C0.out.two
  go_wp2_with fail
  refine (K1.out w0 (HA.out.on HB.out)).mono ?_
  rintro e w1 ⟨rfl, hb⟩
  replace HB := Lib.hid (bstep HB.out hb)
  replace C0 := Lib.hid (C0.out.on hb)
  clear hb x0 x1 d0 hl
  by_cases hz : E = 0
  rotate_left
  · obtain ⟨z1, z2⟩ := ne_zero hz
    clear hz
    go_wp2_with fail
    refine (KQ.out _).mono ?_
    rintro e wq ⟨rfl, hb⟩
    have HF := Lib.hid (bstep HB.out hb)
    clear hb
    go_wp2_with fail
    go_ret
    exact ⟨rfl, HF.out⟩
  subst hz
  have ok := ckC_ok HE.out.1
  obtain ⟨N, hN⟩ : ∃ N : Nat, sumZ L = (N : Int) := ⟨(sumZ L).toNat, by have := ok.pos; omega⟩
  have hVN : V = (N : Int) := by rw [← HE.out.2, levV_ok HE.out.1]; exact hN
  subst hVN
  have hw := whole ok
  have e1 : drE cap L (N : Int) = 0 := drE_ok HE.out.1 (by have := ok.pos; omega) (by omega)
  obtain ⟨e2, e3, e4⟩ := dr_yes e1
  rw [← hN] at e3 e4
  rw [hw] at e3 e4
  rw [hN] at e3 e4
  have K3 := Lib.hid (K2.out (N : Int))
  rw [e1, e2, e3, e4] at K3
  have HOK := Lib.hid ok
  have HNN := Lib.hid hN
  have HNM := Lib.hid (show N ≤ 1099511627776 by have := ok.pos; have hM : MM = 1099511627776 := rfl; omega)
  have b0 : ((n : Int) != (n : Int)) = false := by simp
  clear ok hw e1 e2 e3 e4 hN
  obtain ⟨x0, x1⟩ := C0.out.two
  go_wp2_with fail
  refine (K3.out w1 (HA.out.on HB.out)).mono ?_
  rintro e w2 ⟨A1, n1, c1, B1, m1, d1, rfl, hl3, hl4, ho, hp, hb⟩
  have X1 := Lib.hid (own_cl ho)
  have Y1 := Lib.hid (own_cl hp)
  obtain rfl : n = n1 := by rw [← hl3, less_len rfl]; exact HN.out.symm
  obtain rfl : n = m1 := by rw [← hl4]; exact HN.out.symm
  replace HB := Lib.hid (bstep HB.out hb)
  replace C0 := Lib.hid (C0.out.on hb)
  clear hb ho hp hl3 hl4 x0 x1
  go_upto_region 7 with fail
  obtain ⟨w3, hw⟩ : ∃ W, w2.alloc (.cells #[.int .i64 cap, .slice A1 n c1] 24) = W := ⟨_, rfl⟩
  obtain ⟨gP1, hg⟩ : ∃ g, w2.heap.size = g := ⟨_, rfl⟩
  have hb : Below w2.heap.size w2 w3 := hw ▸ below_alloc _ _
  have P1 : Hid (Rw.Cel w3 gP1 [.int .i64 cap, .slice A1 n c1]) := hw ▸ hg ▸ Rw.Cel.new w2 [_, _] _
  replace HB := Lib.hid (bstep HB.out hb)
  replace C0 := Lib.hid (C0.out.on hb)
  replace X1 := Lib.hid (X1.out.on hb)
  replace Y1 := Lib.hid (Y1.out.on hb)
  first | rw [hw, hg] | rw [hw]
  clear hw hg hb
  obtain ⟨x0, x1⟩ := C0.out.two
  obtain ⟨u0, u1⟩ := P1.out.two
  go_wp2_with fail
  refine (list_eq HN.out HN.out Y1.out (HA.out.on HB.out) hm).mono ?_
  rintro e w4 ⟨rfl, hb⟩
  replace HB := Lib.hid (bstep HB.out hb)
  replace C0 := Lib.hid (C0.out.on hb)
  replace X1 := Lib.hid (X1.out.on hb)
  replace Y1 := Lib.hid (Y1.out.on hb)
  replace P1 := Lib.hid (P1.out.on hb)
  clear hb x0 x1 u0 u1 Y1
  obtain ⟨x0, x1⟩ := C0.out.two
  obtain ⟨u0, u1⟩ := P1.out.two
  go_wp2_with fail
  clear x0 x1 u0 u1
  go_loopw [10] (fun i wr => ∃ (k : Nat), k ≤ n ∧ i = .int .i64 k ∧ Below w4.heap.size w4 wr) (fun i _ => n - (RowKit.intOf i).toNat)
  case atStart => exact ⟨0, Nat.zero_le _, rfl, Below.refl _ _⟩
  case round =>
    obtain ⟨k, hk, rfl, hbel⟩ := hrel
    have HW := Lib.hid hbel
    clear hbel
    obtain ⟨u0, u1⟩ := (P1.out.on HW.out).two
    rcases Nat.lt_or_ge k n with hlt | hge
    · obtain ⟨z, hz⟩ := get_lt (L := lessL L L) (k := k) (by rw [less_len rfl]; have := HN.out; omega)
      obtain rfl : z = 0 := whole_zero z (List.mem_of_getElem? hz)
      obtain ⟨b1', o1, rfl, hb1, h1⟩ := cl_at (X1.out.on HW.out) hz
      have i1 : (k : Int) < (n : Int) := by omega
      have i2 : (0 : Int) ≤ (k : Int) := by omega
      clear hz hb1
      go_wp2_with fail
      go_roundw
      case rel => exact ⟨k + 1, by omega, by go_num, HW.out⟩
      case measure => simp [RowKit.intOf]; omega
    · obtain rfl : n = k := by omega
      have hb := HW.out
      replace HB := Lib.hid (bstep HB.out hb)
      replace C0 := Lib.hid (C0.out.on hb)
      clear hb HW P1 X1 K3
      obtain ⟨x0, x1⟩ := C0.out.two
      have HDE := Lib.hid (drE_no (t := t) HE.out.1)
      obtain ⟨F, hF⟩ : ∃ x, drE cap L t = x := ⟨_, rfl⟩
      have K4 := Lib.hid (K2.out t)
      rw [hF] at K4 HDE
      have HF := Lib.hid hF
      clear hF K2
      go_wp2_with fail
      refine (K4.out wr (HA.out.on HB.out)).mono ?_
      rintro e w5 ⟨A2, n2, c2, B2, m2, d2, rfl, hl5, hl6, ho, hp, hb⟩
      have Y2 := Lib.hid (own_cl hp)
      have N2 := Lib.hid hl6
      replace HB := Lib.hid (bstep HB.out hb)
      replace C0 := Lib.hid (C0.out.on hb)
      clear hb ho hp hl5 hl6 x0 x1
      by_cases hz : F = 0
      rotate_left
      · obtain ⟨z1, z2⟩ := ne_zero hz
        have hm0 : drM cap L t = [] := (dr_no (by rw [HF.out]; exact hz)).2.2
        obtain rfl : 0 = m2 := by rw [← N2.out, hm0]; rfl
        have hor := HDE.out hz
        rw [HNN.out] at hor
        clear hz hm0
        rcases Int.lt_or_le t 0 with h0 | h0
        · have d0 : decide (t < 0) = true := decide_eq_true h0
          clear h0 hor
          go_wp2_with fail
          refine (KQ.out _).mono ?_
          rintro e wq ⟨rfl, hb⟩
          have HF := Lib.hid (bstep HB.out hb)
          clear hb
          go_wp2_with fail
          go_ret
          exact ⟨rfl, HF.out⟩
        · have d0 : decide (t < 0) = false := decide_eq_false (by omega)
          have d1 : decide ((N : Int) < t) = true := decide_eq_true (by omega)
          clear h0 hor
          go_wp2_with fail
          refine (KQ.out _).mono ?_
          rintro e wq ⟨rfl, hb⟩
          have HF := Lib.hid (bstep HB.out hb)
          clear hb
          go_wp2_with fail
          go_ret
          exact ⟨rfl, HF.out⟩
      subst hz
      obtain ⟨-, -, e4⟩ := dr_yes HF.out
      rw [e4] at Y2 N2
      obtain ⟨-, t0, tl⟩ := drE_of HF.out
      rw [HNN.out] at tl
      obtain ⟨T, rfl⟩ : ∃ T : Nat, t = (T : Int) := ⟨t.toNat, by omega⟩
      have HTN := Lib.hid (show T ≤ N by omega)
      have SOK := Lib.hid (dr_ok HOK.out t0 (by rw [HNN.out]; exact tl))
      have HPL := Lib.hid (partsL_len (T : Int) L)
      obtain rfl : n = m2 := by rw [← N2.out, HPL.out]; exact HN.out.symm
      clear e4 t0 tl
      obtain ⟨x0, x1⟩ := C0.out.two
      go_wp2_with fail
      clear x0 x1
      go_loopw [11, 12, 13, 14, 15, 16, 17, 18, 19, 20, 21] (fun i _ _ _ _ _ _ _ _ _ _ wr => ∃ (k : Nat), k ≤ n ∧ i = .int .i64 k ∧ Below w5.heap.size w5 wr) (fun i _ _ _ _ _ _ _ _ _ _ _ => n - (RowKit.intOf i).toNat)
      case atStart => exact ⟨0, Nat.zero_le _, rfl, Below.refl _ _⟩
      case round =>
        obtain ⟨k, hk, rfl, hbel⟩ := hrel
        have HBL := Lib.hid hbel
        replace HB := Lib.hid (bstep HB.out hbel)
        replace C0 := Lib.hid (C0.out.on hbel)
        replace Y2 := Lib.hid (Y2.out.on hbel)
        clear hbel
        rcases Nat.lt_or_ge k n with hlt | hge
        rotate_left
        · obtain rfl : n = k := by omega
          go_wp2_with fail
          refine (KQ.out _).mono ?_
          rintro e wq ⟨rfl, hb⟩
          have HF := Lib.hid (bstep HB.out hb)
          clear hb
          go_wp2_with fail
          go_ret
          exact ⟨rfl, HF.out⟩
        rcases Nat.eq_zero_or_pos N with hN0 | hN0
        · subst hN0
          have i1 : (k : Int) < (n : Int) := by omega
          obtain ⟨x0, x1⟩ := C0.out.two
          go_wp2_with fail
          refine (KQ.out _).mono ?_
          rintro e wq ⟨rfl, hb⟩
          have HF := Lib.hid (bstep HB.out hb)
          clear hb
          go_wp2_with fail
          go_ret
          exact ⟨rfl, HF.out⟩
        obtain ⟨x0, x1⟩ := C0.out.two
        obtain ⟨z, hz⟩ := get_lt (L := L) (k := k) (by have := HN.out; omega)
        obtain ⟨p, hp⟩ := get_lt (L := partsL (T : Int) L) (k := k) (by have := HPL.out; have := HN.out; omega)
        have lz := HOK.out.all z (List.mem_of_getElem? hz)
        obtain ⟨x, rfl⟩ : ∃ x : Nat, z = (x : Int) := ⟨z.toNat, by omega⟩
        have hxN : x ≤ N := by
          have h1 := le_sum (fun z hz => (HOK.out.all z hz).1) hz
          rw [HNN.out] at h1; omega
        have hnear := dr_near SOK.out HNN.out rfl hN0 hz hp
        have lp := parts_lim HOK.out SOK.out.t0 (by rw [HNN.out]; have := HTN.out; omega) p (List.mem_of_getElem? hp)
        have hTM : T ≤ 1125899906842624 := by have := HTN.out; have := HNM.out; omega
        have hNM : N ≤ 1125899906842624 := by have := HNM.out; omega
        have KM := Lib.hid fun W => make_run hN0 hxN hNM W
        have KO := Lib.hid fun W => of_run hTM W
        have KX := Lib.hid fun v u W => mul_run2 hN0 hTM hxN hNM v u W
        have KF := Lib.hid fun v W => floor_run hN0 hTM hxN hNM v W
        have KC := Lib.hid fun v W => ceil_run hN0 hTM hxN hNM v W
        obtain ⟨rx, hrx⟩ : ∃ r, mkV (x : Int) (N : Int) = r := ⟨_, rfl⟩
        obtain ⟨rt, hrt⟩ : ∃ r, mkV (T : Int) 1 = r := ⟨_, rfl⟩
        obtain ⟨rm, hrm⟩ : ∃ r, exR T x N = r := ⟨_, rfl⟩
        obtain ⟨lo, hlo⟩ : ∃ r, ((T * x / N : Nat) : Int) = r := ⟨_, rfl⟩
        obtain ⟨hi, hhi⟩ : ∃ r, ((T * x / N + (if T * x % N = 0 then 0 else 1) : Nat) : Int) = r := ⟨_, rfl⟩
        rw [hrx] at KM KX
        rw [hrt] at KO KX
        rw [hrm] at KX KF KC
        rw [hlo] at KF hnear
        rw [hhi] at KC hnear
        have g0 : decide (p < lo) = false := decide_eq_false (by omega)
        have g1 : decide (hi < p) = false := decide_eq_false (by omega)
        obtain ⟨b1', o1, rfl, hb1, h1⟩ := cl_at (HA.out.on HB.out) hz
        have i0 : (0 : Int) < (N : Int) := by omega
        have i1 : (k : Int) < (n : Int) := by omega
        have i2 : (0 : Int) ≤ (k : Int) := by omega
        have HP := Lib.hid hp
        clear hz hp lz lp hxN hnear hTM hNM hrx hrt hrm hlo hhi hb1
        go_wp2_with fail
        refine (KM.out wr).mono ?_
        intro e wa h
        obtain ⟨b1, M1, n1', c1', N1, m1', d1', rfl, ho, hb⟩ := h.open_
        have V1 := Lib.hid (OutR.is ho)
        replace HB := Lib.hid (bstep HB.out hb)
        replace C0 := Lib.hid (C0.out.on hb)
        replace Y2 := Lib.hid (Y2.out.on hb)
        replace HBL := Lib.hid (bstep HBL.out hb)
        clear h ho hb
        clear x0 x1
        go_upto_region 23 with fail
        obtain ⟨wb, hw⟩ : ∃ W, wa.alloc (.cells #[.bool b1, .slice M1 n1' c1', .slice N1 m1' d1'] 46) = W := ⟨_, rfl⟩
        obtain ⟨gR1, hg⟩ : ∃ g, wa.heap.size = g := ⟨_, rfl⟩
        have hb : Below wa.heap.size wa wb := hw ▸ below_alloc _ _
        have R1 : Hid (Rw.Cel wb gR1 [.bool b1, .slice M1 n1' c1', .slice N1 m1' d1']) := hw ▸ hg ▸ Rw.Cel.new wa [_, _, _] _
        replace HB := Lib.hid (bstep HB.out hb)
        replace C0 := Lib.hid (C0.out.on hb)
        replace Y2 := Lib.hid (Y2.out.on hb)
        replace V1 := Lib.hid (V1.out.on hb)
        replace HBL := Lib.hid (bstep HBL.out hb)
        rw [hw, hg]
        clear hw hg hb
        go_wp2_with fail
        refine (KO.out wb).mono ?_
        intro e wc h
        obtain ⟨b2, M2, n2', c2', N2, m2', d2', rfl, ho, hb⟩ := h.open_
        have V2 := Lib.hid (OutR.is ho)
        replace HB := Lib.hid (bstep HB.out hb)
        replace C0 := Lib.hid (C0.out.on hb)
        replace Y2 := Lib.hid (Y2.out.on hb)
        replace V1 := Lib.hid (V1.out.on hb)
        replace R1 := Lib.hid (R1.out.on hb)
        replace HBL := Lib.hid (bstep HBL.out hb)
        clear h ho hb
        go_upto_region 24 with fail
        obtain ⟨wd, hw⟩ : ∃ W, wc.alloc (.cells #[.bool b2, .slice M2 n2' c2', .slice N2 m2' d2'] 46) = W := ⟨_, rfl⟩
        obtain ⟨gR2, hg⟩ : ∃ g, wc.heap.size = g := ⟨_, rfl⟩
        have hb : Below wc.heap.size wc wd := hw ▸ below_alloc _ _
        have R2 : Hid (Rw.Cel wd gR2 [.bool b2, .slice M2 n2' c2', .slice N2 m2' d2']) := hw ▸ hg ▸ Rw.Cel.new wc [_, _, _] _
        replace HB := Lib.hid (bstep HB.out hb)
        replace C0 := Lib.hid (C0.out.on hb)
        replace Y2 := Lib.hid (Y2.out.on hb)
        replace V1 := Lib.hid (V1.out.on hb)
        replace R1 := Lib.hid (R1.out.on hb)
        replace V2 := Lib.hid (V2.out.on hb)
        replace HBL := Lib.hid (bstep HBL.out hb)
        rw [hw, hg]
        clear hw hg hb
        obtain ⟨x0, x1, x2⟩ := R1.out.three
        obtain ⟨y0, y1, y2⟩ := R2.out.three
        go_wp2_with fail
        refine (KX.out _ _ wd V1.out V2.out).mono ?_
        intro e we h
        obtain ⟨b3, M3, n3', c3', N3, m3', d3', rfl, ho, hb⟩ := h.open_
        have V3 := Lib.hid (OutR.is ho)
        replace HB := Lib.hid (bstep HB.out hb)
        replace C0 := Lib.hid (C0.out.on hb)
        replace Y2 := Lib.hid (Y2.out.on hb)
        replace V1 := Lib.hid (V1.out.on hb)
        replace R1 := Lib.hid (R1.out.on hb)
        replace V2 := Lib.hid (V2.out.on hb)
        replace R2 := Lib.hid (R2.out.on hb)
        replace HBL := Lib.hid (bstep HBL.out hb)
        clear h ho hb
        clear x0 x1 x2 y0 y1 y2
        go_upto_region 25 with fail
        obtain ⟨wf, hw⟩ : ∃ W, we.alloc (.cells #[.bool b3, .slice M3 n3' c3', .slice N3 m3' d3'] 46) = W := ⟨_, rfl⟩
        obtain ⟨gR3, hg⟩ : ∃ g, we.heap.size = g := ⟨_, rfl⟩
        have hb : Below we.heap.size we wf := hw ▸ below_alloc _ _
        have R3 : Hid (Rw.Cel wf gR3 [.bool b3, .slice M3 n3' c3', .slice N3 m3' d3']) := hw ▸ hg ▸ Rw.Cel.new we [_, _, _] _
        replace HB := Lib.hid (bstep HB.out hb)
        replace C0 := Lib.hid (C0.out.on hb)
        replace Y2 := Lib.hid (Y2.out.on hb)
        replace V1 := Lib.hid (V1.out.on hb)
        replace R1 := Lib.hid (R1.out.on hb)
        replace V2 := Lib.hid (V2.out.on hb)
        replace R2 := Lib.hid (R2.out.on hb)
        replace V3 := Lib.hid (V3.out.on hb)
        replace HBL := Lib.hid (bstep HBL.out hb)
        rw [hw, hg]
        clear hw hg hb
        obtain ⟨x0, x1, x2⟩ := R3.out.three
        go_wp2_with fail
        refine (KF.out _ wf V3.out).mono ?_
        rintro e wg ⟨rfl, hb⟩
        replace HB := Lib.hid (bstep HB.out hb)
        replace C0 := Lib.hid (C0.out.on hb)
        replace Y2 := Lib.hid (Y2.out.on hb)
        replace V1 := Lib.hid (V1.out.on hb)
        replace R1 := Lib.hid (R1.out.on hb)
        replace V2 := Lib.hid (V2.out.on hb)
        replace R2 := Lib.hid (R2.out.on hb)
        replace V3 := Lib.hid (V3.out.on hb)
        replace R3 := Lib.hid (R3.out.on hb)
        replace HBL := Lib.hid (bstep HBL.out hb)
        clear hb x0 x1 x2
        obtain ⟨x0, x1, x2⟩ := R3.out.three
        go_wp2_with fail
        refine (KC.out _ wg V3.out).mono ?_
        rintro e wh ⟨rfl, hb⟩
        replace HB := Lib.hid (bstep HB.out hb)
        replace C0 := Lib.hid (C0.out.on hb)
        replace Y2 := Lib.hid (Y2.out.on hb)
        replace V1 := Lib.hid (V1.out.on hb)
        replace R1 := Lib.hid (R1.out.on hb)
        replace V2 := Lib.hid (V2.out.on hb)
        replace R2 := Lib.hid (R2.out.on hb)
        replace V3 := Lib.hid (V3.out.on hb)
        replace R3 := Lib.hid (R3.out.on hb)
        replace HBL := Lib.hid (bstep HBL.out hb)
        clear hb x0 x1 x2
        obtain ⟨b2', o2, rfl, hb2, h2⟩ := cl_at Y2.out HP.out
        clear hb2
        go_wp2_with fail
        go_roundw
        case rel => exact ⟨k + 1, by omega, by go_num, HBL.out⟩
        case measure => simp [RowKit.intOf]; omega
#print axioms walk_ChestParts
end Go.Proofs.Ytagjimdplmimoaa.Chest
