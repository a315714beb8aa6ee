/- The contract of nat.DivMod; the walk of NatDivides. -/
import Derived.Test.YtmbpcjnlniidkaaDoorNatV5
import Derived.Test.YtmbpcjnlniidkaaDoorNatT
namespace Go.Proofs.YtmbpcjnlniidkaaDoor
open Go.ChangeShapes Go.WideShapes Go.RowKit
set_option linter.unusedVariables false

theorem top_pos {ys : List Int} {l : Nat} {b : Int} (hy : nrm ys = true) (hl : ys.length = l + 1) (hb : ys[l]? = some b) : 0 < b := by
  have h := nrm_lok hy
  have b0 := lok_at h hb
  rcases Int.lt_or_eq_of_le b0.1 with h1 | h1
  · exact h1
  · exfalso
    subst h1
    have : ys.getLast? = some 0 := by rw [List.getLast?_eq_getElem?, hl]; exact hb
    simp [nrm, this] at hy
theorem nat_divide (xs ys : List Int) (va vb : Value) (w : World) (ha : In w va xs) (hb : In w vb ys) (hx : nrm xs = true) (hy : nrm ys = true) (hlx : xs.length ≤ 1000) (hp : 0 < ys.length) :
    Calls Tryd.prog 53 #[va, vb] w (DivRes w xs ys) := by
  rcases Nat.lt_or_ge xs.length ys.length with h | h
  · exact divide_less xs ys va vb w ha hb hx hy (by omega) h
  · rcases Nat.lt_or_ge 2 xs.length with h2 | h2
    · obtain ⟨l, hl⟩ : ∃ l, ys.length = l + 1 := ⟨ys.length - 1, by omega⟩
      obtain ⟨b, hb'⟩ : ∃ b, ys[l]? = some b := ⟨_, List.getElem?_eq_getElem (by omega)⟩
      exact divide_long xs ys va vb w l b ha hb hx hy h2 hlx hl (by omega) hb' (top_pos hy hl hb')
    · exact divide_two xs ys va vb w ha hb hx hy h2 hp h
theorem nat_DivMod (xs ys : List Int) (va vb : Value) (w : World) (ha : In w va xs) (hb : In w vb ys) :
    Calls Tryd.prog 33 #[va, vb] w (DmRes w xs ys) :=
  DivMod_of xs ys va vb w ha hb fun h1 h2 h3 => nat_divide xs ys va vb w ha hb (valid_nrm h1) (valid_nrm h2) (by have := valid_len h1; omega) h3

theorem valid_lt {xs : List Int} (h : validB xs = true) : (nval xs).toNat < 1000000000 ^ 48 := limbs_len_le.mp (by rw [← nrm_limbs (valid_nrm h)]; exact valid_len h)
theorem valid_limbs {n : Nat} (h : n < 1000000000 ^ 48) : validB (limbs n) = true := validB_iff.mpr ⟨limbs_len_le.mpr h, nrm_of_limbs _⟩
theorem fit_ok {n : Nat} (h : n < 1000000000 ^ 48) : fitN n = n ∧ fitE n = 0 := ⟨if_pos h, if_pos h⟩

/-- What the law's calls return, of valid numbers, the second not zero. -/
theorem dvd_facts {xs ys : List Int} (hx : validB xs = true) (hy : validB ys = true) (hp : 0 < ys.length) :
    divE xs ys = 0 ∧ mulV (limbs (quoN xs ys)) ys = quoN xs ys * (nval ys).toNat ∧ mulE (limbs (quoN xs ys)) ys = 0 ∧ mulV ys (limbs (quoN xs ys)) = quoN xs ys * (nval ys).toNat ∧ mulE ys (limbs (quoN xs ys)) = 0 ∧
    limbs (addV (limbs (quoN xs ys * (nval ys).toNat)) (limbs (remN xs ys))) = xs ∧ addE (limbs (quoN xs ys * (nval ys).toNat)) (limbs (remN xs ys)) = 0 ∧
    cmpV (limbs (remN xs ys)) ys = -1 ∧ formE (limbs (remN xs ys)) ys = 0 := by
  have he : ys.isEmpty = false := by cases ys with
    | nil => simp at hp
    | cons a l => rfl
  have hb : both xs ys = true := by rw [both, hx, hy]; rfl
  have hok : divOk xs ys = true := by rw [divOk, hb, he]; rfl
  have eq : quoN xs ys = (nval xs).toNat / (nval ys).toNat := by rw [quoN, hok, if_pos rfl]
  have er : remN xs ys = (nval xs).toNat % (nval ys).toNat := by rw [remN, hok, if_pos rfl]
  have yp := nval_pos (valid_nrm hy) hp
  have x0 := nval_nonneg (valid_lok hx)
  have hxl := valid_lt hx
  have hyl := valid_lt hy
  have M0 : 0 < (nval ys).toNat := by omega
  have hq1 : quoN xs ys ≤ (nval xs).toNat := by rw [eq]; exact Nat.div_le_self _ _
  have hqm : quoN xs ys * (nval ys).toNat ≤ (nval xs).toNat := by rw [eq]; exact Nat.div_mul_le_self _ _
  have hr1 : remN xs ys < (nval ys).toNat := by rw [er]; exact Nat.mod_lt _ M0
  have hsum : quoN xs ys * (nval ys).toNat + remN xs ys = (nval xs).toNat := by rw [eq, er, Nat.mul_comm]; exact Nat.div_add_mod _ _
  have vq : validB (limbs (quoN xs ys)) = true := valid_limbs (Nat.lt_of_le_of_lt hq1 hxl)
  have vr : validB (limbs (remN xs ys)) = true := valid_limbs (Nat.lt_trans hr1 hyl)
  have vp : validB (limbs (quoN xs ys * (nval ys).toNat)) = true := valid_limbs (Nat.lt_of_le_of_lt hqm hxl)
  have fp := fit_ok (Nat.lt_of_le_of_lt hqm hxl)
  have ey : nval ys = ((nval ys).toNat : Int) := by omega
  have p1 : (nval (limbs (quoN xs ys)) * nval ys).toNat = quoN xs ys * (nval ys).toNat := by rw [nval_limbs]; conv => lhs; rw [ey, ← Int.natCast_mul, Int.toNat_natCast]
  have p2 : (nval ys * nval (limbs (quoN xs ys))).toNat = quoN xs ys * (nval ys).toNat := by rw [Int.mul_comm]; exact p1
  have p3 : (nval (limbs (quoN xs ys * (nval ys).toNat)) + nval (limbs (remN xs ys))).toNat = (nval xs).toNat := by rw [nval_limbs, nval_limbs]; omega
  have fx := fit_ok hxl
  refine ⟨by rw [divE, hb, he]; rfl, ?_, ?_, ?_, ?_, ?_, ?_, ?_, ?_⟩
  · rw [mulV, both, vq, hy, p1]; exact fp.1
  · rw [mulE, both, vq, hy, p1]; exact fp.2
  · rw [mulV, both, vq, hy, p2]; exact fp.1
  · rw [mulE, both, vq, hy, p2]; exact fp.2
  · rw [addV, both, vp, vr, p3]
    show limbs (fitN (nval xs).toNat) = xs
    rw [fx.1]; exact (nrm_limbs (valid_nrm hx)).symm
  · rw [addE, both, vp, vr, p3]; exact fx.2
  · rw [cmpV, both, vr, hy]
    show cmpI (nval (limbs (remN xs ys))) (nval ys) = -1
    rw [nval_limbs]; exact cmpI_lt (by omega)
  · rw [formE, both, vr, hy]; rfl
/-- Sub undoes Add. -/
theorem undo_facts {xs ys : List Int} (hx : validB xs = true) (hy : validB ys = true) :
    addE xs ys = 2 ∨ (addE xs ys = 0 ∧ subE (limbs (addV xs ys)) ys = 0 ∧ limbs (subV (limbs (addV xs ys)) ys) = xs) := by
  have hb : both xs ys = true := by rw [both, hx, hy]; rfl
  have x0 := nval_nonneg (valid_lok hx)
  have y0 := nval_nonneg (valid_lok hy)
  by_cases h : (nval xs + nval ys).toNat < 1000000000 ^ 48
  · right
    have f := fit_ok h
    have ea : addV xs ys = (nval xs + nval ys).toNat := by rw [addV, hb, if_pos rfl]; exact f.1
    have vt : validB (limbs (addV xs ys)) = true := by rw [ea]; exact valid_limbs h
    have hv : nval (limbs (addV xs ys)) = nval xs + nval ys := by rw [nval_limbs, ea]; omega
    have e1 : (nval xs + nval ys - nval ys).toNat = (nval xs).toNat := by omega
    have fx := fit_ok (valid_lt hx)
    refine ⟨by rw [addE, hb, if_pos rfl]; exact f.2, ?_, ?_⟩
    · rw [subE, both, vt, hy, hv]
      show (if nval xs + nval ys < nval ys then (1 : Int) else fitE (nval xs + nval ys - nval ys).toNat) = 0
      rw [if_neg (by omega), e1]; exact fx.2
    · rw [subV, both, vt, hy, hv]
      show limbs (if nval xs + nval ys < nval ys then 0 else fitN (nval xs + nval ys - nval ys).toNat) = xs
      rw [if_neg (by omega), e1, fx.1]; exact (nrm_limbs (valid_nrm hx)).symm
  · left; rw [addE, hb, if_pos rfl]; exact if_neg h

set_option maxRecDepth 100000 in
set_option maxHeartbeats 6400000 in
theorem walk_NatDivides (w : World) (A : Option Addr) (n c : Nat) (xs : List Int) (ha : In w (.slice A n c) xs) (B : Option Addr) (m d : Nat) (ys : List Int) (hb : In w (.slice B m d) ys) (ht : Tab w) :
    Calls Tryd.prog 9 #[.slice A n c, .slice B m d] w fun e w' => e = .returned (.bool true) ∧ Below w.heap.size w w' := by
  have en : n = xs.length := by obtain ⟨A', c', e, _⟩ := ha; cases e; rfl
  have em : m = ys.length := by obtain ⟨A', c', e, _⟩ := hb; cases e; rfl
  subst en em
  have HA := Lib.hid ha
  have HB := Lib.hid hb
  have HT := Lib.hid ht
  clear ha hb ht
  cases hf : (decide (xs.length ≤ 100) && decide (ys.length ≤ 100)) with
  | false =>
    go_enter Tryd.func9, Tryd.ntmps9
    go_wp2_with fail
    refine (few_c A B xs.length c ys.length d w).mono ?_
    rintro e w' ⟨rfl, rfl⟩
    rw [hf]
    go_wp2_with fail
    refine (awake_true w (HT.out)).mono ?_
    rintro e wz ⟨rfl, hbz⟩
    have HBZ := Lib.hid (hbz)
    clear hbz
    go_wp2_with fail
    go_ret
    exact ⟨rfl, HBZ.out⟩
  | true =>
    cases hx : validB xs with
    | false =>
      go_enter Tryd.func9, Tryd.ntmps9
      go_wp2_with fail
      refine (few_c A B xs.length c ys.length d w).mono ?_
      rintro e w' ⟨rfl, rfl⟩
      rw [hf]
      go_wp2_with fail
      refine (valid_in xs _ w HA.out).mono ?_
      rintro e w' ⟨rfl, rfl⟩
      rw [hx]
      go_wp2_with fail
      refine (awake_true w (HT.out)).mono ?_
      rintro e wz ⟨rfl, hbz⟩
      have HBZ := Lib.hid (hbz)
      clear hbz
      go_wp2_with fail
      go_ret
      exact ⟨rfl, HBZ.out⟩
    | true =>
      cases hy : validB ys with
      | false =>
        go_enter Tryd.func9, Tryd.ntmps9
        go_wp2_with fail
        refine (few_c A B xs.length c ys.length d w).mono ?_
        rintro e w' ⟨rfl, rfl⟩
        rw [hf]
        go_wp2_with fail
        refine (valid_in xs _ w HA.out).mono ?_
        rintro e w' ⟨rfl, rfl⟩
        rw [hx]
        go_wp2_with fail
        refine (valid_in ys _ w HB.out).mono ?_
        rintro e w' ⟨rfl, rfl⟩
        rw [hy]
        go_wp2_with fail
        refine (awake_true w (HT.out)).mono ?_
        rintro e wz ⟨rfl, hbz⟩
        have HBZ := Lib.hid (hbz)
        clear hbz
        go_wp2_with fail
        go_ret
        exact ⟨rfl, HBZ.out⟩
      | true =>
        rcases Nat.eq_zero_or_pos ys.length with h0 | hp
        · have hnil : ys = [] := List.eq_nil_of_length_eq_zero h0
          subst hnil
          go_enter Tryd.func9, Tryd.ntmps9
          go_wp2_with fail
          refine (few_c A B xs.length c 0 d w).mono ?_
          rintro e w' ⟨rfl, rfl⟩
          rw [show (decide (xs.length ≤ 100) && decide (0 ≤ 100)) = true from hf]
          go_wp2_with fail
          refine (valid_in xs _ w HA.out).mono ?_
          rintro e w' ⟨rfl, rfl⟩
          rw [hx]
          go_wp2_with fail
          refine (valid_in [] _ w HB.out).mono ?_
          rintro e w' ⟨rfl, rfl⟩
          rw [hy]
          go_wp2_with fail
          refine (awake_true w (HT.out)).mono ?_
          rintro e wz ⟨rfl, hbz⟩
          have HBZ := Lib.hid (hbz)
          clear hbz
          go_wp2_with fail
          go_ret
          exact ⟨rfl, HBZ.out⟩
        · have hne : ((ys.length : Int) == 0) = false := beq_false_of_ne (by omega)
          have FF := Lib.hid (dvd_facts hx hy hp)
          rcases undo_facts hx hy with hov | hov
          · skip
            go_enter Tryd.func9, Tryd.ntmps9
            go_wp2_with fail
            refine (few_c A B xs.length c ys.length d w).mono ?_
            rintro e w' ⟨rfl, rfl⟩
            rw [hf]
            go_wp2_with fail
            refine (valid_in xs _ w HA.out).mono ?_
            rintro e w' ⟨rfl, rfl⟩
            rw [hx]
            go_wp2_with fail
            refine (valid_in ys _ w HB.out).mono ?_
            rintro e w' ⟨rfl, rfl⟩
            rw [hy]
            clear hx hy hf
            have hov' := Lib.hid hov
            clear hov
            go_wp2_with fail
            refine (nat_DivMod xs ys _ _ w HA.out HB.out).mono ?_
            rintro e w1 ⟨vq, vr, rfl, hq, hr, hb1⟩
            rw [FF.out.1]
            have HQ := Lib.hid hq.toIn
            have HR := Lib.hid hr.toIn
            have HB1 := Lib.hid hb1
            clear hq hr hb1
            go_wp2_with fail
            refine (nat_Mul _ ys _ _ w1 HQ.out (HB.out.on HB1.out)).mono ?_
            rintro e w2 hr
            obtain ⟨vp, rfl, hp2, hb2⟩ := res_open hr
            rw [FF.out.2.1] at hp2
            rw [FF.out.2.2.1]
            have HP := Lib.hid hp2
            have HQ2 := Lib.hid (HQ.out.on hb2)
            have HR2 := Lib.hid (HR.out.on hb2)
            have HB2 := Lib.hid (bstep HB1.out hb2)
            clear hr hp2 hb2
            go_wp2_with fail
            refine (nat_Mul ys _ _ _ w2 (HB.out.on HB2.out) HQ2.out).mono ?_
            rintro e w3 hr
            obtain ⟨vo, rfl, ho3, hb3⟩ := res_open hr
            rw [FF.out.2.2.2.1] at ho3
            rw [FF.out.2.2.2.2.1]
            have HO := Lib.hid ho3
            have HP3 := Lib.hid (HP.out.on hb3)
            have HR3 := Lib.hid (HR2.out.on hb3)
            have HB3 := Lib.hid (bstep HB2.out hb3)
            clear hr ho3 hb3
            go_wp2_with fail
            refine (nat_Add _ _ _ _ w3 HP3.out HR3.out).mono ?_
            rintro e w4 hr
            obtain ⟨vs, rfl, hs4, hb4⟩ := res_open hr
            rw [FF.out.2.2.2.2.2.1] at hs4
            rw [FF.out.2.2.2.2.2.2.1]
            have HS := Lib.hid hs4
            have HP4 := Lib.hid (HP3.out.on hb4)
            have HO4 := Lib.hid (HO.out.on hb4)
            have HR4 := Lib.hid (HR3.out.on hb4)
            have HB4 := Lib.hid (bstep HB3.out hb4)
            clear hr hs4 hb4
            go_wp2_with fail
            refine (nat_Cmp _ ys _ _ w4 HR4.out (HB.out.on HB4.out)).mono ?_
            rintro e w5 ⟨rfl, hb5⟩
            rw [FF.out.2.2.2.2.2.2.2.1, FF.out.2.2.2.2.2.2.2.2]
            have HS5 := Lib.hid (HS.out.on hb5)
            have HP5 := Lib.hid (HP4.out.on hb5)
            have HO5 := Lib.hid (HO4.out.on hb5)
            have HB5 := Lib.hid (bstep HB4.out hb5)
            clear hb5
            go_wp2_with fail
            refine (same_self HS5.out (HA.out.on HB5.out)).mono ?_
            rintro e w6 ⟨rfl, hb6⟩
            have HP6 := Lib.hid (HP5.out.on hb6)
            have HO6 := Lib.hid (HO5.out.on hb6)
            have HB6 := Lib.hid (bstep HB5.out hb6)
            clear hb6
            go_wp2_with fail
            refine (same_self HO6.out HP6.out).mono ?_
            rintro e w7 ⟨rfl, hb7⟩
            have HB7 := Lib.hid (bstep HB6.out hb7)
            clear hb7
            go_wp2_with fail
            refine (nat_Add xs ys _ _ w7 (HA.out.on HB7.out) (HB.out.on HB7.out)).mono ?_
            rintro e w8 hr
            obtain ⟨vt, rfl, ht8, hb8⟩ := res_open hr
            have HT8 := Lib.hid ht8
            have HB8 := Lib.hid (bstep HB7.out hb8)
            clear hr ht8 hb8
            go_wp2_with fail
            refine (nat_Sub _ ys _ _ w8 HT8.out (HB.out.on HB8.out)).mono ?_
            rintro e w9 hr
            obtain ⟨vu, rfl, hu9, hb9⟩ := res_open hr
            rw [hov'.out]
            have HB9 := Lib.hid (bstep HB8.out hb9)
            clear hr hu9 hb9
            go_wp2_with fail
            refine (awake_true w9 (HT.out.on HB9.out)).mono ?_
            rintro e wz ⟨rfl, hbz⟩
            have HBZ := Lib.hid (bstep HB9.out hbz)
            clear hbz
            go_wp2_with fail
            go_ret
            exact ⟨rfl, HBZ.out⟩
          · skip
            go_enter Tryd.func9, Tryd.ntmps9
            go_wp2_with fail
            refine (few_c A B xs.length c ys.length d w).mono ?_
            rintro e w' ⟨rfl, rfl⟩
            rw [hf]
            go_wp2_with fail
            refine (valid_in xs _ w HA.out).mono ?_
            rintro e w' ⟨rfl, rfl⟩
            rw [hx]
            go_wp2_with fail
            refine (valid_in ys _ w HB.out).mono ?_
            rintro e w' ⟨rfl, rfl⟩
            rw [hy]
            clear hx hy hf
            have hov' := Lib.hid hov
            clear hov
            go_wp2_with fail
            refine (nat_DivMod xs ys _ _ w HA.out HB.out).mono ?_
            rintro e w1 ⟨vq, vr, rfl, hq, hr, hb1⟩
            rw [FF.out.1]
            have HQ := Lib.hid hq.toIn
            have HR := Lib.hid hr.toIn
            have HB1 := Lib.hid hb1
            clear hq hr hb1
            go_wp2_with fail
            refine (nat_Mul _ ys _ _ w1 HQ.out (HB.out.on HB1.out)).mono ?_
            rintro e w2 hr
            obtain ⟨vp, rfl, hp2, hb2⟩ := res_open hr
            rw [FF.out.2.1] at hp2
            rw [FF.out.2.2.1]
            have HP := Lib.hid hp2
            have HQ2 := Lib.hid (HQ.out.on hb2)
            have HR2 := Lib.hid (HR.out.on hb2)
            have HB2 := Lib.hid (bstep HB1.out hb2)
            clear hr hp2 hb2
            go_wp2_with fail
            refine (nat_Mul ys _ _ _ w2 (HB.out.on HB2.out) HQ2.out).mono ?_
            rintro e w3 hr
            obtain ⟨vo, rfl, ho3, hb3⟩ := res_open hr
            rw [FF.out.2.2.2.1] at ho3
            rw [FF.out.2.2.2.2.1]
            have HO := Lib.hid ho3
            have HP3 := Lib.hid (HP.out.on hb3)
            have HR3 := Lib.hid (HR2.out.on hb3)
            have HB3 := Lib.hid (bstep HB2.out hb3)
            clear hr ho3 hb3
            go_wp2_with fail
            refine (nat_Add _ _ _ _ w3 HP3.out HR3.out).mono ?_
            rintro e w4 hr
            obtain ⟨vs, rfl, hs4, hb4⟩ := res_open hr
            rw [FF.out.2.2.2.2.2.1] at hs4
            rw [FF.out.2.2.2.2.2.2.1]
            have HS := Lib.hid hs4
            have HP4 := Lib.hid (HP3.out.on hb4)
            have HO4 := Lib.hid (HO.out.on hb4)
            have HR4 := Lib.hid (HR3.out.on hb4)
            have HB4 := Lib.hid (bstep HB3.out hb4)
            clear hr hs4 hb4
            go_wp2_with fail
            refine (nat_Cmp _ ys _ _ w4 HR4.out (HB.out.on HB4.out)).mono ?_
            rintro e w5 ⟨rfl, hb5⟩
            rw [FF.out.2.2.2.2.2.2.2.1, FF.out.2.2.2.2.2.2.2.2]
            have HS5 := Lib.hid (HS.out.on hb5)
            have HP5 := Lib.hid (HP4.out.on hb5)
            have HO5 := Lib.hid (HO4.out.on hb5)
            have HB5 := Lib.hid (bstep HB4.out hb5)
            clear hb5
            go_wp2_with fail
            refine (same_self HS5.out (HA.out.on HB5.out)).mono ?_
            rintro e w6 ⟨rfl, hb6⟩
            have HP6 := Lib.hid (HP5.out.on hb6)
            have HO6 := Lib.hid (HO5.out.on hb6)
            have HB6 := Lib.hid (bstep HB5.out hb6)
            clear hb6
            go_wp2_with fail
            refine (same_self HO6.out HP6.out).mono ?_
            rintro e w7 ⟨rfl, hb7⟩
            have HB7 := Lib.hid (bstep HB6.out hb7)
            clear hb7
            go_wp2_with fail
            refine (nat_Add xs ys _ _ w7 (HA.out.on HB7.out) (HB.out.on HB7.out)).mono ?_
            rintro e w8 hr
            obtain ⟨vt, rfl, ht8, hb8⟩ := res_open hr
            have HT8 := Lib.hid ht8
            have HB8 := Lib.hid (bstep HB7.out hb8)
            clear hr ht8 hb8
            go_wp2_with fail
            refine (nat_Sub _ ys _ _ w8 HT8.out (HB.out.on HB8.out)).mono ?_
            rintro e w9 hr
            obtain ⟨vu, rfl, hu9, hb9⟩ := res_open hr
            rw [hov'.out.2.2] at hu9
            rw [hov'.out.1, hov'.out.2.1]
            have HU := Lib.hid hu9
            have HB9 := Lib.hid (bstep HB8.out hb9)
            clear hr hu9 hb9
            go_wp2_with fail
            refine (same_self HU.out (HA.out.on HB9.out)).mono ?_
            rintro e w10 ⟨rfl, hb10⟩
            have HB10 := Lib.hid (bstep HB9.out hb10)
            clear hb10
            go_wp2_with fail
            refine (awake_true w10 (HT.out.on HB10.out)).mono ?_
            rintro e wz ⟨rfl, hbz⟩
            have HBZ := Lib.hid (bstep HB10.out hbz)
            clear hbz
            go_wp2_with fail
            go_ret
            exact ⟨rfl, HBZ.out⟩
#print axioms walk_NatDivides
end Go.Proofs.YtmbpcjnlniidkaaDoor
