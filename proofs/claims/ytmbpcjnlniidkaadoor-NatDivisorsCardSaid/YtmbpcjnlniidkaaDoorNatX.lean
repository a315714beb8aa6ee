/- Contracts of digit and DivMod of the reference. -/
import Derived.Test.YtmbpcjnlniidkaaDoorNatU
import Derived.Test.YtmbpcjnlniidkaaDoorNatW5
namespace Go.Proofs.YtmbpcjnlniidkaaDoor
open Go.ChangeShapes Go.WideShapes Go.RowKit
set_option linter.unusedVariables false

theorem refcmp_in (xs ys : List Int) (va vb : Value) (w : World) (ha : In w va xs) (hb : In w vb ys) (hx : nrm xs = true) (hy : nrm ys = true) (hm : xs.length ≤ 1000) (hm2 : ys.length ≤ 1000) :
    Calls Tryd.prog 46 #[va, vb] w fun e w' => e = .returned (.int .i64 (cmpI (nval xs) (nval ys))) ∧ Below w.heap.size w w' := by
  obtain ⟨A, c, rfl, hc, hm', hA⟩ := ha
  obtain ⟨B, d, rfl, hd, hn, hB⟩ := hb
  exact ref_compare xs ys A B c d _ _ _ _ w hA hB (Nat.le_refl _) (Nat.le_refl _) hx hy (by omega) (by omega)
theorem times_one (ys : List Int) (m : Int) (vb : Value) (w : World) (hb : In w vb ys) (hy : lok ys = true) (hl : ys.length ≤ 1000) (m0 : 0 ≤ m) (m1 : m < 1000000000) :
    Calls Tryd.prog 52 #[vb, .slice (some ⟨w.heap.size, 0, none⟩) 1 1] (w.alloc (.cells #[.int .i64 m] 3)) fun e w' => ∃ v, e = .returned v ∧ In w' v (limbs (nval ys * m).toNat) ∧ Below w.heap.size w w' := by
  have e : nval [m] = m := by simp [nval]
  have h := ref_times ys [m] vb _ _ (hb.alloc (.cells #[.int .i64 m] 3)) (in_one w 3 m) hy (by simp [lok, m0, m1]) hl (by simp)
  rw [e] at h
  refine h.mono ?_
  rintro e w' ⟨v, rfl, hs, hb'⟩
  exact ⟨v, rfl, hs.toIn, bstep (below_alloc _ _) hb'⟩
theorem cmp_le {x y : Int} (h : x ≤ y) : cmpI x y ≤ 0 := by
  rcases Int.lt_or_eq_of_le h with h | h
  · rw [cmpI_lt h]; decide
  · rw [h, cmpI_eq]; decide
theorem prod_len {ys : List Int} {m : Int} (hy : lok ys = true) (hl : ys.length ≤ 100) (m0 : 0 ≤ m) (m1 : m < 1000000000) : (limbs (nval ys * m).toNat).length ≤ 200 := by
  refine limbs_len_le.mpr ?_
  have a := nval_lt hy
  have a0 := nval_nonneg hy
  have h1 : nval ys * m ≤ nval ys * 1000000000 := Int.mul_le_mul_of_nonneg_left (by omega) a0
  have h2 : (1000000000 : Int) ^ (ys.length + 1) ≤ 1000000000 ^ 200 := pow_le_pow' (by omega)
  rw [Int.pow_succ] at h2
  have h3 : nval ys * m < ((1000000000 ^ 200 : Nat) : Int) := by
    rw [Int.natCast_pow]
    have : ((1000000000 : Nat) : Int) = 1000000000 := rfl
    rw [this]
    refine Int.lt_of_le_of_lt h1 (Int.lt_of_lt_of_le ?_ h2)
    exact Int.mul_lt_mul_of_pos_right a (by decide)
  exact (Int.toNat_lt (Int.mul_nonneg a0 m0)).mpr h3

set_option maxHeartbeats 1600000 in
theorem ref_digit (rs ys : List Int) (va vb : Value) (w : World) (ha : In w va rs) (hb : In w vb ys) (hr : nrm rs = true) (hy : nrm ys = true) (hlr : rs.length ≤ 900) (hly : ys.length ≤ 100) (ypos : 0 < nval ys) (hlt : nval rs < 1000000000 * nval ys) :
    Calls Tryd.prog 54 #[va, vb] w fun e w' => e = .returned (.int .i64 (nval rs / nval ys)) ∧ Below w.heap.size w w' := by
  have HA := Lib.hid ha
  have HB := Lib.hid hb
  have HR := Lib.hid hr
  have HY := Lib.hid hy
  have YP := Lib.hid ypos
  have q0 : 0 ≤ nval rs / nval ys := Int.ediv_nonneg (nval_nonneg (nrm_lok hr)) (Int.le_of_lt ypos)
  have q1 : nval rs / nval ys < 1000000000 := by rw [Int.ediv_lt_iff_lt_mul ypos]; exact hlt
  obtain ⟨q, hq⟩ : ∃ q, q = nval rs / nval ys := ⟨_, rfl⟩
  rw [← hq] at q0 q1 ⊢
  have HQ := Lib.hid hq
  clear ha hb hr hy ypos hlt hq
  go_enter Tryd.func54, Tryd.ntmps54
  go_wp2_with fail
  go_loopw [5, 6] (fun lv hv wr => ∃ lo hi : Int, lv = .int .i64 lo ∧ hv = .int .i64 hi ∧ 0 ≤ lo ∧ lo ≤ q ∧ q ≤ hi ∧ hi ≤ 999999999 ∧ Below w.heap.size w wr) (fun lv hv _ => (intOf hv - intOf lv).toNat)
  case atStart => exact ⟨0, 999999999, rfl, rfl, by omega, q0, by omega, by omega, Below.refl _ _⟩
  case round =>
    obtain ⟨lo, hi, rfl, rfl, l0, l1, h1, h2, hbel⟩ := hrel
    have HBL := Lib.hid hbel
    clear hbel
    rcases Int.lt_or_le lo hi with hlt | hge
    · obtain ⟨m, hm⟩ : ∃ m, m = (lo + hi + 1) / 2 := ⟨_, rfl⟩
      have hmt : (lo + hi + 1).tdiv 2 = m := by rw [Int.tdiv_eq_ediv_of_nonneg (by omega), hm]
      have m0 : 0 ≤ m := by omega
      have m1 : m < 1000000000 := by omega
      have m2 : lo < m := by omega
      have m3 : m ≤ hi := by omega
      have hmul : 0 ≤ nval ys * m := Int.mul_nonneg (Int.le_of_lt YP.out) m0
      have hmq : nval ys * m ≤ nval rs ↔ m ≤ q := by rw [HQ.out, Int.le_ediv_iff_mul_le YP.out, Int.mul_comm]
      have hcm : ∀ v W, In W v (limbs (nval ys * m).toNat) → Below w.heap.size w W → Calls Tryd.prog 46 #[v, va] W fun e w' => e = .returned (.int .i64 (cmpI (nval ys * m) (nval rs))) ∧ Below W.heap.size W w' := by
        intro v W hv hW
        have h := refcmp_in (limbs (nval ys * m).toNat) rs v va W hv (HA.out.on hW) (nrm_of_limbs _) HR.out (Nat.le_trans (prod_len (nrm_lok HY.out) hly m0 m1) (by omega)) (by omega)
        rw [nval_limbs, Int.toNat_of_nonneg hmul] at h
        exact h
      have HCM := Lib.hid hcm
      have HBB := Lib.hid (HB.out.on HBL.out)
      have HM := Lib.hid hm
      rcases Int.lt_or_le q m with hqm | hqm
      · have hc : decide (cmpI (nval ys * m) (nval rs) ≤ 0) = false := by
          have : nval rs < nval ys * m := by
            rcases Int.lt_or_le (nval rs) (nval ys * m) with h | h
            · exact h
            · have := hmq.mp h; omega
          rw [cmpI_gt this]; rfl
        clear hm hmul hmq hcm
        go_wp2_with fail
        refine (times_one ys m vb wr HBB.out (nrm_lok HY.out) (by omega) m0 m1).mono ?_
        rintro e w1 ⟨v1, rfl, hi1, hb1⟩
        have HI1 := Lib.hid hi1
        have HB1 := Lib.hid (bstep HBL.out hb1)
        clear hi1 hb1
        go_wp2_with fail
        refine (HCM.out v1 w1 HI1.out HB1.out).mono ?_
        rintro e w2 ⟨rfl, hb2⟩
        have HB2 := Lib.hid (bstep HB1.out hb2)
        clear hb2
        go_wp2_with fail
        go_roundw
        case rel => exact ⟨lo, m - 1, rfl, rfl, l0, l1, by omega, by omega, HB2.out⟩
        case measure => simp [intOf]; omega
      · have hc : cmpI (nval ys * m) (nval rs) ≤ 0 := cmp_le (hmq.mpr hqm)
        clear hm hmul hmq hcm
        go_wp2_with fail
        refine (times_one ys m vb wr HBB.out (nrm_lok HY.out) (by omega) m0 m1).mono ?_
        rintro e w1 ⟨v1, rfl, hi1, hb1⟩
        have HI1 := Lib.hid hi1
        have HB1 := Lib.hid (bstep HBL.out hb1)
        clear hi1 hb1
        go_wp2_with fail
        refine (HCM.out v1 w1 HI1.out HB1.out).mono ?_
        rintro e w2 ⟨rfl, hb2⟩
        have HB2 := Lib.hid (bstep HB1.out hb2)
        clear hb2
        go_wp2_with fail
        go_roundw
        case rel => exact ⟨m, hi, rfl, rfl, by omega, hqm, h1, h2, HB2.out⟩
        case measure => simp [intOf]; omega
    · have e : lo = q := by omega
      have HE := Lib.hid e
      have hn : decide (lo < hi) = false := decide_eq_false (by omega)
      clear e
      go_wp2_with fail
      go_ret
      exact ⟨ret_int HE.out, HBL.out⟩

theorem own_lit (w : World) (z : Int) : (w.alloc (.cells #[.int .i64 z] 3)).ownsRow w.heap.size 3 1 (.slice (some ⟨w.heap.size, 0, none⟩) 1 1) ([z] : List Int).length (([z] : List Int).map (Value.int .i64)) :=
  World.ownsRow_lit (base := w.heap.size) (e := 3) (size := 1) w #[.int .i64 z] 1 (Nat.le_refl _) (by unfold maxLen; omega) rfl
/-- The state of the reference's division, t limbs to come. -/
structure RInv (X Y : Int) (Q : List Int) (n : Nat) (xs : List Int) (t : Nat) (r : Nat) : Prop where
  ql : Q.length = n
  qk : lok Q = true
  quo : nval (Q.drop t) = nval (xs.drop t) / Y
  rem : (r : Int) = nval (xs.drop t) % Y
theorem rinv_step {X Y q : Int} {Q xs : List Int} {n a r : Nat} {z : Int} (h : RInv X Y Q n xs (a + 1) r) (hz : xs[a]? = some z) (z0 : 0 ≤ z) (z1 : z < 1000000000) (hk : lok xs = true) (ha : a < n) (yp : 0 < Y)
    (hq : q = (z + 1000000000 * r) / Y) : RInv X Y (Q.set a q) n xs a ((z + 1000000000 * r) % Y).toNat ∧ 0 ≤ q ∧ q < 1000000000 := by
  have r0 : (r : Int) < Y := by rw [h.rem]; exact Int.emod_lt_of_pos _ yp
  have hnn : 0 ≤ z + 1000000000 * (r : Int) := by omega
  have q0 : 0 ≤ q := by rw [hq]; exact Int.ediv_nonneg hnn (Int.le_of_lt yp)
  have q1 : q < 1000000000 := by
    rw [hq, Int.ediv_lt_iff_lt_mul yp]
    have : 1000000000 * ((r : Int) + 1) ≤ 1000000000 * Y := Int.mul_le_mul_of_nonneg_left (by omega) (by omega)
    omega
  have eV : nval (xs.drop a) = (z + 1000000000 * r) + (1000000000 * nval (Q.drop (a + 1))) * Y := by
    rw [nval_drop_step hz]
    have e := Int.emod_add_mul_ediv (nval (xs.drop (a + 1))) Y
    rw [← h.rem, ← h.quo] at e
    rw [← e]
    grind
  have m0 : 0 ≤ (z + 1000000000 * (r : Int)) % Y := Int.emod_nonneg _ (by omega)
  refine ⟨⟨by rw [List.length_set]; exact h.ql, lok_set h.qk _ q0 q1, ?_, ?_⟩, q0, q1⟩
  · rw [nval_drop_step (List.getElem?_set_self (by rw [h.ql]; exact ha)), drop_set_above (by omega), eV, Int.add_mul_ediv_right _ _ (by omega), hq]
  · rw [eV, Int.add_mul_emod_self_right]; omega

/-- The new remainder's list: one limb more, or none. -/
theorem limbs_cons {z : Int} {r : Nat} (z0 : 0 ≤ z) (z1 : z < 1000000000) (h : ¬ (z = 0 ∧ r = 0)) : limbs (z + 1000000000 * r).toNat = z :: limbs r := by
  have e : (z + 1000000000 * (r : Int)).toNat = z.toNat + 1000000000 * r := by omega
  rw [e, limbs_step z0 z1 (by omega)]
theorem last_ne {z : Int} {r : Nat} (z0 : 0 ≤ z) (z1 : z < 1000000000) (h : ¬ (z = 0 ∧ r = 0)) : ∃ y, (z :: limbs r)[(limbs r).length]? = some y ∧ y ≠ 0 := by
  have hn := nrm_of_limbs (z + 1000000000 * r).toNat
  rw [limbs_cons z0 z1 h] at hn
  obtain ⟨y, hy⟩ : ∃ y, (z :: limbs r)[(limbs r).length]? = some y := ⟨_, List.getElem?_eq_getElem (by simp)⟩
  refine ⟨y, hy, ?_⟩
  rintro rfl
  have : (z :: limbs r).getLast? = some 0 := by rw [List.getLast?_eq_getElem?]; simpa using hy
  simp [nrm, this] at hn
#print axioms ref_digit
#print axioms rinv_step
end Go.Proofs.YtmbpcjnlniidkaaDoor
