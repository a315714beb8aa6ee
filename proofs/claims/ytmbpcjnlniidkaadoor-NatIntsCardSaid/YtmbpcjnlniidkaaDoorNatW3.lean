/- The walk of NatInts. -/
import Derived.Test.YtmbpcjnlniidkaaDoorNatQ
namespace Go.Proofs.YtmbpcjnlniidkaaDoor
open Go.ChangeShapes Go.WideShapes Go.RowKit
set_option linter.unusedVariables false

theorem Holds.store {w : World} {lo hi b off k : Nat} {zs : List Int} (h : Holds w lo hi (some ⟨b, off, none⟩) zs) (v : Int) :
    Holds (w.setCell ⟨b, off + k, none⟩ (.int .i64 v)) lo hi (some ⟨b, off, none⟩) (zs.set k v) := by
  intro j z hz
  rw [List.getElem?_set] at hz
  split at hz
  · rename_i e
    subst e
    split at hz
    · rename_i hlt
      obtain rfl : v = z := by simpa using hz
      obtain ⟨b', off', hA, hlo, hhi, hc⟩ := h k zs[k] (List.getElem?_eq_getElem hlt)
      cases hA
      exact ⟨b, off, rfl, ⟨hlo.1, hlo.2.imp id fun h => by rw [World.frozen?_setCell]; exact h⟩, hhi, World.cell?_setCell_same (h := hc) ..⟩
    · cases hz
  · rename_i hne
    obtain ⟨b', off', hA, hlo, hhi, hc⟩ := h j z hz
    cases hA
    exact ⟨b, off, rfl, ⟨hlo.1, hlo.2.imp id fun h => by rw [World.frozen?_setCell]; exact h⟩, hhi, (World.cell?_setCell_other (h := by intro h; simp at h; try omega) ..).trans hc⟩

theorem fit_small {n : Nat} (h : n < 1000000000 ^ 2) : fitN n = n ∧ fitE n = 0 := by
  have h2 : n < 1000000000 ^ 48 := Nat.lt_of_lt_of_le h (Nat.pow_le_pow_right (by decide) (by decide))
  exact ⟨if_pos h2, if_pos h2⟩
theorem valid_small {n : Nat} (h : n < 1000000000 ^ 2) : validB (limbs n) = true :=
  validB_iff.mpr ⟨Nat.le_trans (limbs_len_le.mpr h) (by decide), nrm_of_limbs _⟩
theorem both_small {m n : Nat} (h : m < 1000000000 ^ 2) (h2 : n < 1000000000 ^ 2) : both (limbs m) (limbs n) = true := by rw [both, valid_small h, valid_small h2]; rfl
theorem add_small {m n : Nat} (h : m ≤ 1000000) (h2 : n ≤ 1000000) : addV (limbs m) (limbs n) = m + n ∧ addE (limbs m) (limbs n) = 0 := by
  have hf := fit_small (n := m + n) (by omega)
  have e : (nval (limbs m) + nval (limbs n)).toNat = m + n := by rw [nval_limbs, nval_limbs]; omega
  rw [addV, addE, both_small (by omega) (by omega), if_pos rfl, if_pos rfl, e]
  exact hf
theorem mul_small {m n : Nat} (h : m ≤ 1000000) (h2 : n ≤ 1000000) : mulV (limbs m) (limbs n) = m * n ∧ mulE (limbs m) (limbs n) = 0 := by
  have hm : m * n ≤ 1000000 * 1000000 := Nat.mul_le_mul h h2
  have hf := fit_small (n := m * n) (by omega)
  have e : (nval (limbs m) * nval (limbs n)).toNat = m * n := by rw [nval_limbs, nval_limbs, ← Int.natCast_mul, Int.toNat_natCast]
  rw [mulV, mulE, both_small (by omega) (by omega), if_pos rfl, if_pos rfl, e]
  exact hf
theorem int_small {m : Nat} (h : m ≤ 1000000000000) : intV (limbs m) = m ∧ intE (limbs m) = 0 := by
  rw [intV, intE, valid_small (by omega), nval_limbs, if_pos rfl, if_pos rfl, if_pos (by omega), if_pos (by omega)]
  exact ⟨rfl, rfl⟩

theorem ci_Of (n : Nat) (h : n ≤ 1000000) (w : World) : Calls Tryd.prog 14 #[.int .i64 (n : Int)] w fun e w' => ∃ v, e = .returned (.tuple #[v, .int .i64 0]) ∧ In w' v (limbs n) ∧ Below w.heap.size w w' := by
  refine (nat_Of n w (by omega) (by omega)).mono ?_
  rintro e w' ⟨v, rfl, hs, hb⟩
  rw [Int.toNat_natCast] at hs
  exact ⟨v, by rw [ofE, if_neg (by omega)], hs.toIn, hb⟩
theorem ci_Add (m n : Nat) (h : m ≤ 1000000) (h2 : n ≤ 1000000) (va vb : Value) (w : World) (ha : In w va (limbs m)) (hb : In w vb (limbs n)) :
    Calls Tryd.prog 27 #[va, vb] w fun e w' => ∃ v, e = .returned (.tuple #[v, .int .i64 0]) ∧ Sl w' w.heap.size w'.heap.size v (limbs (m + n)) ∧ Below w.heap.size w w' := by
  refine (nat_Add _ _ va vb w ha hb).mono ?_
  rintro e w' ⟨v, rfl, hs, hb⟩
  have hA := add_small h h2
  rw [hA.1] at hs
  exact ⟨v, by rw [hA.2], hs, hb⟩
theorem ci_AddNil (m : Nat) (h : m ≤ 1000000) (va : Value) (w : World) (ha : In w va (limbs m)) :
    Calls Tryd.prog 27 #[va, .slice none 0 0] w fun e w' => ∃ v, e = .returned (.tuple #[v, .int .i64 0]) ∧ Sl w' w.heap.size w'.heap.size v (limbs m) ∧ Below w.heap.size w w' := by
  have := ci_Add m 0 h (by omega) va (.slice none 0 0) w ha (by rw [limbs_zero]; exact In.nil w)
  exact this
theorem ci_Mul (m n : Nat) (h : m ≤ 1000000) (h2 : n ≤ 1000000) (va vb : Value) (w : World) (ha : In w va (limbs m)) (hb : In w vb (limbs n)) :
    Calls Tryd.prog 31 #[va, vb] w fun e w' => ∃ v, e = .returned (.tuple #[v, .int .i64 0]) ∧ In w' v (limbs (m * n)) ∧ Below w.heap.size w w' := by
  refine (nat_Mul _ _ va vb w ha hb).mono ?_
  rintro e w' ⟨v, rfl, hs, hb⟩
  have hA := mul_small h h2
  rw [hA.1] at hs
  exact ⟨v, by rw [hA.2], hs.toIn, hb⟩
theorem ci_Int (m : Nat) (h : m ≤ 1000000000000) (va : Value) (w : World) (ha : In w va (limbs m)) :
    Calls Tryd.prog 16 #[va] w fun e w' => e = .returned (.tuple #[.int .i64 (m : Int), .int .i64 0]) ∧ w = w' := by
  refine (nat_Int _ va w ha).mono ?_
  rintro e w' ⟨rfl, hb⟩
  have hA := int_small h
  rw [hA.1, hA.2]
  exact ⟨rfl, hb⟩

set_option maxRecDepth 100000 in
set_option maxHeartbeats 6400000 in
theorem ints_main (x y : Nat) (h1 : x ≤ 1000000) (h2 : y ≤ 1000000) (w : World) (ht : Tab w) :
    Calls Tryd.prog 11 #[.int .i64 (x : Int), .int .i64 (y : Int)] w fun e w' => e = .returned (.bool true) ∧ Below w.heap.size w w' := by
  have HT := Lib.hid ht
  have i1 : (x : Int) ≤ 1000000 := by omega
  have i2 : (y : Int) ≤ 1000000 := by omega
  have hxy : x * y ≤ 1000000000000 := by have := Nat.mul_le_mul h1 h2; omega
  have i3 : ((x * y : Nat) : Int) = (x : Int) * (y : Int) := by simp
  have i4 : (x : Int) * (y : Int) ≤ 1000000000000 := by omega
  have i5 : 0 ≤ (x : Int) * (y : Int) := by omega
  have HXY := Lib.hid hxy
  have I3 := Lib.hid i3
  have hll : (limbs x).length ≤ 1 := limbs_len_le.mpr (by omega)
  have HLL := Lib.hid hll
  clear ht hxy i3 hll
  go_enter Tryd.func11, Tryd.ntmps11
  go_wp2_with fail
  refine (ci_Of x h1 w).mono ?_
  rintro e w1 ⟨va, rfl, ha, hb1⟩
  have HA1 := Lib.hid ha
  have HB1 := Lib.hid hb1
  clear ha hb1
  go_wp2_with fail
  refine (ci_Of y h2 w1).mono ?_
  rintro e w2 ⟨vb, rfl, hb, hb2⟩
  have HA2 := Lib.hid (HA1.out.on hb2)
  have HBB2 := Lib.hid hb
  have HB2 := Lib.hid (bstep HB1.out hb2)
  clear hb hb2
  go_wp2_with fail
  refine (ci_Add x y h1 h2 va vb w2 HA2.out HBB2.out).mono ?_
  rintro e w3 ⟨vs, rfl, hs, hb3⟩
  have HA3 := Lib.hid (HA2.out.on hb3)
  have HBB3 := Lib.hid (HBB2.out.on hb3)
  have HS3 := Lib.hid hs.toIn
  have HB3 := Lib.hid (bstep HB2.out hb3)
  clear hs hb3
  go_wp2_with fail
  refine (ci_Mul x y h1 h2 va vb w3 HA3.out HBB3.out).mono ?_
  rintro e w4 ⟨vp, rfl, hp, hb4⟩
  have HA4 := Lib.hid (HA3.out.on hb4)
  have HS4 := Lib.hid (HS3.out.on hb4)
  have HP4 := Lib.hid hp
  have HB4 := Lib.hid (bstep HB3.out hb4)
  clear hp hb4
  go_wp2_with fail
  refine (ci_Int (x + y) (by omega) vs w4 HS4.out).mono ?_
  rintro e w5 ⟨rfl, rfl⟩
  go_wp2_with fail
  refine (ci_Int (x * y) HXY.out vp w4 HP4.out).mono ?_
  rintro e w5 ⟨rfl, rfl⟩
  rw [I3.out]
  have hA4 := HA4.out
  obtain ⟨A, c, rfl, hc, hm, hA⟩ := hA4
  have HAA := Lib.hid hA
  have HAL := Lib.hid (hA.below (below_alloc w4 (.cells #[] 3)) (Nat.le_refl _))
  have HOE := Lib.hid (own_empty w4)
  have hlen : ([] : List Int).length + (limbs x).length ≤ 1000000 := by have := HLL.out; simp; omega
  have HLEN := Lib.hid hlen
  clear hA hm hlen
  go_wp2_with (first
    | (at_builtin; refine append_holds rfl (.tmp 104) (.tmp 105) rfl w4.heap.size _ [] rfl HOE.out 0 w4.heap.size A c (limbs x) _ rfl rfl HAL.out HLEN.out (by simp) ?_; intro v' w5 hown hgrow; refine Hid.out ?_)
    | fail)
  refine Lib.hid ?_
  rw [List.nil_append] at hown
  have hb5 : Below w4.heap.size w4 w5 := (below_alloc _ _).grown hgrow (by simp) (own_block_ge HOE.out)
  have HW5 := Lib.hid (sl_of_owns hown).toIn
  have HA5 := Lib.hid (HA4.out.on hb5)
  have HB5 := Lib.hid (bstep HB4.out hb5)
  clear hown hgrow hb5
  go_wp2_with fail
  refine (ci_AddNil x h1 _ w5 HA5.out).mono ?_
  rintro e w6 ⟨vt, rfl, hst, hb6⟩
  have HA6 := Lib.hid (HA5.out.on hb6)
  have HW6 := Lib.hid (HW5.out.on hb6)
  have HB6 := Lib.hid (bstep HB5.out hb6)
  have hsz : w5.heap.size ≤ w6.heap.size := hb6.size
  obtain ⟨At, ct, rfl, hct, hmt, hAt⟩ := hst
  have HAT := Lib.hid hAt
  have hpos : w5.heap.size = 0 ∨ 0 < w5.heap.size := Nat.eq_zero_or_pos _
  have HA6' := Lib.hid (HA5.out)
  have HW6' := Lib.hid (HW5.out)
  have HSZ := Lib.hid hsz
  have HB56 := Lib.hid hb6
  clear hb6 hAt hmt hsz
  go_wp2_with fail
  go_loopw [20] (fun j wr => ∃ (k : Nat) (zs : List Int), k ≤ (limbs x).length ∧ j = .int .i64 k ∧ zs.length = (limbs x).length ∧ Holds wr w5.heap.size w6.heap.size At zs ∧ Below w5.heap.size w6 wr) (fun j _ => (limbs x).length - (intOf j).toNat)
  case atStart => exact ⟨0, _, Nat.zero_le _, rfl, rfl, HAT.out, Below.refl _ _⟩
  case round =>
    obtain ⟨k, zs, hk, rfl, hzl, hho, hbel⟩ := hrel
    have HZL := Lib.hid hzl
    have HHO := Lib.hid hho
    have HBL := Lib.hid hbel
    clear hzl hho hbel
    rcases Nat.lt_or_ge k (limbs x).length with hlt | hge
    · obtain ⟨z, hz⟩ : ∃ z, zs[k]? = some z := ⟨_, List.getElem?_eq_getElem (by have := HZL.out; omega)⟩
      obtain ⟨b, off, rfl, hlo, hhi, hcell⟩ := HHO.out k z hz
      have hp : w5.heap.size ≠ 0 := by
        obtain ⟨A', c', e', _, _, h5⟩ := HA6'.out
        obtain ⟨b', off', _, _, hb', _⟩ := h5 k _ (List.getElem?_eq_getElem hlt)
        omega
      have hfr : wr.frozen? ⟨b, off + k, none⟩ = false := hlo.2.resolve_left hp
      have HLO := Lib.hid hlo.1
      have hlb : (limbs x).length ≤ 1 := HLL.out
      clear hz hlo hp
      go_wp2_with fail
      go_roundw
      case rel => exact ⟨k + 1, _, by omega, by go_num, by rw [List.length_set]; exact HZL.out, HHO.out.store 7, HBL.out.setCell HLO.out _⟩
      case measure => simp [intOf]; omega
    · obtain rfl : k = (limbs x).length := by omega
      have hb5r := HB56.out.trans HBL.out
      have I1 := Lib.hid (HA6'.out.on hb5r)
      have I2 := Lib.hid (HW6'.out.on hb5r)
      have HBR := Lib.hid (bstep HB5.out hb5r)
      clear hb5r
      go_wp2_with fail
      refine (same_in _ _ _ _ wr I1.out I2.out).mono ?_
      rintro e w7 ⟨rfl, hb7⟩
      rw [decide_eq_true rfl]
      have HB7 := Lib.hid (bstep HBR.out hb7)
      clear hb7
      go_wp2_with fail
      refine (awake_true w7 (HT.out.on HB7.out)).mono ?_
      rintro e wz ⟨rfl, hbz⟩
      have HBZ := Lib.hid (bstep HB7.out hbz)
      clear hbz
      go_wp2_with fail
      go_ret
      exact ⟨rfl, HBZ.out⟩

set_option maxRecDepth 100000 in
set_option maxHeartbeats 3200000 in
theorem ints_out (x y : Int) (hx : (x < 0 ∨ 1000000 < x) ∨ (y < 0 ∨ 1000000 < y)) (w : World) (ht : Tab w) :
    Calls Tryd.prog 11 #[.int .i64 x, .int .i64 y] w fun e w' => e = .returned (.bool true) ∧ Below w.heap.size w w' := by
  have HT := Lib.hid ht
  have hc : (decide (x < 0) || decide (1000000 < x) || decide (y < 0) || decide (1000000 < y)) = true := by
    rcases hx with (h | h) | (h | h) <;> simp [h]
  have HC := Lib.hid hc
  clear ht
  rcases hx with (h | h) | (h | h)
  · clear hc
    go_enter Tryd.func11, Tryd.ntmps11
    go_wp2_with fail
    refine (awake_true w HT.out).mono ?_
    rintro e wz ⟨rfl, hbz⟩
    have HBZ := Lib.hid hbz
    clear hbz
    go_wp2_with fail
    go_ret
    exact ⟨rfl, HBZ.out⟩
  · clear hc
    have h0 : decide (x < 0) = false := decide_eq_false (by omega)
    go_enter Tryd.func11, Tryd.ntmps11
    go_wp2_with fail
    refine (awake_true w HT.out).mono ?_
    rintro e wz ⟨rfl, hbz⟩
    have HBZ := Lib.hid hbz
    clear hbz
    go_wp2_with fail
    go_ret
    exact ⟨rfl, HBZ.out⟩
  · by_cases h2 : x < 0 ∨ 1000000 < x
    · rcases h2 with h2 | h2
      · go_enter Tryd.func11, Tryd.ntmps11
        go_wp2_with fail
        refine (awake_true w HT.out).mono ?_
        rintro e wz ⟨rfl, hbz⟩
        have HBZ := Lib.hid hbz
        clear hbz
        go_wp2_with fail
        go_ret
        exact ⟨rfl, HBZ.out⟩
      · have h0 : decide (x < 0) = false := decide_eq_false (by omega)
        clear hc
        go_enter Tryd.func11, Tryd.ntmps11
        go_wp2_with fail
        refine (awake_true w HT.out).mono ?_
        rintro e wz ⟨rfl, hbz⟩
        have HBZ := Lib.hid hbz
        clear hbz
        go_wp2_with fail
        go_ret
        exact ⟨rfl, HBZ.out⟩
    · have h0 : decide (x < 0) = false := decide_eq_false (by omega)
      have h1 : decide (1000000 < x) = false := decide_eq_false (by omega)
      clear hc
      go_enter Tryd.func11, Tryd.ntmps11
      go_wp2_with fail
      refine (awake_true w HT.out).mono ?_
      rintro e wz ⟨rfl, hbz⟩
      have HBZ := Lib.hid hbz
      clear hbz
      go_wp2_with fail
      go_ret
      exact ⟨rfl, HBZ.out⟩
  · by_cases h2 : x < 0 ∨ 1000000 < x
    · rcases h2 with h2 | h2
      · clear hc
        go_enter Tryd.func11, Tryd.ntmps11
        go_wp2_with fail
        refine (awake_true w HT.out).mono ?_
        rintro e wz ⟨rfl, hbz⟩
        have HBZ := Lib.hid hbz
        clear hbz
        go_wp2_with fail
        go_ret
        exact ⟨rfl, HBZ.out⟩
      · have h0 : decide (x < 0) = false := decide_eq_false (by omega)
        clear hc
        go_enter Tryd.func11, Tryd.ntmps11
        go_wp2_with fail
        refine (awake_true w HT.out).mono ?_
        rintro e wz ⟨rfl, hbz⟩
        have HBZ := Lib.hid hbz
        clear hbz
        go_wp2_with fail
        go_ret
        exact ⟨rfl, HBZ.out⟩
    · have h0 : decide (x < 0) = false := decide_eq_false (by omega)
      have h1 : decide (1000000 < x) = false := decide_eq_false (by omega)
      have h3 : decide (y < 0) = false := decide_eq_false (by omega)
      clear hc
      go_enter Tryd.func11, Tryd.ntmps11
      go_wp2_with fail
      refine (awake_true w HT.out).mono ?_
      rintro e wz ⟨rfl, hbz⟩
      have HBZ := Lib.hid hbz
      clear hbz
      go_wp2_with fail
      go_ret
      exact ⟨rfl, HBZ.out⟩

theorem walk_NatInts (w : World) (x : Int) (wx : (Lit.int .i64 x).wf = true) (y : Int) (wy : (Lit.int .i64 y).wf = true) (ht : Tab w) :
    Calls Tryd.prog 11 #[.int .i64 x, .int .i64 y] w fun e w' => e = .returned (.bool true) ∧ Below w.heap.size w w' := by
  by_cases h : (x < 0 ∨ 1000000 < x) ∨ (y < 0 ∨ 1000000 < y)
  · exact ints_out x y h w ht
  · have e1 : x = (x.toNat : Int) := by omega
    have e2 : y = (y.toNat : Int) := by omega
    rw [e1, e2]
    exact ints_main x.toNat y.toNat (by omega) (by omega) w ht
#print axioms walk_NatInts
end Go.Proofs.YtmbpcjnlniidkaaDoor
