/- Contracts of Of, Int, limb of the reference. -/
import Derived.Test.YtmbpcjnlniidkaaDoorNatT
namespace Go.Proofs.YtmbpcjnlniidkaaDoor
open Go.ChangeShapes Go.WideShapes Go.RowKit
set_option linter.unusedVariables false

set_option maxHeartbeats 800000 in
theorem ref_Of (n : Int) (w : World) (h1 : -9223372036854775808 ≤ n) (h2 : n ≤ 9223372036854775807) :
    Calls Tryd.prog 15 #[.int .i64 n] w (Res w n.toNat (ofE n)) := by
  by_cases hn : n < 0
  · have e : n.toNat = 0 := by omega
    have E := Lib.hid e
    clear e
    go_enter Tryd.func15, Tryd.ntmps15
    go_wp2
    go_ret2
    exact Res.none E.out (by rw [ofE, if_pos (by omega)]) rfl (Below.refl _ _)
  · have hn' : decide (n < 0) = false := decide_eq_false hn
    obtain ⟨i0, hi, hz0, hz1, hz2⟩ := info_parts info_int
    have HB := Lib.hid (show (limbs n.toNat).length ≤ 3 from limbs_len_le.mpr (by omega))
    have HE := Lib.hid (show ofE n = 0 by rw [ofE, if_neg hn])
    go_enter Tryd.func15, Tryd.ntmps15
    go_wp2_with fail
    go_loopw [0, 4] (fun i v wr => ∃ m ds, i = .int .i64 m ∧ m ≤ n ∧ limbs n.toNat = ds ++ limbs m.toNat ∧ wr.ownsRow w.heap.size 3 1 v ds.length (ds.map (Value.int .i64)) ∧ Below w.heap.size w wr) (fun i _ _ => (intOf i).toNat)
    case atStart => exact ⟨n, [], rfl, Int.le_refl _, rfl, World.ownsRow_nil _ _ _ _, Below.refl _ _⟩
    case round =>
      obtain ⟨m, ds, rfl, hm, hds, hown, hbel⟩ := hrel
      have hlen : ds.length ≤ 3 := by have := HB.out; rw [hds] at this; simp at this; omega
      have HD := Lib.hid hds
      have HOW := Lib.hid hown
      have HBL := Lib.hid hbel
      clear hds hown hbel
      by_cases hp : 0 < m
      · have hq := tdiv_nonneg' (n := m) (by omega)
        have hr := tmod_nonneg' (n := m) (by omega)
        have hd1 : m / 1000000000 ≤ 9223372037 := by omega
        have hd2 : 0 ≤ m / 1000000000 := by omega
        go_wp2_with (first
          | (at_builtin; refine wpList_append_own _ rfl _ _ 23 rfl w.heap.size 3 i0 (.int .i64 0) 1 8 Tryd.underlying23 hi hz0 hz1 hz2 rfl (by decide) _ _ _ rfl (HOW.out.alloc _) ⟨wr.heap.size, 0, none⟩ 1 1 [.int .i64 (m % 1000000000)] rfl rfl (one_cell _ _ _) (by intro u hu; simp at hu; subst hu; rfl) (by unfold maxLen; omega) (by omega) (by have := HBL.out.size; simp; omega) ?_; intro v' w1 hown' hgrow _; refine Hid.out ?_)
          | fail)
        refine Lib.hid ?_
        have HB1 := Lib.hid (show Below w.heap.size w w1 from (HBL.out.alloc HBL.out.size _).grown hgrow (by have := HBL.out.size; simp; omega) (own_block_ge HOW.out))
        have HOW1 := Lib.hid (own_snoc hown')
        clear hown' hgrow
        go_wp2_with fail
        go_roundw
        case rel =>
          refine ⟨m / 1000000000, ds ++ [m % 1000000000], rfl, by omega, ?_, HOW1.out, HB1.out⟩
          rw [HD.out, limbs_round hp, List.append_assoc]
        case measure => simp [intOf]; omega
      · have hds := HD.out
        have e0 : m.toNat = 0 := by omega
        rw [e0, limbs_zero, List.append_nil] at hds
        have HD2 := Lib.hid hds
        have hp' : decide (0 < m) = false := decide_eq_false hp
        clear hds e0
        go_wp2_with fail
        go_ret2
        exact ⟨_, by rw [HE.out]; rfl, by rw [HD2.out]; exact sl_of_owns HOW.out, HBL.out⟩

theorem int_split {xs : List Int} {k : Nat} (hk : k ≤ xs.length) (hx : lok xs = true) : nval (xs.drop (xs.length - k)) * 1000000000 ^ (xs.length - k) ≤ nval xs := by
  have e := nval_append (xs.take (xs.length - k)) (xs.drop (xs.length - k))
  rw [List.take_append_drop, List.length_take, Nat.min_eq_left (by omega)] at e
  have h := nval_nonneg (lok_take hx (xs.length - k))
  rw [Int.mul_comm]; omega

set_option maxHeartbeats 1600000 in
theorem ref_Int (xs : List Int) (va : Value) (w : World) (ha : In w va xs) :
    Calls Tryd.prog 17 #[va] w fun e w' => e = .returned (.tuple #[.int .i64 (intV xs), .int .i64 (intE xs)]) ∧ w = w' := by
  obtain ⟨A, c, rfl, hc, hm, hA⟩ := ha
  have HA := Lib.hid hA
  have hm1 : xs.length ≤ 9223372036854775807 := Nat.le_trans hc hm
  clear hA hm
  cases hx : validB xs with
  | false =>
    have HV := Lib.hid (show intV xs = 0 by rw [intV, hx]; rfl)
    have HE := Lib.hid (show intE xs = 3 by rw [intE, hx]; rfl)
    go_enter Tryd.func17, Tryd.ntmps17
    go_wp2_with fail
    refine (ref_Valid xs A c _ _ w HA.out hm1).mono ?_
    rintro e w' ⟨rfl, rfl⟩
    rw [hx]
    go_wp2_with fail
    go_ret2
    exact ⟨ret_two HV.out.symm HE.out.symm, rfl⟩
  | true =>
    have l1 := valid_len hx
    have HX := Lib.hid hx
    have HK := Lib.hid (valid_lok hx)
    have big : 1125899906842624 < nval xs → intV xs = 0 ∧ intE xs = 2 := fun h => ⟨by rw [intV, hx, if_pos rfl, if_neg (by omega)], by rw [intE, hx, if_pos rfl, if_neg (by omega)]⟩
    have small : nval xs ≤ 1125899906842624 → intV xs = nval xs ∧ intE xs = 0 := fun h => ⟨by rw [intV, hx, if_pos rfl, if_pos h], by rw [intE, hx, if_pos rfl, if_pos h]⟩
    have BIG := Lib.hid big
    have SM := Lib.hid small
    clear hx big small
    go_enter Tryd.func17, Tryd.ntmps17
    go_wp2_with fail
    refine (ref_Valid xs A c _ _ w HA.out hm1).mono ?_
    rintro e w' ⟨rfl, rfl⟩
    rw [HX.out]
    go_wp2_with fail
    go_loop [4, 5] (fun nv iv => ∃ k : Nat, k ≤ xs.length ∧ iv = .int .i64 ((xs.length : Int) - 1 - k) ∧ nv = .int .i64 (nval (xs.drop (xs.length - k))) ∧ nval (xs.drop (xs.length - k)) < 1125900000000000) (fun _ iv => (intOf iv + 1).toNat)
    case atStart => exact ⟨0, Nat.zero_le _, by simp, by simp [nval], by simp [nval]⟩
    case round =>
      obtain ⟨k, hk, rfl, rfl, hb⟩ := hrel
      have h0 := nval_nonneg (lok_drop HK.out (xs.length - k))
      rcases Nat.lt_or_ge k xs.length with hlt | hge
      · obtain ⟨j, hj⟩ : ∃ j, j = xs.length - 1 - k := ⟨_, rfl⟩
        obtain ⟨x, hx⟩ : ∃ x, xs[j]? = some x := ⟨_, List.getElem?_eq_getElem (by omega)⟩
        obtain ⟨b, off, rfl, _, _, hcell⟩ := HA.out j x hx
        have xb := lok_at HK.out hx
        have hst := nval_drop_step hx
        have e1 : xs.length - k = j + 1 := by omega
        have hsp := int_split (k := k) (by omega) HK.out
        rw [e1] at h0 hb hsp ⊢
        obtain ⟨N, hN⟩ : ∃ N, N = nval (xs.drop (j + 1)) := ⟨_, rfl⟩
        rw [← hN] at h0 hb hst hsp ⊢
        have ej : (xs.length : Int) - 1 - k = (j : Int) := by omega
        have hjl : j < xs.length := by omega
        have HJ := Lib.hid hj
        have HST := Lib.hid hst
        obtain ⟨x0, x1⟩ := xb
        rw [ej]
        rcases Int.lt_or_le 1125899 N with hN1 | hN1
        · have hbig : 1125899906842624 < nval xs := by
            have p1 : (1000000000 : Int) ^ 1 ≤ 1000000000 ^ (j + 1) := pow_le_pow' (by omega)
            have p2 : N * 1000000000 ^ 1 ≤ N * 1000000000 ^ (j + 1) := Int.mul_le_mul_of_nonneg_left p1 h0
            rw [Int.pow_one] at p2
            omega
          have HB := Lib.hid (BIG.out hbig)
          clear hx hst hsp hN hj hbig e1 ej
          go_wp2_with fail
          go_ret2
          exact ⟨ret_two HB.out.1.symm HB.out.2.symm, rfl⟩
        · have hN1' : decide (1125899 < N) = false := decide_eq_false (by omega)
          clear hx hst hsp hN hj e1 ej
          go_wp2_with fail
          go_round
          case rel =>
            have e3 : xs.length - (k + 1) = j := by have := HJ.out; omega
            have h := HST.out
            refine ⟨k + 1, by omega, ?_, ?_, ?_⟩
            · have := HJ.out; go_num
            · rw [e3, h]; exact congrArg _ (by omega)
            · rw [e3, h]; omega
          case measure => simp [intOf] <;> omega
      · obtain rfl : k = xs.length := by omega
        rw [Nat.sub_self, List.drop_zero] at hb h0 ⊢
        have e0 : (xs.length : Int) - 1 - xs.length = -1 := by omega
        rw [e0]
        rcases Int.lt_or_le 1125899906842624 (nval xs) with hn | hn
        · have HB := Lib.hid (BIG.out hn)
          clear e0
          go_wp2_with fail
          go_ret2
          exact ⟨ret_two HB.out.1.symm HB.out.2.symm, rfl⟩
        · have HB := Lib.hid (SM.out hn)
          have hn' : decide (1125899906842624 < nval xs) = false := decide_eq_false (by omega)
          clear e0
          go_wp2_with fail
          go_ret2
          exact ⟨ret_two HB.out.1.symm HB.out.2.symm, rfl⟩
#print axioms ref_Of
#print axioms ref_Int
end Go.Proofs.YtmbpcjnlniidkaaDoor
