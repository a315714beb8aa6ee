/- Contract of TakeInt of the reference. -/
import Derived.Test.YtahgkohnamnljaaDoorWireE
namespace Go.Proofs.YtahgkohnamnljaaDoor.Wire
open Go.ChangeShapes Go.WideShapes Go.RowKit
set_option linter.unusedVariables false
set_option maxRecDepth 100000

/-- The rounds of the reference's TakeInt. -/
def Rk (l : List UInt8) (c u i : Value) : Prop :=
  ∃ k acc : Nat, c = .int .u64 (acc : Int) ∧ u = .int .u64 ((128 ^ k : Nat) : Int) ∧ i = .int .i64 (k : Int) ∧ k ≤ l.length ∧ k ≤ 9 ∧ acc < 128 ^ k ∧ takeI l = scan k acc (l.drop k)
theorem dec_even {R : Nat} (h : R % 2 = 0) : decI R = (R : Int) / 2 := by unfold decI; rw [if_neg (by omega)]; omega
theorem dec_odd {R : Nat} (h : R % 2 = 1) : decI R = -((R : Int) / 2) - 1 := by unfold decI; rw [if_pos h]; omega
set_option maxHeartbeats 3200000 in
theorem ref_TakeInt (v : Value) (l : List UInt8) (w : World) (hv : InY w v l) (hl : l.length ≤ 1000000) :
    Calls Tryd.prog 32 #[v] w (TRes (takeI l) w) := by
  obtain ⟨A, c, rfl, hc, _, hb⟩ := hv
  have HB := Lib.hid hb
  obtain ⟨N, hN⟩ : ∃ N, N = l.length := ⟨_, rfl⟩
  have HN := Lib.hid hN
  rw [← hN] at hl ⊢
  clear hb hN
  go_enter Tryd.func32, Tryd.ntmps32
  go_wp2_with fail
  go_loop [5, 6, 7] (Rk l) (fun _ _ i => N - (intOf i).toNat)
  case atStart => exact ⟨0, 0, rfl, rfl, rfl, Nat.zero_le _, by omega, by decide, by rw [List.drop_zero]; rfl⟩
  case round =>
    obtain ⟨k, acc, rfl, rfl, rfl, hk, hk9, ha, ht⟩ := hrel
    have HT := Lib.hid ht
    have HK := Lib.hid ha
    rw [← HN.out] at hk
    have hk10 : (k : Int) < 10 := by omega
    obtain ⟨U, hU⟩ : ∃ U : Int, U = ((128 ^ k : Nat) : Int) := ⟨_, rfl⟩
    obtain ⟨a, hac⟩ : ∃ a : Int, a = (acc : Int) := ⟨_, rfl⟩
    have HU := Lib.hid hU
    have HAC := Lib.hid hac
    rw [← hU, ← hac]
    clear ht ha hU hac
    rcases Nat.lt_or_ge k N with hlt | hge
    · obtain ⟨b, hb⟩ := get_lt (L := l) (k := k) (by rw [← HN.out]; exact hlt)
      obtain ⟨g, off, rfl, hg, hcell⟩ := HB.out k b hb
      have HD := Lib.hid (drop_cons_of hb)
      have hb8 := UInt8.toNat_lt b
      obtain ⟨y, hy⟩ : ∃ y, y = ((b.toNat % 128 : Nat) : Int) := ⟨_, rfl⟩
      have han : (b.toNat : Int) % 128 = y := by omega
      have hy0 : 0 ≤ y := by omega
      have hy1 : y < 128 := by omega
      clear hb
      rcases Nat.lt_or_ge k 9 with c9 | c9
      · rcases Nat.lt_or_ge b.toNat 128 with c1 | c1
        · by_cases c0 : b.toNat = 0
          · rcases Nat.eq_zero_or_pos k with c2 | c2
            · have h9 : ((k : Int) == 9) = false := by simp; omega
              have hR : acc + b.toNat % 128 * 128 ^ k < 18446744073709551616 := (sum_lt (by omega) HK.out (by omega)).2
              obtain ⟨U', hU'⟩ : ∃ U' : Int, U' = ((128 ^ (k + 1) : Nat) : Int) := ⟨_, rfl⟩
              have hU1 : U * 128 = U' := by rw [HU.out, hU', Nat.pow_succ]; simp
              have hU2 : U' < 18446744073709551616 := by have := pow_le_nine (i := k + 1) (by omega); rw [hU']; exact Int.ofNat_lt.mpr (Nat.lt_of_le_of_lt this (by decide))
              have hU3 : 0 ≤ U' := by rw [hU']; exact Int.natCast_nonneg _
              obtain ⟨R, hRe⟩ : ∃ R, R = acc + b.toNat % 128 * 128 ^ k := ⟨_, rfl⟩
              obtain ⟨M, hM⟩ : ∃ M : Int, M = ((b.toNat % 128 * 128 ^ k : Nat) : Int) := ⟨_, rfl⟩
              obtain ⟨r, hr⟩ : ∃ r : Int, r = (R : Int) := ⟨_, rfl⟩
              have hM1 : y * U = M := by rw [hy, HU.out, hM]; simp
              have hM2 : a + M = r := by rw [hM, hr, hRe, HAC.out]; simp
              have hM3 : M < 18446744073709551616 := by omega
              have hM4 : 0 ≤ M := by omega
              have hM5 : r < 18446744073709551616 := by omega
              have hM6 : 0 ≤ r := by omega
              have HR := Lib.hid hr
              have hge : decide ((128 : Int) ≤ (b.toNat : Int)) = false := decide_eq_false (by omega)
              have h0 : ((b.toNat : Int) == 0) = true := by simp; omega
              have hk0 : decide (0 < k) = false := decide_eq_false (by omega)
              have HF : Hid (takeI l = ⟨decI R, k + 1, 0⟩) := show _ = _ by rw [HT.out, HD.out, scan_last (by omega) (by omega) (by omega), hRe, show b.toNat % 128 = b.toNat by omega]
              rw [← hRe] at hR
              clear hy hRe hM hr hU' c9 c1 c0 c2
              rcases Nat.mod_two_eq_zero_or_one R with par | par
              · have hodd : (r % 2 == 1) = false := by simp; have := HR.out; omega
                have HE := Lib.hid (dec_even par)
                clear par
                go_wp2_with fail
                go_ret3
                exact ⟨by rw [HF.out, HE.out, ← HR.out]; rfl, rfl⟩
              · have hodd : (r % 2 == 1) = true := by simp; have := HR.out; omega
                have HE := Lib.hid (dec_odd par)
                clear par
                go_wp2_with fail
                go_ret3
                exact ⟨by rw [HF.out, HE.out, ← HR.out]; rfl, rfl⟩
            · have h9 : ((k : Int) == 9) = false := by simp; omega
              have hR : acc + b.toNat % 128 * 128 ^ k < 18446744073709551616 := (sum_lt (by omega) HK.out (by omega)).2
              obtain ⟨U', hU'⟩ : ∃ U' : Int, U' = ((128 ^ (k + 1) : Nat) : Int) := ⟨_, rfl⟩
              have hU1 : U * 128 = U' := by rw [HU.out, hU', Nat.pow_succ]; simp
              have hU2 : U' < 18446744073709551616 := by have := pow_le_nine (i := k + 1) (by omega); rw [hU']; exact Int.ofNat_lt.mpr (Nat.lt_of_le_of_lt this (by decide))
              have hU3 : 0 ≤ U' := by rw [hU']; exact Int.natCast_nonneg _
              obtain ⟨R, hRe⟩ : ∃ R, R = acc + b.toNat % 128 * 128 ^ k := ⟨_, rfl⟩
              obtain ⟨M, hM⟩ : ∃ M : Int, M = ((b.toNat % 128 * 128 ^ k : Nat) : Int) := ⟨_, rfl⟩
              obtain ⟨r, hr⟩ : ∃ r : Int, r = (R : Int) := ⟨_, rfl⟩
              have hM1 : y * U = M := by rw [hy, HU.out, hM]; simp
              have hM2 : a + M = r := by rw [hM, hr, hRe, HAC.out]; simp
              have hM3 : M < 18446744073709551616 := by omega
              have hM4 : 0 ≤ M := by omega
              have hM5 : r < 18446744073709551616 := by omega
              have hM6 : 0 ≤ r := by omega
              have HR := Lib.hid hr
              have hge : decide ((128 : Int) ≤ (b.toNat : Int)) = false := decide_eq_false (by omega)
              have h0 : ((b.toNat : Int) == 0) = true := by simp; omega
              have hk0 : 0 < k := by omega
              have HF : Hid (takeI l = ⟨0, 0, 3⟩) := show _ = _ by rw [HT.out, HD.out, scan_form (by omega) (by omega)]
              rw [← hRe] at hR
              clear hy hRe hM hr hU' c9 c1 c0 c2
              go_wp2_with fail
              go_ret3
              exact ⟨by rw [HF.out]; rfl, rfl⟩
          · have h9 : ((k : Int) == 9) = false := by simp; omega
            have hR : acc + b.toNat % 128 * 128 ^ k < 18446744073709551616 := (sum_lt (by omega) HK.out (by omega)).2
            obtain ⟨U', hU'⟩ : ∃ U' : Int, U' = ((128 ^ (k + 1) : Nat) : Int) := ⟨_, rfl⟩
            have hU1 : U * 128 = U' := by rw [HU.out, hU', Nat.pow_succ]; simp
            have hU2 : U' < 18446744073709551616 := by have := pow_le_nine (i := k + 1) (by omega); rw [hU']; exact Int.ofNat_lt.mpr (Nat.lt_of_le_of_lt this (by decide))
            have hU3 : 0 ≤ U' := by rw [hU']; exact Int.natCast_nonneg _
            obtain ⟨R, hRe⟩ : ∃ R, R = acc + b.toNat % 128 * 128 ^ k := ⟨_, rfl⟩
            obtain ⟨M, hM⟩ : ∃ M : Int, M = ((b.toNat % 128 * 128 ^ k : Nat) : Int) := ⟨_, rfl⟩
            obtain ⟨r, hr⟩ : ∃ r : Int, r = (R : Int) := ⟨_, rfl⟩
            have hM1 : y * U = M := by rw [hy, HU.out, hM]; simp
            have hM2 : a + M = r := by rw [hM, hr, hRe, HAC.out]; simp
            have hM3 : M < 18446744073709551616 := by omega
            have hM4 : 0 ≤ M := by omega
            have hM5 : r < 18446744073709551616 := by omega
            have hM6 : 0 ≤ r := by omega
            have HR := Lib.hid hr
            have hge : decide ((128 : Int) ≤ (b.toNat : Int)) = false := decide_eq_false (by omega)
            have h0 : ((b.toNat : Int) == 0) = false := by simp; omega
            have HF : Hid (takeI l = ⟨decI R, k + 1, 0⟩) := show _ = _ by rw [HT.out, HD.out, scan_last (by omega) (by omega) (by omega), hRe, show b.toNat % 128 = b.toNat by omega]
            rw [← hRe] at hR
            clear hy hRe hM hr hU' c9 c1 c0
            rcases Nat.mod_two_eq_zero_or_one R with par | par
            · have hodd : (r % 2 == 1) = false := by simp; have := HR.out; omega
              have HE := Lib.hid (dec_even par)
              clear par
              go_wp2_with fail
              go_ret3
              exact ⟨by rw [HF.out, HE.out, ← HR.out]; rfl, rfl⟩
            · have hodd : (r % 2 == 1) = true := by simp; have := HR.out; omega
              have HE := Lib.hid (dec_odd par)
              clear par
              go_wp2_with fail
              go_ret3
              exact ⟨by rw [HF.out, HE.out, ← HR.out]; rfl, rfl⟩
        · have h9 : ((k : Int) == 9) = false := by simp; omega
          have hR : acc + b.toNat % 128 * 128 ^ k < 18446744073709551616 := (sum_lt (by omega) HK.out (by omega)).2
          obtain ⟨U', hU'⟩ : ∃ U' : Int, U' = ((128 ^ (k + 1) : Nat) : Int) := ⟨_, rfl⟩
          have hU1 : U * 128 = U' := by rw [HU.out, hU', Nat.pow_succ]; simp
          have hU2 : U' < 18446744073709551616 := by have := pow_le_nine (i := k + 1) (by omega); rw [hU']; exact Int.ofNat_lt.mpr (Nat.lt_of_le_of_lt this (by decide))
          have hU3 : 0 ≤ U' := by rw [hU']; exact Int.natCast_nonneg _
          have HM := Lib.hid (scan_more (acc := acc) (r := l.drop (k + 1)) (show k < 9 by omega) (show 128 ≤ b.toNat by omega))
          have HRL := Lib.hid (sum_lt (n := b.toNat % 128) (show k < 9 by omega) HK.out (by omega)).1
          have HU1 := Lib.hid hU'
          have K9 := Lib.hid (show k + 1 ≤ 9 by omega)
          obtain ⟨R, hRe⟩ : ∃ R, R = acc + b.toNat % 128 * 128 ^ k := ⟨_, rfl⟩
          obtain ⟨M, hM⟩ : ∃ M : Int, M = ((b.toNat % 128 * 128 ^ k : Nat) : Int) := ⟨_, rfl⟩
          obtain ⟨r, hr⟩ : ∃ r : Int, r = (R : Int) := ⟨_, rfl⟩
          have hM1 : y * U = M := by rw [hy, HU.out, hM]; simp
          have hM2 : a + M = r := by rw [hM, hr, hRe, HAC.out]; simp
          have hM3 : M < 18446744073709551616 := by omega
          have hM4 : 0 ≤ M := by omega
          have hM5 : r < 18446744073709551616 := by omega
          have hM6 : 0 ≤ r := by omega
          have HR := Lib.hid hr
          rw [← hRe] at hR HM HRL
          have hge : (128 : Int) ≤ (b.toNat : Int) := by omega
          clear hy hRe hM hr hU' c9 c1
          go_wp2_with fail
          go_round
          case rel => exact ⟨k + 1, R, by rw [HR.out], by rw [HU1.out], by go_num, by rw [← HN.out]; omega, K9.out, HRL.out, by rw [HT.out, HD.out, HM.out]⟩
          case measure => simp [intOf]; omega
      · rcases Nat.lt_or_ge 1 b.toNat with c1 | c1
        · have h9 : ((k : Int) == 9) = true := by simp; omega
          have hb1 : (1 : Int) < (b.toNat : Int) := by omega
          have HF : Hid (takeI l = ⟨0, 0, 2⟩) := show _ = _ by rw [HT.out, HD.out, scan_over (by omega) (by omega)]
          clear han hy0 hy1 hy c9 c1
          go_wp2_with fail
          go_ret3
          exact ⟨by rw [HF.out]; rfl, rfl⟩
        · by_cases c0 : b.toNat = 0
          · have h9 : ((k : Int) == 9) = true := by simp; omega
            have hb1 : decide ((1 : Int) < (b.toNat : Int)) = false := decide_eq_false (by omega)
            have hR : acc + b.toNat % 128 * 128 ^ k < 18446744073709551616 := (by have e9 : k = 9 := (by omega); subst e9; exact sum_nine HK.out (by omega))
            have hU : IntKind.u64.wrap (U * 128) = 0 := by have e9 : k = 9 := (by omega); rw [IntKind.wrap_u64, HU.out, e9]; rfl
            obtain ⟨R, hRe⟩ : ∃ R, R = acc + b.toNat % 128 * 128 ^ k := ⟨_, rfl⟩
            obtain ⟨M, hM⟩ : ∃ M : Int, M = ((b.toNat % 128 * 128 ^ k : Nat) : Int) := ⟨_, rfl⟩
            obtain ⟨r, hr⟩ : ∃ r : Int, r = (R : Int) := ⟨_, rfl⟩
            have hM1 : y * U = M := by rw [hy, HU.out, hM]; simp
            have hM2 : a + M = r := by rw [hM, hr, hRe, HAC.out]; simp
            have hM3 : M < 18446744073709551616 := by omega
            have hM4 : 0 ≤ M := by omega
            have hM5 : r < 18446744073709551616 := by omega
            have hM6 : 0 ≤ r := by omega
            have HR := Lib.hid hr
            have hge : decide ((128 : Int) ≤ (b.toNat : Int)) = false := decide_eq_false (by omega)
            have h0 : ((b.toNat : Int) == 0) = true := by simp; omega
            have hk0 : 0 < k := by omega
            have HF : Hid (takeI l = ⟨0, 0, 3⟩) := show _ = _ by rw [HT.out, HD.out, scan_form (by omega) (by omega)]
            rw [← hRe] at hR
            clear hy hRe hM hr c9 c1 c0
            go_wp2_with fail
            go_ret3
            exact ⟨by rw [HF.out]; rfl, rfl⟩
          · have h9 : ((k : Int) == 9) = true := by simp; omega
            have hb1 : decide ((1 : Int) < (b.toNat : Int)) = false := decide_eq_false (by omega)
            have hR : acc + b.toNat % 128 * 128 ^ k < 18446744073709551616 := (by have e9 : k = 9 := (by omega); subst e9; exact sum_nine HK.out (by omega))
            have hU : IntKind.u64.wrap (U * 128) = 0 := by have e9 : k = 9 := (by omega); rw [IntKind.wrap_u64, HU.out, e9]; rfl
            obtain ⟨R, hRe⟩ : ∃ R, R = acc + b.toNat % 128 * 128 ^ k := ⟨_, rfl⟩
            obtain ⟨M, hM⟩ : ∃ M : Int, M = ((b.toNat % 128 * 128 ^ k : Nat) : Int) := ⟨_, rfl⟩
            obtain ⟨r, hr⟩ : ∃ r : Int, r = (R : Int) := ⟨_, rfl⟩
            have hM1 : y * U = M := by rw [hy, HU.out, hM]; simp
            have hM2 : a + M = r := by rw [hM, hr, hRe, HAC.out]; simp
            have hM3 : M < 18446744073709551616 := by omega
            have hM4 : 0 ≤ M := by omega
            have hM5 : r < 18446744073709551616 := by omega
            have hM6 : 0 ≤ r := by omega
            have HR := Lib.hid hr
            have hge : decide ((128 : Int) ≤ (b.toNat : Int)) = false := decide_eq_false (by omega)
            have h0 : ((b.toNat : Int) == 0) = false := by simp; omega
            have HF : Hid (takeI l = ⟨decI R, k + 1, 0⟩) := show _ = _ by rw [HT.out, HD.out, scan_last (by omega) (by omega) (by omega), hRe, show b.toNat % 128 = b.toNat by omega]
            rw [← hRe] at hR
            clear hy hRe hM hr c9 c1 c0
            rcases Nat.mod_two_eq_zero_or_one R with par | par
            · have hodd : (r % 2 == 1) = false := by simp; have := HR.out; omega
              have HE := Lib.hid (dec_even par)
              clear par
              go_wp2_with fail
              go_ret3
              exact ⟨by rw [HF.out, HE.out, ← HR.out]; rfl, rfl⟩
            · have hodd : (r % 2 == 1) = true := by simp; have := HR.out; omega
              have HE := Lib.hid (dec_odd par)
              clear par
              go_wp2_with fail
              go_ret3
              exact ⟨by rw [HF.out, HE.out, ← HR.out]; rfl, rfl⟩
    · obtain rfl : k = N := by omega
      have HF : Hid (takeI l = ⟨0, 0, 4⟩) := show _ = _ by rw [HT.out, List.drop_eq_nil_of_le (by rw [← HN.out]; exact Nat.le_refl _)]; rfl
      go_wp2_with fail
      go_ret3
      exact ⟨by rw [HF.out]; rfl, rfl⟩
#print axioms ref_TakeInt
end Go.Proofs.YtahgkohnamnljaaDoor.Wire
