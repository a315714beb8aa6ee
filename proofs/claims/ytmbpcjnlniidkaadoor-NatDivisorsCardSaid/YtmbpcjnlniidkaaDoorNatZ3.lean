/- The contracts of nat.combined and nat.shortened. -/
import Derived.Test.YtmbpcjnlniidkaaDoorNatZ2
namespace Go.Proofs.YtmbpcjnlniidkaaDoor
open Go.ChangeShapes Go.WideShapes Go.RowKit
set_option linter.unusedVariables false

theorem comb_val {xs ys : List Int} {m n : Int} (hl : xs.length = ys.length) : nval (addT (addT (List.replicate (xs.length + 1) 0) xs m 0) ys n 0) = m * nval xs + n * nval ys := by
  rw [addT_val _ _ _ _ (by rw [addT_length]; simp; omega), addT_val _ _ _ _ (by simp), nval_zeros]; omega
theorem comb_bd {X m P : Int} (x0 : 0 ≤ X) (x1 : X < P) (m0 : -1000000000 < m) (m1 : m < 1000000000) : -(1000000000 * P) < m * X ∧ m * X < 1000000000 * P := by
  have a1 : m * X ≤ 999999999 * X := Int.mul_le_mul_of_nonneg_right (by omega) x0
  have a2 : -999999999 * X ≤ m * X := Int.mul_le_mul_of_nonneg_right (by omega) x0
  omega

set_option maxHeartbeats 1600000 in
theorem nat_combined (xs ys : List Int) (A B : Option Addr) (c d : Nat) (m n : Int) (w : World) (hA : Holds w 0 w.heap.size A xs) (hB : Holds w 0 w.heap.size B ys) (hx : lok xs = true) (hy : lok ys = true) (hl : xs.length = ys.length) (hlx : xs.length ≤ 1000)
    (m0 : -1000000000 < m) (m1 : m < 1000000000) (n0 : -1000000000 < n) (n1 : n < 1000000000) (h0 : 0 ≤ m * nval xs + n * nval ys) (h1 : m * nval xs + n * nval ys ≤ nval ys) :
    Calls Tryd.prog 68 #[.slice A xs.length c, .int .i64 m, .slice B ys.length d, .int .i64 n] w (GcdRes w (m * nval xs + n * nval ys).toNat) := by
  have hct := nat_times xs A c m 0 w.heap.size w hA (Nat.le_refl _) (by omega) hx m0 m1
  have x0 := nval_nonneg hx
  have x1 := nval_lt hx
  have y1 := nval_lt hy
  have hlT : (addT (List.replicate (xs.length + 1) 0) xs m 0).length = xs.length + 1 := by rw [addT_length]; simp
  have hvT : nval (addT (List.replicate (xs.length + 1) 0) xs m 0) = m * nval xs := by rw [addT_val _ _ _ _ (by simp), nval_zeros]; omega
  have hdT := addT_lok (List.replicate (xs.length + 1) 0) xs m 0
  have hbd := comb_bd x0 x1 m0 m1
  have hlast : ∀ z, (addT (List.replicate (xs.length + 1) 0) xs m 0)[xs.length]? = some z → -4000000000000000000 < z ∧ z < 4000000000000000000 := by
    intro z hz
    have := last_bd hdT hlT hz hvT hbd.1 (by rw [Int.pow_succ]; omega)
    omega
  have hvR := comb_val (m := m) (n := n) hl
  obtain ⟨T, hT⟩ : ∃ T, T = addT (List.replicate (xs.length + 1) 0) xs m 0 := ⟨_, rfl⟩
  rw [← hT] at hct hlT hdT hlast hvR
  have hRl : (addT T ys n 0).length = xs.length + 1 := by rw [addT_length, hlT]
  have hRk : lok (addT T ys n 0) = true := by
    refine lok_of_dropLast (by intro h; rw [h] at hRl; simp at hRl) (addT_lok _ _ _ _) (by rw [hvR]; exact h0) ?_
    rw [hvR, hRl, Int.pow_succ, hl]; omega
  have HCT := Lib.hid hct
  have HB := Lib.hid hB
  have HY := Lib.hid hy
  have HLT := Lib.hid hlT
  have HDT := Lib.hid hdT
  have HLA := Lib.hid hlast
  have HVR := Lib.hid hvR
  have HRL := Lib.hid hRl
  have HRK := Lib.hid hRk
  have HL := Lib.hid hl
  clear hA hB hx hy hct x0 x1 y1 hlT hvT hdT hbd hlast hvR hT hRl hRk hl h0 h1
  go_enter Tryd.func68, Tryd.ntmps68
  go_wp2_with fail
  refine HCT.out.mono ?_
  rintro e w1 ⟨rfl, hr1, hb1⟩
  have hadd := nat_addTimes T T ys n w.heap.size 0 (xs.length + 1) d 0 w.heap.size B w1 hr1 (by omega) (fun j _ => by rw [Nat.zero_add]) (HB.out.below hb1 (Nat.le_refl _)) (Or.inr (Nat.le_refl _)) (by rw [HLT.out, HL.out]; omega) (by rw [HLT.out]; omega) HDT.out (fun z hz => HLA.out z (by rw [HLT.out] at hz; exact hz)) HY.out n0 n1
  rw [HLT.out, laid_all (by rw [addT_length])] at hadd
  have HADD := Lib.hid hadd
  have HB1 := Lib.hid hb1
  clear hadd hr1 hb1
  go_wp2_with fail
  refine HADD.out.mono ?_
  rintro e w2 ⟨rfl, hrow, honly⟩
  have hb2 : Below w.heap.size w w2 := HB1.out.trans (honly.toBelow (Nat.le_refl _))
  have htr := nat_trimmed (addT T ys n 0) (some ⟨w.heap.size, 0, none⟩) (xs.length + 1) w.heap.size w2.heap.size w2 (hrow.holds (fun k z hz => by rw [Nat.zero_add]; exact hz) (Nat.le_refl _) hrow.lt) (by rw [HRL.out]; omega) (by unfold maxLen; omega)
  rw [HRL.out] at htr
  have hsl : Sl w2 w.heap.size w2.heap.size (.slice (some ⟨w.heap.size, 0, none⟩) (trimL (addT T ys n 0)).length (xs.length + 1)) (limbs (m * nval xs + n * nval ys).toNat) := by
    have e : limbs (m * nval xs + n * nval ys).toNat = trimL (addT T ys n 0) := by rw [trimL_limbs HRK.out, HVR.out]
    rw [e]
    have := trimL_len_le (addT T ys n 0)
    rw [HRL.out] at this
    exact ⟨_, _, rfl, this, by unfold maxLen; omega, by rw [← trimL_eq_take (addT T ys n 0)]; exact (hrow.take _).holds (fun k z hz => by rw [Nat.zero_add]; exact hz) (Nat.le_refl _) hrow.lt⟩
  have HTR := Lib.hid htr
  have HSL := Lib.hid hsl
  have HB2 := Lib.hid hb2
  clear htr hsl hb2 hrow honly
  go_wp2_with fail
  refine HTR.out.mono ?_
  rintro e w3 ⟨rfl, rfl⟩
  go_wp2_with fail
  go_ret
  exact ⟨_, rfl, HSL.out, HB2.out⟩
#print axioms nat_combined
end Go.Proofs.YtmbpcjnlniidkaaDoor
