/- scaled: num.MulDiv between marks. -/
import Derived.Test.YtkbnhmgladkojaaAlignI
import Derived.Test.YtkbnhmgladkojaaAlignH
import Derived.Test.YtkbnhmgladkojaaZumL
namespace Go.Proofs.Ytkbnhmgladkojaa.Align
open Go.ChangeShapes Go.WideShapes Go.RowKit Go.Lib Go.Proofs.Ytkbnhmgladkojaa.Rw
open Go.Proofs.Ytkbnhmgladkojaa.Num (mdV mdE mdM mdR negB awayB sg InR okV mdV_in num_muldiv)
set_option linter.unusedVariables false
set_option maxRecDepth 100000

theorem sc_lim {x y z : Nat} (hxz : x ≤ z) (hz : 1 ≤ z) : x * y / z ≤ y := by
  rw [Nat.div_le_iff_le_mul_add_pred hz]
  have := Nat.mul_le_mul_right y hxz
  omega
theorem md_nat {x y z : Nat} {m : Int} (hxz : x ≤ z) (hz : 1 ≤ z) (hz2 : z ≤ 17179869184) (hy : y ≤ 17179869184) (hm : m = 0 ∨ m = 1) :
    mdV (x : Int) (y : Int) (z : Int) m = ((x * y / z + (if awayB (x * y / z) (x * y % z) z m false then 1 else 0) : Nat) : Int) := by
  have hin : InR (x : Int) ∧ InR (y : Int) ∧ InR (z : Int) := by unfold InR; omega
  have hneg : negB (x : Int) (y : Int) (z : Int) = false := by
    unfold negB
    rw [decide_eq_false (by omega), decide_eq_false (by omega), decide_eq_false (by omega)]
    rfl
  rw [mdV_in hin (by omega) (by omega)]
  have hR : mdR (x : Int) (y : Int) (z : Int) m = ((x * y / z + (if awayB (x * y / z) (x * y % z) z m false then 1 else 0) : Nat) : Int) := by
    unfold mdR mdM
    rw [hneg]
    unfold sg
    simp only [Int.natAbs_natCast]
    rfl
  rw [hR]
  unfold okV
  have := sc_lim (y := y) hxz hz
  have hg : (if awayB (x * y / z) (x * y % z) z m false = true then 1 else 0) ≤ 1 := by split <;> omega
  generalize (if awayB (x * y / z) (x * y % z) z m false = true then 1 else 0) = g at *
  generalize x * y / z = D at *
  rw [if_pos]
  unfold InR
  omega
theorem md_down {x y z : Int} (hx : 0 ≤ x) (hxz : x ≤ z) (hz : 1 ≤ z) (hz2 : z ≤ 17179869184) (hy : 0 ≤ y) (hy2 : y ≤ 17179869184) : mdV x y z 0 = x * y / z := by
  obtain ⟨X, rfl⟩ := Int.eq_ofNat_of_zero_le hx
  obtain ⟨Y, rfl⟩ := Int.eq_ofNat_of_zero_le hy
  obtain ⟨Z, rfl⟩ := Int.eq_ofNat_of_zero_le (show 0 ≤ z by omega)
  rw [md_nat (by omega) (by omega) (by omega) (by omega) (Or.inl rfl)]
  have : awayB (X * Y / Z) (X * Y % Z) Z 0 false = false := by unfold awayB; split <;> simp
  rw [this]
  simp
theorem md_up {x y z : Int} (hx : 0 ≤ x) (hxz : x ≤ z) (hz : 1 ≤ z) (hz2 : z ≤ 17179869184) (hy : 0 ≤ y) (hy2 : y ≤ 17179869184) : mdV x y z 1 = -(-(x * y) / z) := by
  obtain ⟨X, rfl⟩ := Int.eq_ofNat_of_zero_le hx
  obtain ⟨Y, rfl⟩ := Int.eq_ofNat_of_zero_le hy
  obtain ⟨Z, rfl⟩ := Int.eq_ofNat_of_zero_le (show 0 ≤ z by omega)
  rw [md_nat (by omega) (by omega) (by omega) (by omega) (Or.inr rfl)]
  have hZ : 0 < Z := by omega
  have h1 := Nat.div_add_mod (X * Y) Z
  have h2 := Nat.mod_lt (X * Y) hZ
  have hP : ((X : Int) * (Y : Int)) = ((X * Y : Nat) : Int) := by simp
  rw [hP]
  generalize X * Y = P at *
  have ha : (if awayB (P / Z) (P % Z) Z 1 false = true then 1 else 0) = if P % Z = 0 then 0 else 1 := by unfold awayB; split <;> simp [*]
  rw [ha]
  generalize P / Z = D at *
  generalize P % Z = R at *
  have h1' : (Z : Int) * (D : Int) + (R : Int) = (P : Int) := by exact_mod_cast h1
  have e : (-(P : Int)) / (Z : Int) = -((D + (if R = 0 then 0 else 1) : Nat) : Int) := by
    rw [floor_iff (by omega)]
    rw [← h1']
    split
    · rename_i h
      subst h
      have e1 : -((D + 0 : Nat) : Int) * (Z : Int) = -((Z : Int) * (D : Int)) := by rw [Nat.add_zero, Int.neg_mul, Int.mul_comm]
      have e2 : (-((D + 0 : Nat) : Int) + 1) * (Z : Int) = -((Z : Int) * (D : Int)) + (Z : Int) := by rw [Int.add_mul, e1, Int.one_mul]
      rw [e1, e2]
      omega
    · rename_i h
      have e1 : -((D + 1 : Nat) : Int) * (Z : Int) = -((Z : Int) * (D : Int)) - (Z : Int) := by grind
      have e2 : (-((D + 1 : Nat) : Int) + 1) * (Z : Int) = -((Z : Int) * (D : Int)) := by grind
      rw [e1, e2]
      omega
  rw [e, Int.neg_neg]
theorem align_scaled (x y z m : Int) (w : World) :
    Calls Try.prog 30 #[.int .i64 x, .int .i64 y, .int .i64 z, .int .i64 m] w fun e w' => e = .returned (.int .i64 (mdV x y z m)) ∧ Below w.heap.size w w' := by
  go_enter Try.func30, Try.ntmps30
  go_wp2_with fail
  refine (num_muldiv x y z m w).mono ?_
  rintro e w1 ⟨rfl, hb⟩
  have HB := Lib.hid hb
  clear hb
  go_wp2_with fail
  go_ret
  exact ⟨rfl, HB.out⟩
#print axioms md_up
#print axioms align_scaled
end Go.Proofs.Ytkbnhmgladkojaa.Align
