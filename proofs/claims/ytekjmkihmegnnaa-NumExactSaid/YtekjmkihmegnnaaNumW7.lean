/- The law NumExact: all ways together. -/
import Derived.Test.YtekjmkihmegnnaaNumX1
import Derived.Test.YtekjmkihmegnnaaNumX2
import Derived.Test.YtekjmkihmegnnaaNumX3
import Derived.Test.YtekjmkihmegnnaaNumX4
import Derived.Test.YtekjmkihmegnnaaNumX5
namespace Go.Proofs.Ytekjmkihmegnnaa
open Go Go.ChangeShapes Go.WideShapes Go.RowKit
set_option linter.unusedVariables false

theorem md_by_zero {x y m : Int} (hx : InR x) (hy : InR y) : mdV x y 0 m = 0 ∧ mdE x y 0 m = 16 := by
  have hz : InR 0 := ⟨by omega, by omega⟩
  exact ⟨mdV_zero ⟨hx, hy, hz⟩ rfl, mdE_zero ⟨hx, hy, hz⟩ rfl⟩

theorem okV_range (n : Int) : InR (okV n) := by
  unfold okV; split
  · assumption
  · exact ⟨by omega, by omega⟩
theorem mdV_range (a b c m : Int) : InR (mdV a b c m) := by
  have h0 : InR 0 := ⟨by omega, by omega⟩
  unfold mdV
  split
  · exact h0
  · split
    · exact h0
    · split
      · exact h0
      · exact okV_range _
theorem bool_no {a b : Int} (h : a ≠ b) : (a == b) = false ∧ (a != b) = true := by
  constructor
  · simpa using h
  · simpa using h
theorem even_form {a : Int} (h : a % 2 = 0) : (a % 2 == 0) = true ∧ (a.tmod 2 == 0) = true := by
  constructor
  · simp [h]
  · have h2 : a.tmod 2 = 0 := Int.tmod_eq_zero_of_dvd (Int.dvd_of_emod_eq_zero h)
    simp [h2]

theorem walk_NumExact (w : World) (a0 : Int) (w0 : (Lit.int .i32 a0).wf = true) (a1 : Int) (w1 : (Lit.int .i32 a1).wf = true) (a2 : Int) (w2 : (Lit.int .i64 a2).wf = true) :
    Calls Try.prog 7 #[.int .i32 a0, .int .i32 a1, .int .i64 a2] w fun e w' => e = .returned (.bool true) ∧ Below w.heap.size w w' := by
  obtain ⟨a0l, a0h⟩ := bounds_i32 w0
  obtain ⟨a1l, a1h⟩ := bounds_i32 w1
  obtain ⟨X, hX⟩ : ∃ X, a0.tmod 33554432 = X := ⟨_, rfl⟩
  obtain ⟨Y, hY⟩ : ∃ Y, a1.tmod 33554432 = Y := ⟨_, rfl⟩
  obtain ⟨Z, hZ⟩ : ∃ Z, a2.tmod 1125899906842625 = Z := ⟨_, rfl⟩
  have bX := tmod_bd a0 33554432 (by omega)
  have bY := tmod_bd a1 33554432 (by omega)
  have bZ := tmod_bd a2 1125899906842625 (by omega)
  rw [hX] at bX
  rw [hY] at bY
  rw [hZ] at bZ
  obtain ⟨P, hP⟩ : ∃ P, X * Y = P := ⟨_, rfl⟩
  have hPa : P.natAbs ≤ 33554431 * 33554431 := by
    rw [← hP, Int.natAbs_mul]; exact Nat.mul_le_mul (by omega) (by omega)
  have p1 : -1125899906842624 ≤ P := by omega
  have p2 : P ≤ 1125899906842624 := by omega
  have z1 : -1125899906842624 ≤ Z := by omega
  have z2 : Z ≤ 1125899906842624 := by omega
  by_cases h0 : Z = 0
  · have hv := fun m => md_by_zero (x := X) (y := Y) (m := m) ⟨by omega, by omega⟩ ⟨by omega, by omega⟩
    rw [h0] at hZ
    have HC : ExactCalls X Y 0 P 0 0 0 16 := exact_calls bX bY hP p1 p2 (hv 0).1 (hv 1).1 (hv 2).1 (hv 0).2 (hv 1).2 (hv 2).2
    exact exact_zero w a0 a1 a2 X Y 0 P a0l a0h a1l a1h hX hY hZ bX.1 bX.2 bY.1 bY.2 (by omega) (by omega) hP p1 p2 rfl HC
  · obtain ⟨lo, hi, near, T, hT, v0, v1, v2, e0, e1, e2⟩ := three_of bX bY ⟨z1, z2⟩ h0
    rw [hP] at hT
    have hr := mdV_range X Y Z 1
    rw [v1] at hr
    obtain ⟨r1, r2⟩ := hr
    have HC : ExactCalls X Y Z P lo hi near 0 := exact_calls bX bY hP p1 p2 v0 v1 v2 e0 e1 e2
    obtain ⟨l1, l2, T0, low, ways⟩ := hT
    obtain ⟨L, hL⟩ : ∃ L, lo * Z = L := ⟨_, rfl⟩
    rw [hL] at low
    have hTD : T < (Z.natAbs : Int) := by
      rcases ways with ⟨h, _⟩ | ⟨_, h, _⟩ <;> omega
    rcases Int.lt_or_le Z 0 with hn | hp
    · rw [if_pos hn] at low
      have l3 : -2251799813685248 ≤ L := by omega
      have l4 : L ≤ 2251799813685248 := by omega
      have hleft : P - L = -T := by omega
      rcases ways with ⟨t0, rfl, rfl⟩ | ⟨t1, t2, rfl, (⟨t3, rfl⟩ | ⟨t3, t4, (rfl | rfl)⟩ | ⟨t3, rfl⟩)⟩
      · exact exact_A_neg w a0 a1 a2 X Y Z P near T L (-Z) (-T) a0l a0h a1l a1h hX hY hZ bX.1 bX.2 bY.1 bY.2 z1 z2 hP p1 p2 hn rfl (by omega) (by omega) hL hleft (by omega) (by omega) (by omega) l1 l2 l3 l4 t0 (by omega) HC
      · exact exact_B_neg w a0 a1 a2 X Y Z P near (near + 1) T L (-Z) (-T) a0l a0h a1l a1h hX hY hZ bX.1 bX.2 bY.1 bY.2 z1 z2 hP p1 p2 hn rfl (by omega) (by omega) hL hleft (by omega) (by omega) (by omega) l1 l2 l3 l4 (by omega) (bool_no (by omega)).1 (bool_no (by omega)).1 (bool_no (by omega)).1 (bool_no (by omega)).2 (bool_no (by omega)).2 (bool_no (by omega)).1 (bool_no (by omega)).2 (by omega) (by omega) t1 (by omega) (by omega) HC
      · exact exact_C_neg w a0 a1 a2 X Y Z P near (near + 1) T L (-Z) (-T) a0l a0h a1l a1h hX hY hZ bX.1 bX.2 bY.1 bY.2 z1 z2 hP p1 p2 hn rfl (by omega) (by omega) hL hleft (by omega) (by omega) (by omega) l1 l2 l3 l4 (by omega) (bool_no (by omega)).1 (bool_no (by omega)).1 (bool_no (by omega)).1 (bool_no (by omega)).2 (bool_no (by omega)).2 (bool_no (by omega)).1 (bool_no (by omega)).2 (by omega) (by omega) t1 (by omega) (by omega) (even_form t4).1 (even_form t4).2 HC
      · exact exact_E_neg w a0 a1 a2 X Y Z P lo (lo + 1) T L (-Z) (-T) a0l a0h a1l a1h hX hY hZ bX.1 bX.2 bY.1 bY.2 z1 z2 hP p1 p2 hn rfl (by omega) (by omega) hL hleft (by omega) (by omega) (by omega) l1 l2 l3 l4 (by omega) (bool_no (by omega)).1 (bool_no (by omega)).1 (bool_no (by omega)).1 (bool_no (by omega)).2 (bool_no (by omega)).2 (bool_no (by omega)).1 (bool_no (by omega)).2 (by omega) (by omega) t1 (by omega) (by omega) (even_form t4).1 (even_form t4).2 HC
      · exact exact_F_neg w a0 a1 a2 X Y Z P lo (lo + 1) T L (-Z) (-T) a0l a0h a1l a1h hX hY hZ bX.1 bX.2 bY.1 bY.2 z1 z2 hP p1 p2 hn rfl (by omega) (by omega) hL hleft (by omega) (by omega) (by omega) l1 l2 l3 l4 (by omega) (bool_no (by omega)).1 (bool_no (by omega)).1 (bool_no (by omega)).1 (bool_no (by omega)).2 (bool_no (by omega)).2 (bool_no (by omega)).1 (bool_no (by omega)).2 (by omega) (by omega) t1 (by omega) (by omega) HC
    · rw [if_neg (by omega)] at low
      have l3 : -2251799813685248 ≤ L := by omega
      have l4 : L ≤ 2251799813685248 := by omega
      have hleft : P - L = T := by omega
      have zp : 0 < Z := by omega
      rcases ways with ⟨t0, rfl, rfl⟩ | ⟨t1, t2, rfl, (⟨t3, rfl⟩ | ⟨t3, t4, (rfl | rfl)⟩ | ⟨t3, rfl⟩)⟩
      · exact exact_A_pos w a0 a1 a2 X Y Z P near T L a0l a0h a1l a1h hX hY hZ bX.1 bX.2 bY.1 bY.2 z1 z2 hP p1 p2 zp hL hleft l1 l2 l3 l4 t0 (by omega) HC
      · exact exact_B_pos w a0 a1 a2 X Y Z P near (near + 1) T L a0l a0h a1l a1h hX hY hZ bX.1 bX.2 bY.1 bY.2 z1 z2 hP p1 p2 zp hL hleft l1 l2 l3 l4 (by omega) (bool_no (by omega)).1 (bool_no (by omega)).1 (bool_no (by omega)).1 (bool_no (by omega)).2 (bool_no (by omega)).2 (bool_no (by omega)).1 (bool_no (by omega)).2 (by omega) (by omega) t1 (by omega) (by omega) HC
      · exact exact_C_pos w a0 a1 a2 X Y Z P near (near + 1) T L a0l a0h a1l a1h hX hY hZ bX.1 bX.2 bY.1 bY.2 z1 z2 hP p1 p2 zp hL hleft l1 l2 l3 l4 (by omega) (bool_no (by omega)).1 (bool_no (by omega)).1 (bool_no (by omega)).1 (bool_no (by omega)).2 (bool_no (by omega)).2 (bool_no (by omega)).1 (bool_no (by omega)).2 (by omega) (by omega) t1 (by omega) (by omega) (even_form t4).1 (even_form t4).2 HC
      · exact exact_E_pos w a0 a1 a2 X Y Z P lo (lo + 1) T L a0l a0h a1l a1h hX hY hZ bX.1 bX.2 bY.1 bY.2 z1 z2 hP p1 p2 zp hL hleft l1 l2 l3 l4 (by omega) (bool_no (by omega)).1 (bool_no (by omega)).1 (bool_no (by omega)).1 (bool_no (by omega)).2 (bool_no (by omega)).2 (bool_no (by omega)).1 (bool_no (by omega)).2 (by omega) (by omega) t1 (by omega) (by omega) (even_form t4).1 (even_form t4).2 HC
      · exact exact_F_pos w a0 a1 a2 X Y Z P lo (lo + 1) T L a0l a0h a1l a1h hX hY hZ bX.1 bX.2 bY.1 bY.2 z1 z2 hP p1 p2 zp hL hleft l1 l2 l3 l4 (by omega) (bool_no (by omega)).1 (bool_no (by omega)).1 (bool_no (by omega)).1 (bool_no (by omega)).2 (bool_no (by omega)).2 (bool_no (by omega)).1 (bool_no (by omega)).2 (by omega) (by omega) t1 (by omega) (by omega) HC
#print axioms walk_NumExact
end Go.Proofs.Ytekjmkihmegnnaa
