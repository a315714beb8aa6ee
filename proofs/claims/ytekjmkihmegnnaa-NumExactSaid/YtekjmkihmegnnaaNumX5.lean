/- The law NumExact: some of the ways of its walk. -/
import Derived.Test.YtekjmkihmegnnaaNumW6
namespace Go.Proofs.Ytekjmkihmegnnaa
open Go Go.ChangeShapes Go.WideShapes Go.RowKit
set_option linter.unusedVariables false

set_option maxRecDepth 100000 in
set_option maxHeartbeats 1000000 in
theorem exact_F_pos (w : World) (a0 a1 a2 X Y Z P lo hi T L : Int) (a0l : -2147483648 ≤ a0) (a0h : a0 ≤ 2147483647) (a1l : -2147483648 ≤ a1) (a1h : a1 ≤ 2147483647) (hX : a0.tmod 33554432 = X) (hY : a1.tmod 33554432 = Y) (hZ : a2.tmod 1125899906842625 = Z)
    (x1 : -33554432 < X) (x2 : X < 33554432) (y1 : -33554432 < Y) (y2 : Y < 33554432) (z1 : -1125899906842624 ≤ Z) (z2 : Z ≤ 1125899906842624) (hP : X * Y = P) (p1 : -1125899906842624 ≤ P) (p2 : P ≤ 1125899906842624) (zp : 0 < Z) (hlow : lo * Z = L) (hleft : P - L = T) (l1 : -1125899906842624 ≤ lo) (l2 : lo ≤ 1125899906842624) (l3 : -2251799813685248 ≤ L) (l4 : L ≤ 2251799813685248) (hhl : hi - lo = 1) (b1 : (T == 0) = false) (b2 : (lo == hi) = false) (b3 : (hi == lo) = false) (b4 : (lo != hi) = true) (b5 : (hi != lo) = true) (HL : (L == P) = false) (HL2 : (L != P) = true) (h1b : -1125899906842624 ≤ hi) (h2b : hi ≤ 1125899906842624) (t1 : 0 < T) (t2 : T < Z) (t3 : Z < 2 * T) (HC : ExactCalls X Y Z P lo hi hi 0) :
    Calls Try.prog 7 #[.int .i32 a0, .int .i32 a1, .int .i64 a2] w fun e w' => e = .returned (.bool true) ∧ Below w.heap.size w w' := by
  obtain ⟨cm, ca, cs, c0, c1, c2⟩ := HC
  have CM := Lib.hid cm
  have CA := Lib.hid ca
  have CS := Lib.hid cs
  have C0 := Lib.hid c0
  have C1 := Lib.hid c1
  have C2 := Lib.hid c2
  clear cm ca cs c0 c1 c2
  go_enter Try.func7, Try.ntmps7
  go_wp2_with fail
  refine (CM.out _).mono ?_
  rintro e w1 ⟨rfl, hb1⟩
  go_wp2_with fail
  refine (CA.out _).mono ?_
  rintro e w' ⟨rfl, rfl⟩
  go_wp2_with fail
  refine (CS.out _).mono ?_
  rintro e w' ⟨rfl, rfl⟩
  go_wp2_with fail
  refine (C0.out _).mono ?_
  rintro e w2 ⟨rfl, hb2⟩
  go_wp2_with fail
  refine (C1.out _).mono ?_
  rintro e w3 ⟨rfl, hb3⟩
  go_wp2_with fail
  refine (C2.out _).mono ?_
  rintro e w4 ⟨rfl, hb4⟩
  go_wp2_with fail
  refine (awake_any _).mono ?_
  rintro e w5 ⟨rfl, hb5⟩
  go_wp2_with fail
  go_ret
  have s1 := hb1.size
  have s2 := hb2.size
  have s3 := hb3.size
  have s4 := hb4.size
  exact ⟨rfl, (((hb1.trans (hb2.mono (by omega))).trans (hb3.mono (by omega))).trans (hb4.mono (by omega))).trans (hb5.mono (by omega))⟩

set_option maxRecDepth 100000 in
set_option maxHeartbeats 1000000 in
theorem exact_F_neg (w : World) (a0 a1 a2 X Y Z P lo hi T L D U : Int) (a0l : -2147483648 ≤ a0) (a0h : a0 ≤ 2147483647) (a1l : -2147483648 ≤ a1) (a1h : a1 ≤ 2147483647) (hX : a0.tmod 33554432 = X) (hY : a1.tmod 33554432 = Y) (hZ : a2.tmod 1125899906842625 = Z)
    (x1 : -33554432 < X) (x2 : X < 33554432) (y1 : -33554432 < Y) (y2 : Y < 33554432) (z1 : -1125899906842624 ≤ Z) (z2 : Z ≤ 1125899906842624) (hP : X * Y = P) (p1 : -1125899906842624 ≤ P) (p2 : P ≤ 1125899906842624) (zn : Z < 0) (hD : -Z = D) (d1 : 1 ≤ D) (d2 : D ≤ 1125899906842624) (hlow : lo * Z = L) (hleft : P - L = U) (hU : -U = T) (u1 : -2251799813685248 ≤ U) (u2 : U ≤ 0) (l1 : -1125899906842624 ≤ lo) (l2 : lo ≤ 1125899906842624) (l3 : -2251799813685248 ≤ L) (l4 : L ≤ 2251799813685248) (hhl : hi - lo = 1) (b1 : (T == 0) = false) (b2 : (lo == hi) = false) (b3 : (hi == lo) = false) (b4 : (lo != hi) = true) (b5 : (hi != lo) = true) (HL : (L == P) = false) (HL2 : (L != P) = true) (h1b : -1125899906842624 ≤ hi) (h2b : hi ≤ 1125899906842624) (t1 : 0 < T) (t2 : T < D) (t3 : D < 2 * T) (HC : ExactCalls X Y Z P lo hi hi 0) :
    Calls Try.prog 7 #[.int .i32 a0, .int .i32 a1, .int .i64 a2] w fun e w' => e = .returned (.bool true) ∧ Below w.heap.size w w' := by
  obtain ⟨cm, ca, cs, c0, c1, c2⟩ := HC
  have CM := Lib.hid cm
  have CA := Lib.hid ca
  have CS := Lib.hid cs
  have C0 := Lib.hid c0
  have C1 := Lib.hid c1
  have C2 := Lib.hid c2
  clear cm ca cs c0 c1 c2
  go_enter Try.func7, Try.ntmps7
  go_wp2_with fail
  refine (CM.out _).mono ?_
  rintro e w1 ⟨rfl, hb1⟩
  go_wp2_with fail
  refine (CA.out _).mono ?_
  rintro e w' ⟨rfl, rfl⟩
  go_wp2_with fail
  refine (CS.out _).mono ?_
  rintro e w' ⟨rfl, rfl⟩
  go_wp2_with fail
  refine (C0.out _).mono ?_
  rintro e w2 ⟨rfl, hb2⟩
  go_wp2_with fail
  refine (C1.out _).mono ?_
  rintro e w3 ⟨rfl, hb3⟩
  go_wp2_with fail
  refine (C2.out _).mono ?_
  rintro e w4 ⟨rfl, hb4⟩
  go_wp2_with fail
  refine (awake_any _).mono ?_
  rintro e w5 ⟨rfl, hb5⟩
  go_wp2_with fail
  go_ret
  have s1 := hb1.size
  have s2 := hb2.size
  have s3 := hb3.size
  have s4 := hb4.size
  exact ⟨rfl, (((hb1.trans (hb2.mono (by omega))).trans (hb3.mono (by omega))).trans (hb4.mono (by omega))).trans (hb5.mono (by omega))⟩

end Go.Proofs.Ytekjmkihmegnnaa
