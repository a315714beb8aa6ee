/- The laws NumWhole and NumDivisors: the walks. -/
import Derived.Test.YtekjmkihmegnnaaLawKit
import Derived.Test.YtekjmkihmegnnaaNumS
namespace Go.Proofs.Ytekjmkihmegnnaa
open Go Go.ChangeShapes Go.WideShapes Go.RowKit
set_option linter.unusedVariables false

/-- A product divided by one of its factors. -/
theorem md_whole {x y m : Int} (hx : InR x) (hy : InR y) (h0 : y ≠ 0) (m0 : 0 ≤ m) (m2 : m ≤ 2) : mdV x y y m = x ∧ mdE x y y m = 0 ∧ mdV y x y m = x ∧ mdE y x y m = 0 := by
  have hd : 1 ≤ y.natAbs := by omega
  have q1 : x.natAbs * y.natAbs / y.natAbs = x.natAbs := Nat.mul_div_cancel _ hd
  have q2 : y.natAbs * x.natAbs / y.natAbs = x.natAbs := Nat.mul_div_cancel_left _ hd
  have r1 : x.natAbs * y.natAbs % y.natAbs = 0 := Nat.mul_mod_left _ _
  have r2 : y.natAbs * x.natAbs % y.natAbs = 0 := Nat.mul_mod_right _ _
  have n1 : sg (negB x y y) x.natAbs = x := by
    unfold sg negB
    rcases neg_cases x with ⟨h1, e1⟩ | ⟨h1, e1⟩ <;> rcases neg_cases y with ⟨h2, e2⟩ | ⟨h2, e2⟩ <;> rw [e1, e2] <;> simp <;> omega
  have n2 : sg (negB y x y) x.natAbs = x := by
    unfold sg negB
    rcases neg_cases x with ⟨h1, e1⟩ | ⟨h1, e1⟩ <;> rcases neg_cases y with ⟨h2, e2⟩ | ⟨h2, e2⟩ <;> rw [e1, e2] <;> simp <;> omega
  have e1 : mdR x y y m = x := by
    unfold mdR mdM awayB; rw [q1, r1, if_pos rfl]; simpa using n1
  have e2 : mdR y x y m = x := by
    unfold mdR mdM awayB; rw [q2, r2, if_pos rfl]; simpa using n2
  have hm : ¬ (m < 0 ∨ 2 < m) := by omega
  rw [mdV_in ⟨hx, hy, hy⟩ h0 hm, mdE_in ⟨hx, hy, hy⟩ h0 hm, mdV_in ⟨hy, hx, hy⟩ h0 hm, mdE_in ⟨hy, hx, hy⟩ h0 hm, e1, e2]
  exact ⟨okV_yes hx.1 hx.2, okE_yes hx.1 hx.2, okV_yes hx.1 hx.2, okE_yes hx.1 hx.2⟩
theorem tmod_in (a : Int) : InR (a.tmod 1125899906842625) := by
  have h1 := Int.tmod_lt_of_pos a (show (0 : Int) < 1125899906842625 by omega)
  have h2 : -1125899906842625 < a.tmod 1125899906842625 := by
    rcases Int.lt_or_le a 0 with h | h
    · have e : a = -(-a) := by omega
      rw [e, Int.neg_tmod]
      have := Int.tmod_lt_of_pos (-a) (show (0 : Int) < 1125899906842625 by omega)
      omega
    · have := Int.tmod_nonneg 1125899906842625 h
      omega
  exact ⟨by omega, by omega⟩

theorem walk_NumWhole (w : World) (a0 : Int) (w0 : (Lit.int .i64 a0).wf = true) (a1 : Int) (w1 : (Lit.int .i64 a1).wf = true) (a2 : Int) (w2 : (Lit.int .u8 a2).wf = true) :
    Calls Try.prog 9 #[.int .i64 a0, .int .i64 a1, .int .u8 a2] w fun e w' => e = .returned (.bool true) ∧ Below w.heap.size w w' := by
  have hb := bounds_u8 w2
  obtain ⟨h0, h1⟩ := hb
  have hx := tmod_in a0
  have hy := tmod_in a1
  clear w0 w1 w2
  by_cases hz : a1.tmod 1125899906842625 = 0
  · go_enter Try.func9, Try.ntmps9
    go_wp2_with fail
    refine (awake_any _).mono ?_
    rintro e w2 ⟨rfl, hb2⟩
    go_wp2_with fail
    go_ret
    exact ⟨rfl, hb2⟩
  · have hw := md_whole hx hy hz (m := a2 % 3) (by omega) (by omega)
    have hz' : (a1.tmod 1125899906842625 == 0) = false := by simpa using hz
    have c1 : ∀ W, Calls Try.prog 21 #[.int .i64 (a0.tmod 1125899906842625), .int .i64 (a1.tmod 1125899906842625), .int .i64 (a1.tmod 1125899906842625), .int .i64 (a2 % 3)] W fun e w' => e = .returned (.tuple #[.int .i64 (a0.tmod 1125899906842625), .int .i64 0]) ∧ Below W.heap.size W w' := fun W => by
      have h := num_muldiv (a0.tmod 1125899906842625) (a1.tmod 1125899906842625) (a1.tmod 1125899906842625) (a2 % 3) W
      rw [hw.1, hw.2.1] at h; exact h
    have c2 : ∀ W, Calls Try.prog 21 #[.int .i64 (a1.tmod 1125899906842625), .int .i64 (a0.tmod 1125899906842625), .int .i64 (a1.tmod 1125899906842625), .int .i64 (a2 % 3)] W fun e w' => e = .returned (.tuple #[.int .i64 (a0.tmod 1125899906842625), .int .i64 0]) ∧ Below W.heap.size W w' := fun W => by
      have h := num_muldiv (a1.tmod 1125899906842625) (a0.tmod 1125899906842625) (a1.tmod 1125899906842625) (a2 % 3) W
      rw [hw.2.2.1, hw.2.2.2] at h; exact h
    have C1 := Lib.hid c1
    have C2 := Lib.hid c2
    clear c1 c2 hw hx hy hz
    go_enter Try.func9, Try.ntmps9
    go_wp2_with fail
    refine (C1.out _).mono ?_
    rintro e w1 ⟨rfl, hb1⟩
    go_wp2_with fail
    refine (C2.out _).mono ?_
    rintro e w2 ⟨rfl, hb2⟩
    go_wp2_with fail
    refine (awake_any _).mono ?_
    rintro e w3 ⟨rfl, hb3⟩
    go_wp2_with fail
    go_ret
    have s1 := hb1.size
    have s2 := hb2.size
    exact ⟨rfl, (hb1.trans (hb2.mono (by omega))).trans (hb3.mono (by omega))⟩

theorem gcd_tmod (a b : Int) : a.tmod (Nat.gcd a.natAbs b.natAbs : Int) = 0 ∧ b.tmod (Nat.gcd a.natAbs b.natAbs : Int) = 0 :=
  ⟨Int.tmod_eq_zero_of_dvd (Int.ofNat_dvd_left.2 (Nat.gcd_dvd_left _ _)), Int.tmod_eq_zero_of_dvd (Int.ofNat_dvd_left.2 (Nat.gcd_dvd_right _ _))⟩
theorem dvd_gcd_int {a b d : Int} (ha : a.tmod d = 0) (hb : b.tmod d = 0) : d ∣ (Nat.gcd a.natAbs b.natAbs : Int) := by
  have h1 : d.natAbs ∣ a.natAbs := Int.natAbs_dvd_natAbs.2 (Int.dvd_of_tmod_eq_zero ha)
  have h2 : d.natAbs ∣ b.natAbs := Int.natAbs_dvd_natAbs.2 (Int.dvd_of_tmod_eq_zero hb)
  exact Int.ofNat_dvd_right.2 (Nat.dvd_gcd h1 h2)

/-- What Sqrt returns, with its square and the next one under names. -/
theorem sqrt_cases (n : Int) : (sqrtV n = 0 ∧ sqrtE n = 1 ∧ (n < 0 ∨ 1125899906842624 < n)) ∨
    (∃ r P P1 : Nat, sqrtV n = r ∧ sqrtE n = 0 ∧ (r : Int) * r = P ∧ ((r : Int) + 1) * ((r : Int) + 1) = P1 ∧ (r : Int) ≤ 33554432 ∧ (P : Int) ≤ n ∧ n < P1 ∧ (P1 : Int) ≤ 1125899973951489 ∧ n ≤ 1125899906842624) := by
  by_cases h : 0 ≤ n ∧ n ≤ 1125899906842624
  · refine Or.inr ?_
    obtain ⟨m, rfl⟩ : ∃ m : Nat, n = m := ⟨n.toNat, by omega⟩
    obtain ⟨h1, h2, h3⟩ := sqF_le (n := m) (by omega)
    have e1 : sqrtV (m : Int) = (sqF 26 0 m : Int) := if_pos h
    have e2 : sqrtE (m : Int) = 0 := if_pos h
    have h4 : (sqF 26 0 m + 1) * (sqF 26 0 m + 1) ≤ 33554433 * 33554433 := Nat.mul_le_mul (by omega) (by omega)
    refine ⟨sqF 26 0 m, sqF 26 0 m * sqF 26 0 m, (sqF 26 0 m + 1) * (sqF 26 0 m + 1), e1, e2, (Int.natCast_mul _ _).symm, by rw [Int.natCast_mul, Int.natCast_add]; rfl, by omega, by omega, by omega, by omega, by omega⟩
  · exact Or.inl ⟨if_neg h, if_neg h, by omega⟩

set_option maxHeartbeats 1000000 in
theorem walk_NumDivisors (w : World) (a0 : Int) (w0 : (Lit.int .i64 a0).wf = true) (a1 : Int) (w1 : (Lit.int .i64 a1).wf = true) (a2 : Int) (w2 : (Lit.int .i64 a2).wf = true) :
    Calls Try.prog 10 #[.int .i64 a0, .int .i64 a1, .int .i64 a2] w fun e w' => e = .returned (.bool true) ∧ Below w.heap.size w w' := by
  clear w0 w1 w2
  have hc := num_gcd a0 a1
  by_cases hin : InR a0 ∧ InR a1
  · rw [gcdV_yes hin.1.1 hin.1.2 hin.2.1 hin.2.2, gcdE_yes hin.1.1 hin.1.2 hin.2.1 hin.2.2] at hc
    obtain ⟨t1, t2⟩ := gcd_tmod a0 a1
    have t3 := fun h1 h2 => dvd_gcd_int (a := a0) (b := a1) (d := a2) h1 h2
    have t4 : Nat.gcd a0.natAbs a1.natAbs = 0 → a0 = 0 ∧ a1 = 0 := fun h => by
      have h1 := Nat.eq_zero_of_gcd_eq_zero_left h
      have h2 := Nat.eq_zero_of_gcd_eq_zero_right h
      exact ⟨by omega, by omega⟩
    have hb0 := hin.1
    have hb1 := hin.2
    have t5 : Nat.gcd a0.natAbs a1.natAbs ≤ 1125899906842624 := by
      by_cases hz : a0 = 0
      · subst hz
        rw [Int.natAbs_zero, Nat.gcd_zero_left]
        have := hb1.1; have := hb1.2; omega
      · have h1 := Nat.gcd_le_left a1.natAbs (show 0 < a0.natAbs by omega)
        have := hb0.1; have := hb0.2; omega
    obtain ⟨a01, a02⟩ := hb0
    obtain ⟨a11, a12⟩ := hb1
    generalize Nat.gcd a0.natAbs a1.natAbs = g at hc t1 t2 t3 t4 t5
    have C := Lib.hid hc
    have T3 := Lib.hid t3
    have T4 := Lib.hid t4
    clear hc t3 t4 hin
    by_cases hg : g = 0
    · obtain ⟨rfl, rfl⟩ := T4.out hg
      subst hg
      clear t1 t2 T3 T4
      by_cases hd : a2 = 0
      · subst hd
        go_enter Try.func10, Try.ntmps10
        go_wp2_with fail
        refine (C.out _).mono ?_
        rintro e w1 ⟨rfl, hb1⟩
        go_wp2_with fail
        refine (num_sqrt _ _).mono ?_
        rintro e w' ⟨rfl, rfl⟩
        rcases sqrt_cases 0 with ⟨hv, he, hs⟩ | ⟨r, P, P1, hv, he, hP, hP1, q1, q2, q3, q4, q5⟩
        · rw [hv, he]
          clear hv he
          rcases hs with hs | hs
          · go_wp2_with fail
            refine (awake_any _).mono ?_
            rintro e w3 ⟨rfl, hb3⟩
            go_wp2_with fail
            go_ret
            exact ⟨rfl, hb1.trans (hb3.mono hb1.size)⟩
          · have hs' : decide ((0 : Int) < 0) = false := decide_eq_false (by omega)
            go_wp2_with fail
            refine (awake_any _).mono ?_
            rintro e w3 ⟨rfl, hb3⟩
            go_wp2_with fail
            go_ret
            exact ⟨rfl, hb1.trans (hb3.mono hb1.size)⟩
        · rw [hv, he]
          clear hv he
          go_wp2_with fail
          refine (awake_any _).mono ?_
          rintro e w3 ⟨rfl, hb3⟩
          go_wp2_with fail
          go_ret
          exact ⟨rfl, hb1.trans (hb3.mono hb1.size)⟩
      · have hd' : (a2 == 0) = false := by simpa using hd
        have hd2 : (a2 != 0) = true := by simpa using hd
        have hd3 : (0 : Int).tmod a2 = 0 := Int.zero_tmod _
        go_enter Try.func10, Try.ntmps10
        go_wp2_with fail
        refine (C.out _).mono ?_
        rintro e w1 ⟨rfl, hb1⟩
        go_wp2_with fail
        refine (num_sqrt _ _).mono ?_
        rintro e w' ⟨rfl, rfl⟩
        rcases sqrt_cases 0 with ⟨hv, he, hs⟩ | ⟨r, P, P1, hv, he, hP, hP1, q1, q2, q3, q4, q5⟩
        · rw [hv, he]
          clear hv he
          rcases hs with hs | hs
          · go_wp2_with fail
            refine (awake_any _).mono ?_
            rintro e w3 ⟨rfl, hb3⟩
            go_wp2_with fail
            go_ret
            exact ⟨rfl, hb1.trans (hb3.mono hb1.size)⟩
          · have hs' : decide ((0 : Int) < 0) = false := decide_eq_false (by omega)
            go_wp2_with fail
            refine (awake_any _).mono ?_
            rintro e w3 ⟨rfl, hb3⟩
            go_wp2_with fail
            go_ret
            exact ⟨rfl, hb1.trans (hb3.mono hb1.size)⟩
        · rw [hv, he]
          clear hv he
          go_wp2_with fail
          refine (awake_any _).mono ?_
          rintro e w3 ⟨rfl, hb3⟩
          go_wp2_with fail
          go_ret
          exact ⟨rfl, hb1.trans (hb3.mono hb1.size)⟩
    · have hg1 : 1 ≤ (g : Int) := by omega
      clear hg T4
      by_cases hd : a2 = 0
      · subst hd
        clear T3
        go_enter Try.func10, Try.ntmps10
        go_wp2_with fail
        refine (C.out _).mono ?_
        rintro e w1 ⟨rfl, hb1⟩
        go_wp2_with fail
        refine (num_sqrt _ _).mono ?_
        rintro e w' ⟨rfl, rfl⟩
        rcases sqrt_cases a0 with ⟨hv, he, hs⟩ | ⟨r, P, P1, hv, he, hP, hP1, q1, q2, q3, q4, q5⟩
        · rw [hv, he]
          clear hv he
          rcases hs with hs | hs
          · go_wp2_with fail
            refine (awake_any _).mono ?_
            rintro e w3 ⟨rfl, hb3⟩
            go_wp2_with fail
            go_ret
            exact ⟨rfl, hb1.trans (hb3.mono hb1.size)⟩
          · have hs' : decide (a0 < 0) = false := decide_eq_false (by omega)
            go_wp2_with fail
            refine (awake_any _).mono ?_
            rintro e w3 ⟨rfl, hb3⟩
            go_wp2_with fail
            go_ret
            exact ⟨rfl, hb1.trans (hb3.mono hb1.size)⟩
        · rw [hv, he]
          clear hv he
          go_wp2_with fail
          refine (awake_any _).mono ?_
          rintro e w3 ⟨rfl, hb3⟩
          go_wp2_with fail
          go_ret
          exact ⟨rfl, hb1.trans (hb3.mono hb1.size)⟩
      · have hd' : (a2 == 0) = false := by simpa using hd
        have hd2 : (a2 != 0) = true := by simpa using hd
        by_cases e1 : a0.tmod a2 = 0
        · by_cases e2 : a1.tmod a2 = 0
          · have h3 := T3.out e1 e2
            have e3 : (g : Int).tmod a2 = 0 := Int.tmod_eq_zero_of_dvd h3
            have e4 : (g : Int) % a2 = 0 := Int.emod_eq_zero_of_dvd h3
            clear h3 T3
            go_enter Try.func10, Try.ntmps10
            go_wp2_with fail
            refine (C.out _).mono ?_
            rintro e w1 ⟨rfl, hb1⟩
            go_wp2_with fail
            refine (num_sqrt _ _).mono ?_
            rintro e w' ⟨rfl, rfl⟩
            rcases sqrt_cases a0 with ⟨hv, he, hs⟩ | ⟨r, P, P1, hv, he, hP, hP1, q1, q2, q3, q4, q5⟩
            · rw [hv, he]
              clear hv he
              rcases hs with hs | hs
              · go_wp2_with fail
                refine (awake_any _).mono ?_
                rintro e w3 ⟨rfl, hb3⟩
                go_wp2_with fail
                go_ret
                exact ⟨rfl, hb1.trans (hb3.mono hb1.size)⟩
              · have hs' : decide (a0 < 0) = false := decide_eq_false (by omega)
                go_wp2_with fail
                refine (awake_any _).mono ?_
                rintro e w3 ⟨rfl, hb3⟩
                go_wp2_with fail
                go_ret
                exact ⟨rfl, hb1.trans (hb3.mono hb1.size)⟩
            · rw [hv, he]
              clear hv he
              go_wp2_with fail
              refine (awake_any _).mono ?_
              rintro e w3 ⟨rfl, hb3⟩
              go_wp2_with fail
              go_ret
              exact ⟨rfl, hb1.trans (hb3.mono hb1.size)⟩
          · have e2' : (a1.tmod a2 == 0) = false := by simpa using e2
            clear e2 T3
            go_enter Try.func10, Try.ntmps10
            go_wp2_with fail
            refine (C.out _).mono ?_
            rintro e w1 ⟨rfl, hb1⟩
            go_wp2_with fail
            refine (num_sqrt _ _).mono ?_
            rintro e w' ⟨rfl, rfl⟩
            rcases sqrt_cases a0 with ⟨hv, he, hs⟩ | ⟨r, P, P1, hv, he, hP, hP1, q1, q2, q3, q4, q5⟩
            · rw [hv, he]
              clear hv he
              rcases hs with hs | hs
              · go_wp2_with fail
                refine (awake_any _).mono ?_
                rintro e w3 ⟨rfl, hb3⟩
                go_wp2_with fail
                go_ret
                exact ⟨rfl, hb1.trans (hb3.mono hb1.size)⟩
              · have hs' : decide (a0 < 0) = false := decide_eq_false (by omega)
                go_wp2_with fail
                refine (awake_any _).mono ?_
                rintro e w3 ⟨rfl, hb3⟩
                go_wp2_with fail
                go_ret
                exact ⟨rfl, hb1.trans (hb3.mono hb1.size)⟩
            · rw [hv, he]
              clear hv he
              go_wp2_with fail
              refine (awake_any _).mono ?_
              rintro e w3 ⟨rfl, hb3⟩
              go_wp2_with fail
              go_ret
              exact ⟨rfl, hb1.trans (hb3.mono hb1.size)⟩
        · have e1' : (a0.tmod a2 == 0) = false := by simpa using e1
          clear e1 T3
          go_enter Try.func10, Try.ntmps10
          go_wp2_with fail
          refine (C.out _).mono ?_
          rintro e w1 ⟨rfl, hb1⟩
          go_wp2_with fail
          refine (num_sqrt _ _).mono ?_
          rintro e w' ⟨rfl, rfl⟩
          rcases sqrt_cases a0 with ⟨hv, he, hs⟩ | ⟨r, P, P1, hv, he, hP, hP1, q1, q2, q3, q4, q5⟩
          · rw [hv, he]
            clear hv he
            rcases hs with hs | hs
            · go_wp2_with fail
              refine (awake_any _).mono ?_
              rintro e w3 ⟨rfl, hb3⟩
              go_wp2_with fail
              go_ret
              exact ⟨rfl, hb1.trans (hb3.mono hb1.size)⟩
            · have hs' : decide (a0 < 0) = false := decide_eq_false (by omega)
              go_wp2_with fail
              refine (awake_any _).mono ?_
              rintro e w3 ⟨rfl, hb3⟩
              go_wp2_with fail
              go_ret
              exact ⟨rfl, hb1.trans (hb3.mono hb1.size)⟩
          · rw [hv, he]
            clear hv he
            go_wp2_with fail
            refine (awake_any _).mono ?_
            rintro e w3 ⟨rfl, hb3⟩
            go_wp2_with fail
            go_ret
            exact ⟨rfl, hb1.trans (hb3.mono hb1.size)⟩
  · have hV : gcdE a0 a1 = 1 := if_neg hin
    have hc' : ∀ W, Calls Try.prog 23 #[.int .i64 a0, .int .i64 a1] W fun e w' => e = .returned (.tuple #[.int .i64 (gcdV a0 a1), .int .i64 1]) ∧ Below W.heap.size W w' := by rw [hV] at hc; exact hc
    have C := Lib.hid hc'
    clear hc hc' hV hin
    go_enter Try.func10, Try.ntmps10
    go_wp2_with fail
    refine (C.out _).mono ?_
    rintro e w1 ⟨rfl, hb1⟩
    go_wp2_with fail
    refine (num_sqrt _ _).mono ?_
    rintro e w' ⟨rfl, rfl⟩
    rcases sqrt_cases a0 with ⟨hv, he, hs⟩ | ⟨r, P, P1, hv, he, hP, hP1, q1, q2, q3, q4, q5⟩
    · rw [hv, he]
      clear hv he
      rcases hs with hs | hs
      · go_wp2_with fail
        refine (awake_any _).mono ?_
        rintro e w3 ⟨rfl, hb3⟩
        go_wp2_with fail
        go_ret
        exact ⟨rfl, hb1.trans (hb3.mono hb1.size)⟩
      · have hs' : decide (a0 < 0) = false := decide_eq_false (by omega)
        go_wp2_with fail
        refine (awake_any _).mono ?_
        rintro e w3 ⟨rfl, hb3⟩
        go_wp2_with fail
        go_ret
        exact ⟨rfl, hb1.trans (hb3.mono hb1.size)⟩
    · rw [hv, he]
      clear hv he
      go_wp2_with fail
      refine (awake_any _).mono ?_
      rintro e w3 ⟨rfl, hb3⟩
      go_wp2_with fail
      go_ret
      exact ⟨rfl, hb1.trans (hb3.mono hb1.size)⟩
#print axioms walk_NumWhole
#print axioms walk_NumDivisors
end Go.Proofs.Ytekjmkihmegnnaa
