/- Several texts in one: ZumK, ZumL, ShareC. -/
import Derived.Test.YtihklpkpcnahkaaPk2
import Derived.BigQuiet
import Derived.WalkSmall
import Derived.Deep.QuietTactic
import Derived.Test.YtihklpkpcnahkaaPk1
/- The contract of math/bits.Div64. -/
namespace Go.Proofs.Ytihklpkpcnahkaa.Num
open Go.ChangeShapes Go.WideShapes Go.RowKit
set_option linter.unusedVariables false

theorem and_low (a : Nat) (h : a < 18446744073709551616) : bits .and .u64 (a : Int) 4294967295 = ((a % 4294967296 : Nat) : Int) := by
  have h1 := bits_and_u64_nat a 4294967295 h (by omega)
  have e : a &&& 4294967295 = a % 4294967296 := Nat.and_two_pow_sub_one_eq_mod a 32
  rw [e] at h1
  exact h1
theorem or_parts {hi lo s : Nat} (hs : s ≤ 63) (h1 : hi * 2 ^ s < 18446744073709551616) (hl : lo < 18446744073709551616) :
    bits .or .u64 (IntKind.u64.wrap ((hi : Int) * 2 ^ s)) ((lo : Int) / 2 ^ (64 - s)) = ((hi * 2 ^ s + lo / 2 ^ (64 - s) : Nat) : Int) := by
  have e1 : IntKind.u64.wrap ((hi : Int) * 2 ^ s) = ((hi * 2 ^ s : Nat) : Int) := by
    have : ((hi * 2 ^ s : Nat) : Int) = (hi : Int) * 2 ^ s := by rw [Int.natCast_mul, Int.natCast_pow]; rfl
    rw [← this, IntKind.wrap_u64]; omega
  have e2 : (lo : Int) / 2 ^ (64 - s) = ((lo / 2 ^ (64 - s) : Nat) : Int) := by rw [Int.natCast_ediv, Int.natCast_pow]; rfl
  have hsplit : 2 ^ (64 - s) * 2 ^ s = 18446744073709551616 := by
    rw [← Nat.pow_add]; have : 64 - s + s = 64 := by omega
    rw [this]
  have hlo : lo / 2 ^ (64 - s) < 2 ^ s := by
    rw [Nat.div_lt_iff_lt_mul (Nat.two_pow_pos _), Nat.mul_comm, hsplit]; exact hl
  rw [e1, e2, bits_or_u64_nat _ _ h1 (by have := Nat.div_le_self lo (2 ^ (64 - s)); omega), Nat.mul_comm hi, Nat.two_pow_add_eq_or_of_lt hlo]
theorem wrap_low {lo s l : Nat} (h : l = lo * 2 ^ s % 18446744073709551616) : IntKind.u64.wrap ((lo : Int) * 2 ^ s) = l := by
  have : ((lo * 2 ^ s : Nat) : Int) = (lo : Int) * 2 ^ s := by rw [Int.natCast_mul, Int.natCast_pow]; rfl
  rw [← this, IntKind.wrap_u64]; omega
/-- What is left of u and the digit d behind the digit Q of the quotient, in one word. -/
theorem wrap_rest {u d Q Y R : Nat} (hQ : Q = (u * 4294967296 + d) / Y) (hR : R = (u * 4294967296 + d) % Y) (hlt : R < Y) (hY : Y < 18446744073709551616) :
    IntKind.u64.wrap (IntKind.u64.wrap (IntKind.u64.wrap ((u : Int) * 4294967296) + (d : Int)) - IntKind.u64.wrap ((Q : Int) * (Y : Int))) = R := by
  have e : Q * Y + R = u * 4294967296 + d := by rw [hQ, hR]; exact Nat.div_add_mod' _ _
  have e2 : ((Q * Y : Nat) : Int) = (Q : Int) * (Y : Int) := Int.natCast_mul _ _
  rw [← e2]
  simp only [IntKind.wrap_u64]
  omega
theorem ret_u2 {a b c d : Nat} (h : a = c) (k : b = d) : Ending.returned (.tuple #[.int .u64 (a : Int), .int .u64 (b : Int)]) = .returned (.tuple #[.int .u64 (c : Int), .int .u64 (d : Int)]) := by rw [h, k]

/-- The ways through one round of a loop. -/
theorem k_cases {u v v1 v0 d Q q r : Nat} (h : KAt u v1 Q q r) (hv : v = v1 * 4294967296 + v0) (h1 : 1 ≤ v1) (h0 : v0 < 4294967296) (hd : d < 4294967296) (hu : u < v) (hQ : Q = (u * 4294967296 + d) / v) :
    (q = Q ∧ q < 4294967296 ∧ q * v0 ≤ 4294967296 * r + d) ∨
    (∃ p, q = p + 1 ∧ (4294967296 ≤ p + 1 ∨ (p + 1 < 4294967296 ∧ 4294967296 * r + d < (p + 1) * v0)) ∧ ((p = Q ∧ 4294967296 ≤ r + v1) ∨ (KAt u v1 Q p (r + v1) ∧ r + v1 < 4294967296))) := by
  by_cases t1 : 4294967296 ≤ q
  · refine Or.inr ?_
    have hb := k_body h hv h1 hu hd hQ (Or.inl t1)
    obtain ⟨p, rfl⟩ : ∃ p, q = p + 1 := ⟨q - 1, by omega⟩
    refine ⟨p, rfl, Or.inl t1, ?_⟩
    by_cases t3 : 4294967296 ≤ r + v1
    · exact Or.inl ⟨k_break h hv h1 h0 hu hQ (by omega) t3, t3⟩
    · exact Or.inr ⟨k_next h (by omega) (by omega), by omega⟩
  · by_cases t2 : 4294967296 * r + d < q * v0
    · refine Or.inr ?_
      have hb := k_body h hv h1 hu hd hQ (Or.inr t2)
      obtain ⟨p, rfl⟩ : ∃ p, q = p + 1 := ⟨q - 1, by omega⟩
      refine ⟨p, rfl, Or.inr ⟨by omega, t2⟩, ?_⟩
      by_cases t3 : 4294967296 ≤ r + v1
      · exact Or.inl ⟨k_break h hv h1 h0 hu hQ (by omega) t3, t3⟩
      · exact Or.inr ⟨k_next h (by omega) (by omega), by omega⟩
    · exact Or.inl ⟨k_exit h hv h1 hQ (by omega), by omega, by omega⟩

theorem quo_rem {hi lo y s Y v1 v0 u l d1 d0 Q1 R Q0 R0 : Nat} (D : Div2 hi lo y s Y v1 v0 u l d1 d0 Q1 R Q0 R0) :
    Ending.returned (.tuple #[.int .u64 ((Q1 : Int) * 4294967296 + (Q0 : Int)), .int .u64 ((R0 : Int) / 2 ^ s)]) =
      .returned (.tuple #[.int .u64 (((hi * 18446744073709551616 + lo) / y : Nat) : Int), .int .u64 (((hi * 18446744073709551616 + lo) % y : Nat) : Int)]) := by
  rw [← D.quo, ← D.rem, Int.natCast_add, Int.natCast_mul, Int.natCast_ediv, Int.natCast_pow]
  rfl

set_option maxHeartbeats 2000000 in
set_option maxRecDepth 100000 in
theorem bits_div64 (hi lo y : Nat) (w : World) (hh : hi < y) (hy : y < 18446744073709551616) (hl : lo < 18446744073709551616) :
    Calls Try.prog 65 #[.int .u64 (hi : Int), .int .u64 (lo : Int), .int .u64 (y : Int)] w fun e w' => e = .returned (.tuple #[.int .u64 (((hi * 18446744073709551616 + lo) / y : Nat) : Int), .int .u64 (((hi * 18446744073709551616 + lo) % y : Nat) : Int)]) ∧ Below w.heap.size w w' := by
  have y1 : 1 ≤ (y : Int) := by omega
  have hh' : (hi : Int) < y := by omega
  by_cases h0 : hi = 0
  · subst h0
    have hll : (lo : Int) ≤ 18446744073709551615 := by omega
    rw [show ((0 : Nat) : Int) = 0 from rfl]
    clear hh'
    go_enter Try.func65, Try.ntmps65
    go_wp2_with fail
    go_quiet (fail)
    go_wp2_with fail
    go_ret2
    have hq : lo / y < 18446744073709551616 := Nat.lt_of_le_of_lt (Nat.div_le_self _ _) hl
    exact ⟨ret_u2 (by simp; exact Nat.mod_eq_of_lt hq) (by simp), below_drewN (Below.refl _ _) _⟩
  · have h1 : 1 ≤ (hi : Int) := by omega
    clear h0
    obtain ⟨s, hs2, hs3, hn1, hn2⟩ := norm_of (y := y) (by omega) hy
    obtain ⟨Y, v1, v0, u, l, d1, d0, Q1, R, Q0, R0, D⟩ := div2_of hh hl hs2 hn1 hn2
    have hlz : ∀ W, Calls Try.prog 71 #[.int .u64 (y : Int)] W fun e w' => e = .returned (.int .i64 (s : Int)) ∧ W = w' :=
      fun W => (Try.bits_LeadingZeros64 (y : Int) W (by omega) (by omega)).mono fun e w' k => ⟨by rw [k.1, ← hs3]; rfl, k.2.symm⟩
    have hY : (y : Int) * 2 ^ s = Y := by rw [D.hY, Int.natCast_mul, Int.natCast_pow]; rfl
    have b1 : (Y : Int) ≤ 18446744073709551615 := by have := D.Yhi; omega
    have hv1 : (Y : Int) / 4294967296 = v1 := by have := D.hv; have := D.v0lt; omega
    have hv0 : bits .and .u64 (Y : Int) 4294967295 = v0 := by rw [and_low _ D.Yhi]; have := D.hv; have := D.v0lt; omega
    have k1 : 2147483648 ≤ (v1 : Int) := by have := D.v1lo; omega
    have k2 : (v1 : Int) ≤ 4294967295 := by have := D.v1hi; omega
    have k3 : (v0 : Int) ≤ 4294967295 := by have := D.v0lt; omega
    have hU : bits .or .u64 (IntKind.u64.wrap ((hi : Int) * 2 ^ s)) ((lo : Int) / 2 ^ (64 - s)) = u := by
      rw [or_parts hs2 ?_ hl, ← D.hu]
      have := D.hu; have := D.ult; have := D.Yhi
      have := Nat.zero_le (lo / 2 ^ (64 - s))
      omega
    have hL : IntKind.u64.wrap ((lo : Int) * 2 ^ s) = l := wrap_low D.hl
    have b2 : (l : Int) ≤ 18446744073709551615 := by have := D.hl; omega
    have b3 : (u : Int) ≤ 18446744073709551615 := by have := D.ult; omega
    have hd1 : (l : Int) / 4294967296 = d1 := by have := D.hd; have := D.d0lt; omega
    have hd0 : bits .and .u64 (l : Int) 4294967295 = d0 := by rw [and_low _ (by omega)]; have := D.hd; have := D.d0lt; omega
    have k4 : (d1 : Int) ≤ 4294967295 := by have := D.d1lt; omega
    have k5 : (d0 : Int) ≤ 4294967295 := by have := D.d0lt; omega
    have hq1 : (Q1 : Int) ≤ 4294967295 := by have := k_lt D.ult D.d1lt D.hQ1; omega
    have hq0 : (Q0 : Int) ≤ 4294967295 := by have := k_lt D.Rlt D.d0lt D.hQ0; omega
    obtain ⟨qa, hqa⟩ : ∃ qa : Nat, (u : Int) / v1 = qa := ⟨u / v1, (Int.natCast_ediv _ _)⟩
    obtain ⟨ma, hma⟩ : ∃ ma : Nat, (qa : Int) * v1 = ma := ⟨qa * v1, (Int.natCast_mul _ _).symm⟩
    obtain ⟨ra, hra⟩ : ∃ ra : Nat, ra = u % v1 := ⟨_, rfl⟩
    have eqa : qa = u / v1 := by rw [← Int.natCast_ediv] at hqa; omega
    have ema : ma = qa * v1 := by rw [← Int.natCast_mul] at hma; omega
    have ema2 : ma + ra = u := by rw [ema, eqa, hra]; exact Nat.div_add_mod' _ _
    have hqa1 : (qa : Int) ≤ 18446744073709551615 := by have := Nat.div_le_self u v1; omega
    have hsub : (u : Int) - (ma : Int) = ra := by omega
    have hma1 : (ma : Int) ≤ 18446744073709551615 := by omega
    have hma2 : (ma : Int) ≤ u := by omega
    have hKa : KAt u v1 Q1 qa ra := by rw [eqa, hra]; exact k_start D.hv (by omega) D.v1hi D.d1lt D.hQ1
    have HKa := Lib.hid hKa
    clear hra eqa ema ema2 hKa
    obtain ⟨qb, hqb⟩ : ∃ qb : Nat, (R : Int) / v1 = qb := ⟨R / v1, (Int.natCast_ediv _ _)⟩
    obtain ⟨mb, hmb⟩ : ∃ mb : Nat, (qb : Int) * v1 = mb := ⟨qb * v1, (Int.natCast_mul _ _).symm⟩
    obtain ⟨rb, hrb⟩ : ∃ rb : Nat, rb = R % v1 := ⟨_, rfl⟩
    have eqb : qb = R / v1 := by rw [← Int.natCast_ediv] at hqb; omega
    have emb : mb = qb * v1 := by rw [← Int.natCast_mul] at hmb; omega
    have emb2 : mb + rb = R := by rw [emb, eqb, hrb]; exact Nat.div_add_mod' _ _
    have b4 : (R : Int) ≤ 18446744073709551615 := by have := D.Rlt; omega
    have hqb1 : (qb : Int) ≤ 18446744073709551615 := by have := Nat.div_le_self R v1; omega
    have hsubb : (R : Int) - (mb : Int) = rb := by omega
    have hmb1 : (mb : Int) ≤ 18446744073709551615 := by omega
    have hmb2 : (mb : Int) ≤ R := by omega
    have hKb : KAt R v1 Q0 qb rb := by rw [eqb, hrb]; exact k_start D.hv (by omega) D.v1hi D.d0lt D.hQ0
    have HKb := Lib.hid hKb
    clear hrb eqb emb emb2 hKb
    have HR2 := Lib.hid (wrap_rest D.hQ0 D.hR0 (by rw [D.hR0]; exact Nat.mod_lt _ (by omega)) D.Yhi)
    have HR := Lib.hid (wrap_rest D.hQ1 D.hR D.Rlt D.Yhi)
    have LZ := Lib.hid hlz
    clear hlz hn1 hn2 hs3
    go_enter Try.func65, Try.ntmps65
    go_wp2_with fail
    refine (LZ.out _).mono ?_
    rintro e w' ⟨rfl, rfl⟩
    go_wp2_with fail
    go_loop [15, 16] (fun x z => ∃ q r : Nat, x = .int .u64 q ∧ z = .int .u64 r ∧ KAt u v1 Q1 q r) (fun x _ => (intOf x).toNat)
    case atStart => exact ⟨_, _, rfl, rfl, HKa.out⟩
    case round =>
      obtain ⟨q, r, rfl, rfl, hk⟩ := hrel
      have hsm : (r : Int) < 4294967296 := by have := hk.small; omega
      have hqu : (q : Int) ≤ 18446744073709551615 := by
        have h1 := hk.sum
        have h2 : q * 1 ≤ q * v1 := Nat.mul_le_mul_left q (by omega)
        have h3 : u ≤ 18446744073709551615 := by have := D.ult; have := D.Yhi; omega
        omega
      rcases k_cases hk D.hv (by omega) D.v0lt D.d1lt D.ult D.hQ1 with ⟨x0, x1, x2⟩ | ⟨p, rfl, x1, x3⟩
      · obtain ⟨P, hP⟩ : ∃ P : Nat, (Q1 : Int) * v0 = P := ⟨Q1 * v0, (Int.natCast_mul _ _).symm⟩
        have hP1 : decide ((4294967296 : Int) * r + d1 < P) = false := decide_eq_false (by rw [x0] at x2; rw [← hP, ← Int.natCast_mul]; omega)
        have hP2 : (P : Int) ≤ 18446744073709551615 := by
          have h1 : Q1 * v0 ≤ 4294967295 * 4294967295 := Nat.mul_le_mul (by omega) (by omega)
          rw [← hP, ← Int.natCast_mul]; omega
        have x4 : decide ((4294967296 : Int) ≤ (Q1 : Int)) = false := decide_eq_false (by omega)
        rw [x0]
        clear hk x0 x1 x2 hqu
        have hr := HR.out
        go_wp2_with fail
        go_loop [18, 16] (fun x z => ∃ q r : Nat, x = .int .u64 q ∧ z = .int .u64 r ∧ KAt R v1 Q0 q r) (fun x _ => (intOf x).toNat)
        case atStart => exact ⟨_, _, rfl, rfl, HKb.out⟩
        case round =>
          obtain ⟨q, r, rfl, rfl, hk⟩ := hrel
          have hsm : (r : Int) < 4294967296 := by have := hk.small; omega
          have hqu : (q : Int) ≤ 18446744073709551615 := by
            have h1 := hk.sum
            have h2 : q * 1 ≤ q * v1 := Nat.mul_le_mul_left q (by omega)
            have h3 : R ≤ 18446744073709551615 := by have := D.Rlt; have := D.Yhi; omega
            omega
          rcases k_cases hk D.hv (by omega) D.v0lt D.d0lt D.Rlt D.hQ0 with ⟨x0, x1, x2⟩ | ⟨p, rfl, x1, x3⟩
          · obtain ⟨P, hP⟩ : ∃ P : Nat, (Q0 : Int) * v0 = P := ⟨Q0 * v0, (Int.natCast_mul _ _).symm⟩
            have hP1 : decide ((4294967296 : Int) * r + d0 < P) = false := decide_eq_false (by rw [x0] at x2; rw [← hP, ← Int.natCast_mul]; omega)
            have hP2 : (P : Int) ≤ 18446744073709551615 := by
              have h1 : Q0 * v0 ≤ 4294967295 * 4294967295 := Nat.mul_le_mul (by omega) (by omega)
              rw [← hP, ← Int.natCast_mul]; omega
            have x4 : decide ((4294967296 : Int) ≤ (Q0 : Int)) = false := decide_eq_false (by omega)
            rw [x0]
            clear hk x0 x1 x2 hqu
            have hr2 := HR2.out
            go_wp2_with fail
            go_ret2
            exact ⟨quo_rem D, Below.refl _ _⟩
          · have hqu' : (p : Int) + 1 ≤ 18446744073709551615 := by omega
            clear hqu hk
            rw [Int.natCast_add, Int.natCast_one]
            rcases x1 with x1 | ⟨x1, x2⟩
            · have x4 : 4294967296 ≤ (p : Int) + 1 := by omega
              clear x1
              rcases x3 with ⟨x5, x6⟩ | ⟨x5, x6⟩
              · subst x5
                have x7 : 4294967296 ≤ (r : Int) + v1 := by omega
                clear x6
                have hr2 := HR2.out
                go_wp2_with fail
                go_ret2
                exact ⟨quo_rem D, Below.refl _ _⟩
              · have x7 : decide ((4294967296 : Int) ≤ (r : Int) + v1) = false := decide_eq_false (by omega)
                have X5 := Lib.hid x5
                clear x6 x5
                go_wp2_with fail
                go_round
                case rel => exact ⟨p, r + v1, rfl, by go_num, X5.out⟩
                case measure => simp [intOf]
            · obtain ⟨P, hP⟩ : ∃ P : Nat, ((p : Int) + 1) * v0 = P := ⟨(p + 1) * v0, by rw [Int.natCast_mul, Int.natCast_add]; rfl⟩
              have hP1 : 4294967296 * (r : Int) + d0 < P := by rw [← hP, ← Int.natCast_one, ← Int.natCast_add, ← Int.natCast_mul]; omega
              have hP2 : (P : Int) ≤ 18446744073709551615 := by
                have h1 : (p + 1) * v0 ≤ 4294967295 * 4294967295 := Nat.mul_le_mul (by omega) (by omega)
                rw [← hP, ← Int.natCast_one, ← Int.natCast_add, ← Int.natCast_mul]; omega
              have x4 : (p : Int) + 1 < 4294967296 := by omega
              clear x1 x2
              rcases x3 with ⟨x5, x6⟩ | ⟨x5, x6⟩
              · subst x5
                have x7 : 4294967296 ≤ (r : Int) + v1 := by omega
                clear x6
                have hr2 := HR2.out
                go_wp2_with fail
                go_ret2
                exact ⟨quo_rem D, Below.refl _ _⟩
              · have x7 : decide ((4294967296 : Int) ≤ (r : Int) + v1) = false := decide_eq_false (by omega)
                have X5 := Lib.hid x5
                clear x6 x5
                go_wp2_with fail
                go_round
                case rel => exact ⟨p, r + v1, rfl, by go_num, X5.out⟩
                case measure => simp [intOf]
      · have hqu' : (p : Int) + 1 ≤ 18446744073709551615 := by omega
        clear hqu hk
        rw [Int.natCast_add, Int.natCast_one]
        rcases x1 with x1 | ⟨x1, x2⟩
        · have x4 : 4294967296 ≤ (p : Int) + 1 := by omega
          clear x1
          rcases x3 with ⟨x5, x6⟩ | ⟨x5, x6⟩
          · subst x5
            have x7 : 4294967296 ≤ (r : Int) + v1 := by omega
            clear x6
            have hr := HR.out
            go_wp2_with fail
            go_loop [18, 16] (fun x z => ∃ q r : Nat, x = .int .u64 q ∧ z = .int .u64 r ∧ KAt R v1 Q0 q r) (fun x _ => (intOf x).toNat)
            case atStart => exact ⟨_, _, rfl, rfl, HKb.out⟩
            case round =>
              obtain ⟨q, r, rfl, rfl, hk⟩ := hrel
              have hsm : (r : Int) < 4294967296 := by have := hk.small; omega
              have hqu : (q : Int) ≤ 18446744073709551615 := by
                have h1 := hk.sum
                have h2 : q * 1 ≤ q * v1 := Nat.mul_le_mul_left q (by omega)
                have h3 : R ≤ 18446744073709551615 := by have := D.Rlt; have := D.Yhi; omega
                omega
              rcases k_cases hk D.hv (by omega) D.v0lt D.d0lt D.Rlt D.hQ0 with ⟨x0, x1, x2⟩ | ⟨p, rfl, x1, x3⟩
              · obtain ⟨P, hP⟩ : ∃ P : Nat, (Q0 : Int) * v0 = P := ⟨Q0 * v0, (Int.natCast_mul _ _).symm⟩
                have hP1 : decide ((4294967296 : Int) * r + d0 < P) = false := decide_eq_false (by rw [x0] at x2; rw [← hP, ← Int.natCast_mul]; omega)
                have hP2 : (P : Int) ≤ 18446744073709551615 := by
                  have h1 : Q0 * v0 ≤ 4294967295 * 4294967295 := Nat.mul_le_mul (by omega) (by omega)
                  rw [← hP, ← Int.natCast_mul]; omega
                have x4 : decide ((4294967296 : Int) ≤ (Q0 : Int)) = false := decide_eq_false (by omega)
                rw [x0]
                clear hk x0 x1 x2 hqu
                have hr2 := HR2.out
                go_wp2_with fail
                go_ret2
                exact ⟨quo_rem D, Below.refl _ _⟩
              · have hqu' : (p : Int) + 1 ≤ 18446744073709551615 := by omega
                clear hqu hk
                rw [Int.natCast_add, Int.natCast_one]
                rcases x1 with x1 | ⟨x1, x2⟩
                · have x4 : 4294967296 ≤ (p : Int) + 1 := by omega
                  clear x1
                  rcases x3 with ⟨x5, x6⟩ | ⟨x5, x6⟩
                  · subst x5
                    have x7 : 4294967296 ≤ (r : Int) + v1 := by omega
                    clear x6
                    have hr2 := HR2.out
                    go_wp2_with fail
                    go_ret2
                    exact ⟨quo_rem D, Below.refl _ _⟩
                  · have x7 : decide ((4294967296 : Int) ≤ (r : Int) + v1) = false := decide_eq_false (by omega)
                    have X5 := Lib.hid x5
                    clear x6 x5
                    go_wp2_with fail
                    go_round
                    case rel => exact ⟨p, r + v1, rfl, by go_num, X5.out⟩
                    case measure => simp [intOf]
                · obtain ⟨P, hP⟩ : ∃ P : Nat, ((p : Int) + 1) * v0 = P := ⟨(p + 1) * v0, by rw [Int.natCast_mul, Int.natCast_add]; rfl⟩
                  have hP1 : 4294967296 * (r : Int) + d0 < P := by rw [← hP, ← Int.natCast_one, ← Int.natCast_add, ← Int.natCast_mul]; omega
                  have hP2 : (P : Int) ≤ 18446744073709551615 := by
                    have h1 : (p + 1) * v0 ≤ 4294967295 * 4294967295 := Nat.mul_le_mul (by omega) (by omega)
                    rw [← hP, ← Int.natCast_one, ← Int.natCast_add, ← Int.natCast_mul]; omega
                  have x4 : (p : Int) + 1 < 4294967296 := by omega
                  clear x1 x2
                  rcases x3 with ⟨x5, x6⟩ | ⟨x5, x6⟩
                  · subst x5
                    have x7 : 4294967296 ≤ (r : Int) + v1 := by omega
                    clear x6
                    have hr2 := HR2.out
                    go_wp2_with fail
                    go_ret2
                    exact ⟨quo_rem D, Below.refl _ _⟩
                  · have x7 : decide ((4294967296 : Int) ≤ (r : Int) + v1) = false := decide_eq_false (by omega)
                    have X5 := Lib.hid x5
                    clear x6 x5
                    go_wp2_with fail
                    go_round
                    case rel => exact ⟨p, r + v1, rfl, by go_num, X5.out⟩
                    case measure => simp [intOf]
          · have x7 : decide ((4294967296 : Int) ≤ (r : Int) + v1) = false := decide_eq_false (by omega)
            have X5 := Lib.hid x5
            clear x6 x5
            go_wp2_with fail
            go_round
            case rel => exact ⟨p, r + v1, rfl, by go_num, X5.out⟩
            case measure => simp [intOf]
        · obtain ⟨P, hP⟩ : ∃ P : Nat, ((p : Int) + 1) * v0 = P := ⟨(p + 1) * v0, by rw [Int.natCast_mul, Int.natCast_add]; rfl⟩
          have hP1 : 4294967296 * (r : Int) + d1 < P := by rw [← hP, ← Int.natCast_one, ← Int.natCast_add, ← Int.natCast_mul]; omega
          have hP2 : (P : Int) ≤ 18446744073709551615 := by
            have h1 : (p + 1) * v0 ≤ 4294967295 * 4294967295 := Nat.mul_le_mul (by omega) (by omega)
            rw [← hP, ← Int.natCast_one, ← Int.natCast_add, ← Int.natCast_mul]; omega
          have x4 : (p : Int) + 1 < 4294967296 := by omega
          clear x1 x2
          rcases x3 with ⟨x5, x6⟩ | ⟨x5, x6⟩
          · subst x5
            have x7 : 4294967296 ≤ (r : Int) + v1 := by omega
            clear x6
            have hr := HR.out
            go_wp2_with fail
            go_loop [18, 16] (fun x z => ∃ q r : Nat, x = .int .u64 q ∧ z = .int .u64 r ∧ KAt R v1 Q0 q r) (fun x _ => (intOf x).toNat)
            case atStart => exact ⟨_, _, rfl, rfl, HKb.out⟩
            case round =>
              obtain ⟨q, r, rfl, rfl, hk⟩ := hrel
              have hsm : (r : Int) < 4294967296 := by have := hk.small; omega
              have hqu : (q : Int) ≤ 18446744073709551615 := by
                have h1 := hk.sum
                have h2 : q * 1 ≤ q * v1 := Nat.mul_le_mul_left q (by omega)
                have h3 : R ≤ 18446744073709551615 := by have := D.Rlt; have := D.Yhi; omega
                omega
              rcases k_cases hk D.hv (by omega) D.v0lt D.d0lt D.Rlt D.hQ0 with ⟨x0, x1, x2⟩ | ⟨p, rfl, x1, x3⟩
              · obtain ⟨P, hP⟩ : ∃ P : Nat, (Q0 : Int) * v0 = P := ⟨Q0 * v0, (Int.natCast_mul _ _).symm⟩
                have hP1 : decide ((4294967296 : Int) * r + d0 < P) = false := decide_eq_false (by rw [x0] at x2; rw [← hP, ← Int.natCast_mul]; omega)
                have hP2 : (P : Int) ≤ 18446744073709551615 := by
                  have h1 : Q0 * v0 ≤ 4294967295 * 4294967295 := Nat.mul_le_mul (by omega) (by omega)
                  rw [← hP, ← Int.natCast_mul]; omega
                have x4 : decide ((4294967296 : Int) ≤ (Q0 : Int)) = false := decide_eq_false (by omega)
                rw [x0]
                clear hk x0 x1 x2 hqu
                have hr2 := HR2.out
                go_wp2_with fail
                go_ret2
                exact ⟨quo_rem D, Below.refl _ _⟩
              · have hqu' : (p : Int) + 1 ≤ 18446744073709551615 := by omega
                clear hqu hk
                rw [Int.natCast_add, Int.natCast_one]
                rcases x1 with x1 | ⟨x1, x2⟩
                · have x4 : 4294967296 ≤ (p : Int) + 1 := by omega
                  clear x1
                  rcases x3 with ⟨x5, x6⟩ | ⟨x5, x6⟩
                  · subst x5
                    have x7 : 4294967296 ≤ (r : Int) + v1 := by omega
                    clear x6
                    have hr2 := HR2.out
                    go_wp2_with fail
                    go_ret2
                    exact ⟨quo_rem D, Below.refl _ _⟩
                  · have x7 : decide ((4294967296 : Int) ≤ (r : Int) + v1) = false := decide_eq_false (by omega)
                    have X5 := Lib.hid x5
                    clear x6 x5
                    go_wp2_with fail
                    go_round
                    case rel => exact ⟨p, r + v1, rfl, by go_num, X5.out⟩
                    case measure => simp [intOf]
                · obtain ⟨P, hP⟩ : ∃ P : Nat, ((p : Int) + 1) * v0 = P := ⟨(p + 1) * v0, by rw [Int.natCast_mul, Int.natCast_add]; rfl⟩
                  have hP1 : 4294967296 * (r : Int) + d0 < P := by rw [← hP, ← Int.natCast_one, ← Int.natCast_add, ← Int.natCast_mul]; omega
                  have hP2 : (P : Int) ≤ 18446744073709551615 := by
                    have h1 : (p + 1) * v0 ≤ 4294967295 * 4294967295 := Nat.mul_le_mul (by omega) (by omega)
                    rw [← hP, ← Int.natCast_one, ← Int.natCast_add, ← Int.natCast_mul]; omega
                  have x4 : (p : Int) + 1 < 4294967296 := by omega
                  clear x1 x2
                  rcases x3 with ⟨x5, x6⟩ | ⟨x5, x6⟩
                  · subst x5
                    have x7 : 4294967296 ≤ (r : Int) + v1 := by omega
                    clear x6
                    have hr2 := HR2.out
                    go_wp2_with fail
                    go_ret2
                    exact ⟨quo_rem D, Below.refl _ _⟩
                  · have x7 : decide ((4294967296 : Int) ≤ (r : Int) + v1) = false := decide_eq_false (by omega)
                    have X5 := Lib.hid x5
                    clear x6 x5
                    go_wp2_with fail
                    go_round
                    case rel => exact ⟨p, r + v1, rfl, by go_num, X5.out⟩
                    case measure => simp [intOf]
          · have x7 : decide ((4294967296 : Int) ≤ (r : Int) + v1) = false := decide_eq_false (by omega)
            have X5 := Lib.hid x5
            clear x6 x5
            go_wp2_with fail
            go_round
            case rel => exact ⟨p, r + v1, rfl, by go_num, X5.out⟩
            case measure => simp [intOf]
end Go.Proofs.Ytihklpkpcnahkaa.Num
/- Contracts of num.grows and num.MulDiv. -/
namespace Go.Proofs.Ytihklpkpcnahkaa.Num
open Go.ChangeShapes Go.WideShapes Go.RowKit
set_option linter.unusedVariables false
set_option linter.unusedSimpArgs false

/-- Does rounding with mode m make the magnitude of a quotient greater? q and r: quotient and remainder of the magnitudes, d: the divisor's. -/
def awayB (q r d : Nat) (m : Int) (neg : Bool) : Bool :=
  if r = 0 then false else if m = 0 then neg else if m = 1 then !neg else decide (d < 2 * r ∨ (2 * r = d ∧ q % 2 = 1))
/-- Is the quotient negative? -/
def negB (a b c : Int) : Bool := ((decide (a < 0) != decide (b < 0)) != decide (c < 0))
def sg (neg : Bool) (m : Nat) : Int := if neg then -(m : Int) else m
/-- The rounded magnitude of a * b / c. -/
def mdM (a b c m : Int) : Nat :=
  a.natAbs * b.natAbs / c.natAbs + (if awayB (a.natAbs * b.natAbs / c.natAbs) (a.natAbs * b.natAbs % c.natAbs) c.natAbs m (negB a b c) then 1 else 0)
def mdR (a b c m : Int) : Int := sg (negB a b c) (mdM a b c m)
def mdV (a b c m : Int) : Int := if ¬ (InR a ∧ InR b ∧ InR c) then 0 else if c = 0 then 0 else if m < 0 ∨ 2 < m then 0 else okV (mdR a b c m)
def mdE (a b c m : Int) : Int := if ¬ (InR a ∧ InR b ∧ InR c) then 1 else if c = 0 then 16 else if m < 0 ∨ 2 < m then 17 else okE (mdR a b c m)

section
variable {a b c m : Int}
theorem mdV_out (h : ¬ (InR a ∧ InR b ∧ InR c)) : mdV a b c m = 0 := if_pos h
theorem mdE_out (h : ¬ (InR a ∧ InR b ∧ InR c)) : mdE a b c m = 1 := if_pos h
theorem mdV_zero (h : InR a ∧ InR b ∧ InR c) (hc : c = 0) : mdV a b c m = 0 := by unfold mdV; rw [if_neg (by simpa using h), if_pos hc]
theorem mdE_zero (h : InR a ∧ InR b ∧ InR c) (hc : c = 0) : mdE a b c m = 16 := by unfold mdE; rw [if_neg (by simpa using h), if_pos hc]
theorem mdV_kind (h : InR a ∧ InR b ∧ InR c) (hc : c ≠ 0) (hm : m < 0 ∨ 2 < m) : mdV a b c m = 0 := by unfold mdV; rw [if_neg (by simpa using h), if_neg hc, if_pos hm]
theorem mdE_kind (h : InR a ∧ InR b ∧ InR c) (hc : c ≠ 0) (hm : m < 0 ∨ 2 < m) : mdE a b c m = 17 := by unfold mdE; rw [if_neg (by simpa using h), if_neg hc, if_pos hm]
theorem mdV_in (h : InR a ∧ InR b ∧ InR c) (hc : c ≠ 0) (hm : ¬ (m < 0 ∨ 2 < m)) : mdV a b c m = okV (mdR a b c m) := by unfold mdV; rw [if_neg (by simpa using h), if_neg hc, if_neg hm]
theorem mdE_in (h : InR a ∧ InR b ∧ InR c) (hc : c ≠ 0) (hm : ¬ (m < 0 ∨ 2 < m)) : mdE a b c m = okE (mdR a b c m) := by unfold mdE; rw [if_neg (by simpa using h), if_neg hc, if_neg hm]
theorem sg_out {neg : Bool} {n : Nat} (h : 1125899906842624 < n) : sg neg n < -1125899906842624 ∨ 1125899906842624 < sg neg n := by
  unfold sg; cases neg <;> simp <;> omega
end

theorem num_grows (q r d : Nat) (m : Int) (neg : Bool) (w : World) (hr : r ≤ 1125899906842624) (hm0 : 0 ≤ m) (hm2 : m ≤ 2) :
    Calls Try.prog 66 #[.int .u64 (q : Int), .int .u64 (r : Int), .int .u64 (d : Int), .int .i64 m, .bool neg] w fun e w' => e = .returned (.bool (awayB q r d m neg)) ∧ w = w' := by
  by_cases h0 : r = 0
  · have e : awayB q r d m neg = false := if_pos h0
    rw [e]; clear e
    subst h0
    go_enter Try.func66, Try.ntmps66
    go_wp2
    go_ret
    exact ⟨rfl, rfl⟩
  · have h1 : 1 ≤ (r : Int) := by omega
    have hrr : (r : Int) ≤ 1125899906842624 := by omega
    by_cases e0 : m = 0
    · have e : awayB q r d m neg = neg := by unfold awayB; rw [if_neg h0, if_pos e0]
      rw [e]; clear e h0
      subst e0
      go_enter Try.func66, Try.ntmps66
      go_wp2
      go_ret
      exact ⟨rfl, rfl⟩
    · by_cases e1 : m = 1
      · have e : awayB q r d m neg = !neg := by unfold awayB; rw [if_neg h0, if_neg e0, if_pos e1]
        rw [e]; clear e h0 e0
        subst e1
        go_enter Try.func66, Try.ntmps66
        go_wp2
        go_ret
        exact ⟨rfl, rfl⟩
      · have e : awayB q r d m neg = decide (d < 2 * r ∨ (2 * r = d ∧ q % 2 = 1)) := by unfold awayB; rw [if_neg h0, if_neg e0, if_neg e1]
        rw [e]; clear e
        obtain rfl : m = 2 := by omega
        clear e0 e1 h0 hm0 hm2
        rcases Nat.lt_or_ge d (2 * r) with hlt | hge
        · have hl : (d : Int) < 2 * r := by omega
          have e : decide (d < 2 * r ∨ (2 * r = d ∧ q % 2 = 1)) = true := decide_eq_true (Or.inl hlt)
          rw [e]; clear e hlt
          go_enter Try.func66, Try.ntmps66
          go_wp2
          go_ret
          exact ⟨rfl, rfl⟩
        · by_cases heq : 2 * r = d
          · have e : decide (d < 2 * r ∨ (2 * r = d ∧ q % 2 = 1)) = ((q : Int) % 2 == 1) := by
              rw [Bool.eq_iff_iff]; simp; omega
            rw [e]; clear e hge
            subst heq
            go_enter Try.func66, Try.ntmps66
            go_wp2
            go_ret
            exact ⟨rfl, rfl⟩
          · have e : decide (d < 2 * r ∨ (2 * r = d ∧ q % 2 = 1)) = false := decide_eq_false (by omega)
            rw [e]; clear e
            have hl : 2 * (r : Int) < d := by omega
            have hl2 : decide ((d : Int) < 2 * r) = false := decide_eq_false (by omega)
            clear hge heq
            go_enter Try.func66, Try.ntmps66
            go_wp2
            go_ret
            exact ⟨rfl, rfl⟩

/-- Quotient and remainder of the magnitudes. -/
def qq (a b : Int) (d : Nat) : Nat := a.natAbs * b.natAbs / d
def rr (a b : Int) (d : Nat) : Nat := a.natAbs * b.natAbs % d
theorem words_of (a b : Int) : mulHi a b * 18446744073709551616 + mulLo a b = a.natAbs * b.natAbs := by unfold mulHi mulLo; omega
theorem div64_prod (a b : Int) (d : Nat) (w : World) (h : mulHi a b < d) (hd : d ≤ 1125899906842624) :
    Calls Try.prog 65 #[.int .u64 (mulHi a b : Int), .int .u64 (mulLo a b : Int), .int .u64 (d : Int)] w fun e w' => e = .returned (.tuple #[.int .u64 (qq a b d : Int), .int .u64 (rr a b d : Int)]) ∧ Below w.heap.size w w' := by
  have h1 := bits_div64 (mulHi a b) (mulLo a b) d w h (by omega) (mulLo_lt a b)
  rw [words_of] at h1
  exact h1
theorem num_signed (x : Int) (m : Nat) (neg : Bool) (w : World) (hx : x = m) (hm : m < 18446744073709551616) :
    Calls Try.prog 67 #[.int .u64 x, .bool neg] w fun e w' => e = .returned (.tuple #[.int .i64 (okV (sg neg m)), .int .i64 (okE (sg neg m))]) ∧ w = w' := by
  subst hx
  cases neg
  · exact num_signed_pos m w hm
  · exact num_signed_neg m w hm
theorem num_signed_q (a b : Int) (d : Nat) (neg : Bool) (w : World) (h : (qq a b d : Int) ≤ 1125899906842624) :
    Calls Try.prog 67 #[.int .u64 (qq a b d : Int), .bool neg] w fun e w' => e = .returned (.tuple #[.int .i64 (okV (sg neg (qq a b d))), .int .i64 (okE (sg neg (qq a b d)))]) ∧ w = w' := num_signed _ _ neg w rfl (by omega)
theorem num_signed_q1 (a b : Int) (d : Nat) (neg : Bool) (w : World) (h : (qq a b d : Int) ≤ 1125899906842624) :
    Calls Try.prog 67 #[.int .u64 ((qq a b d : Int) + 1), .bool neg] w fun e w' => e = .returned (.tuple #[.int .i64 (okV (sg neg (qq a b d + 1))), .int .i64 (okE (sg neg (qq a b d + 1)))]) ∧ w = w' := num_signed _ (qq a b d + 1) neg w (by omega) (by omega)
theorem mdR_of {a b c m : Int} {neg g : Bool} {n : Nat} (hn : negB a b c = neg) (hg : awayB (qq a b c.natAbs) (rr a b c.natAbs) c.natAbs m neg = g) (h : n = qq a b c.natAbs + if g then 1 else 0) : mdR a b c m = sg neg n := by
  unfold mdR mdM; rw [hn]
  have : awayB (a.natAbs * b.natAbs / c.natAbs) (a.natAbs * b.natAbs % c.natAbs) c.natAbs m neg = g := hg
  rw [this, h]; rfl
theorem qq_big {a b : Int} {d : Nat} (hd : 1 ≤ d) (h : d ≤ mulHi a b) : 1125899906842624 < qq a b d := by
  unfold qq
  have h1 := words_of a b
  have h2 : 18446744073709551616 ≤ a.natAbs * b.natAbs / d := by
    rw [Nat.le_div_iff_mul_le (by omega)]; omega
  omega
theorem mdR_big {a b c m : Int} (h : 1125899906842624 < qq a b c.natAbs) : mdR a b c m < -1125899906842624 ∨ 1125899906842624 < mdR a b c m := by
  apply sg_out
  unfold mdM
  have : qq a b c.natAbs = a.natAbs * b.natAbs / c.natAbs := rfl
  omega
theorem rr_lt (a b : Int) {d : Nat} (hd : 1 ≤ d) : rr a b d < d := Nat.mod_lt _ hd

set_option maxHeartbeats 1000000 in
theorem num_muldiv (a b c m : Int) (w : World) :
    Calls Try.prog 59 #[.int .i64 a, .int .i64 b, .int .i64 c, .int .i64 m] w fun e w' => e = .returned (.tuple #[.int .i64 (mdV a b c m), .int .i64 (mdE a b c m)]) ∧ Below w.heap.size w w' := by
  rcases inB_cases a with ⟨ha, a1, a2⟩ | ⟨ha, na⟩
  rotate_left
  · rw [mdV_out (fun k => na k.1), mdE_out (fun k => na k.1)]
    clear na
    go_enter Try.func59, Try.ntmps59
    go_wp2_with (go_at_call 45; refine (num_in _ _).mono ?_; rintro e w' ⟨rfl, rfl⟩)
    go_ret2
    exact ⟨rfl, Below.refl _ _⟩
  rcases inB_cases b with ⟨hb, b1, b2⟩ | ⟨hb, nb⟩
  rotate_left
  · rw [mdV_out (fun k => nb k.2.1), mdE_out (fun k => nb k.2.1)]
    clear nb
    go_enter Try.func59, Try.ntmps59
    go_wp2_with (go_at_call 45; refine (num_in _ _).mono ?_; rintro e w' ⟨rfl, rfl⟩)
    go_ret2
    exact ⟨rfl, Below.refl _ _⟩
  rcases inB_cases c with ⟨hc, c1, c2⟩ | ⟨hc, nc⟩
  rotate_left
  · rw [mdV_out (fun k => nc k.2.2), mdE_out (fun k => nc k.2.2)]
    clear nc
    go_enter Try.func59, Try.ntmps59
    go_wp2_with (go_at_call 45; refine (num_in _ _).mono ?_; rintro e w' ⟨rfl, rfl⟩)
    go_ret2
    exact ⟨rfl, Below.refl _ _⟩
  have hin : InR a ∧ InR b ∧ InR c := ⟨⟨a1, a2⟩, ⟨b1, b2⟩, ⟨c1, c2⟩⟩
  by_cases hz : c = 0
  · rw [mdV_zero hin hz, mdE_zero hin hz]
    subst hz
    clear hin
    go_enter Try.func59, Try.ntmps59
    go_wp2_with (go_at_call 45; refine (num_in _ _).mono ?_; rintro e w' ⟨rfl, rfl⟩)
    go_ret2
    exact ⟨rfl, Below.refl _ _⟩
  have hz' : (c == 0) = false := by simpa using hz
  by_cases hm : m < 0 ∨ 2 < m
  · rw [mdV_kind hin hz hm, mdE_kind hin hz hm]
    clear hin hz
    rcases hm with hm | hm
    · go_enter Try.func59, Try.ntmps59
      go_wp2_with (go_at_call 45; refine (num_in _ _).mono ?_; rintro e w' ⟨rfl, rfl⟩)
      go_ret2
      exact ⟨rfl, Below.refl _ _⟩
    · have hm' : decide (m < 0) = false := decide_eq_false (by omega)
      go_enter Try.func59, Try.ntmps59
      go_wp2_with (go_at_call 45; refine (num_in _ _).mono ?_; rintro e w' ⟨rfl, rfl⟩)
      go_ret2
      exact ⟨rfl, Below.refl _ _⟩
  have hm0 : 0 ≤ m := by omega
  have hm2 : m ≤ 2 := by omega
  rw [mdV_in hin hz hm, mdE_in hin hz hm]
  have hd1 : 1 ≤ c.natAbs := by omega
  have hd2 : c.natAbs ≤ 1125899906842624 := by omega
  have HD1 := Lib.hid hd1
  clear hin hz hm
  by_cases hov : c.natAbs ≤ mulHi a b
  · have big := mdR_big (m := m) (qq_big hd1 hov)
    have hov' : (c.natAbs : Int) ≤ mulHi a b := by omega
    rw [okV_no big, okE_no big]
    clear big hov
    go_enter Try.func59, Try.ntmps59
    go_wp2_with (first | (go_at_call 45; refine (num_in _ _).mono ?_; rintro e w' ⟨rfl, rfl⟩) | (go_at_call 63; refine (num_product _ _ _ a1 a2 b1 b2).mono ?_; rintro e w1 ⟨rfl, hb1⟩) | (go_at_call 64; refine (num_magnitude _ _ c1 c2).mono ?_; rintro e w' ⟨rfl, rfl⟩))
    go_ret2
    exact ⟨rfl, hb1.alloc hb1.size _⟩
  have hov' : (mulHi a b : Int) < c.natAbs := by omega
  have HOV := Lib.hid (show mulHi a b < c.natAbs by omega)
  clear hov
  by_cases hbig : 1125899906842624 < qq a b c.natAbs
  · have big := mdR_big (m := m) hbig
    have hbig' : 1125899906842624 < (qq a b c.natAbs : Int) := by omega
    rw [okV_no big, okE_no big]
    clear big hbig
    go_enter Try.func59, Try.ntmps59
    go_wp2_with (first | (go_at_call 45; refine (num_in _ _).mono ?_; rintro e w' ⟨rfl, rfl⟩) | (go_at_call 63; refine (num_product _ _ _ a1 a2 b1 b2).mono ?_; rintro e w1 ⟨rfl, hb1⟩) | (go_at_call 64; refine (num_magnitude _ _ c1 c2).mono ?_; rintro e w' ⟨rfl, rfl⟩) | (go_at_call 65; refine (div64_prod _ _ _ _ HOV.out hd2).mono ?_; rintro e w2 ⟨rfl, hb2⟩))
    go_ret2
    exact ⟨rfl, (hb1.alloc hb1.size _).trans (hb2.mono (by have := hb1.size; simp; omega))⟩
  have hbig1 : (qq a b c.natAbs : Int) ≤ 1125899906842624 := by omega
  have hbig2 : decide (1125899906842624 < (qq a b c.natAbs : Int)) = false := decide_eq_false (by omega)
  have hrr : rr a b c.natAbs ≤ 1125899906842624 := by have := rr_lt a b hd1; omega
  have HRR := Lib.hid hrr
  clear hbig hrr hd1
  obtain ⟨x, y, z, da, db, dc, hn⟩ : ∃ x y z : Bool, decide (a < 0) = x ∧ decide (b < 0) = y ∧ decide (c < 0) = z ∧ negB a b c = ((x != y) != z) := ⟨_, _, _, rfl, rfl, rfl, rfl⟩
  obtain ⟨g, hg⟩ : ∃ g, awayB (qq a b c.natAbs) (rr a b c.natAbs) c.natAbs m ((x != y) != z) = g := ⟨_, rfl⟩
  rw [mdR_of hn hg rfl]
  clear hn
  cases x
  all_goals cases y
  all_goals cases z
  all_goals cases g
  all_goals simp only [bne_self_eq_false, Bool.true_bne, Bool.false_bne, Bool.not_true, Bool.not_false, Bool.bne_true, Bool.bne_false, Bool.false_eq_true, if_true, if_false, Nat.add_zero] at hg ⊢
  all_goals
    go_enter Try.func59, Try.ntmps59
    go_wp2_with (first | (go_at_call 45; refine (num_in _ _).mono ?_; rintro e w' ⟨rfl, rfl⟩) | (go_at_call 63; refine (num_product _ _ _ a1 a2 b1 b2).mono ?_; rintro e w1 ⟨rfl, hb1⟩) | (go_at_call 64; refine (num_magnitude _ _ c1 c2).mono ?_; rintro e w' ⟨rfl, rfl⟩) | (go_at_call 65; refine (div64_prod _ _ _ _ HOV.out hd2).mono ?_; rintro e w2 ⟨rfl, hb2⟩) | (go_at_call 66; refine (num_grows _ _ _ _ _ _ HRR.out hm0 hm2).mono ?_; rintro e w' ⟨rfl, rfl⟩) | (go_at_call 67; first | ((with_reducible refine (num_signed_q a b c.natAbs _ _ hbig1).mono ?_); rintro e w' ⟨rfl, rfl⟩) | ((with_reducible refine (num_signed_q1 a b c.natAbs _ _ hbig1).mono ?_); rintro e w' ⟨rfl, rfl⟩)))
    go_ret2
    exact ⟨rfl, (hb1.alloc hb1.size _).trans (hb2.mono (by have := hb1.size; simp; omega))⟩
end Go.Proofs.Ytihklpkpcnahkaa.Num
/- share.inRange, share.divisor, share.divide. -/
namespace Go.Proofs.Ytihklpkpcnahkaa.Share
open Go.ChangeShapes Go.WideShapes Go.RowKit Go.Lib Go.Proofs.Ytihklpkpcnahkaa.Mem
open Go.Proofs.Ytihklpkpcnahkaa.Num (num_sum num_muldiv sumV sumE sumV_all sumE_all sumE_long sumV_long tot tot_snoc allIn inB inB_yes okV okE okV_yes okE_yes okV_no okE_no Holds mdV mdE mdV_in mdR mdM sg negB awayB InR inr_mk)
set_option linter.unusedVariables false
set_option maxRecDepth 100000

theorem cl_holds {w : World} {A : Option Addr} {zs : List Int} (h : Cl eI w A zs) : Holds w w.heap.size A zs := fun k z hz => h k z hz
theorem tot_sumK (zs : List Int) : ∀ k, k ≤ zs.length → tot (zs.take k) = sumK zs k := by
  intro k
  induction k with
  | zero => intro _; rfl
  | succ k ih =>
    intro hk
    have hz : zs[k]? = some zs[k] := List.getElem?_eq_getElem (by omega)
    rw [take_snoc_of hz, tot_snoc, ih (by omega), sumK_succ hz]
theorem tot_all (zs : List Int) : tot zs = sumK zs zs.length := by
  have := tot_sumK zs zs.length (Nat.le_refl _)
  rwa [List.take_length] at this
theorem allIn_of {zs : List Int} (h : ∀ z ∈ zs, 0 ≤ z ∧ z ≤ mx) : allIn zs = true := by
  unfold allIn
  rw [List.all_eq_true]
  intro z hz
  have := h z hz
  exact inB_yes (by omega) this.2
/-- What the products are divided by. -/
def dvV (t : Int) (ws : List Int) : Int := if errS t ws = 0 then if sumK ws ws.length = 0 then 1 else sumK ws ws.length else 0
theorem errS_t {t : Int} {ws : List Int} (h : inW t = false) : errS t ws = 1 := if_pos h
theorem errS_0 {t : Int} {ws : List Int} (h : inW t = true) (h0 : ws.length = 0) : errS t ws = 10 := by unfold errS; rw [if_neg (by rw [h]; simp), if_pos h0]
theorem errS_n {t : Int} {ws : List Int} (h : inW t = true) (h0 : 512 < ws.length) : errS t ws = 8 := by unfold errS; rw [if_neg (by rw [h]; simp), if_neg (by omega), if_pos h0]
theorem errS_w {t : Int} {ws : List Int} (h : inW t = true) (h0 : 0 < ws.length) (h1 : ws.length ≤ 512) {k : Nat} {z : Int} (hz : ws[k]? = some z) (hi : inW z = false) : errS t ws = 1 := by
  unfold errS
  have : ws.all inW = false := all_not hz hi
  rw [if_neg (by rw [h]; simp), if_neg (by omega), if_neg (by omega), if_pos this]
theorem errS_s {t : Int} {ws : List Int} (h : inW t = true) (h0 : 0 < ws.length) (h1 : ws.length ≤ 512) (ha : ∀ z ∈ ws, 0 ≤ z ∧ z ≤ mx) : errS t ws = if mx < sumK ws ws.length then 2 else if sumK ws ws.length = 0 ∧ t ≠ 0 then 16 else 0 := by
  unfold errS
  rw [if_neg (by rw [h]; simp), if_neg (by omega), if_neg (by omega), if_neg (by rw [all_in.mpr ha]; simp)]
theorem two_is {a b c d : Int} (h : a = c) (k : b = d) : Ending.returned (.tuple #[.int .i64 a, .int .i64 b]) = .returned (.tuple #[.int .i64 c, .int .i64 d]) := by rw [h, k]

theorem share_in (n : Int) (w : World) : Calls Try.prog 58 #[.int .i64 n] w fun e w' => e = .returned (.bool (inW n)) ∧ w = w' := by
  rcases Int.lt_or_le n 0 with h | h
  · have h1 : inW n = false := inW_no.mpr (Or.inl h)
    have h2 : ¬ 0 ≤ n := by omega
    rw [h1]
    go_enter Try.func58, Try.ntmps58
    go_wp2_with fail
    go_ret
    exact ⟨rfl, rfl⟩
  · rcases Int.lt_or_le mx n with k | k
    · have h1 : inW n = false := inW_no.mpr (Or.inr k)
      have h2 : 0 ≤ n := h
      have h3 : ¬ n ≤ 1125899906842624 := by have hm : mx = 1125899906842624 := rfl; omega
      rw [h1]
      go_enter Try.func58, Try.ntmps58
      go_wp2_with fail
      go_ret
      exact ⟨rfl, rfl⟩
    · have h1 : inW n = true := inW_iff.mpr ⟨h, k⟩
      have h2 : 0 ≤ n := h
      have h3 : n ≤ 1125899906842624 := k
      rw [h1]
      go_enter Try.func58, Try.ntmps58
      go_wp2_with fail
      go_ret
      exact ⟨rfl, rfl⟩

set_option maxHeartbeats 1600000 in
theorem share_divisor (t : Int) (ws : List Int) (A : Option Addr) (c : Nat) (w : World) (hS : Cl eI w A ws) (hl : ws.length ≤ 9223372036854775807) :
    Calls Try.prog 48 #[.int .i64 t, .slice A ws.length c] w fun e w' => e = .returned (.tuple #[.int .i64 (dvV t ws), .int .i64 (errS t ws : Int)]) ∧ Below w.heap.size w w' := by
  have HIN := Lib.hid (fun W => share_in t W)
  obtain ⟨N, hN⟩ : ∃ N, ws.length = N := ⟨_, rfl⟩
  have HN := Lib.hid hN
  have HSUM := Lib.hid (fun W (h : Below w.heap.size w W) => num_sum ws A c W (cl_holds (hS.on h)) hl)
  have HS := Lib.hid hS
  rw [hN] at hl HSUM ⊢
  clear hS hN
  cases hi : inW t with
  | false =>
    have HD : Hid (dvV t ws = 0 ∧ (errS t ws : Int) = 1) := by
      have := errS_t (ws := ws) hi
      refine ⟨by unfold dvV; rw [this]; rfl, by rw [this]; rfl⟩
    rw [hi] at HIN
    clear hi
    go_enter Try.func48, Try.ntmps48
    go_wp2_with fail
    refine (HIN.out _).mono ?_
    rintro e w' ⟨rfl, rfl⟩
    go_wp2_with fail
    go_ret2
    exact ⟨two_is HD.out.1.symm HD.out.2.symm, Below.refl _ _⟩
  | true =>
    have HI := Lib.hid hi
    rw [hi] at HIN
    clear hi
    rcases Nat.eq_zero_or_pos N with rfl | hpos
    · have HD : Hid (dvV t ws = 0 ∧ (errS t ws : Int) = 10) := by
        have := errS_0 HI.out HN.out
        refine ⟨by unfold dvV; rw [this]; rfl, by rw [this]; rfl⟩
      go_enter Try.func48, Try.ntmps48
      go_wp2_with fail
      refine (HIN.out _).mono ?_
      rintro e w' ⟨rfl, rfl⟩
      go_wp2_with fail
      go_ret2
      exact ⟨two_is HD.out.1.symm HD.out.2.symm, Below.refl _ _⟩
    · rcases Nat.lt_or_ge 512 N with hbig | hle
      · have HD : Hid (dvV t ws = 0 ∧ (errS t ws : Int) = 8) := by
          have := errS_n HI.out (by rw [HN.out]; exact hbig)
          refine ⟨by unfold dvV; rw [this]; rfl, by rw [this]; rfl⟩
        have b1 : ¬ N = 0 := by omega
        have b2 : (512 : Int) < (N : Int) := by omega
        have b3 : ((N : Int) == 0) = false := by simp; omega
        go_enter Try.func48, Try.ntmps48
        go_wp2_with fail
        refine (HIN.out _).mono ?_
        rintro e w' ⟨rfl, rfl⟩
        go_wp2_with fail
        go_ret2
        exact ⟨two_is HD.out.1.symm HD.out.2.symm, Below.refl _ _⟩
      · have HP := Lib.hid (show 0 < N ∧ N ≤ 512 from ⟨hpos, hle⟩)
        have b1 : ¬ N = 0 := by omega
        have b2 : decide ((512 : Int) < (N : Int)) = false := decide_eq_false (by omega)
        have b3 : ((N : Int) == 0) = false := by simp; omega
        clear hpos hle
        go_enter Try.func48, Try.ntmps48
        go_wp2_with fail
        refine (HIN.out _).mono ?_
        rintro e w' ⟨rfl, rfl⟩
        go_wp2_with fail
        go_loopw [7, 21] (fun _ x wr => ∃ k : Nat, k ≤ N ∧ x = .int .i64 (k : Int) ∧ (∀ (j : Nat) z, j < k → ws[j]? = some z → inW z = true) ∧ wr = w) (fun _ x _ => N - (RowKit.intOf x).toNat)
        case atStart => exact ⟨0, Nat.zero_le _, rfl, fun j z h => by omega, rfl⟩
        case round =>
          obtain ⟨k, hk, rfl, hall, rfl⟩ := hrel
          have HALL := Lib.hid hall
          clear hall
          rcases Nat.lt_or_ge k N with hlt | hge
          · obtain ⟨z, hz⟩ := get_lt (L := ws) (k := k) (by rw [HN.out]; exact hlt)
            obtain ⟨b, off, rfl, hb, hcell⟩ := HS.out k z hz
            have HZ := Lib.hid hz
            have HIZ := Lib.hid (fun W => share_in z W)
            have i1 : (k : Int) < (N : Int) := by omega
            have i2 : (0 : Int) ≤ (k : Int) := by omega
            have hk1 : IntKind.i64.wrap ((k : Int) + 1) = ((k + 1 : Nat) : Int) := wrap_id (by omega)
            clear hz
            cases hi : inW z with
            | true =>
              have HIT := Lib.hid hi
              rw [hi] at HIZ
              clear hi
              go_wp2_with fail
              refine (HIZ.out _).mono ?_
              rintro e w' ⟨rfl, rfl⟩
              go_wp2_with fail
              go_roundw
              case rel => exact ⟨k + 1, by omega, rfl, fun j y h1 h2 => by
                rcases Nat.lt_or_ge j k with h3 | h3
                · exact HALL.out j y h3 h2
                · obtain rfl : j = k := by omega
                  rw [HZ.out] at h2; cases h2; exact HIT.out, trivial⟩
              case measure => simp [RowKit.intOf]; omega
            | false =>
              have HD : Hid (dvV t ws = 0 ∧ (errS t ws : Int) = 1) := by
                have := errS_w HI.out (by rw [HN.out]; exact HP.out.1) (by rw [HN.out]; exact HP.out.2) HZ.out hi
                refine ⟨by unfold dvV; rw [this]; rfl, by rw [this]; rfl⟩
              rw [hi] at HIZ
              clear hi
              go_wp2_with fail
              refine (HIZ.out _).mono ?_
              rintro e w' ⟨rfl, rfl⟩
              go_wp2_with fail
              go_ret2
              exact ⟨two_is HD.out.1.symm HD.out.2.symm, Below.refl _ _⟩
          · obtain rfl : N = k := by omega
            have HA : Hid (∀ z ∈ ws, 0 ≤ z ∧ z ≤ mx) := fun z hz => by
              obtain ⟨j, hj⟩ := List.mem_iff_getElem?.mp hz
              exact inW_iff.mp (HALL.out j z (by rw [← HN.out]; exact lt_of_get hj) hj)
            have HE := Lib.hid (errS_s HI.out (by rw [HN.out]; exact HP.out.1) (by rw [HN.out]; exact HP.out.2) HA.out)
            have HV : Hid (sumV ws = okV (sumK ws ws.length) ∧ sumE ws = okE (sumK ws ws.length)) := by
              have h1 : ws.length ≤ 65536 := by have := HP.out; rw [HN.out]; omega
              have h2 := allIn_of HA.out
              refine ⟨by rw [sumV_all h1 h2, tot_all], by rw [sumE_all h1 h2, tot_all]⟩
            have HGE : Hid (0 ≤ sumK ws ws.length) := by
              have := sm_sumK (fun z hz => (HA.out z hz).1) (Nat.le_refl ws.length)
              show 0 ≤ _
              omega
            have HDV : Hid (dvV t ws = if errS t ws = 0 then if sumK ws ws.length = 0 then 1 else sumK ws ws.length else 0) := rfl
            have HTI : Hid (0 ≤ t ∧ t ≤ mx) := inW_iff.mp HI.out
            obtain ⟨S, hS⟩ : ∃ S, S = sumK ws ws.length := ⟨_, rfl⟩
            rw [← hS] at HE HV HGE HDV
            clear hS
            have HSUM2 := Lib.hid (HSUM.out wr (Below.refl _ _))
            rw [HV.out.1, HV.out.2] at HSUM2
            rcases Int.lt_or_le mx S with hS | hS
            · have HD : Hid (dvV t ws = 0 ∧ (errS t ws : Int) = 2) := by
                have := HE.out
                rw [if_pos hS] at this
                refine ⟨by rw [HDV.out, this]; rfl, by rw [this]; rfl⟩
              rw [okV_no (Or.inr hS), okE_no (Or.inr hS)] at HSUM2
              clear hS
              go_wp2_with fail
              refine HSUM2.out.mono ?_
              rintro e w2 ⟨rfl, hb2⟩
              have HB2 := Lib.hid hb2
              clear hb2
              go_wp2_with fail
              go_ret2
              exact ⟨two_is HD.out.1.symm HD.out.2.symm, HB2.out⟩
            · rw [okV_yes (by have := HGE.out; omega) hS, okE_yes (by have := HGE.out; omega) hS] at HSUM2
              rcases Int.lt_or_le 0 S with hp | hp
              · have HD : Hid (dvV t ws = S ∧ (errS t ws : Int) = 0) := by
                  have := HE.out
                  rw [if_neg (by omega), if_neg (by omega)] at this
                  refine ⟨by rw [HDV.out, this, if_pos rfl, if_neg (by omega)], by rw [this]; rfl⟩
                have b4 : 0 < S := hp
                clear hS hp
                go_wp2_with fail
                refine HSUM2.out.mono ?_
                rintro e w2 ⟨rfl, hb2⟩
                have HB2 := Lib.hid hb2
                clear hb2
                go_wp2_with fail
                go_ret2
                exact ⟨two_is HD.out.1.symm HD.out.2.symm, HB2.out⟩
              · obtain rfl : S = 0 := by have := HGE.out; omega
                rcases Int.lt_or_le 0 t with ht | ht
                · have HD : Hid (dvV t ws = 0 ∧ (errS t ws : Int) = 16) := by
                    have := HE.out
                    rw [if_neg (by omega), if_pos ⟨rfl, by omega⟩] at this
                    refine ⟨by rw [HDV.out, this]; rfl, by rw [this]; rfl⟩
                  have b4 : 0 < t := ht
                  clear hS hp ht
                  go_wp2_with fail
                  refine HSUM2.out.mono ?_
                  rintro e w2 ⟨rfl, hb2⟩
                  have HB2 := Lib.hid hb2
                  clear hb2
                  go_wp2_with fail
                  go_ret2
                  exact ⟨two_is HD.out.1.symm HD.out.2.symm, HB2.out⟩
                · have ht0 : t = 0 := by have := HTI.out; omega
                  have HD : Hid (dvV t ws = 1 ∧ (errS t ws : Int) = 0) := by
                    have := HE.out
                    rw [if_neg (by omega), if_neg (fun h => h.2 ht0)] at this
                    refine ⟨by rw [HDV.out, this]; rfl, by rw [this]; rfl⟩
                  have b4 : ¬ 0 < t := by omega
                  clear hS hp ht ht0
                  go_wp2_with fail
                  refine HSUM2.out.mono ?_
                  rintro e w2 ⟨rfl, hb2⟩
                  have HB2 := Lib.hid hb2
                  clear hb2
                  go_wp2_with fail
                  go_ret2
                  exact ⟨two_is HD.out.1.symm HD.out.2.symm, HB2.out⟩

/-! ### The division -/
theorem md_down {T w W : Nat} (hW : 0 < W) (hT : T ≤ 1125899906842624) (hwW : w ≤ W) (hW2 : W ≤ 1125899906842624) : mdV (T : Int) (w : Int) (W : Int) 0 = ((T * w / W : Nat) : Int) := by
  have hq : T * w / W ≤ T := Nat.div_le_of_le_mul (by rw [Nat.mul_comm W T]; exact Nat.mul_le_mul_left _ hwW)
  have h1 : InR (T : Int) ∧ InR (w : Int) ∧ InR (W : Int) := ⟨inr_mk (by omega) (by omega), inr_mk (by omega) (by omega), inr_mk (by omega) (by omega)⟩
  have hn : negB (T : Int) (w : Int) (W : Int) = false := by
    unfold negB
    rw [decide_eq_false (by omega), decide_eq_false (by omega), decide_eq_false (by omega)]; rfl
  have hm : mdR (T : Int) (w : Int) (W : Int) 0 = ((T * w / W : Nat) : Int) := by
    unfold mdR mdM sg
    rw [hn]
    simp only [Int.natAbs_natCast]
    have : awayB (T * w / W) (T * w % W) W 0 false = false := by unfold awayB; simp
    simp [this]
  rw [mdV_in h1 (by omega) (by omega), hm]
  generalize T * w / W = q at hq ⊢
  exact okV_yes (by omega) (by omega)
/-- The difference of two products that wrapped around. -/
theorem wrap_diff {x y r : Int} (h : x - y = r) (h0 : 0 ≤ r) (h1 : r ≤ 1125899906842624) : IntKind.i64.wrap (IntKind.i64.wrap x - IntKind.i64.wrap y) = r := by
  simp only [IntKind.wrap_i64]; omega

set_option maxHeartbeats 800000 in
theorem share_divide {T x W : Nat} (hW : 0 < W) (hT : T ≤ 1125899906842624) (hxW : x ≤ W) (hW2 : W ≤ 1125899906842624) (w : World) :
    Calls Try.prog 49 #[.int .i64 (T : Int), .int .i64 (x : Int), .int .i64 (W : Int)] w fun e w' => e = .returned (.tuple #[.int .i64 ((T * x / W : Nat) : Int), .int .i64 ((T * x % W : Nat) : Int)]) ∧ Below w.heap.size w w' := by
  have h := num_muldiv (T : Int) (x : Int) (W : Int) 0 w
  rw [md_down hW hT hxW hW2] at h
  have HC := Lib.hid h
  obtain ⟨q, hq⟩ : ∃ q, q = T * x / W := ⟨_, rfl⟩
  obtain ⟨r, hr⟩ : ∃ r, r = T * x % W := ⟨_, rfl⟩
  have hrl : r < W := hr ▸ Nat.mod_lt _ hW
  have he : (T : Int) * (x : Int) - (q : Int) * (W : Int) = (r : Int) := by
    have := Nat.div_add_mod (T * x) W
    rw [← hq, ← hr, Nat.mul_comm W q] at this
    have h2 : ((q * W + r : Nat) : Int) = ((T * x : Nat) : Int) := by rw [this]
    simp only [Int.natCast_add, Int.natCast_mul] at h2
    omega
  have e1 := wrap_diff he (by omega) (by omega)
  obtain ⟨y, hy⟩ : ∃ y, y = IntKind.i64.wrap ((T : Int) * (x : Int)) := ⟨_, rfl⟩
  obtain ⟨z, hz⟩ : ∃ z, z = IntKind.i64.wrap ((q : Int) * (W : Int)) := ⟨_, rfl⟩
  obtain ⟨E, hE⟩ : ∃ E, E = mdE (T : Int) (x : Int) (W : Int) 0 := ⟨_, rfl⟩
  rw [← hq, ← hE] at HC
  rw [← hq, ← hr]
  rw [← hy, ← hz] at e1
  have f1 := hy.symm
  have f2 := hz.symm
  clear h hq hr hrl he hy hz hE
  go_enter Try.func49, Try.ntmps49
  go_wp2_with fail
  refine HC.out.mono ?_
  rintro e w2 ⟨rfl, hb2⟩
  have HB2 := Lib.hid hb2
  clear hb2
  go_wp2_with fail
  go_ret2
  exact ⟨rfl, HB2.out⟩
end Go.Proofs.Ytihklpkpcnahkaa.Share
