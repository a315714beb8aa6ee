/- Contracts of num.Add, num.Sub, num.signed, num.signWord, and of Add and Sub of the reference. -/
import Derived.Test.YtekjmkihmegnnaaNumA
namespace Go.Proofs.Ytekjmkihmegnnaa
open Go.ChangeShapes Go.WideShapes Go.RowKit
set_option linter.unusedVariables false

/-- The result r of two arguments a and b: r, or the error of the arguments, or the error of the result. -/
def rngV (a b r : Int) : Int := if InR a ∧ InR b then okV r else 0
def rngE (a b r : Int) : Int := if InR a ∧ InR b then okE r else 1
theorem rngV_yes {a b : Int} (r : Int) (h1 : -1125899906842624 ≤ a) (h2 : a ≤ 1125899906842624) (h3 : -1125899906842624 ≤ b) (h4 : b ≤ 1125899906842624) : rngV a b r = okV r := if_pos ⟨⟨h1, h2⟩, ⟨h3, h4⟩⟩
theorem rngE_yes {a b : Int} (r : Int) (h1 : -1125899906842624 ≤ a) (h2 : a ≤ 1125899906842624) (h3 : -1125899906842624 ≤ b) (h4 : b ≤ 1125899906842624) : rngE a b r = okE r := if_pos ⟨⟨h1, h2⟩, ⟨h3, h4⟩⟩
theorem rngV_no1 {a : Int} (b r : Int) (h : ¬ InR a) : rngV a b r = 0 := if_neg (fun k => h k.1)
theorem rngE_no1 {a : Int} (b r : Int) (h : ¬ InR a) : rngE a b r = 1 := if_neg (fun k => h k.1)
theorem rngV_no2 {b : Int} (a r : Int) (h : ¬ InR b) : rngV a b r = 0 := if_neg (fun k => h k.2)
theorem rngE_no2 {b : Int} (a r : Int) (h : ¬ InR b) : rngE a b r = 1 := if_neg (fun k => h k.2)

theorem num_add (a b : Int) (w : World) :
    Calls Try.prog 12 #[.int .i64 a, .int .i64 b] w fun e w' => e = .returned (.tuple #[.int .i64 (rngV a b (a + b)), .int .i64 (rngE a b (a + b))]) ∧ w = w' := by
  rcases inB_cases a with ⟨ha, a1, a2⟩ | ⟨ha, na⟩
  · rcases inB_cases b with ⟨hb, b1, b2⟩ | ⟨hb, nb⟩
    · go_enter Try.func12, Try.ntmps12
      go_wp2_with (first | (go_at_call 27; refine (num_in _ _).mono ?_; rintro e w' ⟨rfl, rfl⟩) | (go_at_call 28; refine (num_checked _ _).mono ?_; rintro e w' ⟨rfl, rfl⟩))
      go_ret2
      exact ⟨ret_two (rngV_yes _ a1 a2 b1 b2).symm (rngE_yes _ a1 a2 b1 b2).symm, rfl⟩
    · have NB := Lib.hid nb
      clear nb
      go_enter Try.func12, Try.ntmps12
      go_wp2_with (go_at_call 27; refine (num_in _ _).mono ?_; rintro e w' ⟨rfl, rfl⟩)
      go_ret2
      exact ⟨ret_two (rngV_no2 _ _ NB.out).symm (rngE_no2 _ _ NB.out).symm, rfl⟩
  · have NA := Lib.hid na
    clear na
    go_enter Try.func12, Try.ntmps12
    go_wp2_with (go_at_call 27; refine (num_in _ _).mono ?_; rintro e w' ⟨rfl, rfl⟩)
    go_ret2
    exact ⟨ret_two (rngV_no1 _ _ NA.out).symm (rngE_no1 _ _ NA.out).symm, rfl⟩

theorem num_sub (a b : Int) (w : World) :
    Calls Try.prog 14 #[.int .i64 a, .int .i64 b] w fun e w' => e = .returned (.tuple #[.int .i64 (rngV a b (a - b)), .int .i64 (rngE a b (a - b))]) ∧ w = w' := by
  rcases inB_cases a with ⟨ha, a1, a2⟩ | ⟨ha, na⟩
  · rcases inB_cases b with ⟨hb, b1, b2⟩ | ⟨hb, nb⟩
    · go_enter Try.func14, Try.ntmps14
      go_wp2_with (first | (go_at_call 27; refine (num_in _ _).mono ?_; rintro e w' ⟨rfl, rfl⟩) | (go_at_call 28; refine (num_checked _ _).mono ?_; rintro e w' ⟨rfl, rfl⟩))
      go_ret2
      exact ⟨ret_two (rngV_yes _ a1 a2 b1 b2).symm (rngE_yes _ a1 a2 b1 b2).symm, rfl⟩
    · have NB := Lib.hid nb
      clear nb
      go_enter Try.func14, Try.ntmps14
      go_wp2_with (go_at_call 27; refine (num_in _ _).mono ?_; rintro e w' ⟨rfl, rfl⟩)
      go_ret2
      exact ⟨ret_two (rngV_no2 _ _ NB.out).symm (rngE_no2 _ _ NB.out).symm, rfl⟩
  · have NA := Lib.hid na
    clear na
    go_enter Try.func14, Try.ntmps14
    go_wp2_with (go_at_call 27; refine (num_in _ _).mono ?_; rintro e w' ⟨rfl, rfl⟩)
    go_ret2
    exact ⟨ret_two (rngV_no1 _ _ NA.out).symm (rngE_no1 _ _ NA.out).symm, rfl⟩

theorem ref_add (a b : Int) (w : World) :
    Calls Try.prog 13 #[.int .i64 a, .int .i64 b] w fun e w' => e = .returned (.tuple #[.int .i64 (rngV a b (a + b)), .int .i64 (rngE a b (a + b))]) ∧ w = w' := by
  rcases inB_cases a with ⟨ha, a1, a2⟩ | ⟨ha, na⟩
  · rcases inB_cases b with ⟨hb, b1, b2⟩ | ⟨hb, nb⟩
    · go_enter Try.func13, Try.ntmps13
      go_wp2_with (first | (go_at_call 29; refine (ref_in _ _).mono ?_; rintro e w' ⟨rfl, rfl⟩) | (go_at_call 30; refine (ref_result _ _).mono ?_; rintro e w' ⟨rfl, rfl⟩))
      go_ret2
      exact ⟨ret_two (rngV_yes _ a1 a2 b1 b2).symm (rngE_yes _ a1 a2 b1 b2).symm, rfl⟩
    · have NB := Lib.hid nb
      clear nb
      go_enter Try.func13, Try.ntmps13
      go_wp2_with (go_at_call 29; refine (ref_in _ _).mono ?_; rintro e w' ⟨rfl, rfl⟩)
      go_ret2
      exact ⟨ret_two (rngV_no2 _ _ NB.out).symm (rngE_no2 _ _ NB.out).symm, rfl⟩
  · have NA := Lib.hid na
    clear na
    go_enter Try.func13, Try.ntmps13
    go_wp2_with (go_at_call 29; refine (ref_in _ _).mono ?_; rintro e w' ⟨rfl, rfl⟩)
    go_ret2
    exact ⟨ret_two (rngV_no1 _ _ NA.out).symm (rngE_no1 _ _ NA.out).symm, rfl⟩

theorem ref_sub (a b : Int) (w : World) :
    Calls Try.prog 15 #[.int .i64 a, .int .i64 b] w fun e w' => e = .returned (.tuple #[.int .i64 (rngV a b (a - b)), .int .i64 (rngE a b (a - b))]) ∧ w = w' := by
  rcases inB_cases a with ⟨ha, a1, a2⟩ | ⟨ha, na⟩
  · rcases inB_cases b with ⟨hb, b1, b2⟩ | ⟨hb, nb⟩
    · go_enter Try.func15, Try.ntmps15
      go_wp2_with (first | (go_at_call 29; refine (ref_in _ _).mono ?_; rintro e w' ⟨rfl, rfl⟩) | (go_at_call 30; refine (ref_result _ _).mono ?_; rintro e w' ⟨rfl, rfl⟩))
      go_ret2
      exact ⟨ret_two (rngV_yes _ a1 a2 b1 b2).symm (rngE_yes _ a1 a2 b1 b2).symm, rfl⟩
    · have NB := Lib.hid nb
      clear nb
      go_enter Try.func15, Try.ntmps15
      go_wp2_with (go_at_call 29; refine (ref_in _ _).mono ?_; rintro e w' ⟨rfl, rfl⟩)
      go_ret2
      exact ⟨ret_two (rngV_no2 _ _ NB.out).symm (rngE_no2 _ _ NB.out).symm, rfl⟩
  · have NA := Lib.hid na
    clear na
    go_enter Try.func15, Try.ntmps15
    go_wp2_with (go_at_call 29; refine (ref_in _ _).mono ?_; rintro e w' ⟨rfl, rfl⟩)
    go_ret2
    exact ⟨ret_two (rngV_no1 _ _ NA.out).symm (rngE_no1 _ _ NA.out).symm, rfl⟩

/-- signed: a magnitude m and a sign. -/
theorem num_signed_pos (m : Nat) (w : World) (hm : m < 18446744073709551616) :
    Calls Try.prog 32 #[.int .u64 (m : Int), .bool false] w fun e w' => e = .returned (.tuple #[.int .i64 (okV (m : Int)), .int .i64 (okE (m : Int))]) ∧ w = w' := by
  by_cases h : 1125899906842624 < (m : Int)
  · go_enter Try.func32, Try.ntmps32
    go_wp2
    go_ret2
    exact ⟨ret_two (okV_no (by omega)).symm (okE_no (by omega)).symm, rfl⟩
  · have h2 : (m : Int) ≤ 1125899906842624 := by omega
    go_enter Try.func32, Try.ntmps32
    go_wp2
    go_ret2
    exact ⟨ret_two (okV_yes (by omega) (by omega)).symm (okE_yes (by omega) (by omega)).symm, rfl⟩

theorem num_signed_neg (m : Nat) (w : World) (hm : m < 18446744073709551616) :
    Calls Try.prog 32 #[.int .u64 (m : Int), .bool true] w fun e w' => e = .returned (.tuple #[.int .i64 (okV (-(m : Int))), .int .i64 (okE (-(m : Int)))]) ∧ w = w' := by
  by_cases h : 1125899906842624 < (m : Int)
  · go_enter Try.func32, Try.ntmps32
    go_wp2
    go_ret2
    exact ⟨ret_two (okV_no (by omega)).symm (okE_no (by omega)).symm, rfl⟩
  · have h2 : (m : Int) ≤ 1125899906842624 := by omega
    go_enter Try.func32, Try.ntmps32
    go_wp2
    go_ret2
    exact ⟨ret_two (okV_yes (by omega) (by omega)).symm (okE_yes (by omega) (by omega)).symm, rfl⟩

/-- The high word of n in two's complement. -/
def signW (n : Int) : Int := if n < 0 then 18446744073709551615 else 0
theorem num_signWord (n : Int) (w : World) :
    Calls Try.prog 42 #[.int .i64 n] w fun e w' => e = .returned (.int .u64 (signW n)) ∧ w = w' := by
  by_cases h : n < 0
  · go_enter Try.func42, Try.ntmps42
    go_wp2
    go_ret
    exact ⟨ret_int (if_pos h).symm, rfl⟩
  · go_enter Try.func42, Try.ntmps42
    go_wp2
    go_ret
    exact ⟨ret_int (if_neg (by omega)).symm, rfl⟩
#print axioms num_add
end Go.Proofs.Ytekjmkihmegnnaa
