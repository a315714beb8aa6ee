/- Contracts of num.Add, num.Sub, num.signed, num.signWord, and of Add and Sub of the reference. -/
import Derived.Test.YtkbnhmgladkojaaZumA
namespace Go.Proofs.Ytkbnhmgladkojaa.Num
open Go.ChangeShapes Go.WideShapes Go.RowKit
set_option linter.unusedVariables false

/-- The result r of two arguments a and b: r, or the error of the arguments, or the error of the result. -/
def rngV (a b r : Int) : Int := if InR a ∧ InR b then okV r else 0
def rngE (a b r : Int) : Int := if InR a ∧ InR b then okE r else 1
theorem rngV_yes {a b : Int} (r : Int) (h1 : -1125899906842624 ≤ a) (h2 : a ≤ 1125899906842624) (h3 : -1125899906842624 ≤ b) (h4 : b ≤ 1125899906842624) : rngV a b r = okV r := if_pos ⟨⟨h1, h2⟩, ⟨h3, h4⟩⟩
theorem rngE_yes {a b : Int} (r : Int) (h1 : -1125899906842624 ≤ a) (h2 : a ≤ 1125899906842624) (h3 : -1125899906842624 ≤ b) (h4 : b ≤ 1125899906842624) : rngE a b r = okE r := if_pos ⟨⟨h1, h2⟩, ⟨h3, h4⟩⟩
theorem rngV_no1 {a : Int} (b r : Int) (h : ¬ InR a) : rngV a b r = 0 := if_neg (fun k => h k.1)
theorem rngE_no1 {a : Int} (b r : Int) (h : ¬ InR a) : rngE a b r = 1 := if_neg (fun k => h k.1)
theorem rngV_no2 {b : Int} (a r : Int) (h : ¬ InR b) : rngV a b r = 0 := if_neg (fun k => h k.2)
theorem rngE_no2 {b : Int} (a r : Int) (h : ¬ InR b) : rngE a b r = 1 := if_neg (fun k => h k.2)

/-- signed: a magnitude m and a sign. -/
theorem num_signed_pos (m : Nat) (w : World) (hm : m < 18446744073709551616) :
    Calls Try.prog 44 #[.int .u64 (m : Int), .bool false] w fun e w' => e = .returned (.tuple #[.int .i64 (okV (m : Int)), .int .i64 (okE (m : Int))]) ∧ w = w' := by
  by_cases h : 1125899906842624 < (m : Int)
  · go_enter Try.func44, Try.ntmps44
    go_wp2
    go_ret2
    exact ⟨ret_two (okV_no (by omega)).symm (okE_no (by omega)).symm, rfl⟩
  · have h2 : (m : Int) ≤ 1125899906842624 := by omega
    go_enter Try.func44, Try.ntmps44
    go_wp2
    go_ret2
    exact ⟨ret_two (okV_yes (by omega) (by omega)).symm (okE_yes (by omega) (by omega)).symm, rfl⟩

theorem num_signed_neg (m : Nat) (w : World) (hm : m < 18446744073709551616) :
    Calls Try.prog 44 #[.int .u64 (m : Int), .bool true] w fun e w' => e = .returned (.tuple #[.int .i64 (okV (-(m : Int))), .int .i64 (okE (-(m : Int)))]) ∧ w = w' := by
  by_cases h : 1125899906842624 < (m : Int)
  · go_enter Try.func44, Try.ntmps44
    go_wp2
    go_ret2
    exact ⟨ret_two (okV_no (by omega)).symm (okE_no (by omega)).symm, rfl⟩
  · have h2 : (m : Int) ≤ 1125899906842624 := by omega
    go_enter Try.func44, Try.ntmps44
    go_wp2
    go_ret2
    exact ⟨ret_two (okV_yes (by omega) (by omega)).symm (okE_yes (by omega) (by omega)).symm, rfl⟩

/-- The high word of n in two's complement. -/
def signW (n : Int) : Int := if n < 0 then 18446744073709551615 else 0
end Go.Proofs.Ytkbnhmgladkojaa.Num
