/- Contracts of num.inRange, num.checked, num.Add, num.Sub, num.magnitude, num.signWord, num.signed and of their counterparts in the reference. -/
import Derived.Test.YtkbnhmgladkojaaRows
import Derived.WalkKit
import Derived.Lib.Hide
import Derived.WalkLawsBesides
import Derived.WalkSpells
import Derived.Outline
namespace Go.Proofs.Ytkbnhmgladkojaa.Num
open Go.ChangeShapes Go.WideShapes Go.RowKit
set_option linter.unusedVariables false

/-- n is from -2^50 to 2^50. -/
def InR (n : Int) : Prop := -1125899906842624 ≤ n ∧ n ≤ 1125899906842624
instance (n : Int) : Decidable (InR n) := inferInstanceAs (Decidable (_ ∧ _))
theorem inr_mk {n : Int} (h1 : -1125899906842624 ≤ n) (h2 : n ≤ 1125899906842624) : InR n := ⟨h1, h2⟩
theorem inr_not {n : Int} (h : n < -1125899906842624 ∨ 1125899906842624 < n) : ¬ InR n := by unfold InR; omega

theorem num_in_yes (n : Int) (w : World) (h1 : -1125899906842624 ≤ n) (h2 : n ≤ 1125899906842624) :
    Calls Try.prog 39 #[.int .i64 n] w fun e w' => e = .returned (.bool true) ∧ w = w' := by
  go_enter Try.func39, Try.ntmps39
  go_wp2
  go_ret
  exact ⟨rfl, rfl⟩

theorem num_in_no (n : Int) (w : World) (h : n < -1125899906842624 ∨ 1125899906842624 < n) :
    Calls Try.prog 39 #[.int .i64 n] w fun e w' => e = .returned (.bool false) ∧ w = w' := by
  rcases h with h | h
  · go_enter Try.func39, Try.ntmps39
    go_wp2
    go_ret
    exact ⟨rfl, rfl⟩
  · have h1 : -1125899906842624 ≤ n := by omega
    have h2 : decide (n ≤ 1125899906842624) = false := by simpa using h
    go_enter Try.func39, Try.ntmps39
    go_wp2
    go_ret
    exact ⟨rfl, rfl⟩

/-- The same as a Bool. -/
def inB (n : Int) : Bool := decide (InR n)
theorem inB_yes {n : Int} (h1 : -1125899906842624 ≤ n) (h2 : n ≤ 1125899906842624) : inB n = true := decide_eq_true (inr_mk h1 h2)
theorem inB_no {n : Int} (h : n < -1125899906842624 ∨ 1125899906842624 < n) : inB n = false := decide_eq_false (inr_not h)
theorem inB_cases (n : Int) : (inB n = true ∧ -1125899906842624 ≤ n ∧ n ≤ 1125899906842624) ∨ (inB n = false ∧ ¬ InR n) := by
  by_cases h : InR n
  · exact Or.inl ⟨decide_eq_true h, h⟩
  · exact Or.inr ⟨decide_eq_false h, h⟩

theorem num_in (n : Int) (w : World) : Calls Try.prog 39 #[.int .i64 n] w fun e w' => e = .returned (.bool (inB n)) ∧ w = w' := by
  by_cases h : -1125899906842624 ≤ n ∧ n ≤ 1125899906842624
  · exact (num_in_yes n w h.1 h.2).mono fun e w' k => by rw [inB_yes h.1 h.2]; exact k
  · exact (num_in_no n w (by omega)).mono fun e w' k => by rw [inB_no (by omega)]; exact k

/-- What a checked result is: the value, and the error. -/
def okV (n : Int) : Int := if InR n then n else 0
def okE (n : Int) : Int := if InR n then 0 else 2
theorem okV_yes {n : Int} (h1 : -1125899906842624 ≤ n) (h2 : n ≤ 1125899906842624) : okV n = n := if_pos (inr_mk h1 h2)
theorem okE_yes {n : Int} (h1 : -1125899906842624 ≤ n) (h2 : n ≤ 1125899906842624) : okE n = 0 := if_pos (inr_mk h1 h2)
theorem okV_no {n : Int} (h : n < -1125899906842624 ∨ 1125899906842624 < n) : okV n = 0 := if_neg (inr_not h)
theorem okE_no {n : Int} (h : n < -1125899906842624 ∨ 1125899906842624 < n) : okE n = 2 := if_neg (inr_not h)
theorem ret_int {k : IntKind} {a b : Int} (h : a = b) : Ending.returned (.int k a) = .returned (.int k b) := by rw [h]
theorem ret_two {a b c d : Int} (h : a = c) (k : b = d) : Ending.returned (.tuple #[.int .i64 a, .int .i64 b]) = .returned (.tuple #[.int .i64 c, .int .i64 d]) := by rw [h, k]

theorem num_magnitude (n : Int) (w : World) (h1 : -1125899906842624 ≤ n) (h2 : n ≤ 1125899906842624) :
    Calls Try.prog 41 #[.int .i64 n] w fun e w' => e = .returned (.int .u64 (n.natAbs : Int)) ∧ w = w' := by
  by_cases h : n < 0
  · go_enter Try.func41, Try.ntmps41
    go_wp2
    go_ret
    exact ⟨ret_int (by omega), rfl⟩
  · go_enter Try.func41, Try.ntmps41
    go_wp2
    go_ret
    exact ⟨ret_int (by omega), rfl⟩

end Go.Proofs.Ytkbnhmgladkojaa.Num
