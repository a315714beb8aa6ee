/- Contracts of isTime, multiplesBelow, Steps, Next of the program, and of Within, up, Steps, Next of the reference. -/
import Derived.Test.YtngjdclcnocmfaaDoorClockB
namespace Go.Proofs.YtngjdclcnocmfaaDoor.Clock
open Go.ChangeShapes Go.WideShapes Go.RowKit
set_option linter.unusedVariables false
set_option maxRecDepth 100000

/-- a to b is a span of moments. -/
def wit (a b : Int) : Bool := decide (0 ≤ a) && decide (a ≤ b) && decide (b ≤ 2147483648)
theorem wit_iff {a b : Int} : wit a b = true ↔ 0 ≤ a ∧ a ≤ b ∧ b ≤ 2147483648 := by simp [wit, and_assoc]
theorem wit_no {a b : Int} (h : wit a b = false) : a < 0 ∨ (0 ≤ a ∧ b < a) ∨ (0 ≤ a ∧ a ≤ b ∧ 2147483648 < b) := by
  have : ¬ (0 ≤ a ∧ a ≤ b ∧ b ≤ 2147483648) := fun k => by rw [wit_iff.mpr k] at h; cases h
  omega

theorem is_time (a b : Int) (w : World) : Calls Tryd.prog 35 #[.agg #[.int .i64 a, .int .i64 b]] w fun e w' => e = .returned (.bool (wit a b)) ∧ Below w.heap.size w w' := by
  cases h : wit a b with
  | true =>
    obtain ⟨h1, h2, h3⟩ := wit_iff.mp h
    clear h
    go_enter Tryd.func35, Tryd.ntmps35
    go_wp2
    go_ret
    exact ⟨rfl, (Below.refl _ _).alloc (Nat.le_refl _) _⟩
  | false =>
    rcases wit_no h with h1 | ⟨h1, h2⟩ | ⟨h1, h2, h3⟩
    · clear h
      go_enter Tryd.func35, Tryd.ntmps35
      go_wp2
      go_ret
      exact ⟨rfl, (Below.refl _ _).alloc (Nat.le_refl _) _⟩
    · have d : decide (a ≤ b) = false := decide_eq_false (by omega)
      clear h h2
      go_enter Tryd.func35, Tryd.ntmps35
      go_wp2
      go_ret
      exact ⟨rfl, (Below.refl _ _).alloc (Nat.le_refl _) _⟩
    · have d : decide (b ≤ 2147483648) = false := decide_eq_false (by omega)
      clear h h3
      go_enter Tryd.func35, Tryd.ntmps35
      go_wp2
      go_ret
      exact ⟨rfl, (Below.refl _ _).alloc (Nat.le_refl _) _⟩
theorem ref_within (a b : Int) (w : World) : Calls Tryd.prog 37 #[.agg #[.int .i64 a, .int .i64 b]] w fun e w' => e = .returned (.bool (wit a b)) ∧ Below w.heap.size w w' := by
  cases h : wit a b with
  | true =>
    obtain ⟨h1, h2, h3⟩ := wit_iff.mp h
    clear h
    go_enter Tryd.func37, Tryd.ntmps37
    go_wp2
    go_ret
    exact ⟨rfl, (Below.refl _ _).alloc (Nat.le_refl _) _⟩
  | false =>
    rcases wit_no h with h1 | ⟨h1, h2⟩ | ⟨h1, h2, h3⟩
    · clear h
      go_enter Tryd.func37, Tryd.ntmps37
      go_wp2
      go_ret
      exact ⟨rfl, (Below.refl _ _).alloc (Nat.le_refl _) _⟩
    · have d : decide (a ≤ b) = false := decide_eq_false (by omega)
      clear h h2
      go_enter Tryd.func37, Tryd.ntmps37
      go_wp2
      go_ret
      exact ⟨rfl, (Below.refl _ _).alloc (Nat.le_refl _) _⟩
    · have d : decide (b ≤ 2147483648) = false := decide_eq_false (by omega)
      clear h h3
      go_enter Tryd.func37, Tryd.ntmps37
      go_wp2
      go_ret
      exact ⟨rfl, (Below.refl _ _).alloc (Nat.le_refl _) _⟩

/-- How many multiples of s are below x. -/
def upV (x s : Int) : Int := (x + s - 1) / s
theorem clock_below (x s : Int) (w : World) (hx : 0 ≤ x) (hx2 : x ≤ 2147483648) (hs : 1 ≤ s) (hs2 : s ≤ 86400) :
    Calls Tryd.prog 36 #[.int .i64 x, .int .i64 s] w fun e w' => e = .returned (.int .i64 (upV x s)) ∧ w = w' := by
  have hz : ¬ s = 0 := by omega
  have hz2 : (s == 0) = false := beq_false_of_ne hz
  have ed : (x + s - 1).tdiv s = upV x s := Int.tdiv_eq_ediv_of_nonneg (by omega)
  have h1 : 0 ≤ upV x s := Int.ediv_nonneg (by omega) (by omega)
  have h2 : upV x s ≤ x + s - 1 := Int.ediv_le_self _ (by omega)
  have ew : IntKind.i64.wrap (upV x s) = upV x s := wrap_id (by omega) (by omega)
  go_enter Tryd.func36, Tryd.ntmps36
  go_wp2
  go_ret
  exact ⟨rfl, rfl⟩
theorem ref_up (x s : Int) (w : World) (hx : 0 ≤ x) (hx2 : x ≤ 2147483648) (hs : 1 ≤ s) (hs2 : s ≤ 86400) :
    Calls Tryd.prog 38 #[.int .i64 x, .int .i64 s] w fun e w' => e = .returned (.int .i64 (upV x s)) ∧ w = w' := by
  have hz : ¬ s = 0 := by omega
  have hz2 : (s == 0) = false := beq_false_of_ne hz
  have ed : (x + s - 1).tdiv s = upV x s := Int.tdiv_eq_ediv_of_nonneg (by omega)
  have h1 : 0 ≤ upV x s := Int.ediv_nonneg (by omega) (by omega)
  have h2 : upV x s ≤ x + s - 1 := Int.ediv_le_self _ (by omega)
  have ew : IntKind.i64.wrap (upV x s) = upV x s := wrap_id (by omega) (by omega)
  go_enter Tryd.func38, Tryd.ntmps38
  go_wp2
  go_ret
  exact ⟨rfl, rfl⟩
#print axioms is_time
#print axioms clock_below
end Go.Proofs.YtngjdclcnocmfaaDoor.Clock
