/- Contracts of num.Gcd and of Gcd of the reference. -/
import Derived.Test.YtekjmkihmegnnaaNumB
import Derived.BigQuiet
import Derived.WalkSmall
import Derived.Deep.QuietTactic
namespace Go.Proofs.Ytekjmkihmegnnaa
open Go.ChangeShapes Go.WideShapes Go.RowKit
set_option linter.unusedVariables false

/-- The greatest common divisor, or the error. -/
def gcdV (a b : Int) : Int := if InR a ∧ InR b then (Nat.gcd a.natAbs b.natAbs : Int) else 0
def gcdE (a b : Int) : Int := if InR a ∧ InR b then 0 else 1
theorem gcdV_yes {a b : Int} (h1 : -1125899906842624 ≤ a) (h2 : a ≤ 1125899906842624) (h3 : -1125899906842624 ≤ b) (h4 : b ≤ 1125899906842624) : gcdV a b = (Nat.gcd a.natAbs b.natAbs : Int) := if_pos ⟨⟨h1, h2⟩, ⟨h3, h4⟩⟩
theorem gcdE_yes {a b : Int} (h1 : -1125899906842624 ≤ a) (h2 : a ≤ 1125899906842624) (h3 : -1125899906842624 ≤ b) (h4 : b ≤ 1125899906842624) : gcdE a b = 0 := if_pos ⟨⟨h1, h2⟩, ⟨h3, h4⟩⟩
theorem gcdV_no1 {a : Int} (b : Int) (h : ¬ InR a) : gcdV a b = 0 := if_neg (fun k => h k.1)
theorem gcdE_no1 {a : Int} (b : Int) (h : ¬ InR a) : gcdE a b = 1 := if_neg (fun k => h k.1)
theorem gcdV_no2 {b : Int} (a : Int) (h : ¬ InR b) : gcdV a b = 0 := if_neg (fun k => h k.2)
theorem gcdE_no2 {b : Int} (a : Int) (h : ¬ InR b) : gcdE a b = 1 := if_neg (fun k => h k.2)

/-- One step of Euclid. -/
def GcdAt (g x y : Nat) : Prop := Nat.gcd x y = g
theorem gcd_step {g x y : Nat} (h : GcdAt g x y) : GcdAt g y (x % y) := by
  unfold GcdAt at *; rw [← h, Nat.gcd_comm x y, Nat.gcd_rec y x, Nat.gcd_comm]
theorem gcd_end {g x : Nat} (h : GcdAt g x 0) : g = x := by unfold GcdAt at h; rw [← h, Nat.gcd_zero_right]

theorem num_gcd (a b : Int) (w : World) :
    Calls Try.prog 23 #[.int .i64 a, .int .i64 b] w fun e w' => e = .returned (.tuple #[.int .i64 (gcdV a b), .int .i64 (gcdE a b)]) ∧ Below w.heap.size w w' := by
  rcases inB_cases a with ⟨ha, a1, a2⟩ | ⟨ha, na⟩
  · rcases inB_cases b with ⟨hb, b1, b2⟩ | ⟨hb, nb⟩
    · rw [gcdV_yes a1 a2 b1 b2, gcdE_yes a1 a2 b1 b2]
      go_enter Try.func23, Try.ntmps23
      go_wp2_with (first | (go_at_call 27; refine (num_in _ _).mono ?_; rintro e w' ⟨rfl, rfl⟩) | (go_at_call 36; (first | ((with_reducible refine (num_magnitude _ _ a1 a2).mono ?_); rintro e w' ⟨rfl, rfl⟩) | ((with_reducible refine (num_magnitude _ _ b1 b2).mono ?_); rintro e w' ⟨rfl, rfl⟩))))
      go_loopw [6, 7] (fun u v wr => ∃ x y : Nat, x ≤ 1125899906842624 ∧ y ≤ 1125899906842624 ∧ u = .int .u64 x ∧ v = .int .u64 y ∧ GcdAt (Nat.gcd a.natAbs b.natAbs) x y ∧ Below w.heap.size w wr) (fun _ v _ => (intOf v).toNat)
      case atStart => exact ⟨_, _, by omega, by omega, rfl, rfl, rfl, Below.refl _ _⟩
      case round =>
        obtain ⟨x, y, hx, hy, rfl, rfl, hg, hbel⟩ := hrel
        have HG := Lib.hid hg
        clear hg
        by_cases hz : y = 0
        · subst hz
          go_wp2
          go_ret2
          exact ⟨ret_two (by rw [gcd_end HG.out]) rfl, hbel⟩
        · have hy1 : 1 ≤ (y : Int) := by omega
          have hy2 : 1 ≤ y := by omega
          have hlt : x % y < y := Nat.mod_lt _ hy2
          have hle : x % y ≤ 1125899906842624 := by omega
          clear hz
          go_wp2
          go_quiet (fail)
          go_wp2
          go_roundw
          case rel => exact ⟨y, x % y, by omega, by omega, rfl, by go_num, gcd_step HG.out, below_drewN hbel _⟩
          case measure => simp [intOf]; omega
    · have NB := Lib.hid nb
      clear nb
      go_enter Try.func23, Try.ntmps23
      go_wp2_with (go_at_call 27; refine (num_in _ _).mono ?_; rintro e w' ⟨rfl, rfl⟩)
      go_ret2
      exact ⟨ret_two (gcdV_no2 _ NB.out).symm (gcdE_no2 _ NB.out).symm, Below.refl _ _⟩
  · have NA := Lib.hid na
    clear na
    go_enter Try.func23, Try.ntmps23
    go_wp2_with (go_at_call 27; refine (num_in _ _).mono ?_; rintro e w' ⟨rfl, rfl⟩)
    go_ret2
    exact ⟨ret_two (gcdV_no1 _ NA.out).symm (gcdE_no1 _ NA.out).symm, Below.refl _ _⟩

theorem ref_gcd (a b : Int) (w : World) :
    Calls Try.prog 24 #[.int .i64 a, .int .i64 b] w fun e w' => e = .returned (.tuple #[.int .i64 (gcdV a b), .int .i64 (gcdE a b)]) ∧ w = w' := by
  rcases inB_cases a with ⟨ha, a1, a2⟩ | ⟨ha, na⟩
  · rcases inB_cases b with ⟨hb, b1, b2⟩ | ⟨hb, nb⟩
    · rw [gcdV_yes a1 a2 b1 b2, gcdE_yes a1 a2 b1 b2]
      go_enter Try.func24, Try.ntmps24
      go_wp2_with (first | (go_at_call 29; refine (ref_in _ _).mono ?_; rintro e w' ⟨rfl, rfl⟩) | (go_at_call 33; refine (ref_abs _ _ (by omega) (by omega)).mono ?_; rintro e w' ⟨rfl, rfl⟩))
      go_loop [6, 7, 8] (fun u v z => ∃ x y : Nat, x ≤ 1125899906842624 ∧ y ≤ 1125899906842624 ∧ u = .int .i64 x ∧ v = .int .i64 y ∧ GcdAt (Nat.gcd a.natAbs b.natAbs) x y) (fun _ v _ => (intOf v).toNat)
      case atStart => exact ⟨_, _, by omega, by omega, rfl, rfl, rfl⟩
      case round =>
        obtain ⟨x, y, hx, hy, rfl, rfl, hg⟩ := hrel
        have HG := Lib.hid hg
        clear hg
        by_cases hz : y = 0
        · subst hz
          go_wp2
          go_ret2
          exact ⟨ret_two (by rw [gcd_end HG.out]) rfl, rfl⟩
        · have hy1 : 1 ≤ (y : Int) := by omega
          have hy2 : 1 ≤ y := by omega
          have hlt : x % y < y := Nat.mod_lt _ hy2
          have hle : x % y ≤ 1125899906842624 := by omega
          clear hz
          go_wp2
          go_round
          case rel => exact ⟨y, x % y, by omega, by omega, rfl, by go_num, gcd_step HG.out⟩
          case measure => simp [intOf]; omega
    · have NB := Lib.hid nb
      clear nb
      go_enter Try.func24, Try.ntmps24
      go_wp2_with (go_at_call 29; refine (ref_in _ _).mono ?_; rintro e w' ⟨rfl, rfl⟩)
      go_ret2
      exact ⟨ret_two (gcdV_no2 _ NB.out).symm (gcdE_no2 _ NB.out).symm, rfl⟩
  · have NA := Lib.hid na
    clear na
    go_enter Try.func24, Try.ntmps24
    go_wp2_with (go_at_call 29; refine (ref_in _ _).mono ?_; rintro e w' ⟨rfl, rfl⟩)
    go_ret2
    exact ⟨ret_two (gcdV_no1 _ NA.out).symm (gcdE_no1 _ NA.out).symm, rfl⟩
#print axioms num_gcd
#print axioms ref_gcd
end Go.Proofs.Ytekjmkihmegnnaa
