/- The contract of awake: the chapter's examples hold. -/
import Derived.Test.YtekjmkihmegnnaaNumR
namespace Go.Proofs.Ytekjmkihmegnnaa
open Go.ChangeShapes Go.WideShapes Go.RowKit
set_option linter.unusedVariables false

theorem aw1 (w : World) : Calls Try.prog 16 #[.int .i64 33554432, .int .i64 33554432] w fun e w' => e = .returned (.tuple #[.int .i64 1125899906842624, .int .i64 0]) ∧ Below w.heap.size w w' := by
  have h := num_mul 33554432 33554432 w
  rw [ex1.1, ex1.2] at h; exact h
theorem aw2 (w : World) : Calls Try.prog 16 #[.int .i64 33554432, .int .i64 33554433] w fun e w' => e = .returned (.tuple #[.int .i64 (rngV 33554432 33554433 (33554432 * 33554433)), .int .i64 2]) ∧ Below w.heap.size w w' := by
  have h := num_mul 33554432 33554433 w
  rw [ex2] at h; exact h
theorem aw3 (A : Option Addr) (c : Nat) (w : World) (hS : Holds w w.heap.size A [1125899906842624, 1125899906842624, -1125899906842624]) :
    Calls Try.prog 19 #[.slice A 3 c] w fun e w' => e = .returned (.tuple #[.int .i64 1125899906842624, .int .i64 0]) ∧ Below w.heap.size w w' := by
  have h := num_sum _ A c w hS (by decide)
  rw [ex3.1, ex3.2] at h; exact h
theorem aw4 (w : World) : Calls Try.prog 21 #[.int .i64 7, .int .i64 1, .int .i64 (-2), .int .i64 0] w fun e w' => e = .returned (.tuple #[.int .i64 (-4), .int .i64 0]) ∧ Below w.heap.size w w' := by
  have h := num_muldiv 7 1 (-2) 0 w
  rw [ex4.1, ex4.2] at h; exact h
theorem aw5 (w : World) : Calls Try.prog 21 #[.int .i64 7, .int .i64 1, .int .i64 (-2), .int .i64 1] w fun e w' => e = .returned (.tuple #[.int .i64 (-3), .int .i64 0]) ∧ Below w.heap.size w w' := by
  have h := num_muldiv 7 1 (-2) 1 w
  rw [ex5.1, ex5.2] at h; exact h
theorem aw6 (w : World) : Calls Try.prog 21 #[.int .i64 7, .int .i64 1, .int .i64 (-2), .int .i64 2] w fun e w' => e = .returned (.tuple #[.int .i64 (-4), .int .i64 0]) ∧ Below w.heap.size w w' := by
  have h := num_muldiv 7 1 (-2) 2 w
  rw [ex6.1, ex6.2] at h; exact h
theorem aw7 (w : World) : Calls Try.prog 23 #[.int .i64 (-12), .int .i64 18] w fun e w' => e = .returned (.tuple #[.int .i64 6, .int .i64 0]) ∧ Below w.heap.size w w' := by
  have h := num_gcd (-12) 18 w
  rw [ex7.1, ex7.2] at h; exact h
theorem aw8 (w : World) : Calls Try.prog 25 #[.int .i64 15] w fun e w' => e = .returned (.tuple #[.int .i64 3, .int .i64 0]) ∧ w = w' := by
  have h := num_sqrt 15 w
  rw [ex8.1, ex8.2] at h; exact h
theorem aw9 (w : World) : Calls Try.prog 12 #[.int .i64 1125899906842624, .int .i64 1] w fun e w' => e = .returned (.tuple #[.int .i64 (rngV 1125899906842624 1 (1125899906842624 + 1)), .int .i64 2]) ∧ w = w' := by
  have h := num_add 1125899906842624 1 w
  rw [ex9] at h; exact h
theorem aw10 (w : World) : Calls Try.prog 12 #[.int .i64 1125899906842625, .int .i64 0] w fun e w' => e = .returned (.tuple #[.int .i64 (rngV 1125899906842625 0 (1125899906842625 + 0)), .int .i64 1]) ∧ w = w' := by
  have h := num_add 1125899906842625 0 w
  rw [ex10] at h; exact h

theorem holds_new (w : World) (t : TypeId) (zs : List Int) : Holds (w.alloc (.cells (zs.map (Value.int .i64)).toArray t)) (w.heap.size + 1) (some ⟨w.heap.size, 0, none⟩) zs := by
  intro k z hz
  refine ⟨w.heap.size, 0, rfl, by omega, ?_⟩
  rw [Nat.zero_add, cell_of_row _ _ _ _ _ _ (heap_alloc_new w _)]
  simp [hz]

set_option maxHeartbeats 1000000 in
theorem awake_any (w : World) : Calls Try.prog 18 #[] w fun e w' => e = .returned (.bool true) ∧ Below w.heap.size w w' := by
  go_enter Try.func18, Try.ntmps18
  go_wp2_with fail
  refine (aw1 _).mono ?_
  rintro e w1 ⟨rfl, hb1⟩
  go_wp2_with fail
  refine (aw2 _).mono ?_
  rintro e w2 ⟨rfl, hb2⟩
  go_wp2_with fail
  refine (aw3 _ _ _ ?_).mono ?_
  · have h := holds_new w2 3 [1125899906842624, 1125899906842624, -1125899906842624]
    simpa using h
  rintro e w3 ⟨rfl, hb3⟩
  go_wp2_with fail
  refine (aw4 _).mono ?_
  rintro e w4 ⟨rfl, hb4⟩
  go_wp2_with fail
  refine (aw5 _).mono ?_
  rintro e w5 ⟨rfl, hb5⟩
  go_wp2_with fail
  refine (aw6 _).mono ?_
  rintro e w6 ⟨rfl, hb6⟩
  go_wp2_with fail
  refine (aw7 _).mono ?_
  rintro e w7 ⟨rfl, hb7⟩
  go_wp2_with fail
  refine (aw8 _).mono ?_
  rintro e w8 ⟨rfl, rfl⟩
  go_wp2_with fail
  refine (aw9 _).mono ?_
  rintro e w9 ⟨rfl, rfl⟩
  go_wp2_with fail
  refine (aw10 _).mono ?_
  rintro e w10 ⟨rfl, rfl⟩
  go_wp2_with fail
  go_ret
  have s1 := hb1.size
  have s2 := hb2.size
  have s3 := hb3.size
  have s4 := hb4.size
  have s5 := hb5.size
  have s6 := hb6.size
  have s7 := hb7.size
  simp at s3
  refine ⟨rfl, ?_⟩
  exact ((((((hb1.trans (hb2.mono (by omega))).alloc (by omega) _).trans (hb3.mono (by simp; omega))).trans (hb4.mono (by omega))).trans (hb5.mono (by omega))).trans (hb6.mono (by omega))).trans (hb7.mono (by omega))
#print axioms awake_any
end Go.Proofs.Ytekjmkihmegnnaa
