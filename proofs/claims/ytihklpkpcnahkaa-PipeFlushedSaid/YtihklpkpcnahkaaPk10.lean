/- Several texts in one: ZumO, ZumP, ZumQ, PipeC, PipeJ. -/
import Derived.Test.YtihklpkpcnahkaaPk9
import Derived.Test.YtihklpkpcnahkaaPk8
/- The contract of MulDiv of the reference, more of its ways. -/
namespace Go.Proofs.Ytihklpkpcnahkaa.Num
open Go.ChangeShapes Go.WideShapes Go.RowKit
set_option linter.unusedVariables false
set_option linter.unusedSimpArgs false

set_option maxHeartbeats 1000000 in
theorem ref_md_m0 (a b c : Int) (n r : Nat) (x y z : Bool) (w : World) (ha : inB a = true) (hb : inB b = true) (hc : inB c = true)
    (a1 : -1125899906842624 ≤ a) (a2 : a ≤ 1125899906842624) (b1 : -1125899906842624 ≤ b) (b2 : b ≤ 1125899906842624) (c1 : -1125899906842624 ≤ c) (c2 : c ≤ 1125899906842624) (hz' : (c == 0) = false)
    (hd1 : 1 ≤ (c.natAbs : Int)) (hn : (n : Int) ≤ 4503599627370496) (HD : Hid (DivAt a b c n r)) (da : decide (a < 0) = x) (db : decide (b < 0) = y) (dc : decide (c < 0) = z) (hr : 1 ≤ (r : Int)) (hr2 : (r : Int) ≤ 1125899906842624) :
    Calls Try.prog 40 #[.int .i64 a, .int .i64 b, .int .i64 c, .int .i64 0] w fun e w' => e = .returned (.tuple #[.int .i64 (okV (sg ((x != y) != z) (n + (if ((x != y) != z) then 1 else 0)))), .int .i64 (okE (sg ((x != y) != z) (n + (if ((x != y) != z) then 1 else 0))))]) ∧ Below w.heap.size w w' := by
  cases x
  all_goals cases y
  all_goals cases z
  all_goals simp only [bne_self_eq_false, Bool.true_bne, Bool.false_bne, Bool.not_true, Bool.not_false, Bool.bne_true, Bool.bne_false, Bool.false_eq_true, if_true, if_false, Nat.add_zero]
  all_goals
    go_enter Try.func40, Try.ntmps40
    go_wp2_with (first | (go_at_call 51; refine (ref_in _ _).mono ?_; rintro e w' ⟨rfl, rfl⟩) | (go_at_call 53; refine (ref_abs _ _ (by omega) (by omega)).mono ?_; rintro e w' ⟨rfl, rfl⟩) | (go_at_call 52; refine (HD.out _).mono ?_; rintro e w1 ⟨rfl, hb1⟩) | (go_at_call 54; refine (ref_result _ _).mono ?_; rintro e w' ⟨rfl, rfl⟩))
    go_ret2
    exact ⟨ret_two (by simp [sg]) (by simp [sg]), hb1⟩

set_option maxHeartbeats 1000000 in
theorem ref_md_m1 (a b c : Int) (n r : Nat) (x y z : Bool) (w : World) (ha : inB a = true) (hb : inB b = true) (hc : inB c = true)
    (a1 : -1125899906842624 ≤ a) (a2 : a ≤ 1125899906842624) (b1 : -1125899906842624 ≤ b) (b2 : b ≤ 1125899906842624) (c1 : -1125899906842624 ≤ c) (c2 : c ≤ 1125899906842624) (hz' : (c == 0) = false)
    (hd1 : 1 ≤ (c.natAbs : Int)) (hn : (n : Int) ≤ 4503599627370496) (HD : Hid (DivAt a b c n r)) (da : decide (a < 0) = x) (db : decide (b < 0) = y) (dc : decide (c < 0) = z) (hr : 1 ≤ (r : Int)) (hr2 : (r : Int) ≤ 1125899906842624) :
    Calls Try.prog 40 #[.int .i64 a, .int .i64 b, .int .i64 c, .int .i64 1] w fun e w' => e = .returned (.tuple #[.int .i64 (okV (sg ((x != y) != z) (n + (if !((x != y) != z) then 1 else 0)))), .int .i64 (okE (sg ((x != y) != z) (n + (if !((x != y) != z) then 1 else 0))))]) ∧ Below w.heap.size w w' := by
  cases x
  all_goals cases y
  all_goals cases z
  all_goals simp only [bne_self_eq_false, Bool.true_bne, Bool.false_bne, Bool.not_true, Bool.not_false, Bool.bne_true, Bool.bne_false, Bool.false_eq_true, if_true, if_false, Nat.add_zero]
  all_goals
    go_enter Try.func40, Try.ntmps40
    go_wp2_with (first | (go_at_call 51; refine (ref_in _ _).mono ?_; rintro e w' ⟨rfl, rfl⟩) | (go_at_call 53; refine (ref_abs _ _ (by omega) (by omega)).mono ?_; rintro e w' ⟨rfl, rfl⟩) | (go_at_call 52; refine (HD.out _).mono ?_; rintro e w1 ⟨rfl, hb1⟩) | (go_at_call 54; refine (ref_result _ _).mono ?_; rintro e w' ⟨rfl, rfl⟩))
    go_ret2
    exact ⟨ret_two (by simp [sg]) (by simp [sg]), hb1⟩

set_option maxHeartbeats 1000000 in
theorem ref_md_gt (a b c : Int) (n r : Nat) (x y z : Bool) (w : World) (ha : inB a = true) (hb : inB b = true) (hc : inB c = true)
    (a1 : -1125899906842624 ≤ a) (a2 : a ≤ 1125899906842624) (b1 : -1125899906842624 ≤ b) (b2 : b ≤ 1125899906842624) (c1 : -1125899906842624 ≤ c) (c2 : c ≤ 1125899906842624) (hz' : (c == 0) = false)
    (hd1 : 1 ≤ (c.natAbs : Int)) (hn : (n : Int) ≤ 4503599627370496) (HD : Hid (DivAt a b c n r)) (da : decide (a < 0) = x) (db : decide (b < 0) = y) (dc : decide (c < 0) = z) (hr : 1 ≤ (r : Int)) (hr2 : (r : Int) ≤ 1125899906842624) (hg : (c.natAbs : Int) < 2 * r) :
    Calls Try.prog 40 #[.int .i64 a, .int .i64 b, .int .i64 c, .int .i64 2] w fun e w' => e = .returned (.tuple #[.int .i64 (okV (sg ((x != y) != z) (n + 1))), .int .i64 (okE (sg ((x != y) != z) (n + 1)))]) ∧ Below w.heap.size w w' := by
  cases x
  all_goals cases y
  all_goals cases z
  all_goals simp only [bne_self_eq_false, Bool.true_bne, Bool.false_bne, Bool.not_true, Bool.not_false, Bool.bne_true, Bool.bne_false, Bool.false_eq_true, if_true, if_false, Nat.add_zero]
  all_goals
    go_enter Try.func40, Try.ntmps40
    go_wp2_with (first | (go_at_call 51; refine (ref_in _ _).mono ?_; rintro e w' ⟨rfl, rfl⟩) | (go_at_call 53; refine (ref_abs _ _ (by omega) (by omega)).mono ?_; rintro e w' ⟨rfl, rfl⟩) | (go_at_call 52; refine (HD.out _).mono ?_; rintro e w1 ⟨rfl, hb1⟩) | (go_at_call 54; refine (ref_result _ _).mono ?_; rintro e w' ⟨rfl, rfl⟩))
    go_ret2
    exact ⟨ret_two (by simp [sg]) (by simp [sg]), hb1⟩

end Go.Proofs.Ytihklpkpcnahkaa.Num
/- The contract of MulDiv of the reference, more of its ways. -/
namespace Go.Proofs.Ytihklpkpcnahkaa.Num
open Go.ChangeShapes Go.WideShapes Go.RowKit
set_option linter.unusedVariables false
set_option linter.unusedSimpArgs false

set_option maxHeartbeats 1000000 in
theorem ref_md_e1 (a b c : Int) (n r : Nat) (x y z : Bool) (w : World) (ha : inB a = true) (hb : inB b = true) (hc : inB c = true)
    (a1 : -1125899906842624 ≤ a) (a2 : a ≤ 1125899906842624) (b1 : -1125899906842624 ≤ b) (b2 : b ≤ 1125899906842624) (c1 : -1125899906842624 ≤ c) (c2 : c ≤ 1125899906842624) (hz' : (c == 0) = false)
    (hd1 : 1 ≤ (c.natAbs : Int)) (hn : (n : Int) ≤ 4503599627370496) (HD : Hid (DivAt a b c n r)) (da : decide (a < 0) = x) (db : decide (b < 0) = y) (dc : decide (c < 0) = z) (hr : 1 ≤ (r : Int)) (hr2 : (r : Int) ≤ 1125899906842624) (hg : decide ((c.natAbs : Int) < 2 * r) = false) (he : (2 * (r : Int) == c.natAbs) = true) (hp : ((n : Int) % 2 == 1) = true) :
    Calls Try.prog 40 #[.int .i64 a, .int .i64 b, .int .i64 c, .int .i64 2] w fun e w' => e = .returned (.tuple #[.int .i64 (okV (sg ((x != y) != z) (n + 1))), .int .i64 (okE (sg ((x != y) != z) (n + 1)))]) ∧ Below w.heap.size w w' := by
  cases x
  all_goals cases y
  all_goals cases z
  all_goals simp only [bne_self_eq_false, Bool.true_bne, Bool.false_bne, Bool.not_true, Bool.not_false, Bool.bne_true, Bool.bne_false, Bool.false_eq_true, if_true, if_false, Nat.add_zero]
  all_goals
    go_enter Try.func40, Try.ntmps40
    go_wp2_with (first | (go_at_call 51; refine (ref_in _ _).mono ?_; rintro e w' ⟨rfl, rfl⟩) | (go_at_call 53; refine (ref_abs _ _ (by omega) (by omega)).mono ?_; rintro e w' ⟨rfl, rfl⟩) | (go_at_call 52; refine (HD.out _).mono ?_; rintro e w1 ⟨rfl, hb1⟩) | (go_at_call 54; refine (ref_result _ _).mono ?_; rintro e w' ⟨rfl, rfl⟩))
    go_ret2
    exact ⟨ret_two (by simp [sg]) (by simp [sg]), hb1⟩

set_option maxHeartbeats 1000000 in
theorem ref_md_e0 (a b c : Int) (n r : Nat) (x y z : Bool) (w : World) (ha : inB a = true) (hb : inB b = true) (hc : inB c = true)
    (a1 : -1125899906842624 ≤ a) (a2 : a ≤ 1125899906842624) (b1 : -1125899906842624 ≤ b) (b2 : b ≤ 1125899906842624) (c1 : -1125899906842624 ≤ c) (c2 : c ≤ 1125899906842624) (hz' : (c == 0) = false)
    (hd1 : 1 ≤ (c.natAbs : Int)) (hn : (n : Int) ≤ 4503599627370496) (HD : Hid (DivAt a b c n r)) (da : decide (a < 0) = x) (db : decide (b < 0) = y) (dc : decide (c < 0) = z) (hr : 1 ≤ (r : Int)) (hr2 : (r : Int) ≤ 1125899906842624) (hg : decide ((c.natAbs : Int) < 2 * r) = false) (he : (2 * (r : Int) == c.natAbs) = true) (hp : ((n : Int) % 2 == 1) = false) :
    Calls Try.prog 40 #[.int .i64 a, .int .i64 b, .int .i64 c, .int .i64 2] w fun e w' => e = .returned (.tuple #[.int .i64 (okV (sg ((x != y) != z) (n + 0))), .int .i64 (okE (sg ((x != y) != z) (n + 0)))]) ∧ Below w.heap.size w w' := by
  cases x
  all_goals cases y
  all_goals cases z
  all_goals simp only [bne_self_eq_false, Bool.true_bne, Bool.false_bne, Bool.not_true, Bool.not_false, Bool.bne_true, Bool.bne_false, Bool.false_eq_true, if_true, if_false, Nat.add_zero]
  all_goals
    go_enter Try.func40, Try.ntmps40
    go_wp2_with (first | (go_at_call 51; refine (ref_in _ _).mono ?_; rintro e w' ⟨rfl, rfl⟩) | (go_at_call 53; refine (ref_abs _ _ (by omega) (by omega)).mono ?_; rintro e w' ⟨rfl, rfl⟩) | (go_at_call 52; refine (HD.out _).mono ?_; rintro e w1 ⟨rfl, hb1⟩) | (go_at_call 54; refine (ref_result _ _).mono ?_; rintro e w' ⟨rfl, rfl⟩))
    go_ret2
    exact ⟨ret_two (by simp [sg]) (by simp [sg]), hb1⟩

set_option maxHeartbeats 1000000 in
theorem ref_md_lt (a b c : Int) (n r : Nat) (x y z : Bool) (w : World) (ha : inB a = true) (hb : inB b = true) (hc : inB c = true)
    (a1 : -1125899906842624 ≤ a) (a2 : a ≤ 1125899906842624) (b1 : -1125899906842624 ≤ b) (b2 : b ≤ 1125899906842624) (c1 : -1125899906842624 ≤ c) (c2 : c ≤ 1125899906842624) (hz' : (c == 0) = false)
    (hd1 : 1 ≤ (c.natAbs : Int)) (hn : (n : Int) ≤ 4503599627370496) (HD : Hid (DivAt a b c n r)) (da : decide (a < 0) = x) (db : decide (b < 0) = y) (dc : decide (c < 0) = z) (hr : 1 ≤ (r : Int)) (hr2 : (r : Int) ≤ 1125899906842624) (hg : decide ((c.natAbs : Int) < 2 * r) = false) (he : (2 * (r : Int) == c.natAbs) = false) :
    Calls Try.prog 40 #[.int .i64 a, .int .i64 b, .int .i64 c, .int .i64 2] w fun e w' => e = .returned (.tuple #[.int .i64 (okV (sg ((x != y) != z) (n + 0))), .int .i64 (okE (sg ((x != y) != z) (n + 0)))]) ∧ Below w.heap.size w w' := by
  cases x
  all_goals cases y
  all_goals cases z
  all_goals simp only [bne_self_eq_false, Bool.true_bne, Bool.false_bne, Bool.not_true, Bool.not_false, Bool.bne_true, Bool.bne_false, Bool.false_eq_true, if_true, if_false, Nat.add_zero]
  all_goals
    go_enter Try.func40, Try.ntmps40
    go_wp2_with (first | (go_at_call 51; refine (ref_in _ _).mono ?_; rintro e w' ⟨rfl, rfl⟩) | (go_at_call 53; refine (ref_abs _ _ (by omega) (by omega)).mono ?_; rintro e w' ⟨rfl, rfl⟩) | (go_at_call 52; refine (HD.out _).mono ?_; rintro e w1 ⟨rfl, hb1⟩) | (go_at_call 54; refine (ref_result _ _).mono ?_; rintro e w' ⟨rfl, rfl⟩))
    go_ret2
    exact ⟨ret_two (by simp [sg]) (by simp [sg]), hb1⟩

end Go.Proofs.Ytihklpkpcnahkaa.Num
/- The contract of MulDiv of the reference: all its ways together. -/
namespace Go.Proofs.Ytihklpkpcnahkaa.Num
open Go.ChangeShapes Go.WideShapes Go.RowKit
set_option linter.unusedVariables false

theorem away_zero (q d : Nat) (m : Int) (neg : Bool) : awayB q 0 d m neg = false := if_pos rfl
theorem away_m0 {q r d : Nat} {neg : Bool} (hr : r ≠ 0) : awayB q r d 0 neg = neg := by unfold awayB; rw [if_neg hr, if_pos rfl]
theorem away_m1 {q r d : Nat} {neg : Bool} (hr : r ≠ 0) : awayB q r d 1 neg = !neg := by unfold awayB; rw [if_neg hr, if_neg (by omega), if_pos rfl]
theorem away_m2 {q r d : Nat} {neg : Bool} (hr : r ≠ 0) : awayB q r d 2 neg = decide (d < 2 * r ∨ (2 * r = d ∧ q % 2 = 1)) := by unfold awayB; rw [if_neg hr, if_neg (by omega), if_neg (by omega)]

theorem ref_md_all (a b c m : Int) (n r : Nat) (x y z : Bool) (w : World) (ha : inB a = true) (hb : inB b = true) (hc : inB c = true)
    (a1 : -1125899906842624 ≤ a) (a2 : a ≤ 1125899906842624) (b1 : -1125899906842624 ≤ b) (b2 : b ≤ 1125899906842624) (c1 : -1125899906842624 ≤ c) (c2 : c ≤ 1125899906842624) (hz' : (c == 0) = false)
    (hd1 : 1 ≤ (c.natAbs : Int)) (hn : (n : Int) ≤ 4503599627370496) (hr2 : (r : Int) ≤ 1125899906842624) (HD : Hid (DivAt a b c n r)) (da : decide (a < 0) = x) (db : decide (b < 0) = y) (dc : decide (c < 0) = z) (m0 : 0 ≤ m) (m2 : m ≤ 2) :
    Calls Try.prog 40 #[.int .i64 a, .int .i64 b, .int .i64 c, .int .i64 m] w fun e w' => e = .returned (.tuple #[.int .i64 (okV (sg ((x != y) != z) (n + if awayB n r c.natAbs m ((x != y) != z) then 1 else 0))), .int .i64 (okE (sg ((x != y) != z) (n + if awayB n r c.natAbs m ((x != y) != z) then 1 else 0)))]) ∧ Below w.heap.size w w' := by
  have hm : m = 0 ∨ m = 1 ∨ m = 2 := by omega
  by_cases h0 : r = 0
  · rcases hm with rfl | rfl | rfl
    · have h := ref_md_z0 a b c n r x y z w ha hb hc a1 a2 b1 b2 c1 c2 hz' hd1 hn HD da db dc h0
      rw [h0, away_zero, if_neg (by decide)]; exact h
    · have h := ref_md_z1 a b c n r x y z w ha hb hc a1 a2 b1 b2 c1 c2 hz' hd1 hn HD da db dc h0
      rw [h0, away_zero, if_neg (by decide)]; exact h
    · have h := ref_md_z2 a b c n r x y z w ha hb hc a1 a2 b1 b2 c1 c2 hz' hd1 hn HD da db dc h0
      rw [h0, away_zero, if_neg (by decide)]; exact h
  · have hr : 1 ≤ (r : Int) := by omega
    rcases hm with rfl | rfl | rfl
    · rw [away_m0 h0]
      exact ref_md_m0 a b c n r x y z w ha hb hc a1 a2 b1 b2 c1 c2 hz' hd1 hn HD da db dc hr hr2
    · rw [away_m1 h0]
      exact ref_md_m1 a b c n r x y z w ha hb hc a1 a2 b1 b2 c1 c2 hz' hd1 hn HD da db dc hr hr2
    · rw [away_m2 h0]
      by_cases hg : c.natAbs < 2 * r
      · rw [decide_eq_true (Or.inl hg), if_pos rfl]
        exact ref_md_gt a b c n r x y z w ha hb hc a1 a2 b1 b2 c1 c2 hz' hd1 hn HD da db dc hr hr2 (by omega)
      · have hg' : decide ((c.natAbs : Int) < 2 * r) = false := decide_eq_false (by omega)
        by_cases he : 2 * r = c.natAbs
        · have he' : (2 * (r : Int) == c.natAbs) = true := by simp; omega
          by_cases hp : n % 2 = 1
          · rw [decide_eq_true (Or.inr ⟨he, hp⟩), if_pos rfl]
            exact ref_md_e1 a b c n r x y z w ha hb hc a1 a2 b1 b2 c1 c2 hz' hd1 hn HD da db dc hr hr2 hg' he' (by simp; omega)
          · rw [decide_eq_false (by omega), if_neg (by decide)]
            exact ref_md_e0 a b c n r x y z w ha hb hc a1 a2 b1 b2 c1 c2 hz' hd1 hn HD da db dc hr hr2 hg' he' (by simp; omega)
        · rw [decide_eq_false (by omega), if_neg (by decide)]
          exact ref_md_lt a b c n r x y z w ha hb hc a1 a2 b1 b2 c1 c2 hz' hd1 hn HD da db dc hr hr2 hg' (by simp; omega)

/-- A quotient that is cut off is out of range all the same. -/
theorem md_cap {a b c m : Int} {neg : Bool} {n : Nat} (hn : negB a b c = neg) (hq : n = capQ (a.natAbs * b.natAbs) c.natAbs) :
    okV (sg neg (n + if awayB n (rr a b c.natAbs) c.natAbs m neg then 1 else 0)) = okV (mdR a b c m) ∧ okE (sg neg (n + if awayB n (rr a b c.natAbs) c.natAbs m neg then 1 else 0)) = okE (mdR a b c m) := by
  by_cases h : qq a b c.natAbs ≤ 1125899906842624
  · have e : n = qq a b c.natAbs := by unfold qq at h ⊢; unfold capQ at hq; omega
    rw [e, mdR_of hn rfl rfl]
    exact ⟨rfl, rfl⟩
  · have hbig : 1125899906842624 < n := by unfold qq at h; unfold capQ at hq; omega
    have o1 := mdR_big (m := m) (show 1125899906842624 < qq a b c.natAbs by omega)
    have o2 : sg neg (n + if awayB n (rr a b c.natAbs) c.natAbs m neg then 1 else 0) < -1125899906842624 ∨ 1125899906842624 < sg neg (n + if awayB n (rr a b c.natAbs) c.natAbs m neg then 1 else 0) := sg_out (by omega)
    rw [okV_no o1, okE_no o1, okV_no o2, okE_no o2]
    exact ⟨rfl, rfl⟩

set_option maxHeartbeats 400000 in
theorem ref_muldiv (a b c m : Int) (w : World) :
    Calls Try.prog 40 #[.int .i64 a, .int .i64 b, .int .i64 c, .int .i64 m] w fun e w' => e = .returned (.tuple #[.int .i64 (mdV a b c m), .int .i64 (mdE a b c m)]) ∧ Below w.heap.size w w' := by
  rcases inB_cases a with ⟨ha, a1, a2⟩ | ⟨ha, na⟩
  rotate_left
  · rw [mdV_out (fun k => na k.1), mdE_out (fun k => na k.1)]
    clear na
    go_enter Try.func40, Try.ntmps40
    go_wp2_with (go_at_call 51; refine (ref_in _ _).mono ?_; rintro e w' ⟨rfl, rfl⟩)
    go_ret2
    exact ⟨rfl, Below.refl _ _⟩
  rcases inB_cases b with ⟨hb, b1, b2⟩ | ⟨hb, nb⟩
  rotate_left
  · rw [mdV_out (fun k => nb k.2.1), mdE_out (fun k => nb k.2.1)]
    clear nb
    go_enter Try.func40, Try.ntmps40
    go_wp2_with (go_at_call 51; refine (ref_in _ _).mono ?_; rintro e w' ⟨rfl, rfl⟩)
    go_ret2
    exact ⟨rfl, Below.refl _ _⟩
  rcases inB_cases c with ⟨hc, c1, c2⟩ | ⟨hc, nc⟩
  rotate_left
  · rw [mdV_out (fun k => nc k.2.2), mdE_out (fun k => nc k.2.2)]
    clear nc
    go_enter Try.func40, Try.ntmps40
    go_wp2_with (go_at_call 51; refine (ref_in _ _).mono ?_; rintro e w' ⟨rfl, rfl⟩)
    go_ret2
    exact ⟨rfl, Below.refl _ _⟩
  have hin : InR a ∧ InR b ∧ InR c := ⟨⟨a1, a2⟩, ⟨b1, b2⟩, ⟨c1, c2⟩⟩
  by_cases hz : c = 0
  · rw [mdV_zero hin hz, mdE_zero hin hz]
    subst hz
    clear hin
    go_enter Try.func40, Try.ntmps40
    go_wp2_with (go_at_call 51; refine (ref_in _ _).mono ?_; rintro e w' ⟨rfl, rfl⟩)
    go_ret2
    exact ⟨rfl, Below.refl _ _⟩
  have hz' : (c == 0) = false := by simpa using hz
  by_cases hm : m < 0 ∨ 2 < m
  · rw [mdV_kind hin hz hm, mdE_kind hin hz hm]
    clear hin hz
    rcases hm with hm | hm
    · go_enter Try.func40, Try.ntmps40
      go_wp2_with (go_at_call 51; refine (ref_in _ _).mono ?_; rintro e w' ⟨rfl, rfl⟩)
      go_ret2
      exact ⟨rfl, Below.refl _ _⟩
    · have hm' : decide (m < 0) = false := decide_eq_false (by omega)
      go_enter Try.func40, Try.ntmps40
      go_wp2_with (go_at_call 51; refine (ref_in _ _).mono ?_; rintro e w' ⟨rfl, rfl⟩)
      go_ret2
      exact ⟨rfl, Below.refl _ _⟩
  rw [mdV_in hin hz hm, mdE_in hin hz hm]
  have hd1 : 1 ≤ c.natAbs := by omega
  obtain ⟨n, hn⟩ : ∃ n, n = capQ (a.natAbs * b.natAbs) c.natAbs := ⟨_, rfl⟩
  have hn2 : (n : Int) ≤ 4503599627370496 := by unfold capQ at hn; omega
  have hr2 : ((rr a b c.natAbs : Nat) : Int) ≤ 1125899906842624 := by have := rr_lt a b hd1; omega
  have hD : DivAt a b c n (rr a b c.natAbs) := fun W => by rw [hn]; exact ref_divide a.natAbs b.natAbs c.natAbs W (by omega) (by omega) hd1 (by omega)
  have h := ref_md_all a b c m n (rr a b c.natAbs) _ _ _ w ha hb hc a1 a2 b1 b2 c1 c2 hz' (by omega) hn2 hr2 (Lib.hid hD) rfl rfl rfl (by omega) (by omega)
  have e := md_cap (m := m) (show negB a b c = ((decide (a < 0) != decide (b < 0)) != decide (c < 0)) from rfl) hn
  rw [e.1, e.2] at h
  exact h
end Go.Proofs.Ytihklpkpcnahkaa.Num
/- Split of the reference for any weights (gen19/c.py out of FibreE). -/
namespace Go.Proofs.Ytihklpkpcnahkaa.Pipe
open Go.ChangeShapes Go.WideShapes Go.RowKit Go.Lib Go.Proofs.Ytihklpkpcnahkaa.Mem
open Go.Proofs.Ytihklpkpcnahkaa.Fibre (MM sumZ rr_Sum)
open Go.Proofs.Ytihklpkpcnahkaa.Share (Ok sumK partsL partsL_len partsL_at wf wf_at sm tw part quo rst lft rank FM lefts gots lefts_best lefts_next gots_next gots_zero lefts_zero lst lst_at lst_len lst_set lst_congr upL upL_len upL_zero upL_at upL_set upL_all one_made zeros quo_le quo_rst rst_lt md_down)
set_option linter.unusedVariables false
set_option maxRecDepth 100000

/-- Weights, their sum, and what is divided. -/
structure Wgt (t : Int) (ws : List Int) (V : Nat) : Prop where
  t0 : 0 ≤ t
  t1 : t ≤ MM
  n0 : 1 ≤ ws.length
  n1 : ws.length ≤ 8
  all : ∀ z ∈ ws, 0 ≤ z ∧ z ≤ MM
  sum : sumZ ws = (V : Int)
  pos : 0 < V
  most : V ≤ 8796093022208
theorem Wgt.ok {t : Int} {ws : List Int} {V : Nat} (h : Wgt t ws V) : Ok t ws := by
  have hM : MM = 1099511627776 := rfl
  have h1 := h.t1
  have hmx : Share.mx = 1125899906842624 := rfl
  have hs : sumK ws ws.length = (V : Int) := h.sum
  have hp := h.pos
  have hq := h.most
  refine ⟨h.t0, by omega, by have := h.n0; omega, by have := h.n1; omega, fun z hz => by have := h.all z hz; omega, by omega, fun h0 => by omega⟩
theorem Wgt.tw {t : Int} {ws : List Int} {V : Nat} (h : Wgt t ws V) : Share.tw (wf ws) ws.length = V := by
  have h1 := h.ok.twI
  have hs : sumK ws ws.length = (V : Int) := h.sum
  omega
/-- A difference of products that may wrap, and that is small itself. -/
theorem wrap_less {P1 P2 R : Int} (h : P1 - P2 = R) (h0 : 0 ≤ R) (h1 : R ≤ 9223372036854775807) : IntKind.i64.wrap (IntKind.i64.wrap P1 - IntKind.i64.wrap P2) = R := by
  rw [IntKind.wrap_i64, IntKind.wrap_i64, IntKind.wrap_i64]
  omega
set_option maxHeartbeats 3200000 in
theorem rr_split (t : Int) (ws : List Int) (A : Option Addr) (n c : Nat) (hn : ws.length = n) (w : World) (hS : Cl eI w A ws) (V : Nat) (h : Wgt t ws V) :
    Calls Try.prog 34 #[.int .i64 t, .slice A n c] w fun e w' => ∃ v, e = .returned v ∧ Own eI 3 w.heap.size w' v (partsL t ws) ∧ Below w.heap.size w w' := by
  have ok := h.ok
  have hW := h.tw
  obtain ⟨T, hT⟩ : ∃ T : Nat, T = t.toNat := ⟨_, rfl⟩
  have ht : t = (T : Int) := by have := ok.t0; omega
  have hTm : T ≤ 1099511627776 := by have h1 := h.t1; have hM : MM = 1099511627776 := rfl; omega
  have HSum := Lib.hid (rr_Sum ws A n c hn.symm w hS (by rw [← hn]; exact h.n1) fun z hz => by have := h.all z hz; have hM : MM = 1099511627776 := rfl; omega)
  rw [h.sum] at HSum
  have HLN : Hid (n ≤ 8 ∧ 0 < n) := Lib.hid (by have := h.n0; have := h.n1; omega)
  have HTM := Lib.hid hTm
  have HRK := Lib.hid (show ∀ k b, k < ws.length → FM (lefts (rst t.toNat (wf ws) ws.length) ws.length k) ws.length b → b < ws.length ∧ rank (rst t.toNat (wf ws) ws.length) ws.length b = k from fun k b hk h => ⟨h.1, lefts_best hk h⟩)
  obtain ⟨q, hq⟩ : ∃ q, q = quo t.toNat (wf ws) ws.length := ⟨_, rfl⟩
  obtain ⟨r, hr⟩ : ∃ r, r = rst t.toNat (wf ws) ws.length := ⟨_, rfl⟩
  obtain ⟨L, hL⟩ : ∃ L, L = lft t.toNat (wf ws) ws.length := ⟨_, rfl⟩
  have HFIN : Hid (lst (fun j => (gots q r ws.length L j : Int)) ws.length = partsL t ws) := by
    show _ = _
    unfold partsL lst
    exact List.map_congr_left fun i hi => by rw [hq, hr, hL, ok.gots (List.mem_range.mp hi)]
  have HLL : Hid (L ≤ ws.length) := hL ▸ ok.lft_le
  have HSUM : Hid (∀ k, k ≤ ws.length → sm q k ≤ T) := fun k hk => by rw [hq, hT]; exact ok.quo_sum hk
  have HLQ : Hid (L = T - sm q ws.length) := by show L = _; rw [hL, hq, hT]; rfl
  have hV0 := h.pos
  have hV1 := h.most
  have hwle : ∀ i, i < ws.length → wf ws i ≤ V := fun i hi => by have := ok.w_le hi; omega
  have HDV : Hid (∀ i, i < ws.length → ∀ W', Calls Try.prog 40 #[.int .i64 (T : Int), .int .i64 (wf ws i : Int), .int .i64 (V : Int), .int .i64 0] W' fun e w' => ∃ E, e = .returned (.tuple #[.int .i64 (q i : Int), .int .i64 E]) ∧ Below W'.heap.size W' w') := fun i hi W' => by
    have h1 := Num.ref_muldiv (T : Int) (wf ws i : Int) (V : Int) 0 W'
    have h2 : Num.mdV (T : Int) (wf ws i : Int) (V : Int) 0 = (q i : Int) := by
      have := md_down (T := T) (w := wf ws i) (W := V) (by omega) (by omega) (hwle i hi) (by omega)
      rw [this, hq]
      unfold quo
      rw [hW, hT]
    rw [h2] at h1
    exact h1.mono fun e w' ⟨h3, h4⟩ => ⟨_, h3, h4⟩
  have HQR0 : Hid (∀ i, i < ws.length → V * q i + r i = T * wf ws i ∧ r i < V) := fun i hi => by
    have h1 := quo_rst (T := t.toNat) (w := wf ws) (n := ws.length) i
    have h2 := rst_lt (T := t.toNat) (w := wf ws) (n := ws.length) (by omega) i
    rw [hW] at h1 h2
    rw [hq, hr, hT]
    exact ⟨h1, h2⟩
  have HWF : Hid (∀ (i : Nat) z, ws[i]? = some z → z = (wf ws i : Int)) := fun i z hz => (wf_at hz (ok.all z (List.mem_of_getElem? hz)).1).symm
  have HWL := Lib.hid hwle
  have HVM := Lib.hid (And.intro hV0 hV1)
  have HQL : Hid (∀ i, i < ws.length → q i ≤ 1125899906842624) := fun i hi => by rw [hq]; exact Nat.le_trans (quo_le hi) (by omega)
  have HS := Lib.hid hS
  rw [← hr] at HRK
  have HN := Lib.hid hn
  rw [hn] at HFIN HLL HSUM HLQ HDV HRK HQR0 HWL HQL
  have hn8 := HLN.out.1
  have hmk := fun W => make_ints n (by omega) W
  subst ht
  clear hS hW ok hT hq hr hL hn hTm h hwle hV0 hV1
  go_enter Try.func34, Try.ntmps34
  go_wp2_with fail
  refine HSum.out.mono ?_
  rintro e w1 ⟨rfl, hb1⟩
  have HB1 := Lib.hid hb1
  clear hb1
  go_upto_region 4 with fail
  have HM1 := Lib.hid (one_made w1 n (by omega))
  have HM2 := Lib.hid (one_made (w1.alloc (zeros n)) n (by omega))
  have hsz : (w1.alloc (zeros n)).heap.size = w1.heap.size + 1 := by simp
  obtain ⟨w2, hw2⟩ : ∃ W, (w1.alloc (zeros n)).alloc (zeros n) = W := ⟨_, rfl⟩
  obtain ⟨gp, hgp⟩ : ∃ g, w1.heap.size = g := ⟨_, rfl⟩
  obtain ⟨gr, hgr⟩ : ∃ g, gp + 1 = g := ⟨_, rfl⟩
  rw [hsz] at HM2
  have HOP : Hid (Own eI 3 gp w2 (.slice (some ⟨gp, 0, none⟩) n n) (lst (fun _ => 0) n)) := hgp ▸ hw2 ▸ HM1.out.alloc _
  have HOR : Hid (Own eI 3 gp w2 (.slice (some ⟨gr, 0, none⟩) n n) (lst (fun _ => 0) n)) := by
    have h1 := HM2.out.less (B' := w1.heap.size) (by omega)
    rw [hw2, hgp, hgr] at h1
    exact h1
  have HB0 : Hid (Below w.heap.size w w2) := Lib.hid (by
    have h1 := bstep HB1.out (bstep (below_alloc w1 (zeros n)) (below_alloc _ (zeros n)))
    rw [hw2] at h1
    exact h1)
  have HNE : Hid (gp ≠ gr) := (by omega : gp ≠ gr)
  have HGP : Hid (w.heap.size ≤ gp) := Lib.hid (by rw [← hgp]; exact HB1.out.size)
  rw [hw2, hgp, hgr]
  clear hw2 hgp hgr hsz hmk HM1 HM2 HB1
  go_wp2_with fail
  go_loopw [8, 9] (fun l x wr => ∃ k M : Nat, l = .int .i64 (M : Int) ∧ x = .int .i64 (k : Int) ∧ k ≤ n ∧ M = T - sm q k ∧ Own eI 3 gp wr (.slice (some ⟨gp, 0, none⟩) n n) (upL q k n) ∧ Own eI 3 gp wr (.slice (some ⟨gr, 0, none⟩) n n) (upL r k n) ∧ Below gp w2 wr) (fun _ x _ => n - (RowKit.intOf x).toNat)
  case atStart => exact ⟨0, T, rfl, rfl, Nat.zero_le _, rfl, by rw [upL_zero]; exact HOP.out, by rw [upL_zero]; exact HOR.out, Below.refl _ _⟩
  case round =>
    obtain ⟨k, M, rfl, rfl, hk, hM, hop, hor, hbel⟩ := hrel
    have HOP2 := Lib.hid hop
    have HOR2 := Lib.hid hor
    have HB := Lib.hid hbel
    have HM := Lib.hid hM
    clear hop hor hbel hM
    rcases Nat.lt_or_ge k n with hlt | hge
    · obtain ⟨z, hz⟩ := get_lt (L := ws) (k := k) (by rw [HN.out]; exact hlt)
      obtain ⟨b, off, hA, hb0, hcell0⟩ := HS.out k z hz
      have hbg : b < gp := Nat.lt_of_lt_of_le hb0 HGP.out
      have hcell : wr.cell? ⟨b, off + k, none⟩ = some (.int .i64 z) := ((HB0.out.trans (HB.out.mono HGP.out)).cell (p := ⟨b, off + k, none⟩) hb0).trans hcell0
      obtain rfl := hA
      obtain rfl := HWF.out k z hz
      have HZ := Lib.hid hz
      have HCALL := Lib.hid (HDV.out k hlt wr)
      have hqr := HQR0.out k hlt
      have hwl := HWL.out k hlt
      obtain ⟨x, hx⟩ : ∃ x, x = wf ws k := ⟨_, rfl⟩
      obtain ⟨Q, hQ⟩ : ∃ x, x = q k := ⟨_, rfl⟩
      obtain ⟨R, hR⟩ : ∃ x, x = r k := ⟨_, rfl⟩
      rw [← hx] at hcell hcell0 HCALL hqr hwl
      rw [← hQ] at HCALL hqr
      rw [← hR] at hqr
      have HQR := Lib.hid (show Q = q k ∧ R = r k from ⟨hQ, hR⟩)
      have i1 : (k : Int) < (n : Int) := by omega
      have i2 : (0 : Int) ≤ (k : Int) := by omega
      have hk1 : IntKind.i64.wrap ((k : Int) + 1) = ((k + 1 : Nat) : Int) := Rw.wrap_id (by omega)
      have HSK := Lib.hid (show sm q (k + 1) ≤ T ∧ sm q (k + 1) = sm q k + Q by
        refine ⟨HSUM.out _ hlt, by rw [HQR.out.1]; rfl⟩)
      have hQT : Q ≤ T := by have := HSK.out; omega
      obtain ⟨P1, hP1⟩ : ∃ P : Int, ((T : Int) * (x : Int)) = P := ⟨_, rfl⟩
      obtain ⟨P2, hP2⟩ : ∃ P : Int, ((Q : Int) * (V : Int)) = P := ⟨_, rfl⟩
      have hTxI : (T : Int) * (x : Int) = ((T * x : Nat) : Int) := by simp
      have hPR : P1 - P2 = (R : Int) := by rw [← hP1, ← hP2, hTxI, ← hqr.1, Int.natCast_add, Int.natCast_mul, Int.mul_comm (Q : Int) (V : Int)]; omega
      have hR1 := hqr.2
      have hV9 := HVM.out.2
      have w5' := wrap_less hPR (by omega) (by omega)
      obtain ⟨U1, w1'⟩ : ∃ U, IntKind.i64.wrap P1 = U := ⟨_, rfl⟩
      obtain ⟨U2, w2'⟩ : ∃ U, IntKind.i64.wrap P2 = U := ⟨_, rfl⟩
      rw [w1', w2'] at w5'
      have w3' : IntKind.i64.wrap (R : Int) = (R : Int) := Rw.wrap_id (by omega)
      clear hz hx hQ hR hb0 hcell0 hk hqr hTxI hwl hV9
      go_wp2_with fail
      refine HCALL.out.mono ?_
      rintro e w3 ⟨E, rfl, hb3⟩
      have hbw : b < wr.heap.size := by have := (HOP2.out.lt gp rfl).2; omega
      have hcell3 : w3.cell? ⟨b, off + k, none⟩ = some (.int .i64 (x : Int)) := (hb3.cell (p := ⟨b, off + k, none⟩) hbw).trans hcell
      have HOP3 := Lib.hid (HOP2.out.on hb3)
      have HOR3 := Lib.hid (HOR2.out.on hb3)
      have HB3 : Hid (Below gp w2 w3) := Lib.hid (HB.out.trans (hb3.mono (Nat.le_of_lt (HOP2.out.lt gp rfl).2)))
      clear hb3 hcell hbw
      have cp := HOP3.out.cell (upL_at q hlt)
      have fp := HOP3.out.warm (upL_len q k n).symm k
      go_upto_region 10 with fail
      obtain ⟨w4, hw4⟩ : ∃ W, w3.setCell ⟨gp, k, none⟩ (.int .i64 (Q : Int)) = W := ⟨_, rfl⟩
      have hgr2 : gr ≠ gp := fun e => HNE.out e.symm
      have HOP4 : Hid (Own eI 3 gp w4 (.slice (some ⟨gp, 0, none⟩) n n) (upL q (k + 1) n)) := Lib.hid (by
        have h1 := HOP3.out.set (upL_len q k n).symm k (Q : Int)
        rw [HQR.out.1, upL_set q hlt] at h1
        rw [← hw4, HQR.out.1]
        exact h1)
      have HOR4 : Hid (Own eI 3 gp w4 (.slice (some ⟨gr, 0, none⟩) n n) (upL r k n)) := Lib.hid (by
        rw [← hw4]
        exact HOR3.out.other (p := ⟨gp, k, none⟩) (by show some gr ≠ some gp; simpa using hgr2) _)
      have hcell4 : w4.cell? ⟨b, off + k, none⟩ = some (.int .i64 (x : Int)) := by
        rw [← hw4, World.cell?_setCell_other w3 _ _ _ (fun e => by have := congrArg Addr.block e; simp only at this; omega)]
        exact hcell3
      have HB4 : Hid (Below gp w2 w4) := Lib.hid (hw4 ▸ below_set HB3.out (p := ⟨gp, k, none⟩) (Nat.le_refl _) _)
      rw [hw4]
      clear hw4 cp fp hcell3
      have cr := HOR4.out.cell (upL_at r hlt)
      have fr := HOR4.out.warm (upL_len r k n).symm k
      go_upto_region 11 with fail
      obtain ⟨w5, hw5⟩ : ∃ W, w4.setCell ⟨gr, k, none⟩ (.int .i64 (R : Int)) = W := ⟨_, rfl⟩
      have HPP : Hid (Own eI 3 gp w5 (.slice (some ⟨gp, 0, none⟩) n n) (upL q (k + 1) n)) := Lib.hid (by
        rw [← hw5]
        exact HOP4.out.other (p := ⟨gr, k, none⟩) (by show some gp ≠ some gr; simpa using HNE.out) _)
      have HRR : Hid (Own eI 3 gp w5 (.slice (some ⟨gr, 0, none⟩) n n) (upL r (k + 1) n)) := Lib.hid (by
        have h2 := HOR4.out.set (upL_len r k n).symm k (R : Int)
        rw [HQR.out.2, upL_set r hlt] at h2
        rw [← hw5, HQR.out.2]
        exact h2)
      have HBB : Hid (Below gp w2 w5) := Lib.hid (hw5 ▸ below_set HB4.out (p := ⟨gr, k, none⟩) (HOR4.out.lt gr rfl).1 _)
      rw [hw5]
      clear hw5 cr fr hcell4
      obtain ⟨M', hM'⟩ : ∃ x, x = M - Q := ⟨_, rfl⟩
      have HMM := Lib.hid (show M' = T - sm q (k + 1) ∧ Q ≤ M ∧ M' = M - Q by have := HM.out; have := HSK.out; omega)
      have hwm : IntKind.i64.wrap ((M : Int) - (Q : Int)) = (M' : Int) := by
        have h1 := HMM.out
        have h4 := HM.out
        have h5 := HTM.out
        rw [Rw.wrap_id (by omega)]; omega
      have HLT := Lib.hid hlt
      clear hM' hlt hPR w1' w2' w3' w5' hP1 hP2 hR1 hQT
      go_wp2_with fail
      go_roundw
      case rel => exact ⟨k + 1, M', rfl, rfl, HLT.out, HMM.out.1, HPP.out, HRR.out, HBB.out⟩
      case measure =>
        have := HLT.out
        simp [RowKit.intOf]; omega
    · obtain rfl : n = k := by omega
      obtain rfl : L = M := by have h1 := HM.out; have h2 := HLQ.out; omega
      have HOP4 : Hid (Own eI 3 gp wr (.slice (some ⟨gp, 0, none⟩) n n) (lst (fun j => (gots q r n 0 j : Int)) n)) := by
        have h1 := HOP2.out
        rw [upL_all] at h1
        rw [lst_congr (g := fun j => (q j : Int)) fun i _ => by rw [gots_zero]]
        exact h1
      have HOR4 : Hid (Own eI 3 gp wr (.slice (some ⟨gr, 0, none⟩) n n) (lst (lefts r n 0) n)) := by
        have h1 := HOR2.out
        rw [upL_all] at h1
        rw [lst_congr (g := fun j => (r j : Int)) fun i _ => lefts_zero r n i]
        exact h1
      clear hk hge
      go_wp2_with fail
      go_loopw [8, 12, 13] (fun l _ _ wr' => ∃ k M : Nat, l = .int .i64 (M : Int) ∧ k + M = L ∧ Own eI 3 gp wr' (.slice (some ⟨gp, 0, none⟩) n n) (lst (fun j => (gots q r n k j : Int)) n) ∧ Own eI 3 gp wr' (.slice (some ⟨gr, 0, none⟩) n n) (lst (lefts r n k) n) ∧ Below gp w2 wr') (fun l _ _ _ => (RowKit.intOf l).toNat)
      case atStart => exact ⟨0, L, rfl, by omega, HOP4.out, HOR4.out, HB.out⟩
      case round =>
        obtain ⟨k, M, rfl, hkM, hop, hor, hbel⟩ := hrel
        have HOP5 := Lib.hid hop
        have HOR5 := Lib.hid hor
        have HB5 := Lib.hid hbel
        have HKM := Lib.hid hkM
        have hLn := HLL.out
        clear hop hor hbel
        rcases Nat.eq_zero_or_pos M with rfl | hpos
        · obtain rfl : k = L := by omega
          have HOF : Hid (Own eI 3 w.heap.size wr (.slice (some ⟨gp, 0, none⟩) n n) (partsL (T : Int) ws)) := by
            rw [← HFIN.out]
            exact HOP5.out.less HGP.out
          have HBF : Hid (Below w.heap.size w wr) := HB0.out.trans (HB5.out.mono HGP.out)
          clear hkM hLn
          go_wp2_with fail
          go_ret
          exact ⟨_, rfl, HOF.out, HBF.out⟩
        · have HKN : Hid (k < n) := (by omega : k < n)
          have f1 : 0 < M := hpos
          obtain ⟨M1, hM1⟩ : ∃ x, x = M - 1 := ⟨_, rfl⟩
          have hwm : IntKind.i64.wrap ((M : Int) - 1) = (M1 : Int) := by rw [wrap_id (by omega)]; omega
          have HMM := Lib.hid (show k + 1 + M1 = L ∧ M1 < M by omega)
          clear hkM hLn hpos hM1
          go_wp2_with fail
          go_loopw [12, 13] (fun b x wr2 => ∃ i j : Nat, b = .int .i64 (j : Int) ∧ x = .int .i64 (i : Int) ∧ i ≤ n ∧ FM (lefts r n k) i j ∧ Own eI 3 gp wr2 (.slice (some ⟨gp, 0, none⟩) n n) (lst (fun j => (gots q r n k j : Int)) n) ∧ Own eI 3 gp wr2 (.slice (some ⟨gr, 0, none⟩) n n) (lst (lefts r n k) n) ∧ Below gp w2 wr2) (fun _ x _ => n - (RowKit.intOf x).toNat)
          case atStart => exact ⟨1, 0, rfl, rfl, by have := HKN.out; omega, FM.start _, HOP5.out, HOR5.out, HB5.out⟩
          case round =>
            obtain ⟨i, j, rfl, rfl, hi, hfm, hop, hor, hbel⟩ := hrel
            have HOP6 := Lib.hid hop
            have HOR6 := Lib.hid hor
            have HB6 := Lib.hid hbel
            have HFM := Lib.hid hfm
            have hn6 := hn8
            clear hop hor hbel hfm
            rcases Nat.lt_or_ge i n with hlt | hge
            · have ci := HOR6.out.cell (lst_at (lefts r n k) hlt)
              have cj := HOR6.out.cell (lst_at (lefts r n k) (show j < n from Nat.lt_trans HFM.out.1 hlt))
              obtain ⟨x, hx⟩ : ∃ x, x = lefts r n k i := ⟨_, rfl⟩
              obtain ⟨y, hy⟩ : ∃ y, y = lefts r n k j := ⟨_, rfl⟩
              rw [← hx] at ci
              rw [← hy] at cj
              have hji := HFM.out.1
              have i1 : (i : Int) < (n : Int) := by omega
              have i2 : (0 : Int) ≤ (i : Int) := by omega
              have i3 : (j : Int) < (n : Int) := by omega
              have i4 : (0 : Int) ≤ (j : Int) := by omega
              have hk1 : IntKind.i64.wrap ((i : Int) + 1) = ((i + 1 : Nat) : Int) := wrap_id (by omega)
              have HLT := Lib.hid hlt
              rcases Int.lt_or_le y x with hc | hc
              · have HFN : Hid (FM (lefts r n k) (i + 1) i) := HFM.out.new (by rw [← hx, ← hy]; exact hc)
                clear hx hy hji hi hlt hn6
                go_wp2_with fail
                go_quiet (fail)
                go_wp2_with fail
                go_roundw
                case rel => exact ⟨i + 1, i, rfl, rfl, HLT.out, HFN.out, HOP6.out.drewN _, HOR6.out.drewN _, below_drewN HB6.out _⟩
                case measure =>
                  have := HLT.out
                  simp [RowKit.intOf]; omega
              · have HFN : Hid (FM (lefts r n k) (i + 1) j) := HFM.out.old (by rw [← hx, ← hy]; exact hc)
                have hc2 : ¬ y < x := by omega
                clear hx hy hji hi hlt hc hn6
                go_wp2_with fail
                go_quiet (fail)
                go_wp2_with fail
                go_roundw
                case rel => exact ⟨i + 1, j, rfl, rfl, HLT.out, HFN.out, HOP6.out.drewN _, HOR6.out.drewN _, below_drewN HB6.out _⟩
                case measure =>
                  have := HLT.out
                  simp [RowKit.intOf]; omega
            · obtain rfl : n = i := by omega
              have HJ := Lib.hid (HRK.out k j HKN.out HFM.out)
              have hj := HJ.out.1
              have cx := HOP6.out.cell (lst_at (fun j => (gots q r n k j : Int)) hj)
              have cz := HOR6.out.cell (lst_at (lefts r n k) hj)
              have fx := HOP6.out.warm (lst_len _ n).symm j
              have fz := HOR6.out.warm (lst_len _ n).symm j
              obtain ⟨G, hG⟩ : ∃ x', x' = gots q r n k j := ⟨_, rfl⟩
              obtain ⟨Z, hZ⟩ : ∃ x', x' = lefts r n k j := ⟨_, rfl⟩
              rw [← hG] at cx
              rw [← hZ] at cz
              have hGb : G ≤ 1125899906842625 := by
                have h1 := HQL.out j hj
                rw [hG]; unfold gots; split <;> omega
              have hne2 : gr ≠ gp := fun e => HNE.out e.symm
              have hne1 := HNE.out
              have HNX : Hid (Own eI 3 gp ((wr.setCell ⟨gp, j, none⟩ (.int .i64 ((G + 1 : Nat) : Int))).setCell ⟨gr, j, none⟩ (.int .i64 (-1))) (.slice (some ⟨gp, 0, none⟩) n n) (lst (fun j => (gots q r n (k + 1) j : Int)) n)) := by
                have h1 := HOP6.out.set (lst_len _ n).symm j ((G + 1 : Nat) : Int)
                rw [lst_set (g := fun j => (gots q r n (k + 1) j : Int)) hj fun i hi => by
                  rw [gots_next hj HJ.out.2 hi]
                  by_cases h2 : i = j
                  · rw [if_pos h2, if_pos h2, h2, hG]
                  · rw [if_neg h2, if_neg h2]] at h1
                exact h1.other (p := ⟨gr, j, none⟩) (by show some gp ≠ some gr; simpa using HNE.out) _
              have HRX : Hid (Own eI 3 gp ((wr.setCell ⟨gp, j, none⟩ (.int .i64 ((G + 1 : Nat) : Int))).setCell ⟨gr, j, none⟩ (.int .i64 (-1))) (.slice (some ⟨gr, 0, none⟩) n n) (lst (lefts r n (k + 1)) n)) := by
                have h1 := HOR6.out.other (p := ⟨gp, j, none⟩) (by show some gr ≠ some gp; simpa using hne2) (.int .i64 ((G + 1 : Nat) : Int))
                have h2 := h1.set (lst_len _ n).symm j (-1)
                rw [lst_set (g := lefts r n (k + 1)) hj fun i hi => lefts_next hj HJ.out.2 hi] at h2
                exact h2
              have HBX : Hid (Below gp w2 ((wr.setCell ⟨gp, j, none⟩ (.int .i64 ((G + 1 : Nat) : Int))).setCell ⟨gr, j, none⟩ (.int .i64 (-1)))) := below_set (below_set HB6.out (p := ⟨gp, j, none⟩) (Nat.le_refl _) _) (p := ⟨gr, j, none⟩) (HOR6.out.lt gr rfl).1 _
              have i3 : (j : Int) < (n : Int) := by omega
              have i4 : (0 : Int) ≤ (j : Int) := by omega
              have hg1 : IntKind.i64.wrap ((G : Int) + 1) = ((G + 1 : Nat) : Int) := wrap_id (by omega)
              clear hG hGb hj hi hge hZ hn6
              go_wp2_with fail
              go_roundw
              case rel => exact ⟨k + 1, M1, rfl, HMM.out.1, HNX.out, HRX.out, HBX.out⟩
              case measure =>
                have := HMM.out
                simp [RowKit.intOf]; omega

end Go.Proofs.Ytihklpkpcnahkaa.Pipe
/- Push: what is so after each plug (pure); rows of rows of the call's own. -/
namespace Go.Proofs.Ytihklpkpcnahkaa.Pipe
open Go.ChangeShapes Go.WideShapes Go.RowKit Go.Lib
open Go.Proofs.Ytihklpkpcnahkaa.Mem (Cl eI Own)
open Go.Proofs.Ytihklpkpcnahkaa.Vec (sumZ plusL lessL plus_at less_at plus_len less_len sumZ_nonneg le_sum sumZ_plus plus_get zero_plus plus_zero plus_assoc sumZ_zeros)
open Go.Proofs.Ytihklpkpcnahkaa.Fibre (MM)
open Go.Proofs.Ytihklpkpcnahkaa.Rw (Rd Kd Row Off glt get_lt bstep)
set_option linter.unusedVariables false
set_option maxRecDepth 100000

/-- What is so when k plugs are done: s is missing, O left, Q is left. -/
structure PInv (kinds : Nat) (S : Int) (P : List (List Int)) (k : Nat) (s : Int) (O : List Int) (Q : List (List Int)) : Prop where
  s0 : 0 ≤ s
  out : outP kinds S P = plusL O (outP kinds s (P.drop k))
  rmn : rmnP S P = Q ++ rmnP s (P.drop k)
  len : O.length = kinds
  sum : sumZ O + s = S
  nn : ∀ z ∈ O, 0 ≤ z
  qs : Q.length ≤ k
section
variable {kinds k : Nat} {S s : Int} {P Q : List (List Int)} {O l : List Int}
theorem PInv.start (h8 : kinds ≤ 8) (h : Pgs kinds P) (h0 : 0 ≤ S) : PInv kinds S P 0 S (List.replicate kinds 0) [] := by
  refine ⟨h0, ?_, rfl, List.length_replicate, by rw [sumZ_zeros]; omega, fun z hz => by rw [List.eq_of_mem_replicate hz]; exact Int.le_refl _, Nat.le_refl _⟩
  rw [List.drop_zero, zero_plus (out_len h8 h)]
theorem drop_pgs (h : Pgs kinds P) (k : Nat) : Pgs kinds (P.drop k) := fun l hl => h l (List.mem_of_mem_drop hl)
theorem drop_at (hl : P[k]? = some l) : P.drop k = l :: P.drop (k + 1) := by
  have h1 := glt hl
  rw [List.drop_eq_getElem_cons h1]
  rw [List.getElem?_eq_getElem h1] at hl
  cases hl; rfl
theorem PInv.step (h8 : kinds ≤ 8) (h : Pgs kinds P) (hl : P[k]? = some l) (hi : PInv kinds S P k s O Q) :
    PInv kinds S P (k + 1) (s - sumZ (gon s l)) (plusL O (gon s l)) (Q ++ if 0 < sumZ (lessL l (gon s l)) then [lessL l (gon s l)] else []) := by
  have hp := h l (List.mem_of_getElem? hl)
  obtain ⟨g1, g2, g3, g4, g5⟩ := gon_step h8 hi.s0 hp (drop_pgs h (k + 1))
  have hgl : (gon s l).length = kinds := (gon_len s l).trans hp.len
  have hol := out_len (s := s - sumZ (gon s l)) h8 (drop_pgs h (k + 1))
  have hd := drop_at hl
  refine ⟨by omega, ?_, ?_, by rw [plus_len (by rw [hgl, hi.len]), hi.len], ?_, fun z hz => ?_, ?_⟩
  · rw [hi.out, hd, g4, plus_assoc (by rw [hgl, hi.len]) (by rw [hol, hi.len])]
  · rw [hi.rmn, hd, g5, List.append_assoc]
  · rw [sumZ_plus (by rw [hgl, hi.len])]
    have := hi.sum
    omega
  · obtain ⟨j, hj⟩ := List.mem_iff_getElem?.mp hz
    obtain ⟨u, v, hu, hv, rfl⟩ := plus_get (by rw [hgl, hi.len]) hj
    obtain ⟨y, hy⟩ := get_lt (L := l) (k := j) (by have := glt hv; rw [gon_len] at this; exact this)
    have h1 := (g3 j v y hv hy).1
    have h2 := hi.nn u (List.mem_of_getElem? hu)
    omega
  · rw [List.length_append]
    have := hi.qs
    split
    · rw [List.length_singleton]; omega
    · rw [List.length_nil]; omega
theorem PInv.end_ (hi : PInv kinds S P P.length s O Q) : outP kinds S P = O ∧ rmnP S P = Q := by
  have h1 := hi.out
  have h2 := hi.rmn
  rw [List.drop_length] at h1 h2
  refine ⟨?_, ?_⟩
  · rw [h1]; exact plus_zero hi.len
  · rw [h2]; exact List.append_nil _
/-- Every mass that left is at most what was pushed. -/
theorem PInv.lim (hi : PInv kinds S P k s O Q) {z : Int} (hz : z ∈ O) : 0 ≤ z ∧ z ≤ S := by
  obtain ⟨j, hj⟩ := List.mem_iff_getElem?.mp hz
  have h1 := le_sum hi.nn hj
  have h2 := hi.sum
  have h3 := hi.s0
  exact ⟨hi.nn z hz, by omega⟩
end
/-- Slices of the call's own that lie in a row of the call's own. -/
def InsO (B : Nat) (w : World) (v : Value) (R : List Sr) (P : List (List Int)) : Prop :=
  R.length = P.length ∧ ∀ (k : Nat) (r : Sr) (l : List Int), R[k]? = some r → P[k]? = some l → r.2.1 = l.length ∧ Own eI 3 B w (sr r) l ∧ ∀ g, (sr r).ownBlock = some g → v.ownBlock ≠ some g
theorem InsO.nil (B : Nat) (w : World) (v : Value) : InsO B w v [] [] := ⟨rfl, fun k r l h => by simp at h⟩
theorem InsO.off {B : Nat} {w w' : World} {v : Value} {R : List Sr} {P : List (List Int)} {S : Nat → Prop} (h : InsO B w v R P) (ho : Off S w w') (hS : ∀ x, S x → x < B ∨ w.heap.size ≤ x) : InsO B w' v R P :=
  ⟨h.1, fun k r l hr hl => by
    obtain ⟨h1, h2, h3⟩ := h.2 k r l hr hl
    exact ⟨h1, h2.keep fun g hg => ho.block g (h2.lt g hg).2 fun hs => by have h4 := hS g hs; have h5 := h2.lt g hg; omega, h3⟩⟩
theorem rowP_off {B : Nat} {w w' : World} {v : Value} {R : List Sr} {S : Nat → Prop} (h : Row cP 1 29 B w v R) (ho : Off S w w') (hS : ∀ x, S x → x < B ∨ w.heap.size ≤ x) : Row cP 1 29 B w' v R :=
  h.keep fun g hg => ho.block g (h.lt g hg).2 fun hs => by have h4 := hS g hs; have h5 := h.lt g hg; omega
/-- An append of one slice of the call's own. -/
theorem InsO.snoc {B : Nat} {w w' : World} {v v' : Value} {R : List Sr} {P : List (List Int)} {r : Sr} {l : List Int} (h : InsO B w v R P) (hr : Row cP 1 29 B w v R) (hl : r.2.1 = l.length) (ho : Own eI 3 B w (sr r) l) (hne : ∀ g, (sr r).ownBlock = some g → v.ownBlock ≠ some g)
    (hg : w.grownBy w' v.ownBlock) (hat : v'.ownBlock = v.ownBlock ∨ ∃ b, v'.ownBlock = some b ∧ w.heap.size ≤ b) : InsO B w' v' (R ++ [r]) (P ++ [l]) := by
  have go : ∀ (x : Sr) (u : List Int), x.2.1 = u.length → Own eI 3 B w (sr x) u → (∀ g, (sr x).ownBlock = some g → v.ownBlock ≠ some g) → x.2.1 = u.length ∧ Own eI 3 B w' (sr x) u ∧ ∀ g, (sr x).ownBlock = some g → v'.ownBlock ≠ some g := fun x u e hx hn =>
    ⟨e, hx.keep fun g hgx => hg.block g (hx.lt g hgx).2 fun e => hn g hgx e.symm, fun g hgx e => by
      rcases hat with h1 | ⟨b, h1, h2⟩
      · exact hn g hgx (h1.symm.trans e)
      · rw [h1] at e
        cases e
        have := (hx.lt g hgx).2
        omega⟩
  refine ⟨by rw [List.length_append, List.length_append, h.1]; rfl, fun k x u hx hu => ?_⟩
  rcases Nat.lt_or_ge k R.length with hk | hk
  · rw [List.getElem?_append_left hk] at hx
    rw [List.getElem?_append_left (by rw [← h.1]; exact hk)] at hu
    obtain ⟨h1, h2, h3⟩ := h.2 k x u hx hu
    exact go x u h1 h2 h3
  · rw [List.getElem?_append_right hk] at hx
    rw [List.getElem?_append_right (by rw [← h.1]; exact hk)] at hu
    rw [← h.1] at hu
    obtain ⟨j, hj⟩ : ∃ j, k - R.length = j := ⟨_, rfl⟩
    rw [hj] at hx hu
    cases j with
    | zero => simp at hx hu; subst hx; subst hu; exact go r l hl ho hne
    | succ j => simp at hx
/-- Slices of the call's own that lie in a row. -/
def InsQ (B : Nat) (w : World) (R : List Sr) (P : List (List Int)) : Prop :=
  R.length = P.length ∧ ∀ (k : Nat) (r : Sr) (l : List Int), R[k]? = some r → P[k]? = some l → r.2.1 = l.length ∧ Own eI 3 B w (sr r) l
theorem InsO.insQ {B : Nat} {w : World} {v : Value} {R : List Sr} {P : List (List Int)} (h : InsO B w v R P) : InsQ B w R P :=
  ⟨h.1, fun k r l hr hl => by obtain ⟨h1, h2, -⟩ := h.2 k r l hr hl; exact ⟨h1, h2⟩⟩
theorem InsQ.plsO {B : Nat} {w : World} {A : Option Addr} {n c : Nat} {R : List Sr} {P : List (List Int)} (h : InsQ B w R P) (hr : Row cP 1 29 B w (.slice A n c) R) : P.length = n ∧ n ≤ c ∧ PlsO B w A P := by
  obtain ⟨A', c', he, h1, -, h2, h3, -⟩ := hr.one cP_len
  cases he
  refine ⟨h.1.symm, h1, fun k l hl => ?_⟩
  obtain ⟨r, hk⟩ := get_lt (L := R) (k := k) (by rw [h.1]; exact glt hl)
  obtain ⟨b, off, e, hlt, hc⟩ := h2 k r hk
  obtain ⟨i1, i2⟩ := h.2 k r l hk hl
  have c0 := hc 0 _ rfl
  rw [Nat.mul_one, Nat.add_zero] at c0
  obtain ⟨A1, n1, c1⟩ := r
  simp only at i1
  subst i1
  have hB := (hr.lt b (by rw [h3, e]; rfl)).1
  exact ⟨b, off, A1, c1, e, hB, hlt, c0, i2⟩
/-- The last append, in a region that makes the slice too. -/
theorem InsO.last {B : Nat} {w w1 w' : World} {v : Value} {R : List Sr} {P : List (List Int)} {r : Sr} {l : List Int} (h : InsO B w v R P) (hb : Below w.heap.size w w1) (hk : ∀ b, b < w1.heap.size → v.ownBlock ≠ some b → w'.heap[b]? = w1.heap[b]?)
    (hl : r.2.1 = l.length) (ho : Own eI 3 B w1 (sr r) l) (hne : ∀ g, (sr r).ownBlock = some g → v.ownBlock ≠ some g) : InsQ B w' (R ++ [r]) (P ++ [l]) := by
  have go : ∀ (x : Sr) (u : List Int), x.2.1 = u.length → Own eI 3 B w1 (sr x) u → (∀ g, (sr x).ownBlock = some g → v.ownBlock ≠ some g) → x.2.1 = u.length ∧ Own eI 3 B w' (sr x) u := fun x u e hx hn =>
    ⟨e, hx.keep fun g hgx => hk g (hx.lt g hgx).2 (hn g hgx)⟩
  refine ⟨by rw [List.length_append, List.length_append, h.1]; rfl, fun k x u hx hu => ?_⟩
  rcases Nat.lt_or_ge k R.length with hk | hk
  · rw [List.getElem?_append_left hk] at hx
    rw [List.getElem?_append_left (by rw [← h.1]; exact hk)] at hu
    obtain ⟨h1, h2, h3⟩ := h.2 k x u hx hu
    exact go x u h1 (h2.on hb) h3
  · rw [List.getElem?_append_right hk] at hx
    rw [List.getElem?_append_right (by rw [← h.1]; exact hk)] at hu
    rw [← h.1] at hu
    obtain ⟨j, hj⟩ : ∃ j, k - R.length = j := ⟨_, rfl⟩
    rw [hj] at hx hu
    cases j with
    | zero => simp at hx hu; subst hx; subst hu; exact go r l hl ho hne
    | succ j => simp at hx
section
variable {kinds : Nat} {s : Int} {l : List Int}
theorem gon_lim (h8 : kinds ≤ 8) (s0 : 0 ≤ s) (h : Pg kinds l) : (∀ z ∈ gon s l, 0 ≤ z ∧ z ≤ MM) ∧ ∀ z ∈ lessL l (gon s l), 0 ≤ z ∧ z ≤ MM := by
  obtain ⟨-, -, g3, -⟩ := gon_step h8 s0 h (P := []) (fun x hx => by simp at hx)
  have hgl := gon_len s l
  refine ⟨fun z hz => ?_, fun z hz => ?_⟩
  · obtain ⟨j, hj⟩ := List.mem_iff_getElem?.mp hz
    obtain ⟨y, hy⟩ := get_lt (L := l) (k := j) (by have := glt hj; omega)
    have h1 := g3 j z y hj hy
    have h2 := h.all y (List.mem_of_getElem? hy)
    omega
  · obtain ⟨j, hj⟩ := List.mem_iff_getElem?.mp hz
    obtain ⟨u, v, hu, hv, rfl⟩ := Vec.less_get hgl hj
    have h1 := g3 j v u hv hu
    have h2 := h.all u (List.mem_of_getElem? hu)
    omega
/-- What the reference's Split wants. -/
theorem Pg.wgt (h : Pg kinds l) (h8 : kinds ≤ 8) (s0 : 0 ≤ s) (s1 : s ≤ MM) : ∃ V : Nat, Wgt s l V := by
  have h1 := (h.sh h8).sum
  have hp := h.pos
  refine ⟨(sumZ l).toNat, s0, s1, ?_, by rw [h.len]; exact h8, h.all, ?_, by omega, by omega⟩
  · rcases Nat.eq_zero_or_pos l.length with h0 | h0
    · rw [List.eq_nil_of_length_eq_zero h0, Vec.sumZ_nil] at hp; omega
    · exact h0
  · show sumZ l = _
    omega
end
/-! ### Errors of Push -/
section
variable {hold : Int} {P : List (List Int)} {m : List Int}
theorem puE_ck (h : ¬ ckP hold P = 0) : puE hold P m = ckP hold P := if_neg h
theorem puE_par (h : ckP hold P = 0) (h2 : ¬ Fibre.parE m (kin P : Int) = 0) : puE hold P m = Fibre.parE m (kin P : Int) := by unfold puE; rw [if_pos h, if_neg h2]
theorem puE_big (h : ckP hold P = 0) (h2 : Fibre.parE m (kin P : Int) = 0) (h3 : hold < sumZ m) : puE hold P m = 8 := by unfold puE; rw [if_pos h, if_pos h2, if_pos h3]
theorem puE_end (h : ckP hold P = 0) (h2 : Fibre.parE m (kin P : Int) = 0) (h3 : ¬ hold < sumZ m) : puE hold P m = if 256 < (newP P m).length then 8 else 0 := by unfold puE; rw [if_pos h, if_pos h2, if_neg h3]
theorem pu_no (h : ¬ puE hold P m = 0) : puH hold P m = 0 ∧ puP hold P m = [] ∧ puO hold P m = [] := ⟨if_neg h, if_neg h, if_neg h⟩
theorem pu_ok (h : puE hold P m = 0) : puH hold P m = hold ∧ puP hold P m = newP P m ∧ puO hold P m = outP (kin P) (sumZ m) P := ⟨if_pos h, if_pos h, if_pos h⟩
end
end Go.Proofs.Ytihklpkpcnahkaa.Pipe
