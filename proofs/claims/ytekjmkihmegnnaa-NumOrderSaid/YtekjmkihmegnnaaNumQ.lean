/- The contract of MulDiv of the reference: all its ways together. -/
import Derived.Test.YtekjmkihmegnnaaNumO
import Derived.Test.YtekjmkihmegnnaaNumP
namespace Go.Proofs.Ytekjmkihmegnnaa
open Go.ChangeShapes Go.WideShapes Go.RowKit
set_option linter.unusedVariables false

theorem away_zero (q d : Nat) (m : Int) (neg : Bool) : awayB q 0 d m neg = false := if_pos rfl
theorem away_m0 {q r d : Nat} {neg : Bool} (hr : r ≠ 0) : awayB q r d 0 neg = neg := by unfold awayB; rw [if_neg hr, if_pos rfl]
theorem away_m1 {q r d : Nat} {neg : Bool} (hr : r ≠ 0) : awayB q r d 1 neg = !neg := by unfold awayB; rw [if_neg hr, if_neg (by omega), if_pos rfl]
theorem away_m2 {q r d : Nat} {neg : Bool} (hr : r ≠ 0) : awayB q r d 2 neg = decide (d < 2 * r ∨ (2 * r = d ∧ q % 2 = 1)) := by unfold awayB; rw [if_neg hr, if_neg (by omega), if_neg (by omega)]

theorem ref_md_all (a b c m : Int) (n r : Nat) (x y z : Bool) (w : World) (ha : inB a = true) (hb : inB b = true) (hc : inB c = true)
    (a1 : -1125899906842624 ≤ a) (a2 : a ≤ 1125899906842624) (b1 : -1125899906842624 ≤ b) (b2 : b ≤ 1125899906842624) (c1 : -1125899906842624 ≤ c) (c2 : c ≤ 1125899906842624) (hz' : (c == 0) = false)
    (hd1 : 1 ≤ (c.natAbs : Int)) (hn : (n : Int) ≤ 4503599627370496) (hr2 : (r : Int) ≤ 1125899906842624) (HD : Hid (DivAt a b c n r)) (da : decide (a < 0) = x) (db : decide (b < 0) = y) (dc : decide (c < 0) = z) (m0 : 0 ≤ m) (m2 : m ≤ 2) :
    Calls Try.prog 22 #[.int .i64 a, .int .i64 b, .int .i64 c, .int .i64 m] w fun e w' => e = .returned (.tuple #[.int .i64 (okV (sg ((x != y) != z) (n + if awayB n r c.natAbs m ((x != y) != z) then 1 else 0))), .int .i64 (okE (sg ((x != y) != z) (n + if awayB n r c.natAbs m ((x != y) != z) then 1 else 0)))]) ∧ Below w.heap.size w w' := by
  have hm : m = 0 ∨ m = 1 ∨ m = 2 := by omega
  by_cases h0 : r = 0
  · rcases hm with rfl | rfl | rfl
    · have h := ref_md_z0 a b c n r x y z w ha hb hc a1 a2 b1 b2 c1 c2 hz' hd1 hn HD da db dc h0
      rw [h0, away_zero, if_neg (by decide)]; exact h
    · have h := ref_md_z1 a b c n r x y z w ha hb hc a1 a2 b1 b2 c1 c2 hz' hd1 hn HD da db dc h0
      rw [h0, away_zero, if_neg (by decide)]; exact h
    · have h := ref_md_z2 a b c n r x y z w ha hb hc a1 a2 b1 b2 c1 c2 hz' hd1 hn HD da db dc h0
      rw [h0, away_zero, if_neg (by decide)]; exact h
  · have hr : 1 ≤ (r : Int) := by omega
    rcases hm with rfl | rfl | rfl
    · rw [away_m0 h0]
      exact ref_md_m0 a b c n r x y z w ha hb hc a1 a2 b1 b2 c1 c2 hz' hd1 hn HD da db dc hr hr2
    · rw [away_m1 h0]
      exact ref_md_m1 a b c n r x y z w ha hb hc a1 a2 b1 b2 c1 c2 hz' hd1 hn HD da db dc hr hr2
    · rw [away_m2 h0]
      by_cases hg : c.natAbs < 2 * r
      · rw [decide_eq_true (Or.inl hg), if_pos rfl]
        exact ref_md_gt a b c n r x y z w ha hb hc a1 a2 b1 b2 c1 c2 hz' hd1 hn HD da db dc hr hr2 (by omega)
      · have hg' : decide ((c.natAbs : Int) < 2 * r) = false := decide_eq_false (by omega)
        by_cases he : 2 * r = c.natAbs
        · have he' : (2 * (r : Int) == c.natAbs) = true := by simp; omega
          by_cases hp : n % 2 = 1
          · rw [decide_eq_true (Or.inr ⟨he, hp⟩), if_pos rfl]
            exact ref_md_e1 a b c n r x y z w ha hb hc a1 a2 b1 b2 c1 c2 hz' hd1 hn HD da db dc hr hr2 hg' he' (by simp; omega)
          · rw [decide_eq_false (by omega), if_neg (by decide)]
            exact ref_md_e0 a b c n r x y z w ha hb hc a1 a2 b1 b2 c1 c2 hz' hd1 hn HD da db dc hr hr2 hg' he' (by simp; omega)
        · rw [decide_eq_false (by omega), if_neg (by decide)]
          exact ref_md_lt a b c n r x y z w ha hb hc a1 a2 b1 b2 c1 c2 hz' hd1 hn HD da db dc hr hr2 hg' (by simp; omega)

/-- A quotient that is cut off is out of range all the same. -/
theorem md_cap {a b c m : Int} {neg : Bool} {n : Nat} (hn : negB a b c = neg) (hq : n = capQ (a.natAbs * b.natAbs) c.natAbs) :
    okV (sg neg (n + if awayB n (rr a b c.natAbs) c.natAbs m neg then 1 else 0)) = okV (mdR a b c m) ∧ okE (sg neg (n + if awayB n (rr a b c.natAbs) c.natAbs m neg then 1 else 0)) = okE (mdR a b c m) := by
  by_cases h : qq a b c.natAbs ≤ 1125899906842624
  · have e : n = qq a b c.natAbs := by unfold qq at h ⊢; unfold capQ at hq; omega
    rw [e, mdR_of hn rfl rfl]
    exact ⟨rfl, rfl⟩
  · have hbig : 1125899906842624 < n := by unfold qq at h; unfold capQ at hq; omega
    have o1 := mdR_big (m := m) (show 1125899906842624 < qq a b c.natAbs by omega)
    have o2 : sg neg (n + if awayB n (rr a b c.natAbs) c.natAbs m neg then 1 else 0) < -1125899906842624 ∨ 1125899906842624 < sg neg (n + if awayB n (rr a b c.natAbs) c.natAbs m neg then 1 else 0) := sg_out (by omega)
    rw [okV_no o1, okE_no o1, okV_no o2, okE_no o2]
    exact ⟨rfl, rfl⟩

set_option maxHeartbeats 400000 in
theorem ref_muldiv (a b c m : Int) (w : World) :
    Calls Try.prog 22 #[.int .i64 a, .int .i64 b, .int .i64 c, .int .i64 m] w fun e w' => e = .returned (.tuple #[.int .i64 (mdV a b c m), .int .i64 (mdE a b c m)]) ∧ Below w.heap.size w w' := by
  rcases inB_cases a with ⟨ha, a1, a2⟩ | ⟨ha, na⟩
  rotate_left
  · rw [mdV_out (fun k => na k.1), mdE_out (fun k => na k.1)]
    clear na
    go_enter Try.func22, Try.ntmps22
    go_wp2_with (go_at_call 29; refine (ref_in _ _).mono ?_; rintro e w' ⟨rfl, rfl⟩)
    go_ret2
    exact ⟨rfl, Below.refl _ _⟩
  rcases inB_cases b with ⟨hb, b1, b2⟩ | ⟨hb, nb⟩
  rotate_left
  · rw [mdV_out (fun k => nb k.2.1), mdE_out (fun k => nb k.2.1)]
    clear nb
    go_enter Try.func22, Try.ntmps22
    go_wp2_with (go_at_call 29; refine (ref_in _ _).mono ?_; rintro e w' ⟨rfl, rfl⟩)
    go_ret2
    exact ⟨rfl, Below.refl _ _⟩
  rcases inB_cases c with ⟨hc, c1, c2⟩ | ⟨hc, nc⟩
  rotate_left
  · rw [mdV_out (fun k => nc k.2.2), mdE_out (fun k => nc k.2.2)]
    clear nc
    go_enter Try.func22, Try.ntmps22
    go_wp2_with (go_at_call 29; refine (ref_in _ _).mono ?_; rintro e w' ⟨rfl, rfl⟩)
    go_ret2
    exact ⟨rfl, Below.refl _ _⟩
  have hin : InR a ∧ InR b ∧ InR c := ⟨⟨a1, a2⟩, ⟨b1, b2⟩, ⟨c1, c2⟩⟩
  by_cases hz : c = 0
  · rw [mdV_zero hin hz, mdE_zero hin hz]
    subst hz
    clear hin
    go_enter Try.func22, Try.ntmps22
    go_wp2_with (go_at_call 29; refine (ref_in _ _).mono ?_; rintro e w' ⟨rfl, rfl⟩)
    go_ret2
    exact ⟨rfl, Below.refl _ _⟩
  have hz' : (c == 0) = false := by simpa using hz
  by_cases hm : m < 0 ∨ 2 < m
  · rw [mdV_kind hin hz hm, mdE_kind hin hz hm]
    clear hin hz
    rcases hm with hm | hm
    · go_enter Try.func22, Try.ntmps22
      go_wp2_with (go_at_call 29; refine (ref_in _ _).mono ?_; rintro e w' ⟨rfl, rfl⟩)
      go_ret2
      exact ⟨rfl, Below.refl _ _⟩
    · have hm' : decide (m < 0) = false := decide_eq_false (by omega)
      go_enter Try.func22, Try.ntmps22
      go_wp2_with (go_at_call 29; refine (ref_in _ _).mono ?_; rintro e w' ⟨rfl, rfl⟩)
      go_ret2
      exact ⟨rfl, Below.refl _ _⟩
  rw [mdV_in hin hz hm, mdE_in hin hz hm]
  have hd1 : 1 ≤ c.natAbs := by omega
  obtain ⟨n, hn⟩ : ∃ n, n = capQ (a.natAbs * b.natAbs) c.natAbs := ⟨_, rfl⟩
  have hn2 : (n : Int) ≤ 4503599627370496 := by unfold capQ at hn; omega
  have hr2 : ((rr a b c.natAbs : Nat) : Int) ≤ 1125899906842624 := by have := rr_lt a b hd1; omega
  have hD : DivAt a b c n (rr a b c.natAbs) := fun W => by rw [hn]; exact ref_divide a.natAbs b.natAbs c.natAbs W (by omega) (by omega) hd1 (by omega)
  have h := ref_md_all a b c m n (rr a b c.natAbs) _ _ _ w ha hb hc a1 a2 b1 b2 c1 c2 hz' (by omega) hn2 hr2 (Lib.hid hD) rfl rfl rfl (by omega) (by omega)
  have e := md_cap (m := m) (show negB a b c = ((decide (a < 0) != decide (b < 0)) != decide (c < 0)) from rfl) hn
  rw [e.1, e.2] at h
  exact h
#print axioms ref_muldiv
end Go.Proofs.Ytekjmkihmegnnaa
