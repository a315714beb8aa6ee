/- Contracts of num.grows and num.MulDiv. -/
import Derived.Test.YtkbnhmgladkojaaZumC
import Derived.Test.YtkbnhmgladkojaaZumK
namespace Go.Proofs.Ytkbnhmgladkojaa.Num
open Go.ChangeShapes Go.WideShapes Go.RowKit
set_option linter.unusedVariables false
set_option linter.unusedSimpArgs false

/-- Does rounding with mode m make the magnitude of a quotient greater? q and r: quotient and remainder of the magnitudes, d: the divisor's. -/
def awayB (q r d : Nat) (m : Int) (neg : Bool) : Bool :=
  if r = 0 then false else if m = 0 then neg else if m = 1 then !neg else decide (d < 2 * r ∨ (2 * r = d ∧ q % 2 = 1))
/-- Is the quotient negative? -/
def negB (a b c : Int) : Bool := ((decide (a < 0) != decide (b < 0)) != decide (c < 0))
def sg (neg : Bool) (m : Nat) : Int := if neg then -(m : Int) else m
/-- The rounded magnitude of a * b / c. -/
def mdM (a b c m : Int) : Nat :=
  a.natAbs * b.natAbs / c.natAbs + (if awayB (a.natAbs * b.natAbs / c.natAbs) (a.natAbs * b.natAbs % c.natAbs) c.natAbs m (negB a b c) then 1 else 0)
def mdR (a b c m : Int) : Int := sg (negB a b c) (mdM a b c m)
def mdV (a b c m : Int) : Int := if ¬ (InR a ∧ InR b ∧ InR c) then 0 else if c = 0 then 0 else if m < 0 ∨ 2 < m then 0 else okV (mdR a b c m)
def mdE (a b c m : Int) : Int := if ¬ (InR a ∧ InR b ∧ InR c) then 1 else if c = 0 then 16 else if m < 0 ∨ 2 < m then 17 else okE (mdR a b c m)

section
variable {a b c m : Int}
theorem mdV_out (h : ¬ (InR a ∧ InR b ∧ InR c)) : mdV a b c m = 0 := if_pos h
theorem mdE_out (h : ¬ (InR a ∧ InR b ∧ InR c)) : mdE a b c m = 1 := if_pos h
theorem mdV_zero (h : InR a ∧ InR b ∧ InR c) (hc : c = 0) : mdV a b c m = 0 := by unfold mdV; rw [if_neg (by simpa using h), if_pos hc]
theorem mdE_zero (h : InR a ∧ InR b ∧ InR c) (hc : c = 0) : mdE a b c m = 16 := by unfold mdE; rw [if_neg (by simpa using h), if_pos hc]
theorem mdV_kind (h : InR a ∧ InR b ∧ InR c) (hc : c ≠ 0) (hm : m < 0 ∨ 2 < m) : mdV a b c m = 0 := by unfold mdV; rw [if_neg (by simpa using h), if_neg hc, if_pos hm]
theorem mdE_kind (h : InR a ∧ InR b ∧ InR c) (hc : c ≠ 0) (hm : m < 0 ∨ 2 < m) : mdE a b c m = 17 := by unfold mdE; rw [if_neg (by simpa using h), if_neg hc, if_pos hm]
theorem mdV_in (h : InR a ∧ InR b ∧ InR c) (hc : c ≠ 0) (hm : ¬ (m < 0 ∨ 2 < m)) : mdV a b c m = okV (mdR a b c m) := by unfold mdV; rw [if_neg (by simpa using h), if_neg hc, if_neg hm]
theorem mdE_in (h : InR a ∧ InR b ∧ InR c) (hc : c ≠ 0) (hm : ¬ (m < 0 ∨ 2 < m)) : mdE a b c m = okE (mdR a b c m) := by unfold mdE; rw [if_neg (by simpa using h), if_neg hc, if_neg hm]
theorem sg_out {neg : Bool} {n : Nat} (h : 1125899906842624 < n) : sg neg n < -1125899906842624 ∨ 1125899906842624 < sg neg n := by
  unfold sg; cases neg <;> simp <;> omega
end

theorem num_grows (q r d : Nat) (m : Int) (neg : Bool) (w : World) (hr : r ≤ 1125899906842624) (hm0 : 0 ≤ m) (hm2 : m ≤ 2) :
    Calls Try.prog 43 #[.int .u64 (q : Int), .int .u64 (r : Int), .int .u64 (d : Int), .int .i64 m, .bool neg] w fun e w' => e = .returned (.bool (awayB q r d m neg)) ∧ w = w' := by
  by_cases h0 : r = 0
  · have e : awayB q r d m neg = false := if_pos h0
    rw [e]; clear e
    subst h0
    go_enter Try.func43, Try.ntmps43
    go_wp2
    go_ret
    exact ⟨rfl, rfl⟩
  · have h1 : 1 ≤ (r : Int) := by omega
    have hrr : (r : Int) ≤ 1125899906842624 := by omega
    by_cases e0 : m = 0
    · have e : awayB q r d m neg = neg := by unfold awayB; rw [if_neg h0, if_pos e0]
      rw [e]; clear e h0
      subst e0
      go_enter Try.func43, Try.ntmps43
      go_wp2
      go_ret
      exact ⟨rfl, rfl⟩
    · by_cases e1 : m = 1
      · have e : awayB q r d m neg = !neg := by unfold awayB; rw [if_neg h0, if_neg e0, if_pos e1]
        rw [e]; clear e h0 e0
        subst e1
        go_enter Try.func43, Try.ntmps43
        go_wp2
        go_ret
        exact ⟨rfl, rfl⟩
      · have e : awayB q r d m neg = decide (d < 2 * r ∨ (2 * r = d ∧ q % 2 = 1)) := by unfold awayB; rw [if_neg h0, if_neg e0, if_neg e1]
        rw [e]; clear e
        obtain rfl : m = 2 := by omega
        clear e0 e1 h0 hm0 hm2
        rcases Nat.lt_or_ge d (2 * r) with hlt | hge
        · have hl : (d : Int) < 2 * r := by omega
          have e : decide (d < 2 * r ∨ (2 * r = d ∧ q % 2 = 1)) = true := decide_eq_true (Or.inl hlt)
          rw [e]; clear e hlt
          go_enter Try.func43, Try.ntmps43
          go_wp2
          go_ret
          exact ⟨rfl, rfl⟩
        · by_cases heq : 2 * r = d
          · have e : decide (d < 2 * r ∨ (2 * r = d ∧ q % 2 = 1)) = ((q : Int) % 2 == 1) := by
              rw [Bool.eq_iff_iff]; simp; omega
            rw [e]; clear e hge
            subst heq
            go_enter Try.func43, Try.ntmps43
            go_wp2
            go_ret
            exact ⟨rfl, rfl⟩
          · have e : decide (d < 2 * r ∨ (2 * r = d ∧ q % 2 = 1)) = false := decide_eq_false (by omega)
            rw [e]; clear e
            have hl : 2 * (r : Int) < d := by omega
            have hl2 : decide ((d : Int) < 2 * r) = false := decide_eq_false (by omega)
            clear hge heq
            go_enter Try.func43, Try.ntmps43
            go_wp2
            go_ret
            exact ⟨rfl, rfl⟩

/-- Quotient and remainder of the magnitudes. -/
def qq (a b : Int) (d : Nat) : Nat := a.natAbs * b.natAbs / d
def rr (a b : Int) (d : Nat) : Nat := a.natAbs * b.natAbs % d
theorem words_of (a b : Int) : mulHi a b * 18446744073709551616 + mulLo a b = a.natAbs * b.natAbs := by unfold mulHi mulLo; omega
theorem div64_prod (a b : Int) (d : Nat) (w : World) (h : mulHi a b < d) (hd : d ≤ 1125899906842624) :
    Calls Try.prog 42 #[.int .u64 (mulHi a b : Int), .int .u64 (mulLo a b : Int), .int .u64 (d : Int)] w fun e w' => e = .returned (.tuple #[.int .u64 (qq a b d : Int), .int .u64 (rr a b d : Int)]) ∧ Below w.heap.size w w' := by
  have h1 := bits_div64 (mulHi a b) (mulLo a b) d w h (by omega) (mulLo_lt a b)
  rw [words_of] at h1
  exact h1
theorem num_signed (x : Int) (m : Nat) (neg : Bool) (w : World) (hx : x = m) (hm : m < 18446744073709551616) :
    Calls Try.prog 44 #[.int .u64 x, .bool neg] w fun e w' => e = .returned (.tuple #[.int .i64 (okV (sg neg m)), .int .i64 (okE (sg neg m))]) ∧ w = w' := by
  subst hx
  cases neg
  · exact num_signed_pos m w hm
  · exact num_signed_neg m w hm
theorem num_signed_q (a b : Int) (d : Nat) (neg : Bool) (w : World) (h : (qq a b d : Int) ≤ 1125899906842624) :
    Calls Try.prog 44 #[.int .u64 (qq a b d : Int), .bool neg] w fun e w' => e = .returned (.tuple #[.int .i64 (okV (sg neg (qq a b d))), .int .i64 (okE (sg neg (qq a b d)))]) ∧ w = w' := num_signed _ _ neg w rfl (by omega)
theorem num_signed_q1 (a b : Int) (d : Nat) (neg : Bool) (w : World) (h : (qq a b d : Int) ≤ 1125899906842624) :
    Calls Try.prog 44 #[.int .u64 ((qq a b d : Int) + 1), .bool neg] w fun e w' => e = .returned (.tuple #[.int .i64 (okV (sg neg (qq a b d + 1))), .int .i64 (okE (sg neg (qq a b d + 1)))]) ∧ w = w' := num_signed _ (qq a b d + 1) neg w (by omega) (by omega)
theorem mdR_of {a b c m : Int} {neg g : Bool} {n : Nat} (hn : negB a b c = neg) (hg : awayB (qq a b c.natAbs) (rr a b c.natAbs) c.natAbs m neg = g) (h : n = qq a b c.natAbs + if g then 1 else 0) : mdR a b c m = sg neg n := by
  unfold mdR mdM; rw [hn]
  have : awayB (a.natAbs * b.natAbs / c.natAbs) (a.natAbs * b.natAbs % c.natAbs) c.natAbs m neg = g := hg
  rw [this, h]; rfl
theorem qq_big {a b : Int} {d : Nat} (hd : 1 ≤ d) (h : d ≤ mulHi a b) : 1125899906842624 < qq a b d := by
  unfold qq
  have h1 := words_of a b
  have h2 : 18446744073709551616 ≤ a.natAbs * b.natAbs / d := by
    rw [Nat.le_div_iff_mul_le (by omega)]; omega
  omega
theorem mdR_big {a b c m : Int} (h : 1125899906842624 < qq a b c.natAbs) : mdR a b c m < -1125899906842624 ∨ 1125899906842624 < mdR a b c m := by
  apply sg_out
  unfold mdM
  have : qq a b c.natAbs = a.natAbs * b.natAbs / c.natAbs := rfl
  omega
theorem rr_lt (a b : Int) {d : Nat} (hd : 1 ≤ d) : rr a b d < d := Nat.mod_lt _ hd

set_option maxHeartbeats 1000000 in
theorem num_muldiv (a b c m : Int) (w : World) :
    Calls Try.prog 36 #[.int .i64 a, .int .i64 b, .int .i64 c, .int .i64 m] w fun e w' => e = .returned (.tuple #[.int .i64 (mdV a b c m), .int .i64 (mdE a b c m)]) ∧ Below w.heap.size w w' := by
  rcases inB_cases a with ⟨ha, a1, a2⟩ | ⟨ha, na⟩
  rotate_left
  · rw [mdV_out (fun k => na k.1), mdE_out (fun k => na k.1)]
    clear na
    go_enter Try.func36, Try.ntmps36
    go_wp2_with (go_at_call 39; refine (num_in _ _).mono ?_; rintro e w' ⟨rfl, rfl⟩)
    go_ret2
    exact ⟨rfl, Below.refl _ _⟩
  rcases inB_cases b with ⟨hb, b1, b2⟩ | ⟨hb, nb⟩
  rotate_left
  · rw [mdV_out (fun k => nb k.2.1), mdE_out (fun k => nb k.2.1)]
    clear nb
    go_enter Try.func36, Try.ntmps36
    go_wp2_with (go_at_call 39; refine (num_in _ _).mono ?_; rintro e w' ⟨rfl, rfl⟩)
    go_ret2
    exact ⟨rfl, Below.refl _ _⟩
  rcases inB_cases c with ⟨hc, c1, c2⟩ | ⟨hc, nc⟩
  rotate_left
  · rw [mdV_out (fun k => nc k.2.2), mdE_out (fun k => nc k.2.2)]
    clear nc
    go_enter Try.func36, Try.ntmps36
    go_wp2_with (go_at_call 39; refine (num_in _ _).mono ?_; rintro e w' ⟨rfl, rfl⟩)
    go_ret2
    exact ⟨rfl, Below.refl _ _⟩
  have hin : InR a ∧ InR b ∧ InR c := ⟨⟨a1, a2⟩, ⟨b1, b2⟩, ⟨c1, c2⟩⟩
  by_cases hz : c = 0
  · rw [mdV_zero hin hz, mdE_zero hin hz]
    subst hz
    clear hin
    go_enter Try.func36, Try.ntmps36
    go_wp2_with (go_at_call 39; refine (num_in _ _).mono ?_; rintro e w' ⟨rfl, rfl⟩)
    go_ret2
    exact ⟨rfl, Below.refl _ _⟩
  have hz' : (c == 0) = false := by simpa using hz
  by_cases hm : m < 0 ∨ 2 < m
  · rw [mdV_kind hin hz hm, mdE_kind hin hz hm]
    clear hin hz
    rcases hm with hm | hm
    · go_enter Try.func36, Try.ntmps36
      go_wp2_with (go_at_call 39; refine (num_in _ _).mono ?_; rintro e w' ⟨rfl, rfl⟩)
      go_ret2
      exact ⟨rfl, Below.refl _ _⟩
    · have hm' : decide (m < 0) = false := decide_eq_false (by omega)
      go_enter Try.func36, Try.ntmps36
      go_wp2_with (go_at_call 39; refine (num_in _ _).mono ?_; rintro e w' ⟨rfl, rfl⟩)
      go_ret2
      exact ⟨rfl, Below.refl _ _⟩
  have hm0 : 0 ≤ m := by omega
  have hm2 : m ≤ 2 := by omega
  rw [mdV_in hin hz hm, mdE_in hin hz hm]
  have hd1 : 1 ≤ c.natAbs := by omega
  have hd2 : c.natAbs ≤ 1125899906842624 := by omega
  have HD1 := Lib.hid hd1
  clear hin hz hm
  by_cases hov : c.natAbs ≤ mulHi a b
  · have big := mdR_big (m := m) (qq_big hd1 hov)
    have hov' : (c.natAbs : Int) ≤ mulHi a b := by omega
    rw [okV_no big, okE_no big]
    clear big hov
    go_enter Try.func36, Try.ntmps36
    go_wp2_with (first | (go_at_call 39; refine (num_in _ _).mono ?_; rintro e w' ⟨rfl, rfl⟩) | (go_at_call 40; refine (num_product _ _ _ a1 a2 b1 b2).mono ?_; rintro e w1 ⟨rfl, hb1⟩) | (go_at_call 41; refine (num_magnitude _ _ c1 c2).mono ?_; rintro e w' ⟨rfl, rfl⟩))
    go_ret2
    exact ⟨rfl, hb1.alloc hb1.size _⟩
  have hov' : (mulHi a b : Int) < c.natAbs := by omega
  have HOV := Lib.hid (show mulHi a b < c.natAbs by omega)
  clear hov
  by_cases hbig : 1125899906842624 < qq a b c.natAbs
  · have big := mdR_big (m := m) hbig
    have hbig' : 1125899906842624 < (qq a b c.natAbs : Int) := by omega
    rw [okV_no big, okE_no big]
    clear big hbig
    go_enter Try.func36, Try.ntmps36
    go_wp2_with (first | (go_at_call 39; refine (num_in _ _).mono ?_; rintro e w' ⟨rfl, rfl⟩) | (go_at_call 40; refine (num_product _ _ _ a1 a2 b1 b2).mono ?_; rintro e w1 ⟨rfl, hb1⟩) | (go_at_call 41; refine (num_magnitude _ _ c1 c2).mono ?_; rintro e w' ⟨rfl, rfl⟩) | (go_at_call 42; refine (div64_prod _ _ _ _ HOV.out hd2).mono ?_; rintro e w2 ⟨rfl, hb2⟩))
    go_ret2
    exact ⟨rfl, (hb1.alloc hb1.size _).trans (hb2.mono (by have := hb1.size; simp; omega))⟩
  have hbig1 : (qq a b c.natAbs : Int) ≤ 1125899906842624 := by omega
  have hbig2 : decide (1125899906842624 < (qq a b c.natAbs : Int)) = false := decide_eq_false (by omega)
  have hrr : rr a b c.natAbs ≤ 1125899906842624 := by have := rr_lt a b hd1; omega
  have HRR := Lib.hid hrr
  clear hbig hrr hd1
  obtain ⟨x, y, z, da, db, dc, hn⟩ : ∃ x y z : Bool, decide (a < 0) = x ∧ decide (b < 0) = y ∧ decide (c < 0) = z ∧ negB a b c = ((x != y) != z) := ⟨_, _, _, rfl, rfl, rfl, rfl⟩
  obtain ⟨g, hg⟩ : ∃ g, awayB (qq a b c.natAbs) (rr a b c.natAbs) c.natAbs m ((x != y) != z) = g := ⟨_, rfl⟩
  rw [mdR_of hn hg rfl]
  clear hn
  cases x
  all_goals cases y
  all_goals cases z
  all_goals cases g
  all_goals simp only [bne_self_eq_false, Bool.true_bne, Bool.false_bne, Bool.not_true, Bool.not_false, Bool.bne_true, Bool.bne_false, Bool.false_eq_true, if_true, if_false, Nat.add_zero] at hg ⊢
  all_goals
    go_enter Try.func36, Try.ntmps36
    go_wp2_with (first | (go_at_call 39; refine (num_in _ _).mono ?_; rintro e w' ⟨rfl, rfl⟩) | (go_at_call 40; refine (num_product _ _ _ a1 a2 b1 b2).mono ?_; rintro e w1 ⟨rfl, hb1⟩) | (go_at_call 41; refine (num_magnitude _ _ c1 c2).mono ?_; rintro e w' ⟨rfl, rfl⟩) | (go_at_call 42; refine (div64_prod _ _ _ _ HOV.out hd2).mono ?_; rintro e w2 ⟨rfl, hb2⟩) | (go_at_call 43; refine (num_grows _ _ _ _ _ _ HRR.out hm0 hm2).mono ?_; rintro e w' ⟨rfl, rfl⟩) | (go_at_call 44; first | ((with_reducible refine (num_signed_q a b c.natAbs _ _ hbig1).mono ?_); rintro e w' ⟨rfl, rfl⟩) | ((with_reducible refine (num_signed_q1 a b c.natAbs _ _ hbig1).mono ?_); rintro e w' ⟨rfl, rfl⟩)))
    go_ret2
    exact ⟨rfl, (hb1.alloc hb1.size _).trans (hb2.mono (by have := hb1.size; simp; omega))⟩
#print axioms num_muldiv
end Go.Proofs.Ytkbnhmgladkojaa.Num
