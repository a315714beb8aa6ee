/- Several texts in one: ZumL, ShareC, StableA. -/
import Derived.Test.YtagjimdplmimoaaGreatPk3
import Derived.Test.YtagjimdplmimoaaGreatPk2
import Derived.Test.YtagjimdplmimoaaGreatPk1
import Derived.Test.YtagjimdplmimoaaGreatRows
/- Contracts of num.grows and num.MulDiv. -/
namespace Go.Proofs.YtagjimdplmimoaaGreat.Num
open Go.ChangeShapes Go.WideShapes Go.RowKit
set_option linter.unusedVariables false
set_option linter.unusedSimpArgs false

/-- Does rounding with mode m make the magnitude of a quotient greater? q and r: quotient and remainder of the magnitudes, d: the divisor's. -/
def awayB (q r d : Nat) (m : Int) (neg : Bool) : Bool :=
  if r = 0 then false else if m = 0 then neg else if m = 1 then !neg else decide (d < 2 * r ∨ (2 * r = d ∧ q % 2 = 1))
/-- Is the quotient negative? -/
def negB (a b c : Int) : Bool := ((decide (a < 0) != decide (b < 0)) != decide (c < 0))
def sg (neg : Bool) (m : Nat) : Int := if neg then -(m : Int) else m
/-- The rounded magnitude of a * b / c. -/
def mdM (a b c m : Int) : Nat :=
  a.natAbs * b.natAbs / c.natAbs + (if awayB (a.natAbs * b.natAbs / c.natAbs) (a.natAbs * b.natAbs % c.natAbs) c.natAbs m (negB a b c) then 1 else 0)
def mdR (a b c m : Int) : Int := sg (negB a b c) (mdM a b c m)
def mdV (a b c m : Int) : Int := if ¬ (InR a ∧ InR b ∧ InR c) then 0 else if c = 0 then 0 else if m < 0 ∨ 2 < m then 0 else okV (mdR a b c m)
def mdE (a b c m : Int) : Int := if ¬ (InR a ∧ InR b ∧ InR c) then 1 else if c = 0 then 16 else if m < 0 ∨ 2 < m then 17 else okE (mdR a b c m)

section
variable {a b c m : Int}
theorem mdV_out (h : ¬ (InR a ∧ InR b ∧ InR c)) : mdV a b c m = 0 := if_pos h
theorem mdE_out (h : ¬ (InR a ∧ InR b ∧ InR c)) : mdE a b c m = 1 := if_pos h
theorem mdV_zero (h : InR a ∧ InR b ∧ InR c) (hc : c = 0) : mdV a b c m = 0 := by unfold mdV; rw [if_neg (by simpa using h), if_pos hc]
theorem mdE_zero (h : InR a ∧ InR b ∧ InR c) (hc : c = 0) : mdE a b c m = 16 := by unfold mdE; rw [if_neg (by simpa using h), if_pos hc]
theorem mdV_kind (h : InR a ∧ InR b ∧ InR c) (hc : c ≠ 0) (hm : m < 0 ∨ 2 < m) : mdV a b c m = 0 := by unfold mdV; rw [if_neg (by simpa using h), if_neg hc, if_pos hm]
theorem mdE_kind (h : InR a ∧ InR b ∧ InR c) (hc : c ≠ 0) (hm : m < 0 ∨ 2 < m) : mdE a b c m = 17 := by unfold mdE; rw [if_neg (by simpa using h), if_neg hc, if_pos hm]
theorem mdV_in (h : InR a ∧ InR b ∧ InR c) (hc : c ≠ 0) (hm : ¬ (m < 0 ∨ 2 < m)) : mdV a b c m = okV (mdR a b c m) := by unfold mdV; rw [if_neg (by simpa using h), if_neg hc, if_neg hm]
theorem mdE_in (h : InR a ∧ InR b ∧ InR c) (hc : c ≠ 0) (hm : ¬ (m < 0 ∨ 2 < m)) : mdE a b c m = okE (mdR a b c m) := by unfold mdE; rw [if_neg (by simpa using h), if_neg hc, if_neg hm]
theorem sg_out {neg : Bool} {n : Nat} (h : 1125899906842624 < n) : sg neg n < -1125899906842624 ∨ 1125899906842624 < sg neg n := by
  unfold sg; cases neg <;> simp <;> omega
end

theorem num_grows (q r d : Nat) (m : Int) (neg : Bool) (w : World) (hr : r ≤ 1125899906842624) (hm0 : 0 ≤ m) (hm2 : m ≤ 2) :
    Calls Tryz.prog 88 #[.int .u64 (q : Int), .int .u64 (r : Int), .int .u64 (d : Int), .int .i64 m, .bool neg] w fun e w' => e = .returned (.bool (awayB q r d m neg)) ∧ w = w' := by
  by_cases h0 : r = 0
  · have e : awayB q r d m neg = false := if_pos h0
    rw [e]; clear e
    subst h0
    go_enter Tryz.func88, Tryz.ntmps88
    go_wp2
    go_ret
    exact ⟨rfl, rfl⟩
  · have h1 : 1 ≤ (r : Int) := by omega
    have hrr : (r : Int) ≤ 1125899906842624 := by omega
    by_cases e0 : m = 0
    · have e : awayB q r d m neg = neg := by unfold awayB; rw [if_neg h0, if_pos e0]
      rw [e]; clear e h0
      subst e0
      go_enter Tryz.func88, Tryz.ntmps88
      go_wp2
      go_ret
      exact ⟨rfl, rfl⟩
    · by_cases e1 : m = 1
      · have e : awayB q r d m neg = !neg := by unfold awayB; rw [if_neg h0, if_neg e0, if_pos e1]
        rw [e]; clear e h0 e0
        subst e1
        go_enter Tryz.func88, Tryz.ntmps88
        go_wp2
        go_ret
        exact ⟨rfl, rfl⟩
      · have e : awayB q r d m neg = decide (d < 2 * r ∨ (2 * r = d ∧ q % 2 = 1)) := by unfold awayB; rw [if_neg h0, if_neg e0, if_neg e1]
        rw [e]; clear e
        obtain rfl : m = 2 := by omega
        clear e0 e1 h0 hm0 hm2
        rcases Nat.lt_or_ge d (2 * r) with hlt | hge
        · have hl : (d : Int) < 2 * r := by omega
          have e : decide (d < 2 * r ∨ (2 * r = d ∧ q % 2 = 1)) = true := decide_eq_true (Or.inl hlt)
          rw [e]; clear e hlt
          go_enter Tryz.func88, Tryz.ntmps88
          go_wp2
          go_ret
          exact ⟨rfl, rfl⟩
        · by_cases heq : 2 * r = d
          · have e : decide (d < 2 * r ∨ (2 * r = d ∧ q % 2 = 1)) = ((q : Int) % 2 == 1) := by
              rw [Bool.eq_iff_iff]; simp; omega
            rw [e]; clear e hge
            subst heq
            go_enter Tryz.func88, Tryz.ntmps88
            go_wp2
            go_ret
            exact ⟨rfl, rfl⟩
          · have e : decide (d < 2 * r ∨ (2 * r = d ∧ q % 2 = 1)) = false := decide_eq_false (by omega)
            rw [e]; clear e
            have hl : 2 * (r : Int) < d := by omega
            have hl2 : decide ((d : Int) < 2 * r) = false := decide_eq_false (by omega)
            clear hge heq
            go_enter Tryz.func88, Tryz.ntmps88
            go_wp2
            go_ret
            exact ⟨rfl, rfl⟩

/-- Quotient and remainder of the magnitudes. -/
def qq (a b : Int) (d : Nat) : Nat := a.natAbs * b.natAbs / d
def rr (a b : Int) (d : Nat) : Nat := a.natAbs * b.natAbs % d
theorem words_of (a b : Int) : mulHi a b * 18446744073709551616 + mulLo a b = a.natAbs * b.natAbs := by unfold mulHi mulLo; omega
theorem div64_prod (a b : Int) (d : Nat) (w : World) (h : mulHi a b < d) (hd : d ≤ 1125899906842624) :
    Calls Tryz.prog 87 #[.int .u64 (mulHi a b : Int), .int .u64 (mulLo a b : Int), .int .u64 (d : Int)] w fun e w' => e = .returned (.tuple #[.int .u64 (qq a b d : Int), .int .u64 (rr a b d : Int)]) ∧ Below w.heap.size w w' := by
  have h1 := bits_div64 (mulHi a b) (mulLo a b) d w h (by omega) (mulLo_lt a b)
  rw [words_of] at h1
  exact h1
theorem num_signed (x : Int) (m : Nat) (neg : Bool) (w : World) (hx : x = m) (hm : m < 18446744073709551616) :
    Calls Tryz.prog 89 #[.int .u64 x, .bool neg] w fun e w' => e = .returned (.tuple #[.int .i64 (okV (sg neg m)), .int .i64 (okE (sg neg m))]) ∧ w = w' := by
  subst hx
  cases neg
  · exact num_signed_pos m w hm
  · exact num_signed_neg m w hm
theorem num_signed_q (a b : Int) (d : Nat) (neg : Bool) (w : World) (h : (qq a b d : Int) ≤ 1125899906842624) :
    Calls Tryz.prog 89 #[.int .u64 (qq a b d : Int), .bool neg] w fun e w' => e = .returned (.tuple #[.int .i64 (okV (sg neg (qq a b d))), .int .i64 (okE (sg neg (qq a b d)))]) ∧ w = w' := num_signed _ _ neg w rfl (by omega)
theorem num_signed_q1 (a b : Int) (d : Nat) (neg : Bool) (w : World) (h : (qq a b d : Int) ≤ 1125899906842624) :
    Calls Tryz.prog 89 #[.int .u64 ((qq a b d : Int) + 1), .bool neg] w fun e w' => e = .returned (.tuple #[.int .i64 (okV (sg neg (qq a b d + 1))), .int .i64 (okE (sg neg (qq a b d + 1)))]) ∧ w = w' := num_signed _ (qq a b d + 1) neg w (by omega) (by omega)
theorem mdR_of {a b c m : Int} {neg g : Bool} {n : Nat} (hn : negB a b c = neg) (hg : awayB (qq a b c.natAbs) (rr a b c.natAbs) c.natAbs m neg = g) (h : n = qq a b c.natAbs + if g then 1 else 0) : mdR a b c m = sg neg n := by
  unfold mdR mdM; rw [hn]
  have : awayB (a.natAbs * b.natAbs / c.natAbs) (a.natAbs * b.natAbs % c.natAbs) c.natAbs m neg = g := hg
  rw [this, h]; rfl
theorem qq_big {a b : Int} {d : Nat} (hd : 1 ≤ d) (h : d ≤ mulHi a b) : 1125899906842624 < qq a b d := by
  unfold qq
  have h1 := words_of a b
  have h2 : 18446744073709551616 ≤ a.natAbs * b.natAbs / d := by
    rw [Nat.le_div_iff_mul_le (by omega)]; omega
  omega
theorem mdR_big {a b c m : Int} (h : 1125899906842624 < qq a b c.natAbs) : mdR a b c m < -1125899906842624 ∨ 1125899906842624 < mdR a b c m := by
  apply sg_out
  unfold mdM
  have : qq a b c.natAbs = a.natAbs * b.natAbs / c.natAbs := rfl
  omega
theorem rr_lt (a b : Int) {d : Nat} (hd : 1 ≤ d) : rr a b d < d := Nat.mod_lt _ hd

set_option maxHeartbeats 1000000 in
theorem num_muldiv (a b c m : Int) (w : World) :
    Calls Tryz.prog 64 #[.int .i64 a, .int .i64 b, .int .i64 c, .int .i64 m] w fun e w' => e = .returned (.tuple #[.int .i64 (mdV a b c m), .int .i64 (mdE a b c m)]) ∧ Below w.heap.size w w' := by
  rcases inB_cases a with ⟨ha, a1, a2⟩ | ⟨ha, na⟩
  rotate_left
  · rw [mdV_out (fun k => na k.1), mdE_out (fun k => na k.1)]
    clear na
    go_enter Tryz.func64, Tryz.ntmps64
    go_wp2_with (go_at_call 60; refine (num_in _ _).mono ?_; rintro e w' ⟨rfl, rfl⟩)
    go_ret2
    exact ⟨rfl, Below.refl _ _⟩
  rcases inB_cases b with ⟨hb, b1, b2⟩ | ⟨hb, nb⟩
  rotate_left
  · rw [mdV_out (fun k => nb k.2.1), mdE_out (fun k => nb k.2.1)]
    clear nb
    go_enter Tryz.func64, Tryz.ntmps64
    go_wp2_with (go_at_call 60; refine (num_in _ _).mono ?_; rintro e w' ⟨rfl, rfl⟩)
    go_ret2
    exact ⟨rfl, Below.refl _ _⟩
  rcases inB_cases c with ⟨hc, c1, c2⟩ | ⟨hc, nc⟩
  rotate_left
  · rw [mdV_out (fun k => nc k.2.2), mdE_out (fun k => nc k.2.2)]
    clear nc
    go_enter Tryz.func64, Tryz.ntmps64
    go_wp2_with (go_at_call 60; refine (num_in _ _).mono ?_; rintro e w' ⟨rfl, rfl⟩)
    go_ret2
    exact ⟨rfl, Below.refl _ _⟩
  have hin : InR a ∧ InR b ∧ InR c := ⟨⟨a1, a2⟩, ⟨b1, b2⟩, ⟨c1, c2⟩⟩
  by_cases hz : c = 0
  · rw [mdV_zero hin hz, mdE_zero hin hz]
    subst hz
    clear hin
    go_enter Tryz.func64, Tryz.ntmps64
    go_wp2_with (go_at_call 60; refine (num_in _ _).mono ?_; rintro e w' ⟨rfl, rfl⟩)
    go_ret2
    exact ⟨rfl, Below.refl _ _⟩
  have hz' : (c == 0) = false := by simpa using hz
  by_cases hm : m < 0 ∨ 2 < m
  · rw [mdV_kind hin hz hm, mdE_kind hin hz hm]
    clear hin hz
    rcases hm with hm | hm
    · go_enter Tryz.func64, Tryz.ntmps64
      go_wp2_with (go_at_call 60; refine (num_in _ _).mono ?_; rintro e w' ⟨rfl, rfl⟩)
      go_ret2
      exact ⟨rfl, Below.refl _ _⟩
    · have hm' : decide (m < 0) = false := decide_eq_false (by omega)
      go_enter Tryz.func64, Tryz.ntmps64
      go_wp2_with (go_at_call 60; refine (num_in _ _).mono ?_; rintro e w' ⟨rfl, rfl⟩)
      go_ret2
      exact ⟨rfl, Below.refl _ _⟩
  have hm0 : 0 ≤ m := by omega
  have hm2 : m ≤ 2 := by omega
  rw [mdV_in hin hz hm, mdE_in hin hz hm]
  have hd1 : 1 ≤ c.natAbs := by omega
  have hd2 : c.natAbs ≤ 1125899906842624 := by omega
  have HD1 := Lib.hid hd1
  clear hin hz hm
  by_cases hov : c.natAbs ≤ mulHi a b
  · have big := mdR_big (m := m) (qq_big hd1 hov)
    have hov' : (c.natAbs : Int) ≤ mulHi a b := by omega
    rw [okV_no big, okE_no big]
    clear big hov
    go_enter Tryz.func64, Tryz.ntmps64
    go_wp2_with (first | (go_at_call 60; refine (num_in _ _).mono ?_; rintro e w' ⟨rfl, rfl⟩) | (go_at_call 85; refine (num_product _ _ _ a1 a2 b1 b2).mono ?_; rintro e w1 ⟨rfl, hb1⟩) | (go_at_call 86; refine (num_magnitude _ _ c1 c2).mono ?_; rintro e w' ⟨rfl, rfl⟩))
    go_ret2
    exact ⟨rfl, hb1.alloc hb1.size _⟩
  have hov' : (mulHi a b : Int) < c.natAbs := by omega
  have HOV := Lib.hid (show mulHi a b < c.natAbs by omega)
  clear hov
  by_cases hbig : 1125899906842624 < qq a b c.natAbs
  · have big := mdR_big (m := m) hbig
    have hbig' : 1125899906842624 < (qq a b c.natAbs : Int) := by omega
    rw [okV_no big, okE_no big]
    clear big hbig
    go_enter Tryz.func64, Tryz.ntmps64
    go_wp2_with (first | (go_at_call 60; refine (num_in _ _).mono ?_; rintro e w' ⟨rfl, rfl⟩) | (go_at_call 85; refine (num_product _ _ _ a1 a2 b1 b2).mono ?_; rintro e w1 ⟨rfl, hb1⟩) | (go_at_call 86; refine (num_magnitude _ _ c1 c2).mono ?_; rintro e w' ⟨rfl, rfl⟩) | (go_at_call 87; refine (div64_prod _ _ _ _ HOV.out hd2).mono ?_; rintro e w2 ⟨rfl, hb2⟩))
    go_ret2
    exact ⟨rfl, (hb1.alloc hb1.size _).trans (hb2.mono (by have := hb1.size; simp; omega))⟩
  have hbig1 : (qq a b c.natAbs : Int) ≤ 1125899906842624 := by omega
  have hbig2 : decide (1125899906842624 < (qq a b c.natAbs : Int)) = false := decide_eq_false (by omega)
  have hrr : rr a b c.natAbs ≤ 1125899906842624 := by have := rr_lt a b hd1; omega
  have HRR := Lib.hid hrr
  clear hbig hrr hd1
  obtain ⟨x, y, z, da, db, dc, hn⟩ : ∃ x y z : Bool, decide (a < 0) = x ∧ decide (b < 0) = y ∧ decide (c < 0) = z ∧ negB a b c = ((x != y) != z) := ⟨_, _, _, rfl, rfl, rfl, rfl⟩
  obtain ⟨g, hg⟩ : ∃ g, awayB (qq a b c.natAbs) (rr a b c.natAbs) c.natAbs m ((x != y) != z) = g := ⟨_, rfl⟩
  rw [mdR_of hn hg rfl]
  clear hn
  cases x
  all_goals cases y
  all_goals cases z
  all_goals cases g
  all_goals simp only [bne_self_eq_false, Bool.true_bne, Bool.false_bne, Bool.not_true, Bool.not_false, Bool.bne_true, Bool.bne_false, Bool.false_eq_true, if_true, if_false, Nat.add_zero] at hg ⊢
  all_goals
    go_enter Tryz.func64, Tryz.ntmps64
    go_wp2_with (first | (go_at_call 60; refine (num_in _ _).mono ?_; rintro e w' ⟨rfl, rfl⟩) | (go_at_call 85; refine (num_product _ _ _ a1 a2 b1 b2).mono ?_; rintro e w1 ⟨rfl, hb1⟩) | (go_at_call 86; refine (num_magnitude _ _ c1 c2).mono ?_; rintro e w' ⟨rfl, rfl⟩) | (go_at_call 87; refine (div64_prod _ _ _ _ HOV.out hd2).mono ?_; rintro e w2 ⟨rfl, hb2⟩) | (go_at_call 88; refine (num_grows _ _ _ _ _ _ HRR.out hm0 hm2).mono ?_; rintro e w' ⟨rfl, rfl⟩) | (go_at_call 89; first | ((with_reducible refine (num_signed_q a b c.natAbs _ _ hbig1).mono ?_); rintro e w' ⟨rfl, rfl⟩) | ((with_reducible refine (num_signed_q1 a b c.natAbs _ _ hbig1).mono ?_); rintro e w' ⟨rfl, rfl⟩)))
    go_ret2
    exact ⟨rfl, (hb1.alloc hb1.size _).trans (hb2.mono (by have := hb1.size; simp; omega))⟩
end Go.Proofs.YtagjimdplmimoaaGreat.Num
/- share.inRange, share.divisor, share.divide. -/
namespace Go.Proofs.YtagjimdplmimoaaGreat.Share
open Go.ChangeShapes Go.WideShapes Go.RowKit Go.Lib Go.Proofs.YtagjimdplmimoaaGreat.Mem
open Go.Proofs.YtagjimdplmimoaaGreat.Num (num_sum num_muldiv sumV sumE sumV_all sumE_all sumE_long sumV_long tot tot_snoc allIn inB inB_yes okV okE okV_yes okE_yes okV_no okE_no Holds mdV mdE mdV_in mdR mdM sg negB awayB InR inr_mk)
set_option linter.unusedVariables false
set_option maxRecDepth 100000

theorem cl_holds {w : World} {A : Option Addr} {zs : List Int} (h : Cl eI w A zs) : Holds w w.heap.size A zs := fun k z hz => h k z hz
theorem tot_sumK (zs : List Int) : ∀ k, k ≤ zs.length → tot (zs.take k) = sumK zs k := by
  intro k
  induction k with
  | zero => intro _; rfl
  | succ k ih =>
    intro hk
    have hz : zs[k]? = some zs[k] := List.getElem?_eq_getElem (by omega)
    rw [take_snoc_of hz, tot_snoc, ih (by omega), sumK_succ hz]
theorem tot_all (zs : List Int) : tot zs = sumK zs zs.length := by
  have := tot_sumK zs zs.length (Nat.le_refl _)
  rwa [List.take_length] at this
theorem allIn_of {zs : List Int} (h : ∀ z ∈ zs, 0 ≤ z ∧ z ≤ mx) : allIn zs = true := by
  unfold allIn
  rw [List.all_eq_true]
  intro z hz
  have := h z hz
  exact inB_yes (by omega) this.2
/-- What the products are divided by. -/
def dvV (t : Int) (ws : List Int) : Int := if errS t ws = 0 then if sumK ws ws.length = 0 then 1 else sumK ws ws.length else 0
theorem errS_t {t : Int} {ws : List Int} (h : inW t = false) : errS t ws = 1 := if_pos h
theorem errS_0 {t : Int} {ws : List Int} (h : inW t = true) (h0 : ws.length = 0) : errS t ws = 10 := by unfold errS; rw [if_neg (by rw [h]; simp), if_pos h0]
theorem errS_n {t : Int} {ws : List Int} (h : inW t = true) (h0 : 512 < ws.length) : errS t ws = 8 := by unfold errS; rw [if_neg (by rw [h]; simp), if_neg (by omega), if_pos h0]
theorem errS_w {t : Int} {ws : List Int} (h : inW t = true) (h0 : 0 < ws.length) (h1 : ws.length ≤ 512) {k : Nat} {z : Int} (hz : ws[k]? = some z) (hi : inW z = false) : errS t ws = 1 := by
  unfold errS
  have : ws.all inW = false := all_not hz hi
  rw [if_neg (by rw [h]; simp), if_neg (by omega), if_neg (by omega), if_pos this]
theorem errS_s {t : Int} {ws : List Int} (h : inW t = true) (h0 : 0 < ws.length) (h1 : ws.length ≤ 512) (ha : ∀ z ∈ ws, 0 ≤ z ∧ z ≤ mx) : errS t ws = if mx < sumK ws ws.length then 2 else if sumK ws ws.length = 0 ∧ t ≠ 0 then 16 else 0 := by
  unfold errS
  rw [if_neg (by rw [h]; simp), if_neg (by omega), if_neg (by omega), if_neg (by rw [all_in.mpr ha]; simp)]
theorem two_is {a b c d : Int} (h : a = c) (k : b = d) : Ending.returned (.tuple #[.int .i64 a, .int .i64 b]) = .returned (.tuple #[.int .i64 c, .int .i64 d]) := by rw [h, k]

theorem share_in (n : Int) (w : World) : Calls Tryz.prog 63 #[.int .i64 n] w fun e w' => e = .returned (.bool (inW n)) ∧ w = w' := by
  rcases Int.lt_or_le n 0 with h | h
  · have h1 : inW n = false := inW_no.mpr (Or.inl h)
    have h2 : ¬ 0 ≤ n := by omega
    rw [h1]
    go_enter Tryz.func63, Tryz.ntmps63
    go_wp2_with fail
    go_ret
    exact ⟨rfl, rfl⟩
  · rcases Int.lt_or_le mx n with k | k
    · have h1 : inW n = false := inW_no.mpr (Or.inr k)
      have h2 : 0 ≤ n := h
      have h3 : ¬ n ≤ 1125899906842624 := by have hm : mx = 1125899906842624 := rfl; omega
      rw [h1]
      go_enter Tryz.func63, Tryz.ntmps63
      go_wp2_with fail
      go_ret
      exact ⟨rfl, rfl⟩
    · have h1 : inW n = true := inW_iff.mpr ⟨h, k⟩
      have h2 : 0 ≤ n := h
      have h3 : n ≤ 1125899906842624 := k
      rw [h1]
      go_enter Tryz.func63, Tryz.ntmps63
      go_wp2_with fail
      go_ret
      exact ⟨rfl, rfl⟩

set_option maxHeartbeats 1600000 in
theorem share_divisor (t : Int) (ws : List Int) (A : Option Addr) (c : Nat) (w : World) (hS : Cl eI w A ws) (hl : ws.length ≤ 9223372036854775807) :
    Calls Tryz.prog 40 #[.int .i64 t, .slice A ws.length c] w fun e w' => e = .returned (.tuple #[.int .i64 (dvV t ws), .int .i64 (errS t ws : Int)]) ∧ Below w.heap.size w w' := by
  have HIN := Lib.hid (fun W => share_in t W)
  obtain ⟨N, hN⟩ : ∃ N, ws.length = N := ⟨_, rfl⟩
  have HN := Lib.hid hN
  have HSUM := Lib.hid (fun W (h : Below w.heap.size w W) => num_sum ws A c W (cl_holds (hS.on h)) hl)
  have HS := Lib.hid hS
  rw [hN] at hl HSUM ⊢
  clear hS hN
  cases hi : inW t with
  | false =>
    have HD : Hid (dvV t ws = 0 ∧ (errS t ws : Int) = 1) := by
      have := errS_t (ws := ws) hi
      refine ⟨by unfold dvV; rw [this]; rfl, by rw [this]; rfl⟩
    rw [hi] at HIN
    clear hi
    go_enter Tryz.func40, Tryz.ntmps40
    go_wp2_with fail
    refine (HIN.out _).mono ?_
    rintro e w' ⟨rfl, rfl⟩
    go_wp2_with fail
    go_ret2
    exact ⟨two_is HD.out.1.symm HD.out.2.symm, Below.refl _ _⟩
  | true =>
    have HI := Lib.hid hi
    rw [hi] at HIN
    clear hi
    rcases Nat.eq_zero_or_pos N with rfl | hpos
    · have HD : Hid (dvV t ws = 0 ∧ (errS t ws : Int) = 10) := by
        have := errS_0 HI.out HN.out
        refine ⟨by unfold dvV; rw [this]; rfl, by rw [this]; rfl⟩
      go_enter Tryz.func40, Tryz.ntmps40
      go_wp2_with fail
      refine (HIN.out _).mono ?_
      rintro e w' ⟨rfl, rfl⟩
      go_wp2_with fail
      go_ret2
      exact ⟨two_is HD.out.1.symm HD.out.2.symm, Below.refl _ _⟩
    · rcases Nat.lt_or_ge 512 N with hbig | hle
      · have HD : Hid (dvV t ws = 0 ∧ (errS t ws : Int) = 8) := by
          have := errS_n HI.out (by rw [HN.out]; exact hbig)
          refine ⟨by unfold dvV; rw [this]; rfl, by rw [this]; rfl⟩
        have b1 : ¬ N = 0 := by omega
        have b2 : (512 : Int) < (N : Int) := by omega
        have b3 : ((N : Int) == 0) = false := by simp; omega
        go_enter Tryz.func40, Tryz.ntmps40
        go_wp2_with fail
        refine (HIN.out _).mono ?_
        rintro e w' ⟨rfl, rfl⟩
        go_wp2_with fail
        go_ret2
        exact ⟨two_is HD.out.1.symm HD.out.2.symm, Below.refl _ _⟩
      · have HP := Lib.hid (show 0 < N ∧ N ≤ 512 from ⟨hpos, hle⟩)
        have b1 : ¬ N = 0 := by omega
        have b2 : decide ((512 : Int) < (N : Int)) = false := decide_eq_false (by omega)
        have b3 : ((N : Int) == 0) = false := by simp; omega
        clear hpos hle
        go_enter Tryz.func40, Tryz.ntmps40
        go_wp2_with fail
        refine (HIN.out _).mono ?_
        rintro e w' ⟨rfl, rfl⟩
        go_wp2_with fail
        go_loopw [7, 21] (fun _ x wr => ∃ k : Nat, k ≤ N ∧ x = .int .i64 (k : Int) ∧ (∀ (j : Nat) z, j < k → ws[j]? = some z → inW z = true) ∧ wr = w) (fun _ x _ => N - (RowKit.intOf x).toNat)
        case atStart => exact ⟨0, Nat.zero_le _, rfl, fun j z h => by omega, rfl⟩
        case round =>
          obtain ⟨k, hk, rfl, hall, rfl⟩ := hrel
          have HALL := Lib.hid hall
          clear hall
          rcases Nat.lt_or_ge k N with hlt | hge
          · obtain ⟨z, hz⟩ := get_lt (L := ws) (k := k) (by rw [HN.out]; exact hlt)
            obtain ⟨b, off, rfl, hb, hcell⟩ := HS.out k z hz
            have HZ := Lib.hid hz
            have HIZ := Lib.hid (fun W => share_in z W)
            have i1 : (k : Int) < (N : Int) := by omega
            have i2 : (0 : Int) ≤ (k : Int) := by omega
            have hk1 : IntKind.i64.wrap ((k : Int) + 1) = ((k + 1 : Nat) : Int) := wrap_id (by omega)
            clear hz
            cases hi : inW z with
            | true =>
              have HIT := Lib.hid hi
              rw [hi] at HIZ
              clear hi
              go_wp2_with fail
              refine (HIZ.out _).mono ?_
              rintro e w' ⟨rfl, rfl⟩
              go_wp2_with fail
              go_roundw
              case rel => exact ⟨k + 1, by omega, rfl, fun j y h1 h2 => by
                rcases Nat.lt_or_ge j k with h3 | h3
                · exact HALL.out j y h3 h2
                · obtain rfl : j = k := by omega
                  rw [HZ.out] at h2; cases h2; exact HIT.out, trivial⟩
              case measure => simp [RowKit.intOf]; omega
            | false =>
              have HD : Hid (dvV t ws = 0 ∧ (errS t ws : Int) = 1) := by
                have := errS_w HI.out (by rw [HN.out]; exact HP.out.1) (by rw [HN.out]; exact HP.out.2) HZ.out hi
                refine ⟨by unfold dvV; rw [this]; rfl, by rw [this]; rfl⟩
              rw [hi] at HIZ
              clear hi
              go_wp2_with fail
              refine (HIZ.out _).mono ?_
              rintro e w' ⟨rfl, rfl⟩
              go_wp2_with fail
              go_ret2
              exact ⟨two_is HD.out.1.symm HD.out.2.symm, Below.refl _ _⟩
          · obtain rfl : N = k := by omega
            have HA : Hid (∀ z ∈ ws, 0 ≤ z ∧ z ≤ mx) := fun z hz => by
              obtain ⟨j, hj⟩ := List.mem_iff_getElem?.mp hz
              exact inW_iff.mp (HALL.out j z (by rw [← HN.out]; exact lt_of_get hj) hj)
            have HE := Lib.hid (errS_s HI.out (by rw [HN.out]; exact HP.out.1) (by rw [HN.out]; exact HP.out.2) HA.out)
            have HV : Hid (sumV ws = okV (sumK ws ws.length) ∧ sumE ws = okE (sumK ws ws.length)) := by
              have h1 : ws.length ≤ 65536 := by have := HP.out; rw [HN.out]; omega
              have h2 := allIn_of HA.out
              refine ⟨by rw [sumV_all h1 h2, tot_all], by rw [sumE_all h1 h2, tot_all]⟩
            have HGE : Hid (0 ≤ sumK ws ws.length) := by
              have := sm_sumK (fun z hz => (HA.out z hz).1) (Nat.le_refl ws.length)
              show 0 ≤ _
              omega
            have HDV : Hid (dvV t ws = if errS t ws = 0 then if sumK ws ws.length = 0 then 1 else sumK ws ws.length else 0) := rfl
            have HTI : Hid (0 ≤ t ∧ t ≤ mx) := inW_iff.mp HI.out
            obtain ⟨S, hS⟩ : ∃ S, S = sumK ws ws.length := ⟨_, rfl⟩
            rw [← hS] at HE HV HGE HDV
            clear hS
            have HSUM2 := Lib.hid (HSUM.out wr (Below.refl _ _))
            rw [HV.out.1, HV.out.2] at HSUM2
            rcases Int.lt_or_le mx S with hS | hS
            · have HD : Hid (dvV t ws = 0 ∧ (errS t ws : Int) = 2) := by
                have := HE.out
                rw [if_pos hS] at this
                refine ⟨by rw [HDV.out, this]; rfl, by rw [this]; rfl⟩
              rw [okV_no (Or.inr hS), okE_no (Or.inr hS)] at HSUM2
              clear hS
              go_wp2_with fail
              refine HSUM2.out.mono ?_
              rintro e w2 ⟨rfl, hb2⟩
              have HB2 := Lib.hid hb2
              clear hb2
              go_wp2_with fail
              go_ret2
              exact ⟨two_is HD.out.1.symm HD.out.2.symm, HB2.out⟩
            · rw [okV_yes (by have := HGE.out; omega) hS, okE_yes (by have := HGE.out; omega) hS] at HSUM2
              rcases Int.lt_or_le 0 S with hp | hp
              · have HD : Hid (dvV t ws = S ∧ (errS t ws : Int) = 0) := by
                  have := HE.out
                  rw [if_neg (by omega), if_neg (by omega)] at this
                  refine ⟨by rw [HDV.out, this, if_pos rfl, if_neg (by omega)], by rw [this]; rfl⟩
                have b4 : 0 < S := hp
                clear hS hp
                go_wp2_with fail
                refine HSUM2.out.mono ?_
                rintro e w2 ⟨rfl, hb2⟩
                have HB2 := Lib.hid hb2
                clear hb2
                go_wp2_with fail
                go_ret2
                exact ⟨two_is HD.out.1.symm HD.out.2.symm, HB2.out⟩
              · obtain rfl : S = 0 := by have := HGE.out; omega
                rcases Int.lt_or_le 0 t with ht | ht
                · have HD : Hid (dvV t ws = 0 ∧ (errS t ws : Int) = 16) := by
                    have := HE.out
                    rw [if_neg (by omega), if_pos ⟨rfl, by omega⟩] at this
                    refine ⟨by rw [HDV.out, this]; rfl, by rw [this]; rfl⟩
                  have b4 : 0 < t := ht
                  clear hS hp ht
                  go_wp2_with fail
                  refine HSUM2.out.mono ?_
                  rintro e w2 ⟨rfl, hb2⟩
                  have HB2 := Lib.hid hb2
                  clear hb2
                  go_wp2_with fail
                  go_ret2
                  exact ⟨two_is HD.out.1.symm HD.out.2.symm, HB2.out⟩
                · have ht0 : t = 0 := by have := HTI.out; omega
                  have HD : Hid (dvV t ws = 1 ∧ (errS t ws : Int) = 0) := by
                    have := HE.out
                    rw [if_neg (by omega), if_neg (fun h => h.2 ht0)] at this
                    refine ⟨by rw [HDV.out, this]; rfl, by rw [this]; rfl⟩
                  have b4 : ¬ 0 < t := by omega
                  clear hS hp ht ht0
                  go_wp2_with fail
                  refine HSUM2.out.mono ?_
                  rintro e w2 ⟨rfl, hb2⟩
                  have HB2 := Lib.hid hb2
                  clear hb2
                  go_wp2_with fail
                  go_ret2
                  exact ⟨two_is HD.out.1.symm HD.out.2.symm, HB2.out⟩

/-! ### The division -/
theorem md_down {T w W : Nat} (hW : 0 < W) (hT : T ≤ 1125899906842624) (hwW : w ≤ W) (hW2 : W ≤ 1125899906842624) : mdV (T : Int) (w : Int) (W : Int) 0 = ((T * w / W : Nat) : Int) := by
  have hq : T * w / W ≤ T := Nat.div_le_of_le_mul (by rw [Nat.mul_comm W T]; exact Nat.mul_le_mul_left _ hwW)
  have h1 : InR (T : Int) ∧ InR (w : Int) ∧ InR (W : Int) := ⟨inr_mk (by omega) (by omega), inr_mk (by omega) (by omega), inr_mk (by omega) (by omega)⟩
  have hn : negB (T : Int) (w : Int) (W : Int) = false := by
    unfold negB
    rw [decide_eq_false (by omega), decide_eq_false (by omega), decide_eq_false (by omega)]; rfl
  have hm : mdR (T : Int) (w : Int) (W : Int) 0 = ((T * w / W : Nat) : Int) := by
    unfold mdR mdM sg
    rw [hn]
    simp only [Int.natAbs_natCast]
    have : awayB (T * w / W) (T * w % W) W 0 false = false := by unfold awayB; simp
    simp [this]
  rw [mdV_in h1 (by omega) (by omega), hm]
  generalize T * w / W = q at hq ⊢
  exact okV_yes (by omega) (by omega)
/-- The difference of two products that wrapped around. -/
theorem wrap_diff {x y r : Int} (h : x - y = r) (h0 : 0 ≤ r) (h1 : r ≤ 1125899906842624) : IntKind.i64.wrap (IntKind.i64.wrap x - IntKind.i64.wrap y) = r := by
  simp only [IntKind.wrap_i64]; omega

set_option maxHeartbeats 800000 in
theorem share_divide {T x W : Nat} (hW : 0 < W) (hT : T ≤ 1125899906842624) (hxW : x ≤ W) (hW2 : W ≤ 1125899906842624) (w : World) :
    Calls Tryz.prog 41 #[.int .i64 (T : Int), .int .i64 (x : Int), .int .i64 (W : Int)] w fun e w' => e = .returned (.tuple #[.int .i64 ((T * x / W : Nat) : Int), .int .i64 ((T * x % W : Nat) : Int)]) ∧ Below w.heap.size w w' := by
  have h := num_muldiv (T : Int) (x : Int) (W : Int) 0 w
  rw [md_down hW hT hxW hW2] at h
  have HC := Lib.hid h
  obtain ⟨q, hq⟩ : ∃ q, q = T * x / W := ⟨_, rfl⟩
  obtain ⟨r, hr⟩ : ∃ r, r = T * x % W := ⟨_, rfl⟩
  have hrl : r < W := hr ▸ Nat.mod_lt _ hW
  have he : (T : Int) * (x : Int) - (q : Int) * (W : Int) = (r : Int) := by
    have := Nat.div_add_mod (T * x) W
    rw [← hq, ← hr, Nat.mul_comm W q] at this
    have h2 : ((q * W + r : Nat) : Int) = ((T * x : Nat) : Int) := by rw [this]
    simp only [Int.natCast_add, Int.natCast_mul] at h2
    omega
  have e1 := wrap_diff he (by omega) (by omega)
  obtain ⟨y, hy⟩ : ∃ y, y = IntKind.i64.wrap ((T : Int) * (x : Int)) := ⟨_, rfl⟩
  obtain ⟨z, hz⟩ : ∃ z, z = IntKind.i64.wrap ((q : Int) * (W : Int)) := ⟨_, rfl⟩
  obtain ⟨E, hE⟩ : ∃ E, E = mdE (T : Int) (x : Int) (W : Int) 0 := ⟨_, rfl⟩
  rw [← hq, ← hE] at HC
  rw [← hq, ← hr]
  rw [← hy, ← hz] at e1
  have f1 := hy.symm
  have f2 := hz.symm
  clear h hq hr hrl he hy hz hE
  go_enter Tryz.func41, Tryz.ntmps41
  go_wp2_with fail
  refine HC.out.mono ?_
  rintro e w2 ⟨rfl, hb2⟩
  have HB2 := Lib.hid hb2
  clear hb2
  go_wp2_with fail
  go_ret2
  exact ⟨rfl, HB2.out⟩
end Go.Proofs.YtagjimdplmimoaaGreat.Share
/- A stable sort by insertion and by rotations: what lies where, over places. Pure. -/
namespace Go.Proofs.YtagjimdplmimoaaGreat.Stable
set_option linter.unusedVariables false

/-! ### Places exchanged, turned round -/
/-- Two places exchanged: first i gets what lay at j, then j what lay at i. -/
def sw (s : Nat → Nat) (i j : Nat) : Nat → Nat := fun k => if k = j then s i else if k = i then s j else s k
/-- n places from a, and n places from b, exchanged. -/
def swr (s : Nat → Nat) (a b n : Nat) : Nat → Nat := fun k => if a ≤ k ∧ k < a + n then s (k - a + b) else if b ≤ k ∧ k < b + n then s (k - b + a) else s k
/-- What lies in a .. m-1, and in m .. b-1, exchanged. -/
def rot (s : Nat → Nat) (a m b : Nat) : Nat → Nat := fun k => if a ≤ k ∧ k < a + (b - m) then s (k - a + m) else if a + (b - m) ≤ k ∧ k < b then s (k - (b - m)) else s k
theorem swr_zero (s : Nat → Nat) (a b : Nat) : swr s a b 0 = s := by
  funext k; unfold swr; rw [if_neg (by omega), if_neg (by omega)]
theorem swr_succ (s : Nat → Nat) {a b n i : Nat} (h : a + n ≤ b) (hi : i < n) : sw (swr s a b i) (a + i) (b + i) = swr s a b (i + 1) := by
  funext k
  simp only [sw, swr]
  repeat' split
  all_goals first | omega | rfl | (congr 1; omega)
theorem rot_left (s : Nat → Nat) {m : Nat} (b : Nat) (h : m ≤ b) : rot s m m b = s := by
  funext k; simp only [rot]
  repeat' split
  all_goals first | omega | rfl | (congr 1; omega)
theorem rot_right (s : Nat → Nat) {a m : Nat} (h : a ≤ m) : rot s a m m = s := by
  funext k; simp only [rot]
  repeat' split
  all_goals first | omega | rfl | (congr 1; omega)
theorem rot_same (s : Nat → Nat) {m i : Nat} (h : i ≤ m) : swr s (m - i) m i = rot s (m - i) m (m + i) := by
  funext k; simp only [rot, swr]
  repeat' split
  all_goals first | omega | rfl | (congr 1; omega)
theorem rot_more (s : Nat → Nat) {m i j : Nat} (h : i ≤ m) (hij : j < i) : rot (swr s (m - i) m j) (m - (i - j)) m (m + j) = rot s (m - i) m (m + j) := by
  funext k; simp only [rot, swr]
  repeat' split
  all_goals first | omega | rfl | (congr 1; omega)
theorem rot_less (s : Nat → Nat) {m i j : Nat} (h : i ≤ m) (hij : i < j) : rot (swr s (m - i) (m + j - i) i) (m - i) m (m + (j - i)) = rot s (m - i) m (m + j) := by
  funext k; simp only [rot, swr]
  repeat' split
  all_goals first | omega | rfl | (congr 1; omega)
theorem rot_up (s : Nat → Nat) {a k : Nat} (h : a ≤ k) : sw (rot s a (a + 1) (k + 1)) k (k + 1) = rot s a (a + 1) (k + 2) := by
  funext x; simp only [rot, sw]
  repeat' split
  all_goals first | omega | rfl | (congr 1; omega)
theorem rot_down (s : Nat → Nat) {m k : Nat} (h : k < m) : sw (rot s (k + 1) m (m + 1)) (k + 1) k = rot s k m (m + 1) := by
  funext x; simp only [rot, sw]
  repeat' split
  all_goals first | omega | rfl | (congr 1; omega)

/-! ### What lies in a part lay in it -/
/-- What lies in a .. b-1 lay there; all else is as it was. -/
structure Im (s s' : Nat → Nat) (a b : Nat) : Prop where
  in_ : ∀ k, a ≤ k → k < b → ∃ j, a ≤ j ∧ j < b ∧ s' k = s j
  out : ∀ k, k < a ∨ b ≤ k → s' k = s k
theorem Im.refl (s : Nat → Nat) (a b : Nat) : Im s s a b := ⟨fun k h1 h2 => ⟨k, h1, h2, rfl⟩, fun _ _ => rfl⟩
theorem Im.trans {s s' s'' : Nat → Nat} {a b : Nat} (h : Im s s' a b) (k : Im s' s'' a b) : Im s s'' a b :=
  ⟨fun i h1 h2 => by
    obtain ⟨j, j1, j2, e⟩ := k.in_ i h1 h2
    obtain ⟨l, l1, l2, e'⟩ := h.in_ j j1 j2
    exact ⟨l, l1, l2, e.trans e'⟩, fun i hi => (k.out i hi).trans (h.out i hi)⟩
theorem Im.wide {s s' : Nat → Nat} {a b c d : Nat} (h : Im s s' a b) (h1 : c ≤ a) (h2 : b ≤ d) : Im s s' c d :=
  ⟨fun k k1 k2 => by
    by_cases hk : a ≤ k ∧ k < b
    · obtain ⟨j, j1, j2, e⟩ := h.in_ k hk.1 hk.2
      exact ⟨j, by omega, by omega, e⟩
    · exact ⟨k, k1, k2, h.out k (by omega)⟩, fun k hk => h.out k (by omega)⟩
theorem Im.bound {s s' : Nat → Nat} {a b n N : Nat} (h : Im s s' a b) (hb : b ≤ n) (hs : ∀ k, k < n → s k < N) : ∀ k, k < n → s' k < N := by
  intro k hk
  by_cases hk' : a ≤ k ∧ k < b
  · obtain ⟨j, j1, j2, e⟩ := h.in_ k hk'.1 hk'.2
    rw [e]; exact hs j (by omega)
  · rw [h.out k (by omega)]; exact hs k hk
theorem im_sw (s : Nat → Nat) {a b i j : Nat} (hi : a ≤ i ∧ i < b) (hj : a ≤ j ∧ j < b) : Im s (sw s i j) a b :=
  ⟨fun k k1 k2 => by
    unfold sw
    split
    · exact ⟨i, hi.1, hi.2, rfl⟩
    · split
      · exact ⟨j, hj.1, hj.2, rfl⟩
      · exact ⟨k, k1, k2, rfl⟩, fun k hk => by unfold sw; rw [if_neg (by omega), if_neg (by omega)]⟩
theorem im_rot (s : Nat → Nat) {a m b : Nat} (h1 : a ≤ m) (h2 : m ≤ b) : Im s (rot s a m b) a b :=
  ⟨fun k k1 k2 => by
    unfold rot
    split
    · exact ⟨_, by omega, by omega, rfl⟩
    · rw [if_pos (by omega)]
      exact ⟨_, by omega, by omega, rfl⟩, fun k hk => by unfold rot; rw [if_neg (by omega), if_neg (by omega)]⟩

/-! ### Order -/
/-- A strict order of all that is not the same. -/
structure Sto (B : Nat → Nat → Bool) : Prop where
  irr : ∀ i, B i i = false
  trans : ∀ i j k, B i j = true → B j k = true → B i k = true
  total : ∀ i j, i ≠ j → B i j = true ∨ B j i = true
/-- In order. -/
def Srt (B : Nat → Nat → Bool) (s : Nat → Nat) (a b : Nat) : Prop := ∀ j k, a ≤ j → j < k → k < b → B (s j) (s k) = true
section
variable {B : Nat → Nat → Bool} {s s' : Nat → Nat} {a b m i j : Nat}
theorem Srt.part (h : Srt B s a b) {c d : Nat} (h1 : a ≤ c) (h2 : d ≤ b) : Srt B s c d := fun j k h3 h4 h5 => h j k (by omega) h4 (by omega)
theorem Srt.congr (h : Srt B s a b) (he : ∀ k, a ≤ k → k < b → s' k = s k) : Srt B s' a b := fun j k h1 h2 h3 => by
  rw [he j h1 (by omega), he k (by omega) h3]; exact h j k h1 h2 h3
theorem Srt.none_ (h : b ≤ a + 1) : Srt B s a b := fun j k h1 h2 h3 => by omega
theorem Sto.not (hB : Sto B) {x y : Nat} (h : B x y = true) : B y x = false := by
  cases h1 : B y x with
  | false => rfl
  | true => have := hB.trans _ _ _ h h1; rw [hB.irr] at this; cases this
theorem Sto.turn (hB : Sto B) {x y : Nat} (h : B x y = false) (hne : x ≠ y) : B y x = true := by
  rcases hB.total x y hne with h1 | h1
  · rw [h] at h1; cases h1
  · exact h1
/-- Two parts in order, the first one before the second one. -/
theorem Srt.join (hB : Sto B) (h1 : Srt B s a m) (h2 : Srt B s m b) (h : a < m → m < b → B (s (m - 1)) (s m) = true) : Srt B s a b := by
  intro j k h3 h4 h5
  rcases Nat.lt_or_ge k m with hk | hk
  · exact h1 j k h3 h4 hk
  · rcases Nat.lt_or_ge j m with hj | hj
    · have e1 : B (s j) (s (m - 1)) = true ∨ j = m - 1 := by
        rcases Nat.lt_or_ge j (m - 1) with hlt | hge
        · exact Or.inl (h1 j (m - 1) h3 hlt (by omega))
        · exact Or.inr (by omega)
      have e2 : B (s m) (s k) = true ∨ k = m := by
        rcases Nat.lt_or_ge m k with hlt | hge
        · exact Or.inl (h2 m k (Nat.le_refl _) hlt h5)
        · exact Or.inr (by omega)
      have e := h (by omega) (by omega)
      rcases e1 with e1 | rfl
      · rcases e2 with e2 | rfl
        · exact hB.trans _ _ _ e1 (hB.trans _ _ _ e e2)
        · exact hB.trans _ _ _ e1 e
      · rcases e2 with e2 | rfl
        · exact hB.trans _ _ _ e e2
        · exact e
    · exact h2 j k hj h4 h5
theorem Srt.glue (h1 : Srt B s a m) (h2 : Srt B s m b) (h : ∀ j k, a ≤ j → j < m → m ≤ k → k < b → B (s j) (s k) = true) : Srt B s a b := by
  intro j k h3 h4 h5
  rcases Nat.lt_or_ge k m with hk | hk
  · exact h1 j k h3 h4 hk
  · rcases Nat.lt_or_ge j m with hj | hj
    · exact h j k h3 hj hk h5
    · exact h2 j k hj h4 h5

/-! ### Two halves, merged -/
/-- Two parts, each in order; what is in the first one came before what is in the second one. -/
structure Halves (B : Nat → Nat → Bool) (s : Nat → Nat) (a m b : Nat) : Prop where
  l : Srt B s a m
  r : Srt B s m b
  t : ∀ j k, a ≤ j → j < m → m ≤ k → k < b → s j < s k
theorem Halves.congr (h : Halves B s a m b) (he : ∀ k, a ≤ k → k < b → s' k = s k) (h1 : a ≤ m) (h2 : m ≤ b) : Halves B s' a m b :=
  ⟨h.l.congr fun k k1 k2 => he k k1 (by omega), h.r.congr fun k k1 k2 => he k (by omega) k2, fun j k j1 j2 k1 k2 => by rw [he j j1 (by omega), he k (by omega) k2]; exact h.t j k j1 j2 k1 k2⟩
/-- Turned round where the first part's rest and the second part's beginning are exchanged. -/
structure Cut (B : Nat → Nat → Bool) (s : Nat → Nat) (a m b i j : Nat) : Prop where
  h : Halves B s a m b
  ai : a ≤ i
  im : i ≤ m
  mj : m ≤ j
  jb : j ≤ b
  uv : a < i → j < b → B (s (i - 1)) (s j) = true
  vu : i < m → m < j → B (s (j - 1)) (s i) = true
theorem rot_at1 (s : Nat → Nat) {i m j k : Nat} (h1 : i ≤ k) (h2 : k < i + (j - m)) : rot s i m j k = s (k - i + m) := by unfold rot; rw [if_pos ⟨h1, h2⟩]
theorem rot_at2 (s : Nat → Nat) {i m j k : Nat} (h1 : i + (j - m) ≤ k) (h2 : k < j) : rot s i m j k = s (k - (j - m)) := by unfold rot; rw [if_neg (by omega), if_pos ⟨h1, h2⟩]
theorem rot_at3 (s : Nat → Nat) {i m j k : Nat} (h1 : k < i ∨ j ≤ k) (h : i ≤ m) (h' : m ≤ j) : rot s i m j k = s k := by unfold rot; rw [if_neg (by omega), if_neg (by omega)]
theorem Cut.lo (c : Cut B s a m b i j) : Halves B (rot s i m j) a i (i + (j - m)) := by
  have h0 := c.ai; have h1 := c.im; have h2 := c.mj; have h3 := c.jb
  refine ⟨fun x y x1 x2 x3 => ?_, fun x y x1 x2 x3 => ?_, fun x y x1 x2 x3 x4 => ?_⟩
  · rw [rot_at3 s (Or.inl (by omega)) h1 h2, rot_at3 s (Or.inl x3) h1 h2]; exact c.h.l x y x1 x2 (by omega)
  · rw [rot_at1 s x1 (by omega), rot_at1 s (by omega) x3]; exact c.h.r _ _ (by omega) (by omega) (by omega)
  · rw [rot_at3 s (Or.inl x2) h1 h2, rot_at1 s x3 x4]; exact c.h.t _ _ x1 (by omega) (by omega) (by omega)
theorem Cut.hi (c : Cut B s a m b i j) : Halves B (rot s i m j) (i + (j - m)) j b := by
  have h0 := c.ai; have h1 := c.im; have h2 := c.mj; have h3 := c.jb
  refine ⟨fun x y x1 x2 x3 => ?_, fun x y x1 x2 x3 => ?_, fun x y x1 x2 x3 x4 => ?_⟩
  · rw [rot_at2 s x1 (by omega), rot_at2 s (by omega) x3]; exact c.h.l _ _ (by omega) (by omega) (by omega)
  · rw [rot_at3 s (Or.inr x1) h1 h2, rot_at3 s (Or.inr (by omega)) h1 h2]; exact c.h.r x y (by omega) x2 x3
  · rw [rot_at2 s x1 x2, rot_at3 s (Or.inr x3) h1 h2]; exact c.h.t _ _ (by omega) (by omega) (by omega) x4
theorem Cut.uvs (hB : Sto B) (c : Cut B s a m b i j) {x y : Nat} (x1 : a ≤ x) (x2 : x < i) (y1 : j ≤ y) (y2 : y < b) : B (s x) (s y) = true := by
  have h0 := c.ai; have h1 := c.im; have h2 := c.mj
  have e := c.uv (by omega) (by omega)
  have e1 : B (s x) (s (i - 1)) = true ∨ x = i - 1 := by
    rcases Nat.lt_or_ge x (i - 1) with h | h
    · exact Or.inl (c.h.l _ _ x1 h (by omega))
    · exact Or.inr (by omega)
  have e2 : B (s j) (s y) = true ∨ y = j := by
    rcases Nat.lt_or_ge j y with h | h
    · exact Or.inl (c.h.r _ _ (by omega) h y2)
    · exact Or.inr (by omega)
  rcases e1 with e1 | rfl
  · rcases e2 with e2 | rfl
    · exact hB.trans _ _ _ e1 (hB.trans _ _ _ e e2)
    · exact hB.trans _ _ _ e1 e
  · rcases e2 with e2 | rfl
    · exact hB.trans _ _ _ e e2
    · exact e
theorem Cut.vus (hB : Sto B) (c : Cut B s a m b i j) {x y : Nat} (x1 : m ≤ x) (x2 : x < j) (y1 : i ≤ y) (y2 : y < m) : B (s x) (s y) = true := by
  have h0 := c.ai; have h1 := c.im; have h2 := c.mj; have h3 := c.jb
  have e := c.vu (by omega) (by omega)
  have e1 : B (s x) (s (j - 1)) = true ∨ x = j - 1 := by
    rcases Nat.lt_or_ge x (j - 1) with h | h
    · exact Or.inl (c.h.r _ _ x1 h (by omega))
    · exact Or.inr (by omega)
  have e2 : B (s i) (s y) = true ∨ y = i := by
    rcases Nat.lt_or_ge i y with h | h
    · exact Or.inl (c.h.l _ _ (by omega) h y2)
    · exact Or.inr (by omega)
  rcases e1 with e1 | rfl
  · rcases e2 with e2 | rfl
    · exact hB.trans _ _ _ e1 (hB.trans _ _ _ e e2)
    · exact hB.trans _ _ _ e1 e
  · rcases e2 with e2 | rfl
    · exact hB.trans _ _ _ e e2
    · exact e
/-- What is below the new middle comes before what is above. -/
theorem Cut.mid (hB : Sto B) (c : Cut B s a m b i j) {x y : Nat} (x1 : a ≤ x) (x2 : x < i + (j - m)) (y1 : i + (j - m) ≤ y) (y2 : y < b) : B (rot s i m j x) (rot s i m j y) = true := by
  have h0 := c.ai; have h1 := c.im; have h2 := c.mj; have h3 := c.jb
  rcases Nat.lt_or_ge x i with hx | hx
  · rw [rot_at3 s (Or.inl hx) h1 h2]
    rcases Nat.lt_or_ge y j with hy | hy
    · rw [rot_at2 s y1 hy]; exact c.h.l _ _ x1 (by omega) (by omega)
    · rw [rot_at3 s (Or.inr hy) h1 h2]; exact c.uvs hB x1 hx hy y2
  · rw [rot_at1 s hx x2]
    rcases Nat.lt_or_ge y j with hy | hy
    · rw [rot_at2 s y1 hy]; exact c.vus hB (by omega) (by omega) (by omega) (by omega)
    · rw [rot_at3 s (Or.inr hy) h1 h2]; exact c.h.r _ _ (by omega) (by omega) y2
/-- Both sides put in order. -/
theorem Cut.done (hB : Sto B) (c : Cut B s a m b i j) {s2 s3 : Nat → Nat} (k2 : Im (rot s i m j) s2 a (i + (j - m))) (o2 : Srt B s2 a (i + (j - m))) (k3 : Im s2 s3 (i + (j - m)) b) (o3 : Srt B s3 (i + (j - m)) b) : Srt B s3 a b ∧ Im s s3 a b := by
  have h0 := c.ai; have h1 := c.im; have h2 := c.mj; have h3 := c.jb
  refine ⟨Srt.glue (o2.congr fun k x1 x2 => k3.out k (Or.inl x2)) o3 fun x y x1 x2 y1 y2 => ?_, ?_⟩
  · obtain ⟨y', z1, z2, e⟩ := k3.in_ y y1 y2
    obtain ⟨x', z3, z4, e'⟩ := k2.in_ x x1 x2
    rw [e, k3.out x (Or.inl x2), e', k2.out y' (Or.inr z1)]
    exact c.mid hB z3 z4 z1 z2
  · exact ((im_rot s h1 h2).wide h0 h3).trans ((k2.wide (Nat.le_refl _) (by omega)).trans (k3.wide (by omega) (Nat.le_refl _)))
/-- One value at the left, put in. -/
theorem Halves.one_left (hB : Sto B) (h : Halves B s a (a + 1) b) {i : Nat} (h1 : a + 1 ≤ i) (h2 : i ≤ b) (hlo : a + 1 < i → B (s (i - 1)) (s a) = true) (hhi : i < b → B (s i) (s a) = false) : Srt B (rot s a (a + 1) i) a b ∧ Im s (rot s a (a + 1) i) a b := by
  have c : Cut B s a (a + 1) b a i := ⟨h, Nat.le_refl _, by omega, h1, h2, fun h3 => by omega, fun _ h3 => hlo h3⟩
  have e := c.hi
  refine c.done hB (Im.refl _ _ _) c.lo.r (Im.refl _ _ _) (Srt.join hB e.l e.r fun h3 h4 => ?_)
  rw [rot_at2 s (by omega) (by omega), rot_at3 s (Or.inr (Nat.le_refl _)) (by omega) h1]
  have := h.t a i (Nat.le_refl _) (by omega) h1 h4
  rw [show i - 1 - (i - (a + 1)) = a by omega]
  exact hB.turn (hhi h4) (by omega)
/-- One value at the right, put in. -/
theorem Halves.one_right (hB : Sto B) (h : Halves B s a m (m + 1)) {i : Nat} (h1 : a ≤ i) (h2 : i ≤ m) (hlo : a < i → B (s m) (s (i - 1)) = false) (hhi : i < m → B (s m) (s i) = true) : Srt B (rot s i m (m + 1)) a (m + 1) ∧ Im s (rot s i m (m + 1)) a (m + 1) := by
  have c : Cut B s a m (m + 1) i (m + 1) := ⟨h, h1, h2, by omega, Nat.le_refl _, fun _ h3 => by omega, fun h3 _ => hhi h3⟩
  have e := c.lo
  refine c.done hB (Im.refl _ _ _) (Srt.join hB e.l e.r fun h3 h4 => ?_) (Im.refl _ _ _) c.hi.l
  rw [rot_at3 s (Or.inl (by omega)) h2 (by omega), rot_at1 s (Nat.le_refl _) (by omega)]
  have := h.t (i - 1) m (by omega) (by omega) (Nat.le_refl _) (by omega)
  rw [show i - i + m = m by omega]
  exact hB.turn (hlo h3) (by omega)
/-- What the search finds is a place to cut at. -/
theorem Halves.cut (hB : Sto B) (h : Halves B s a m b) {mid lo hi st : Nat} (hm : mid = (a + b) / 2) (ham : a ≤ m) (hmb : m ≤ b) (hlo : lo = if mid < m then mid + m - b else a) (hhi : hi = if mid < m then mid else m) (h1 : lo ≤ st) (h2 : st ≤ hi)
    (hn : lo < st → B (s (mid + m - 1 - (st - 1))) (s (st - 1)) = false) (hy : st < hi → B (s (mid + m - 1 - st)) (s st) = true) : Cut B s a m b st (mid + m - st) := by
  by_cases hc : mid < m
  · rw [if_pos hc] at hlo hhi
    refine ⟨h, by omega, by omega, by omega, by omega, fun h3 h4 => ?_, fun h3 h4 => ?_⟩
    · have e := hn (by omega)
      have := h.t (st - 1) (mid + m - st) (by omega) (by omega) (by omega) h4
      rw [show mid + m - 1 - (st - 1) = mid + m - st by omega] at e
      exact hB.turn e (by omega)
    · rw [show mid + m - st - 1 = mid + m - 1 - st by omega]; exact hy (by omega)
  · rw [if_neg hc] at hlo hhi
    refine ⟨h, by omega, by omega, by omega, by omega, fun h3 h4 => ?_, fun h3 h4 => ?_⟩
    · have e := hn (by omega)
      have := h.t (st - 1) (mid + m - st) (by omega) (by omega) (by omega) h4
      rw [show mid + m - 1 - (st - 1) = mid + m - st by omega] at e
      exact hB.turn e (by omega)
    · rw [show mid + m - st - 1 = mid + m - 1 - st by omega]; exact hy (by omega)

/-! ### Insertion -/
/-- Within an insertion: the value lies at j; behind it all of i and below that come after it. -/
structure Ins (B : Nat → Nat → Bool) (s c : Nat → Nat) (a i j : Nat) : Prop where
  aj : a ≤ j
  ji : j ≤ i
  im : Im s c a (i + 1)
  x : c j = s i
  o : ∀ p q, a ≤ p → p < q → q ≤ i → p ≠ j → q ≠ j → B (c p) (c q) = true
  up : ∀ q, j < q → q ≤ i → B (c j) (c q) = true
  t : ∀ p, a ≤ p → p < j → c p < c j
theorem Ins.start (h : Srt B s a i) (hai : a ≤ i) (ht : ∀ p, a ≤ p → p < i → s p < s i) : Ins B s s a i i :=
  ⟨hai, Nat.le_refl _, Im.refl _ _ _, rfl, fun p q h1 h2 h3 h4 h5 => h p q h1 h2 (by omega), fun q h1 h2 => by omega, ht⟩
theorem Ins.step {c : Nat → Nat} (h : Ins B s c a i j) (haj : a < j) (hlt : B (c j) (c (j - 1)) = true) : Ins B s (sw c j (j - 1)) a i (j - 1) := by
  have h1 := h.aj; have h2 := h.ji
  have ej : sw c j (j - 1) (j - 1) = c j := by unfold sw; rw [if_pos rfl]
  have ej' : sw c j (j - 1) j = c (j - 1) := by unfold sw; rw [if_neg (by omega), if_pos rfl]
  have eo : ∀ k, k ≠ j → k ≠ j - 1 → sw c j (j - 1) k = c k := fun k h3 h4 => by unfold sw; rw [if_neg h4, if_neg h3]
  refine ⟨by omega, by omega, h.im.trans (im_sw c ⟨h1, by omega⟩ ⟨by omega, by omega⟩), by rw [ej]; exact h.x, fun p q h3 h4 h5 h6 h7 => ?_, fun q h3 h4 => ?_, fun p h3 h4 => ?_⟩
  · by_cases hp : p = j
    · subst hp
      rw [ej', eo q (by omega) h7]
      exact h.o (p - 1) q (by omega) (by omega) h5 (by omega) (by omega)
    · by_cases hq : q = j
      · subst hq
        rw [ej', eo p hp h6]
        exact h.o p (q - 1) h3 (by omega) (by omega) hp (by omega)
      · rw [eo p hp h6, eo q hq h7]; exact h.o p q h3 h4 h5 hp hq
  · rw [ej]
    by_cases hq : q = j
    · subst hq; rw [ej']; exact hlt
    · rw [eo q hq (by omega)]; exact h.up q (by omega) h4
  · rw [ej, eo p (by omega) (by omega)]; exact h.t p h3 (by omega)
theorem Ins.done {c : Nat → Nat} (hB : Sto B) (h : Ins B s c a i j) (he : j = a ∨ (a < j ∧ B (c j) (c (j - 1)) = false)) : Srt B c a (i + 1) ∧ Im s c a (i + 1) := by
  have h1 := h.aj; have h2 := h.ji
  refine ⟨fun p q h3 h4 h5 => ?_, h.im⟩
  by_cases hp : p = j
  · subst hp; exact h.up q h4 (by omega)
  · by_cases hq : q = j
    · subst hq
      rcases he with he | ⟨he1, he2⟩
      · omega
      · have ht := h.t (q - 1) (by omega) (by omega)
        have e := hB.turn he2 (by omega)
        rcases Nat.lt_or_ge p (q - 1) with hlt | hge
        · exact hB.trans _ _ _ (h.o p (q - 1) h3 hlt (by omega) (by omega) (by omega)) e
        · obtain rfl : p = q - 1 := by omega
          exact e
    · exact h.o p q h3 h4 (by omega) hp hq

/-! ### Blocks -/
/-- A block in order, of what lay in it. -/
structure Bl (B : Nat → Nat → Bool) (s : Nat → Nat) (a b : Nat) : Prop where
  o : Srt B s a b
  v : ∀ k, a ≤ k → k < b → a ≤ s k ∧ s k < b
theorem Bl.none_ (h : b ≤ a) : Bl B s a b := ⟨Srt.none_ (by omega), fun k h1 h2 => by omega⟩
theorem Bl.congr (h : Bl B s a b) (he : ∀ k, a ≤ k → k < b → s' k = s k) : Bl B s' a b := ⟨h.o.congr he, fun k h1 h2 => by rw [he k h1 h2]; exact h.v k h1 h2⟩
theorem Bl.of_id (hs : ∀ k, a ≤ k → k < b → s k = k) (h : Srt B s' a b) (hi : Im s s' a b) : Bl B s' a b :=
  ⟨h, fun k h1 h2 => by
    obtain ⟨j, j1, j2, e⟩ := hi.in_ k h1 h2
    rw [e, hs j j1 j2]; exact ⟨j1, j2⟩⟩
theorem Bl.halves (h1 : Bl B s a m) (h2 : Bl B s m b) : Halves B s a m b :=
  ⟨h1.o, h2.o, fun j k j1 j2 k1 k2 => by have := h1.v j j1 j2; have := h2.v k k1 k2; omega⟩
theorem Bl.merged (h1 : Bl B s a m) (h2 : Bl B s m b) (ham : a ≤ m) (hmb : m ≤ b) (h : Srt B s' a b) (hi : Im s s' a b) : Bl B s' a b :=
  ⟨h, fun k k1 k2 => by
    obtain ⟨j, j1, j2, e⟩ := hi.in_ k k1 k2
    rw [e]
    rcases Nat.lt_or_ge j m with hj | hj
    · have := h1.v j j1 hj; omega
    · have := h2.v j hj j2; omega⟩
/-- All blocks of z. -/
def Bls (B : Nat → Nat → Bool) (s : Nat → Nat) (z n : Nat) : Prop := ∀ u, Bl B s (u * z) (min (u * z + z) n)
/-- Blocks of 20 up to a, the rest as it was. -/
structure Ph1 (B : Nat → Nat → Bool) (s : Nat → Nat) (n t : Nat) : Prop where
  le : t * 20 ≤ n
  done : ∀ u, u < t → Bl B s (u * 20) (u * 20 + 20)
  rest : ∀ k, t * 20 ≤ k → s k = k
theorem Ph1.start (n : Nat) (h : ∀ k, s k = k) : Ph1 B s n 0 := ⟨by omega, fun u hu => by omega, fun k _ => h k⟩
theorem Ph1.next {n t : Nat} (h : Ph1 B s n t) (hle : t * 20 + 20 ≤ n) (ho : Srt B s' (t * 20) (t * 20 + 20)) (hi : Im s s' (t * 20) (t * 20 + 20)) : Ph1 B s' n (t + 1) :=
  ⟨by omega, fun u hu => by
    rcases Nat.lt_or_ge u t with hut | hut
    · exact (h.done u hut).congr fun k k1 k2 => hi.out k (by omega)
    · obtain rfl : u = t := by omega
      exact Bl.of_id (fun k k1 _ => h.rest k k1) ho hi, fun k hk => by rw [hi.out k (by omega)]; exact h.rest k (by omega)⟩
theorem Ph1.all {n t : Nat} (h : Ph1 B s n t) (hlt : n < t * 20 + 20) (ho : Srt B s' (t * 20) n) (hi : Im s s' (t * 20) n) : Bls B s' 20 n := by
  have h0 := h.le
  intro u
  rcases Nat.lt_trichotomy u t with hu | rfl | hu
  · rw [Nat.min_eq_left (by omega)]
    exact (h.done u hu).congr fun k k1 k2 => hi.out k (by omega)
  · rw [Nat.min_eq_right (by omega)]
    exact Bl.of_id (fun k k1 _ => h.rest k k1) ho hi
  · exact Bl.none_ (by rw [Nat.min_eq_right (by omega)]; omega)
/-- Blocks of 2 z up to a, blocks of z behind. -/
structure Ph2 (B : Nat → Nat → Bool) (s : Nat → Nat) (z n t a : Nat) : Prop where
  at_ : a = t * (2 * z)
  le : a ≤ n
  done : ∀ u, u < t → Bl B s (u * (2 * z)) (u * (2 * z) + 2 * z)
  rest : ∀ u, 2 * t ≤ u → Bl B s (u * z) (min (u * z + z) n)
theorem Ph2.start {z n : Nat} (h : Bls B s z n) : Ph2 B s z n 0 0 := ⟨by omega, by omega, fun u hu => by omega, fun u _ => h u⟩
theorem mul_two (t z : Nat) : 2 * t * z = t * (2 * z) := by rw [Nat.mul_comm 2 t, Nat.mul_assoc]
theorem Ph2.first {z n t a : Nat} (h : Ph2 B s z n t a) : Bl B s a (min (a + z) n) := by
  have := h.rest (2 * t) (Nat.le_refl _)
  rw [mul_two, ← h.at_] at this; exact this
theorem Ph2.second {z n t a : Nat} (h : Ph2 B s z n t a) : Bl B s (a + z) (min (a + 2 * z) n) := by
  have := h.rest (2 * t + 1) (by omega)
  rw [Nat.succ_mul, mul_two, ← h.at_, Nat.add_assoc, show z + z = 2 * z by omega] at this; exact this
theorem Ph2.before {z n t a : Nat} (h : Ph2 B s z n t a) {u : Nat} (hu : u < t) : u * (2 * z) + 2 * z ≤ a := by
  have := Nat.mul_le_mul_right (2 * z) (show u + 1 ≤ t from hu)
  rw [Nat.succ_mul] at this; rw [h.at_]; exact this
theorem Ph2.next {z n t a : Nat} (h : Ph2 B s z n t a) (hle : a + 2 * z ≤ n) (ho : Srt B s' a (a + 2 * z)) (hi : Im s s' a (a + 2 * z)) : Ph2 B s' z n (t + 1) (a + 2 * z) := by
  have e1 := h.first
  have e2 := h.second
  rw [Nat.min_eq_left (by omega)] at e1 e2
  refine ⟨by rw [Nat.succ_mul t (2 * z), ← h.at_], hle, fun u hu => ?_, fun u hu => ?_⟩
  · rcases Nat.lt_or_ge u t with hut | hut
    · have := h.before hut
      exact (h.done u hut).congr fun k k1 k2 => hi.out k (by omega)
    · obtain rfl : u = t := by omega
      rw [← h.at_]
      exact Bl.merged e1 e2 (by omega) (by omega) ho hi
  · have h5 := Nat.mul_le_mul_right z (show 2 * t + 2 ≤ u by omega)
    rw [Nat.add_mul, mul_two, ← h.at_] at h5
    exact (h.rest u (by omega)).congr fun k k1 k2 => hi.out k (by omega)
theorem Ph2.tail {z n t a : Nat} (h : Ph2 B s z n t a) (hlt : n < a + 2 * z) (hb : Bl B s' a n) (he : ∀ k, k < a → s' k = s k) : Bls B s' (2 * z) n := by
  have h0 := h.le
  intro u
  rcases Nat.lt_trichotomy u t with hu | rfl | hu
  · have := h.before hu
    rw [Nat.min_eq_left (by omega)]
    exact (h.done u hu).congr fun k k1 k2 => he k (by omega)
  · rw [← h.at_, Nat.min_eq_right (by omega)]; exact hb
  · have h5 := Nat.mul_le_mul_right (2 * z) (show t + 1 ≤ u from hu)
    rw [Nat.succ_mul, ← h.at_] at h5
    exact Bl.none_ (by rw [Nat.min_eq_right (by omega)]; omega)
/-- The last block and a short one behind it. -/
theorem Ph2.last {z n t a : Nat} (h : Ph2 B s z n t a) (hlt : n < a + 2 * z) (hm : a + z < n) (ho : Srt B s' a n) (hi : Im s s' a n) : Bls B s' (2 * z) n := by
  have e1 := h.first
  have e2 := h.second
  rw [Nat.min_eq_left (by omega)] at e1
  rw [Nat.min_eq_right (by omega)] at e2
  exact h.tail hlt (Bl.merged e1 e2 (by omega) (by omega) ho hi) fun k hk => hi.out k (by omega)
theorem Ph2.alone {z n t a : Nat} (h : Ph2 B s z n t a) (hlt : n < a + 2 * z) (hm : n ≤ a + z) : Bls B s (2 * z) n := by
  have e1 := h.first
  rw [Nat.min_eq_right (by omega)] at e1
  exact h.tail hlt e1 fun _ _ => rfl
theorem Bls.all {z n : Nat} (h : Bls B s z n) (hz : n ≤ z) : Srt B s 0 n ∧ ∀ k, k < n → s k < n := by
  have := h 0
  rw [Nat.zero_mul, Nat.zero_add, Nat.min_eq_right hz] at this
  exact ⟨this.o, fun k hk => (this.v k (Nat.zero_le _) hk).2⟩
end
/-- The same, by other names (for texts that write 'lo', 'hi' for something else). -/
theorem Cut.low {B : Nat → Nat → Bool} {s : Nat → Nat} {a b m i j : Nat} (c : Cut B s a m b i j) : Halves B (rot s i m j) a i (i + (j - m)) := c.lo
theorem Cut.high {B : Nat → Nat → Bool} {s : Nat → Nat} {a b m i j : Nat} (c : Cut B s a m b i j) : Halves B (rot s i m j) (i + (j - m)) j b := c.hi
end Go.Proofs.YtagjimdplmimoaaGreat.Stable
