/- Contracts of Steps and Next of the program and of the reference. -/
import Derived.Test.YtngjdclcnocmfaaDoorClockC
import Derived.Deep.QuietTactic
import Derived.BigQuiet
namespace Go.Proofs.YtngjdclcnocmfaaDoor.Clock
open Go.ChangeShapes Go.WideShapes Go.RowKit
set_option linter.unusedVariables false
set_option maxRecDepth 100000

def stpOk (a b s : Int) : Bool := wit a b && decide (1 ≤ s) && decide (s ≤ 86400)
theorem stpOk_iff {a b s : Int} : stpOk a b s = true ↔ wit a b = true ∧ 1 ≤ s ∧ s ≤ 86400 := by simp [stpOk, and_assoc]
/-- How many multiples of s are in a to b. -/
def stpV (a b s : Int) : Int := if stpOk a b s = true then upV b s - upV a s else 0
def stpE (a b s : Int) : Int := if stpOk a b s = true then 0 else 1
theorem stpV_yes {a b s : Int} (h : stpOk a b s = true) : stpV a b s = upV b s - upV a s := if_pos h
theorem stpE_yes {a b s : Int} (h : stpOk a b s = true) : stpE a b s = 0 := if_pos h
theorem stpV_no {a b s : Int} (h : ¬ stpOk a b s = true) : stpV a b s = 0 := if_neg h
theorem stpE_no {a b s : Int} (h : ¬ stpOk a b s = true) : stpE a b s = 1 := if_neg h
theorem stp_cases (a b s : Int) : (wit a b = false ∧ ¬ stpOk a b s = true) ∨ (wit a b = true ∧ s < 1 ∧ ¬ stpOk a b s = true) ∨ (wit a b = true ∧ decide (s < 1) = false ∧ 86400 < s ∧ ¬ stpOk a b s = true) ∨ (wit a b = true ∧ 1 ≤ s ∧ s ≤ 86400 ∧ stpOk a b s = true) := by
  cases h : wit a b with
  | false => exact Or.inl ⟨rfl, fun k => by have := (stpOk_iff.mp k).1; rw [h] at this; cases this⟩
  | true =>
    rcases Int.lt_or_le s 1 with h1 | h1
    · exact Or.inr (Or.inl ⟨rfl, h1, fun k => by have := (stpOk_iff.mp k).2; omega⟩)
    · rcases Int.lt_or_le 86400 s with h2 | h2
      · exact Or.inr (Or.inr (Or.inl ⟨rfl, decide_eq_false (by omega), h2, fun k => by have := (stpOk_iff.mp k).2; omega⟩))
      · exact Or.inr (Or.inr (Or.inr ⟨rfl, h1, h2, stpOk_iff.mpr ⟨h, h1, h2⟩⟩))
theorem upV_bd {x s : Int} (hx : 0 ≤ x) (hx2 : x ≤ 2147483648) (hs : 1 ≤ s) (hs2 : s ≤ 86400) : 0 ≤ upV x s ∧ upV x s ≤ 2147570048 := by
  have h1 : 0 ≤ upV x s := Int.ediv_nonneg (by omega) (by omega)
  have h2 : upV x s ≤ x + s - 1 := Int.ediv_le_self _ (by omega)
  exact ⟨h1, by omega⟩
theorem below_alloc (w : World) (o : Obj) : Below w.heap.size w (w.alloc o) := (Below.refl _ _).alloc (Nat.le_refl _) _
theorem bstep {a b c : World} (h : Below a.heap.size a b) (k : Below b.heap.size b c) : Below a.heap.size a c := h.trans (k.mono h.size)
theorem below_drewN {B : Nat} {a w : World} (h : Below B a w) (n : Nat) : Below B a (w.drewN n) := ⟨h.os, h.tape, h.output, h.size, h.block⟩

theorem clock_Steps (a b s : Int) (w : World) :
    Calls Tryd.prog 20 #[.agg #[.int .i64 a, .int .i64 b], .int .i64 s] w fun e w' => e = .returned (.tuple #[.int .i64 (stpV a b s), .int .i64 (stpE a b s)]) ∧ Below w.heap.size w w' := by
  rcases stp_cases a b s with ⟨hw, ho⟩ | ⟨hw, h1, ho⟩ | ⟨hw, h1, h2, ho⟩ | ⟨hw, h1, h2, ho⟩
  · have HW := Lib.hid hw
    have HO := Lib.hid ho
    clear hw ho
    go_enter Tryd.func20, Tryd.ntmps20
    go_wp2_with fail
    refine (is_time a b _).mono ?_
    rintro e w1 ⟨rfl, hb⟩
    rw [HW.out]
    have HB := Lib.hid (bstep (below_alloc w _) hb)
    clear hb
    go_wp2_with fail
    go_ret2
    exact ⟨ret_two (stpV_no HO.out).symm (stpE_no HO.out).symm, HB.out⟩
  · have HW := Lib.hid hw
    have HO := Lib.hid ho
    clear hw ho
    go_enter Tryd.func20, Tryd.ntmps20
    go_wp2_with fail
    refine (is_time a b _).mono ?_
    rintro e w1 ⟨rfl, hb⟩
    rw [HW.out]
    have HB := Lib.hid (bstep (below_alloc w _) hb)
    clear hb
    go_wp2_with fail
    go_ret2
    exact ⟨ret_two (stpV_no HO.out).symm (stpE_no HO.out).symm, HB.out⟩
  · have HW := Lib.hid hw
    have HO := Lib.hid ho
    clear hw ho
    go_enter Tryd.func20, Tryd.ntmps20
    go_wp2_with fail
    refine (is_time a b _).mono ?_
    rintro e w1 ⟨rfl, hb⟩
    rw [HW.out]
    have HB := Lib.hid (bstep (below_alloc w _) hb)
    clear hb
    go_wp2_with fail
    go_ret2
    exact ⟨ret_two (stpV_no HO.out).symm (stpE_no HO.out).symm, HB.out⟩
  · have HW := Lib.hid hw
    have HO := Lib.hid ho
    obtain ⟨g1, g2, g3⟩ := wit_iff.mp hw
    have b1 := upV_bd (x := a) (s := s) g1 (by omega) h1 h2
    have b2 := upV_bd (x := b) (s := s) (by omega) g3 h1 h2
    obtain ⟨u, hu⟩ : ∃ u, u = upV a s := ⟨_, rfl⟩
    obtain ⟨v, hv⟩ : ∃ v, v = upV b s := ⟨_, rfl⟩
    have HU := Lib.hid hu
    have HV := Lib.hid hv
    rw [← hu] at b1
    rw [← hv] at b2
    clear hw ho hu hv
    go_enter Tryd.func20, Tryd.ntmps20
    go_wp2_with fail
    refine (is_time a b _).mono ?_
    rintro e w1 ⟨rfl, hb⟩
    rw [HW.out]
    have HB := Lib.hid (bstep (below_alloc w _) hb)
    have hc : w1.cell? ⟨w.heap.size, 0, none⟩ = some (.int .i64 a) := (hb.cell (p := ⟨w.heap.size, 0, none⟩) (by simp)).trans (by simp)
    have hc2 : w1.cell? ⟨w.heap.size, 1, none⟩ = some (.int .i64 b) := (hb.cell (p := ⟨w.heap.size, 1, none⟩) (by simp)).trans (by simp)
    have HC1 := Lib.hid (fun W : World => ((clock_below a s W g1 (by omega) h1 h2).mono fun _ _ k => ⟨k.1, k.2.symm⟩ : Calls Tryd.prog 36 #[.int .i64 a, .int .i64 s] W fun e w' => e = .returned (.int .i64 (upV a s)) ∧ w' = W))
    have HC2 := Lib.hid (fun W : World => ((clock_below b s W (by omega) g3 h1 h2).mono fun _ _ k => ⟨k.1, k.2.symm⟩ : Calls Tryd.prog 36 #[.int .i64 b, .int .i64 s] W fun e w' => e = .returned (.int .i64 (upV b s)) ∧ w' = W))
    rw [← HU.out] at HC1
    rw [← HV.out] at HC2
    have wr1 : IntKind.i64.wrap (v - u) = v - u := wrap_id (by omega) (by omega)
    clear hb
    go_wp2_with fail
    go_quiet ((go_at_call 36; first | (with_reducible exact Calls.quiet_of_same (HC1.out _)) | (with_reducible exact Calls.quiet_of_same (HC2.out _))))
    go_wp2_with fail
    go_ret2
    exact ⟨ret_two (by rw [stpV_yes HO.out, HU.out, HV.out]) (stpE_yes HO.out).symm, below_drewN HB.out _⟩
theorem ref_Steps (a b s : Int) (w : World) :
    Calls Tryd.prog 21 #[.agg #[.int .i64 a, .int .i64 b], .int .i64 s] w fun e w' => e = .returned (.tuple #[.int .i64 (stpV a b s), .int .i64 (stpE a b s)]) ∧ Below w.heap.size w w' := by
  rcases stp_cases a b s with ⟨hw, ho⟩ | ⟨hw, h1, ho⟩ | ⟨hw, h1, h2, ho⟩ | ⟨hw, h1, h2, ho⟩
  · have HW := Lib.hid hw
    have HO := Lib.hid ho
    clear hw ho
    go_enter Tryd.func21, Tryd.ntmps21
    go_wp2_with fail
    refine (ref_within a b _).mono ?_
    rintro e w1 ⟨rfl, hb⟩
    rw [HW.out]
    have HB := Lib.hid (bstep (below_alloc w _) hb)
    clear hb
    go_wp2_with fail
    go_ret2
    exact ⟨ret_two (stpV_no HO.out).symm (stpE_no HO.out).symm, HB.out⟩
  · have HW := Lib.hid hw
    have HO := Lib.hid ho
    clear hw ho
    go_enter Tryd.func21, Tryd.ntmps21
    go_wp2_with fail
    refine (ref_within a b _).mono ?_
    rintro e w1 ⟨rfl, hb⟩
    rw [HW.out]
    have HB := Lib.hid (bstep (below_alloc w _) hb)
    clear hb
    go_wp2_with fail
    go_ret2
    exact ⟨ret_two (stpV_no HO.out).symm (stpE_no HO.out).symm, HB.out⟩
  · have HW := Lib.hid hw
    have HO := Lib.hid ho
    clear hw ho
    go_enter Tryd.func21, Tryd.ntmps21
    go_wp2_with fail
    refine (ref_within a b _).mono ?_
    rintro e w1 ⟨rfl, hb⟩
    rw [HW.out]
    have HB := Lib.hid (bstep (below_alloc w _) hb)
    clear hb
    go_wp2_with fail
    go_ret2
    exact ⟨ret_two (stpV_no HO.out).symm (stpE_no HO.out).symm, HB.out⟩
  · have HW := Lib.hid hw
    have HO := Lib.hid ho
    obtain ⟨g1, g2, g3⟩ := wit_iff.mp hw
    have b1 := upV_bd (x := a) (s := s) g1 (by omega) h1 h2
    have b2 := upV_bd (x := b) (s := s) (by omega) g3 h1 h2
    obtain ⟨u, hu⟩ : ∃ u, u = upV a s := ⟨_, rfl⟩
    obtain ⟨v, hv⟩ : ∃ v, v = upV b s := ⟨_, rfl⟩
    have HU := Lib.hid hu
    have HV := Lib.hid hv
    rw [← hu] at b1
    rw [← hv] at b2
    clear hw ho hu hv
    go_enter Tryd.func21, Tryd.ntmps21
    go_wp2_with fail
    refine (ref_within a b _).mono ?_
    rintro e w1 ⟨rfl, hb⟩
    rw [HW.out]
    have HB := Lib.hid (bstep (below_alloc w _) hb)
    have hc : w1.cell? ⟨w.heap.size, 0, none⟩ = some (.int .i64 a) := (hb.cell (p := ⟨w.heap.size, 0, none⟩) (by simp)).trans (by simp)
    have hc2 : w1.cell? ⟨w.heap.size, 1, none⟩ = some (.int .i64 b) := (hb.cell (p := ⟨w.heap.size, 1, none⟩) (by simp)).trans (by simp)
    have HC1 := Lib.hid (fun W : World => ((ref_up a s W g1 (by omega) h1 h2).mono fun _ _ k => ⟨k.1, k.2.symm⟩ : Calls Tryd.prog 38 #[.int .i64 a, .int .i64 s] W fun e w' => e = .returned (.int .i64 (upV a s)) ∧ w' = W))
    have HC2 := Lib.hid (fun W : World => ((ref_up b s W (by omega) g3 h1 h2).mono fun _ _ k => ⟨k.1, k.2.symm⟩ : Calls Tryd.prog 38 #[.int .i64 b, .int .i64 s] W fun e w' => e = .returned (.int .i64 (upV b s)) ∧ w' = W))
    rw [← HU.out] at HC1
    rw [← HV.out] at HC2
    have wr1 : IntKind.i64.wrap (v - u) = v - u := wrap_id (by omega) (by omega)
    clear hb
    go_wp2_with fail
    go_quiet ((go_at_call 38; first | (with_reducible exact Calls.quiet_of_same (HC1.out _)) | (with_reducible exact Calls.quiet_of_same (HC2.out _))))
    go_wp2_with fail
    go_ret2
    exact ⟨ret_two (by rw [stpV_yes HO.out, HU.out, HV.out]) (stpE_yes HO.out).symm, below_drewN HB.out _⟩

/-- The next moment at which shift k begins. -/
def nx (t k : Int) : Int := if t - t % 86400 + k * 28800 < t then t - t % 86400 + k * 28800 + 86400 else t - t % 86400 + k * 28800
def nxtV (t k : Int) : Int := if mom t = true then (if 0 ≤ k ∧ k ≤ 2 then (if nx t k ≤ 2147483647 then nx t k else 0) else 0) else 0
def nxtE (t k : Int) : Int := if mom t = true then (if 0 ≤ k ∧ k ≤ 2 then (if nx t k ≤ 2147483647 then 0 else 7) else 17) else 1
theorem nxt_range {t k : Int} (h : mom t = false) : nxtV t k = 0 ∧ nxtE t k = 1 := ⟨if_neg (by rw [h]; decide), if_neg (by rw [h]; decide)⟩
theorem nxt_kind {t k : Int} (h : mom t = true) (hk : ¬ (0 ≤ k ∧ k ≤ 2)) : nxtV t k = 0 ∧ nxtE t k = 17 := ⟨by rw [nxtV, if_pos h, if_neg hk], by rw [nxtE, if_pos h, if_neg hk]⟩
theorem nxt_none {t k : Int} (h : mom t = true) (hk : 0 ≤ k ∧ k ≤ 2) (hn : ¬ nx t k ≤ 2147483647) : nxtV t k = 0 ∧ nxtE t k = 7 := ⟨by rw [nxtV, if_pos h, if_pos hk, if_neg hn], by rw [nxtE, if_pos h, if_pos hk, if_neg hn]⟩
theorem nxt_ok {t k : Int} (h : mom t = true) (hk : 0 ≤ k ∧ k ≤ 2) (hn : nx t k ≤ 2147483647) : nxtV t k = nx t k ∧ nxtE t k = 0 := ⟨by rw [nxtV, if_pos h, if_pos hk, if_pos hn], by rw [nxtE, if_pos h, if_pos hk, if_pos hn]⟩
/-- The ways through Next. -/
theorem nxt_cases (t k : Int) :
    (mom t = false ∧ nxtV t k = 0 ∧ nxtE t k = 1) ∨
    (mom t = true ∧ k < 0 ∧ nxtV t k = 0 ∧ nxtE t k = 17) ∨
    (mom t = true ∧ decide (k < 0) = false ∧ 2 < k ∧ nxtV t k = 0 ∧ nxtE t k = 17) ∨
    (mom t = true ∧ 0 ≤ k ∧ k ≤ 2 ∧ ∃ q d : Int, 0 ≤ q ∧ q ≤ 24855 ∧ 0 ≤ d ∧ d < 86400 ∧ t = q * 86400 + d ∧ t / 86400 = q ∧ t % 86400 = d ∧
      ((k * 28800 < d ∧ 2147483647 < q * 86400 + k * 28800 + 86400 ∧ nxtV t k = 0 ∧ nxtE t k = 7) ∨
       (k * 28800 < d ∧ q * 86400 + k * 28800 + 86400 ≤ 2147483647 ∧ nxtV t k = q * 86400 + k * 28800 + 86400 ∧ nxtE t k = 0) ∨
       (d ≤ k * 28800 ∧ 2147483647 < q * 86400 + k * 28800 ∧ nxtV t k = 0 ∧ nxtE t k = 7) ∨
       (d ≤ k * 28800 ∧ q * 86400 + k * 28800 ≤ 2147483647 ∧ nxtV t k = q * 86400 + k * 28800 ∧ nxtE t k = 0))) := by
  cases h : mom t with
  | false => exact Or.inl ⟨rfl, nxt_range h⟩
  | true =>
    obtain ⟨m1, m2⟩ := mom_iff.mp h
    rcases Int.lt_or_le k 0 with h1 | h1
    · exact Or.inr (Or.inl ⟨rfl, h1, nxt_kind h (by omega)⟩)
    · rcases Int.lt_or_le 2 k with h2 | h2
      · exact Or.inr (Or.inr (Or.inl ⟨rfl, decide_eq_false (by omega), h2, nxt_kind h (by omega)⟩))
      · refine Or.inr (Or.inr (Or.inr ⟨rfl, h1, h2, t / 86400, t % 86400, by omega, by omega, by omega, by omega, by omega, rfl, rfl, ?_⟩))
        rcases Int.lt_or_le (k * 28800) (t % 86400) with h3 | h3
        · have e : nx t k = t / 86400 * 86400 + k * 28800 + 86400 := by unfold nx; rw [if_pos (by omega)]; omega
          rcases Int.lt_or_le 2147483647 (t / 86400 * 86400 + k * 28800 + 86400) with h4 | h4
          · exact Or.inl ⟨h3, h4, nxt_none h ⟨h1, h2⟩ (by omega)⟩
          · have := nxt_ok h ⟨h1, h2⟩ (by rw [e]; exact h4)
            rw [e] at this
            exact Or.inr (Or.inl ⟨h3, h4, this⟩)
        · have e : nx t k = t / 86400 * 86400 + k * 28800 := by unfold nx; rw [if_neg (by omega)]; omega
          rcases Int.lt_or_le 2147483647 (t / 86400 * 86400 + k * 28800) with h4 | h4
          · exact Or.inr (Or.inr (Or.inl ⟨h3, h4, nxt_none h ⟨h1, h2⟩ (by omega)⟩))
          · have := nxt_ok h ⟨h1, h2⟩ (by rw [e]; exact h4)
            rw [e] at this
            exact Or.inr (Or.inr (Or.inr ⟨h3, h4, this⟩))
#print axioms clock_Steps
#print axioms ref_Steps
#print axioms nxt_cases
end Go.Proofs.YtngjdclcnocmfaaDoor.Clock
