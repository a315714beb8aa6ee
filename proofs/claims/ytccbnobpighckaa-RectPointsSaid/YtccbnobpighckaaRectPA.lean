/- Contracts of the program: Check, reduced, isEmpty, Area, Common, Within, checkList. -/
import Derived.Test.YtccbnobpighckaaRectF
namespace Go.Proofs.Ytccbnobpighckaa.Rect
open Go.ChangeShapes Go.WideShapes Go.RowKit Go.Lib Go.Proofs.Ytccbnobpighckaa.Rw
set_option linter.unusedVariables false
set_option maxRecDepth 100000

/-- A rectangle, or the zero value where it has no points. -/
def redR (r : Rc) : Rc := if ptB r then r else (0, 0, 0, 0)
theorem red_com (a b : Rc) : redR (comR a b) = comV a b := rfl
theorem red_yes {r : Rc} (h : ptB r = true) : redR r = r := if_pos h
theorem red_no {r : Rc} (h : ptB r = false) : redR r = (0, 0, 0, 0) := if_neg (by rw [h]; decide)
theorem red_zero (r : Rc) : decide (redR r = (0, 0, 0, 0)) = !ptB r := by
  cases h : ptB r with
  | false => rw [red_no h]; rfl
  | true =>
    rw [red_yes h]
    have := ptB_iff.mp h
    refine decide_eq_false fun e => ?_
    rw [e] at this
    simp only at this
    omega
theorem com_zero (a b : Rc) : (!decide (comV a b = (0, 0, 0, 0))) = comB a b := by rw [← red_com, red_zero, Bool.not_not]; rfl
theorem com_red (a b : Rc) : decide (comV a b = redR a) = wiB a b := by
  cases h : ptB a with
  | false =>
    have h1 : comB a b = false := by
      cases hc : comB a b with
      | false => rfl
      | true => rw [(com_pts hc).1] at h; cases h
    have h2 : comV a b = (0, 0, 0, 0) := if_neg (by rw [h1]; decide)
    rw [h2, red_no h]
    unfold wiB
    rw [h]; rfl
  | true =>
    rw [red_yes h, Bool.eq_iff_iff, decide_eq_true_iff]
    have hp := ptB_iff.mp h
    unfold wiB
    rw [h, Bool.not_true, Bool.false_or]
    simp only [Bool.and_eq_true, decide_eq_true_iff]
    constructor
    · intro e
      by_cases hc : comB a b = true
      · have e2 : comR a b = a := by
          have e3 := e
          unfold comV at e3
          rw [if_pos hc] at e3
          exact e3
        unfold comR at e2
        have e3 := congrArg (fun z : Rc => z.1) e2
        have e4 := congrArg (fun z : Rc => z.2.1) e2
        have e5 := congrArg (fun z : Rc => z.2.2.1) e2
        have e6 := congrArg (fun z : Rc => z.2.2.2) e2
        simp only at e3 e4 e5 e6
        omega
      · have e2 : comV a b = (0, 0, 0, 0) := if_neg hc
        rw [e2] at e
        rw [← e] at hp
        simp only at hp
        omega
    · intro e
      have e2 : comR a b = a := by
        obtain ⟨a1, a2, a3, a4⟩ := a
        obtain ⟨b1, b2, b3, b4⟩ := b
        unfold comR
        simp only at e ⊢
        rw [Int.max_eq_left (by omega), Int.min_eq_left (by omega), Int.max_eq_left (by omega), Int.min_eq_left (by omega)]
      have hc : comB a b = true := by unfold comB; rw [e2]; exact h
      unfold comV
      rw [if_pos hc, e2]
theorem res_rect1 {fn : Func} {p : Tmp} (h : fn.results = #[.cell p 23]) {tmps : Array Value} {w : World} {g : Nat} {r : Rc} (hp : tmps.getD p undef = .pointer (some ⟨g, 0, none⟩))
    (hc : Cel w g (cQ r)) : (results fn tmps).run Try.prog w = .ok (agQ r) w := by
  have hp' : tmps[p]?.getD undef = .pointer (some ⟨g, 0, none⟩) := by simpa using hp
  obtain ⟨h0, h1, h2, h3⟩ := cel4 hc
  simp [results, h, hp', go_sem, h0, h1, h2, h3]

set_option maxHeartbeats 800000 in
theorem rect_Check (r : Rc) (w : World) :
    Calls Try.prog 15 #[agQ r] w fun e w' => e = .returned (.int .i64 (ckE r)) ∧ Below w.heap.size w w' := by
  obtain ⟨E, hE⟩ : ∃ E, ckE r = E := ⟨_, rfl⟩
  rw [hE]
  rcases Int.lt_or_le (r.1) (0) with h0 | h0
  · have d0 : decide (r.1 < 0) = true := decide_eq_true h0
    obtain rfl : E = 1 := by rw [← hE]; exact ckE_no (by omega)
    clear hE h0
    go_enter Try.func15, Try.ntmps15
    go_wp2_with fail
    go_ret
    exact ⟨rfl, below_alloc _ _⟩
  have d0 : decide (r.1 < 0) = false := decide_eq_false (by omega)
  rcases Int.lt_or_le (r.2.1) (r.1) with h1 | h1
  · have d1 : decide (r.2.1 < r.1) = true := decide_eq_true h1
    obtain rfl : E = 1 := by rw [← hE]; exact ckE_no (by omega)
    clear hE h0 h1
    go_enter Try.func15, Try.ntmps15
    go_wp2_with fail
    go_ret
    exact ⟨rfl, below_alloc _ _⟩
  have d1 : decide (r.2.1 < r.1) = false := decide_eq_false (by omega)
  rcases Int.lt_or_le (12000) (r.2.1) with h2 | h2
  · have d2 : decide (12000 < r.2.1) = true := decide_eq_true h2
    obtain rfl : E = 1 := by rw [← hE]; exact ckE_no (by omega)
    clear hE h0 h1 h2
    go_enter Try.func15, Try.ntmps15
    go_wp2_with fail
    go_ret
    exact ⟨rfl, below_alloc _ _⟩
  have d2 : decide (12000 < r.2.1) = false := decide_eq_false (by omega)
  rcases Int.lt_or_le (r.2.2.1) (0) with h3 | h3
  · have d3 : decide (r.2.2.1 < 0) = true := decide_eq_true h3
    obtain rfl : E = 1 := by rw [← hE]; exact ckE_no (by omega)
    clear hE h0 h1 h2 h3
    go_enter Try.func15, Try.ntmps15
    go_wp2_with fail
    go_ret
    exact ⟨rfl, below_alloc _ _⟩
  have d3 : decide (r.2.2.1 < 0) = false := decide_eq_false (by omega)
  rcases Int.lt_or_le (r.2.2.2) (r.2.2.1) with h4 | h4
  · have d4 : decide (r.2.2.2 < r.2.2.1) = true := decide_eq_true h4
    obtain rfl : E = 1 := by rw [← hE]; exact ckE_no (by omega)
    clear hE h0 h1 h2 h3 h4
    go_enter Try.func15, Try.ntmps15
    go_wp2_with fail
    go_ret
    exact ⟨rfl, below_alloc _ _⟩
  have d4 : decide (r.2.2.2 < r.2.2.1) = false := decide_eq_false (by omega)
  rcases Int.lt_or_le (17179869184) (r.2.2.2) with h5 | h5
  · have d5 : decide (17179869184 < r.2.2.2) = true := decide_eq_true h5
    obtain rfl : E = 1 := by rw [← hE]; exact ckE_no (by omega)
    clear hE h0 h1 h2 h3 h4 h5
    go_enter Try.func15, Try.ntmps15
    go_wp2_with fail
    go_ret
    exact ⟨rfl, below_alloc _ _⟩
  have d5 : decide (17179869184 < r.2.2.2) = false := decide_eq_false (by omega)
  obtain rfl : E = 0 := by rw [← hE]; exact ckE_yes (by omega)
  clear hE h0 h1 h2 h3 h4 h5
  go_enter Try.func15, Try.ntmps15
  go_wp2_with fail
  go_ret
  exact ⟨rfl, below_alloc _ _⟩

set_option maxHeartbeats 800000 in
theorem rect_reduced (r : Rc) (w : World) :
    Calls Try.prog 36 #[agQ r] w fun e w' => e = .returned (agQ (redR r)) ∧ Below w.heap.size w w' := by
  obtain ⟨V, hV⟩ : ∃ V, redR r = V := ⟨_, rfl⟩
  rw [hV]
  rcases Int.lt_or_le r.1 r.2.1 with h0 | h0
  · have d0 : decide (r.1 < r.2.1) = true := decide_eq_true h0
    rcases Int.lt_or_le r.2.2.1 r.2.2.2 with h1 | h1
    · have d1 : decide (r.2.2.1 < r.2.2.2) = true := decide_eq_true h1
      obtain rfl : V = r := by rw [← hV]; exact red_yes (ptB_iff.mpr ⟨h0, h1⟩)
      clear h0 h1 hV
      go_enter Try.func36, Try.ntmps36
      go_upto_region 1 with fail
      obtain ⟨w0, hw0⟩ : ∃ W, (w.alloc (.cells #[.int .i64 V.1, .int .i64 V.2.1, .int .i64 V.2.2.1, .int .i64 V.2.2.2] 23)).alloc (.cells #[.int .i64 0, .int .i64 0, .int .i64 0, .int .i64 0] 23) = W := ⟨_, rfl⟩
      have C0 : Hid (Cel w0 w.heap.size (cQ V)) := hw0 ▸ (Cel.new w (cQ V) _).alloc _
      have R0 : Hid (Cel w0 (w.heap.size + 1) (cQ (0, 0, 0, 0))) := hw0 ▸ Cel.new_at _ (cQ (0, 0, 0, 0)) _ (by simp)
      have B0 : Hid (Below w.heap.size w w0) := hw0 ▸ bstep (below_alloc _ _) (below_alloc _ _)
      rw [hw0]
      clear hw0
      obtain ⟨x0, x1, x2, x3⟩ := cel4 C0.out
      obtain ⟨y0, y1, y2, y3⟩ := cel4 R0.out
      obtain ⟨v0, v1, v2, v3⟩ := warm4 R0.out
      go_wp2_with fail
      exact bodyPost_ret (res_rect1 (r := V) Try.results36 rfl (cel_put4 R0.out _ _ _ _)) rfl ⟨rfl, below_put4 B0.out (by omega) _ _ _ _⟩
    · have d1 : decide (r.2.2.1 < r.2.2.2) = false := decide_eq_false (by omega)
      obtain rfl : V = (0, 0, 0, 0) := by
        rw [← hV]
        refine red_no ?_
        unfold ptB
        rw [d0, d1]; rfl
      clear h0 h1 hV
      go_enter Try.func36, Try.ntmps36
      go_upto_region 1 with fail
      obtain ⟨w0, hw0⟩ : ∃ W, (w.alloc (.cells #[.int .i64 r.1, .int .i64 r.2.1, .int .i64 r.2.2.1, .int .i64 r.2.2.2] 23)).alloc (.cells #[.int .i64 0, .int .i64 0, .int .i64 0, .int .i64 0] 23) = W := ⟨_, rfl⟩
      have C0 : Hid (Cel w0 w.heap.size (cQ r)) := hw0 ▸ (Cel.new w (cQ r) _).alloc _
      have R0 : Hid (Cel w0 (w.heap.size + 1) (cQ (0, 0, 0, 0))) := hw0 ▸ Cel.new_at _ (cQ (0, 0, 0, 0)) _ (by simp)
      have B0 : Hid (Below w.heap.size w w0) := hw0 ▸ bstep (below_alloc _ _) (below_alloc _ _)
      rw [hw0]
      clear hw0
      obtain ⟨x0, x1, x2, x3⟩ := cel4 C0.out
      obtain ⟨y0, y1, y2, y3⟩ := cel4 R0.out
      obtain ⟨v0, v1, v2, v3⟩ := warm4 R0.out
      go_wp2_with fail
      exact bodyPost_ret (res_rect1 Try.results36 rfl (cel_put4 R0.out _ _ _ _)) rfl ⟨rfl, below_put4 B0.out (by omega) _ _ _ _⟩
  · have d0 : decide (r.1 < r.2.1) = false := decide_eq_false (by omega)
    obtain rfl : V = (0, 0, 0, 0) := by
      rw [← hV]
      refine red_no ?_
      unfold ptB
      rw [d0]; rfl
    clear h0 hV
    go_enter Try.func36, Try.ntmps36
    go_upto_region 1 with fail
    obtain ⟨w0, hw0⟩ : ∃ W, (w.alloc (.cells #[.int .i64 r.1, .int .i64 r.2.1, .int .i64 r.2.2.1, .int .i64 r.2.2.2] 23)).alloc (.cells #[.int .i64 0, .int .i64 0, .int .i64 0, .int .i64 0] 23) = W := ⟨_, rfl⟩
    have C0 : Hid (Cel w0 w.heap.size (cQ r)) := hw0 ▸ (Cel.new w (cQ r) _).alloc _
    have R0 : Hid (Cel w0 (w.heap.size + 1) (cQ (0, 0, 0, 0))) := hw0 ▸ Cel.new_at _ (cQ (0, 0, 0, 0)) _ (by simp)
    have B0 : Hid (Below w.heap.size w w0) := hw0 ▸ bstep (below_alloc _ _) (below_alloc _ _)
    rw [hw0]
    clear hw0
    obtain ⟨x0, x1, x2, x3⟩ := cel4 C0.out
    obtain ⟨y0, y1, y2, y3⟩ := cel4 R0.out
    obtain ⟨v0, v1, v2, v3⟩ := warm4 R0.out
    go_wp2_with fail
    exact bodyPost_ret (res_rect1 Try.results36 rfl (cel_put4 R0.out _ _ _ _)) rfl ⟨rfl, below_put4 B0.out (by omega) _ _ _ _⟩

set_option maxHeartbeats 800000 in
theorem rect_isEmpty (r : Rc) (w : World) :
    Calls Try.prog 51 #[agQ r] w fun e w' => e = .returned (.bool (!ptB r)) ∧ Below w.heap.size w w' := by
  have HR := Lib.hid fun W => rect_reduced r W
  obtain ⟨V, hV⟩ : ∃ V, redR r = V := ⟨_, rfl⟩
  obtain ⟨p, hp⟩ : ∃ p, (!ptB r) = p := ⟨_, rfl⟩
  have hq : ∀ W, (binOp .eql 23 (agQ V) (agQ (0, 0, 0, 0))).run Try.prog W = .ok (.bool p) W := fun W => by
    rw [eq_run .eql (Or.inl rfl), ← hV, ← hp, ← red_zero]; rfl
  rw [hV] at HR
  rw [hp]
  clear hV hp
  go_enter Try.func51, Try.ntmps51
  go_upto_region 1 with fail
  obtain ⟨w0, hw0⟩ : ∃ W, w.alloc (.cells #[.int .i64 r.1, .int .i64 r.2.1, .int .i64 r.2.2.1, .int .i64 r.2.2.2] 23) = W := ⟨_, rfl⟩
  have C0 : Hid (Cel w0 w.heap.size (cQ r)) := hw0 ▸ Cel.new w (cQ r) _
  have B0 : Hid (Below w.heap.size w w0) := hw0 ▸ below_alloc _ _
  rw [hw0]
  clear hw0
  obtain ⟨x0, x1, x2, x3⟩ := cel4 C0.out
  go_wp2_with fail
  refine (HR.out w0).mono ?_
  rintro e w1 ⟨rfl, hb⟩
  have B1 := Lib.hid (bstep B0.out hb)
  clear hb x0 x1 x2 x3
  go_wp2_with fail
  go_ret
  exact ⟨rfl, B1.out⟩

set_option maxHeartbeats 800000 in
theorem rect_Area (r : Rc) (w : World) :
    Calls Try.prog 11 #[agQ r] w fun e w' => e = .returned (.tuple #[.int .i64 (arV r), .int .i64 (ckE r)]) ∧ Below w.heap.size w w' := by
  have HCk := Lib.hid fun W => rect_Check r W
  obtain ⟨E, hE⟩ : ∃ E, ckE r = E := ⟨_, rfl⟩
  obtain ⟨V, hV⟩ : ∃ V, arV r = V := ⟨_, rfl⟩
  rw [hE] at HCk
  rw [hE, hV]
  by_cases hz : E = 0
  · subst hz
    have hk := ckB_iff.mp (ckE_iff.mp hE)
    have hl := siz_lim (ckE_iff.mp hE)
    have hs : siz r = V := by rw [← hV]; unfold arV; rw [if_pos hE]
    unfold siz at hs hl
    rw [hs] at hl
    obtain ⟨X, hX⟩ : ∃ X, r.2.1 - r.1 = X := ⟨_, rfl⟩
    obtain ⟨Y, hY⟩ : ∃ Y, r.2.2.2 - r.2.2.1 = Y := ⟨_, rfl⟩
    rw [hX, hY] at hs
    have wX : IntKind.i64.wrap X = X := wrap_id (by omega)
    have wY : IntKind.i64.wrap Y = Y := wrap_id (by omega)
    have wV : IntKind.i64.wrap V = V := wrap_id (by omega)
    clear hk hl hE hV
    go_enter Try.func11, Try.ntmps11
    go_upto_region 1 with fail
    obtain ⟨w0, hw0⟩ : ∃ W, w.alloc (.cells #[.int .i64 r.1, .int .i64 r.2.1, .int .i64 r.2.2.1, .int .i64 r.2.2.2] 23) = W := ⟨_, rfl⟩
    have C0 : Hid (Cel w0 w.heap.size (cQ r)) := hw0 ▸ Cel.new w (cQ r) _
    have B0 : Hid (Below w.heap.size w w0) := hw0 ▸ below_alloc _ _
    rw [hw0]
    clear hw0
    obtain ⟨x0, x1, x2, x3⟩ := cel4 C0.out
    go_wp2_with fail
    refine (HCk.out w0).mono ?_
    rintro e w1 ⟨rfl, hb⟩
    have B1 := Lib.hid (bstep B0.out hb)
    have C1 := Lib.hid (C0.out.on hb)
    clear hb x0 x1 x2 x3
    obtain ⟨x0, x1, x2, x3⟩ := cel4 C1.out
    go_wp2_with fail
    go_ret2
    exact ⟨rfl, B1.out⟩
  · obtain ⟨z1, z2⟩ := ne_tests hz
    obtain rfl : V = 0 := by rw [← hV]; unfold arV; rw [if_neg (by rw [hE]; exact hz)]
    clear hz hV hE
    go_enter Try.func11, Try.ntmps11
    go_upto_region 1 with fail
    obtain ⟨w0, hw0⟩ : ∃ W, w.alloc (.cells #[.int .i64 r.1, .int .i64 r.2.1, .int .i64 r.2.2.1, .int .i64 r.2.2.2] 23) = W := ⟨_, rfl⟩
    have C0 : Hid (Cel w0 w.heap.size (cQ r)) := hw0 ▸ Cel.new w (cQ r) _
    have B0 : Hid (Below w.heap.size w w0) := hw0 ▸ below_alloc _ _
    rw [hw0]
    clear hw0
    obtain ⟨x0, x1, x2, x3⟩ := cel4 C0.out
    go_wp2_with fail
    refine (HCk.out w0).mono ?_
    rintro e w1 ⟨rfl, hb⟩
    have B1 := Lib.hid (bstep B0.out hb)
    clear hb
    go_wp2_with fail
    go_ret2
    exact ⟨rfl, B1.out⟩

set_option maxHeartbeats 3200000 in
theorem rect_Common (a b : Rc) (w : World) : Calls Try.prog 13 #[agQ a, agQ b] w (ComP a b w) := by
  obtain ⟨c, hc⟩ : ∃ c, comR a b = c := ⟨_, rfl⟩
  obtain ⟨V, hV⟩ : ∃ V, comV a b = V := ⟨_, rfl⟩
  obtain ⟨D, hD⟩ : ∃ D, comB a b = D := ⟨_, rfl⟩
  have hr : redR c = V := by rw [← hc]; exact hV
  have hq : ∀ W, (binOp .neq 23 (agQ V) (agQ (0, 0, 0, 0))).run Try.prog W = .ok (.bool D) W := fun W => by
    rw [eq_run .neq (Or.inr rfl), ← hV, ← hD, ← com_zero]; rfl
  unfold ComP
  rw [hV, hD]
  have m0 : (if a.1 < b.1 then b.1 else a.1) = c.1 := by rw [max_if, ← hc]; rfl
  have m1 : (if b.2.1 < a.2.1 then b.2.1 else a.2.1) = c.2.1 := by rw [min_if, ← hc]; rfl
  have m2 : (if a.2.2.1 < b.2.2.1 then b.2.2.1 else a.2.2.1) = c.2.2.1 := by rw [max_if, ← hc]; rfl
  have m3 : (if b.2.2.2 < a.2.2.2 then b.2.2.2 else a.2.2.2) = c.2.2.2 := by rw [min_if, ← hc]; rfl
  have n0 : max a.1 b.1 = c.1 := by rw [← hc]; rfl
  have n1 : min a.2.1 b.2.1 = c.2.1 := by rw [← hc]; rfl
  have n2 : max a.2.2.1 b.2.2.1 = c.2.2.1 := by rw [← hc]; rfl
  have n3 : min a.2.2.2 b.2.2.2 = c.2.2.2 := by rw [← hc]; rfl
  have HR := Lib.hid fun W => rect_reduced c W
  rw [hr] at HR
  clear hc hV hD hr
  go_enter Try.func13, Try.ntmps13
  go_upto_region 1 with fail
  obtain ⟨w0, hw0⟩ : ∃ W, ((w.alloc (.cells #[.int .i64 a.1, .int .i64 a.2.1, .int .i64 a.2.2.1, .int .i64 a.2.2.2] 23)).alloc (.cells #[.int .i64 b.1, .int .i64 b.2.1, .int .i64 b.2.2.1, .int .i64 b.2.2.2] 23)).alloc (.cells #[.int .i64 0, .int .i64 0, .int .i64 0, .int .i64 0] 23) = W := ⟨_, rfl⟩
  have C0 : Hid (Cel w0 w.heap.size (cQ a)) := hw0 ▸ ((Cel.new w (cQ a) _).alloc _).alloc _
  have D0 : Hid (Cel w0 (w.heap.size + 1) (cQ b)) := hw0 ▸ (Cel.new_at _ (cQ b) _ (by simp)).alloc _
  have R0 : Hid (Cel w0 (w.heap.size + 1 + 1) (cQ (0, 0, 0, 0))) := hw0 ▸ Cel.new_at _ (cQ (0, 0, 0, 0)) _ (by simp)
  have B0 : Hid (Below w.heap.size w w0) := hw0 ▸ bstep (bstep (below_alloc _ _) (below_alloc _ _)) (below_alloc _ _)
  rw [hw0]
  clear hw0
  obtain ⟨x0, x1, x2, x3⟩ := cel4 C0.out
  obtain ⟨y0, y1, y2, y3⟩ := cel4 D0.out
  go_wp2_with fail
  refine (HR.out w0).mono ?_
  rintro e w1 ⟨rfl, hb1⟩
  have B1 := Lib.hid (bstep B0.out hb1)
  have R1 := Lib.hid (R0.out.on hb1)
  clear hb1 C0 D0 R0 x0 x1 x2 x3 y0 y1 y2 y3 m0 m1 m2 m3 n0 n1 n2 n3
  go_upto_region 2 with fail
  obtain ⟨w2, hw2⟩ : ∃ W, w1.alloc (.cells #[.int .i64 V.1, .int .i64 V.2.1, .int .i64 V.2.2.1, .int .i64 V.2.2.2] 23) = W := ⟨_, rfl⟩
  have E2 : Hid (Cel w2 w1.heap.size (cQ V)) := hw2 ▸ Cel.new w1 (cQ V) _
  have R2 : Hid (Cel w2 (w.heap.size + 1 + 1) (cQ (0, 0, 0, 0))) := hw2 ▸ R1.out.alloc _
  have B2 : Hid (Below w.heap.size w w2) := hw2 ▸ bstep B1.out (below_alloc _ _)
  rw [hw2]
  clear hw2
  have hg : w.heap.size + 1 + 1 < w1.heap.size := R1.out.lt
  obtain ⟨g, hgg⟩ : ∃ g, w1.heap.size = g := ⟨_, rfl⟩
  obtain ⟨h, hh⟩ : ∃ h, w.heap.size + 1 + 1 = h := ⟨_, rfl⟩
  rw [hgg] at E2 hg ⊢
  rw [hh] at R2 hg ⊢
  have hgh : ¬ g = h := by omega
  have hhg : ¬ h = g := by omega
  have HH : Hid (w.heap.size ≤ h) := Lib.hid (by omega)
  clear hgg hh hg R1 B1
  obtain ⟨x0, x1, x2, x3⟩ := cel4 E2.out
  obtain ⟨y0, y1, y2, y3⟩ := cel4 R2.out
  obtain ⟨v0, v1, v2, v3⟩ := warm4 R2.out
  go_region
  obtain ⟨w3, hw3⟩ : ∃ W, ((((w2.setCell ⟨h, 0, none⟩ (.int .i64 V.1)).setCell ⟨h, 1, none⟩ (.int .i64 V.2.1)).setCell ⟨h, 2, none⟩ (.int .i64 V.2.2.1)).setCell ⟨h, 3, none⟩ (.int .i64 V.2.2.2)).drew = W := ⟨_, rfl⟩
  have R3 : Hid (Cel w3 h (cQ V)) := hw3 ▸ (cel_put4 R2.out _ _ _ _).drew
  have B3 : Hid (Below w.heap.size w w3) := hw3 ▸ below_drew (below_put4 B2.out HH.out _ _ _ _)
  rw [hw3]
  clear hw3
  go_wp2_with fail
  exact bodyPost_ret (res_rect2 (r := V) Try.results13 rfl R3.out) rfl ⟨rfl, B3.out⟩

set_option maxHeartbeats 3200000 in
theorem rect_Within (a b : Rc) (w : World) :
    Calls Try.prog 17 #[agQ a, agQ b] w fun e w' => e = .returned (.bool (wiB a b)) ∧ Below w.heap.size w w' := by
  have HC := Lib.hid fun W => rect_Common a b W
  have HR := Lib.hid fun W => rect_reduced a W
  obtain ⟨V, hV⟩ : ∃ V, comV a b = V := ⟨_, rfl⟩
  obtain ⟨D, hD⟩ : ∃ D, comB a b = D := ⟨_, rfl⟩
  obtain ⟨U, hU⟩ : ∃ U, redR a = U := ⟨_, rfl⟩
  obtain ⟨p, hp⟩ : ∃ p, wiB a b = p := ⟨_, rfl⟩
  have hq : ∀ W, (binOp .eql 23 (agQ V) (agQ U)).run Try.prog W = .ok (.bool p) W := fun W => by
    rw [eq_run .eql (Or.inl rfl), ← hV, ← hU, ← hp, ← com_red]; rfl
  unfold ComP at HC
  rw [hV, hD] at HC
  rw [hU] at HR
  rw [hp]
  clear hV hD hU hp
  go_enter Try.func17, Try.ntmps17
  go_upto_region 1 with fail
  obtain ⟨w0, hw0⟩ : ∃ W, (w.alloc (.cells #[.int .i64 a.1, .int .i64 a.2.1, .int .i64 a.2.2.1, .int .i64 a.2.2.2] 23)).alloc (.cells #[.int .i64 b.1, .int .i64 b.2.1, .int .i64 b.2.2.1, .int .i64 b.2.2.2] 23) = W := ⟨_, rfl⟩
  have C0 : Hid (Cel w0 w.heap.size (cQ a)) := hw0 ▸ (Cel.new w (cQ a) _).alloc _
  have D0 : Hid (Cel w0 (w.heap.size + 1) (cQ b)) := hw0 ▸ Cel.new_at _ (cQ b) _ (by simp)
  have B0 : Hid (Below w.heap.size w w0) := hw0 ▸ bstep (below_alloc _ _) (below_alloc _ _)
  rw [hw0]
  clear hw0
  obtain ⟨x0, x1, x2, x3⟩ := cel4 C0.out
  obtain ⟨y0, y1, y2, y3⟩ := cel4 D0.out
  go_wp2_with fail
  refine (HC.out w0).mono ?_
  rintro e w1 ⟨rfl, hb1⟩
  have B1 := Lib.hid (bstep B0.out hb1)
  have C1 := Lib.hid (C0.out.on hb1)
  clear hb1 C0 D0 x0 x1 x2 x3 y0 y1 y2 y3
  go_upto_region 2 with fail
  obtain ⟨w2, hw2⟩ : ∃ W, w1.alloc (.cells #[.int .i64 V.1, .int .i64 V.2.1, .int .i64 V.2.2.1, .int .i64 V.2.2.2] 23) = W := ⟨_, rfl⟩
  have E2 : Hid (Cel w2 w1.heap.size (cQ V)) := hw2 ▸ Cel.new w1 (cQ V) _
  have C2 : Hid (Cel w2 w.heap.size (cQ a)) := hw2 ▸ C1.out.alloc _
  have B2 : Hid (Below w.heap.size w w2) := hw2 ▸ bstep B1.out (below_alloc _ _)
  rw [hw2]
  clear hw2
  obtain ⟨g, hgg⟩ : ∃ g, w1.heap.size = g := ⟨_, rfl⟩
  rw [hgg] at E2 ⊢
  clear hgg C1 B1
  have HS : Hid (∀ W, Below w2.heap.size w2 W → (W.cell? ⟨g, 0, none⟩ = some (.int .i64 V.1) ∧ W.cell? ⟨g, 1, none⟩ = some (.int .i64 V.2.1) ∧ W.cell? ⟨g, 2, none⟩ = some (.int .i64 V.2.2.1) ∧ W.cell? ⟨g, 3, none⟩ = some (.int .i64 V.2.2.2)) ∧ (W.cell? ⟨w.heap.size, 0, none⟩ = some (.int .i64 a.1) ∧ W.cell? ⟨w.heap.size, 1, none⟩ = some (.int .i64 a.2.1) ∧ W.cell? ⟨w.heap.size, 2, none⟩ = some (.int .i64 a.2.2.1) ∧ W.cell? ⟨w.heap.size, 3, none⟩ = some (.int .i64 a.2.2.2))) := fun W hb => ⟨cel4 (E2.out.on hb), cel4 (C2.out.on hb)⟩
  obtain ⟨⟨x0, x1, x2, x3⟩, y0, y1, y2, y3⟩ := HS.out _ (Below.refl _ _)
  go_region_held3 (fun W => (W.cell? ⟨g, 0, none⟩ = some (.int .i64 V.1) ∧ W.cell? ⟨g, 1, none⟩ = some (.int .i64 V.2.1) ∧ W.cell? ⟨g, 2, none⟩ = some (.int .i64 V.2.2.1) ∧ W.cell? ⟨g, 3, none⟩ = some (.int .i64 V.2.2.2)) ∧ (W.cell? ⟨w.heap.size, 0, none⟩ = some (.int .i64 a.1) ∧ W.cell? ⟨w.heap.size, 1, none⟩ = some (.int .i64 a.2.1) ∧ W.cell? ⟨w.heap.size, 2, none⟩ = some (.int .i64 a.2.2.1) ∧ W.cell? ⟨w.heap.size, 3, none⟩ = some (.int .i64 a.2.2.2)))
    (first | exact HS.out _ (Below.refl _ _) | exact HS.out _ (drew_below _) | exact HS.out _ HBL.out)
    ((go_at_call 36; (refine (HR.out _).mono ?_); rintro e w3 ⟨rfl, hb3⟩; (have HBL : Hid (Below w2.heap.size w2 w3) := Lib.hid (bstep (drew_below _) hb3)); clear hb3))
  go_wp2_with fail
  go_ret
  exact ⟨rfl, bstep B2.out HBL.out⟩

set_option maxHeartbeats 800000 in
theorem rect_checkList (L : List Rc) (A : Option Addr) (c : Nat) (w : World) (ha : Rcs w A L) (hm : L.length ≤ 9223372036854775807) :
    Calls Try.prog 38 #[.slice A L.length c] w fun e w' => e = .returned (.int .i64 (lsE L)) ∧ Below w.heap.size w w' := by
  have HA := Lib.hid ha
  clear ha
  by_cases hf : 64 < L.length
  · have hf' : (64 : Int) < (L.length : Int) := by omega
    have HF := Lib.hid (lsE_full hf)
    clear hf
    go_enter Try.func38, Try.ntmps38
    go_wp2_with fail
    go_ret
    exact ⟨ret_int HF.out.symm, Below.refl _ _⟩
  have hf' : decide ((64 : Int) < (L.length : Int)) = false := decide_eq_false (by omega)
  have HF := Lib.hid hf
  clear hf
  go_enter Try.func38, Try.ntmps38
  go_wp2_with fail
  go_loopw [11] (fun i wr => ∃ k : Nat, k ≤ L.length ∧ i = .int .i64 k ∧ (∀ (j : Nat) (s : Rc), j < k → L[j]? = some s → ckB s = true) ∧ Below w.heap.size w wr) (fun i _ => L.length - (RowKit.intOf i).toNat)
  case atStart => exact ⟨0, Nat.zero_le _, rfl, fun j t h => absurd h (by omega), Below.refl _ _⟩
  case round =>
    obtain ⟨k, hk, rfl, hv, hbel⟩ := hrel
    have HV := Lib.hid hv
    have HB := Lib.hid hbel
    clear hv hbel
    rcases Nat.lt_or_ge k L.length with hlt | hge
    · obtain ⟨s, hs⟩ := get_lt hlt
      obtain ⟨b, off, rfl, hb, h0, h1, h2, h3⟩ := rd_at (HA.out.on HB.out) hs
      have HS := Lib.hid hs
      have HCk := Lib.hid fun W => rect_Check s W
      have i1 : (k : Int) < (L.length : Int) := by omega
      have i2 : (0 : Int) ≤ (k : Int) := by omega
      obtain ⟨E, hE⟩ : ∃ E, ckE s = E := ⟨_, rfl⟩
      rw [hE] at HCk
      clear hs
      go_upto_region 6 with fail
      obtain ⟨w0, hw0⟩ : ∃ W, wr.alloc (.cells #[.int .i64 s.1, .int .i64 s.2.1, .int .i64 s.2.2.1, .int .i64 s.2.2.2] 23) = W := ⟨_, rfl⟩
      have C0 : Hid (Cel w0 wr.heap.size (cQ s)) := hw0 ▸ Cel.new wr (cQ s) _
      have hb0 : Below wr.heap.size wr w0 := hw0 ▸ below_alloc _ _
      rw [hw0]
      clear hw0 h0 h1 h2 h3
      have HB0 := Lib.hid (HB.out.trans (hb0.mono HB.out.size))
      clear hb0
      obtain ⟨h0, h1, h2, h3⟩ := cel4 C0.out
      go_wp2_with fail
      refine (HCk.out w0).mono ?_
      rintro e w1 ⟨rfl, hb1⟩
      have HB1 := Lib.hid (HB0.out.trans (hb1.mono HB0.out.size))
      clear hb1 h0 h1 h2 h3
      by_cases hz : E = 0
      · subst hz
        have HG := Lib.hid (ckE_iff.mp hE)
        clear hE
        go_wp2_with fail
        go_roundw
        case rel =>
          refine ⟨k + 1, by omega, by go_num, ?_, HB1.out⟩
          intro j u hj hu
          rcases Nat.lt_or_eq_of_le (Nat.le_of_lt_succ hj) with h | h
          · exact HV.out j u h hu
          · subst h
            have e := HS.out
            rw [hu] at e; cases e; exact HG.out
        case measure => simp [RowKit.intOf]; omega
      · obtain ⟨z1, z2⟩ := ne_tests hz
        have hb0 : ckB s = false := by
          cases hc : ckB s with
          | false => rfl
          | true => exact absurd (hE.symm.trans (ckE_iff.mpr hc)) hz
        have HE : Hid (lsE L = E) := by
          rw [lsE_bad HF.out HS.out hb0, ← hE]
          unfold ckE; rw [hb0]; rfl
        clear hE hz hb0
        go_wp2_with fail
        go_ret
        exact ⟨ret_int HE.out.symm, HB1.out⟩
    · obtain rfl : k = L.length := by omega
      have HG := Lib.hid (lsE_ok HF.out fun j s hs => HV.out j s (glt hs) hs)
      go_wp2_with fail
      go_ret
      exact ⟨ret_int HG.out.symm, HB.out⟩

#print axioms rect_Common
#print axioms rect_Within
#print axioms rect_checkList
end Go.Proofs.Ytccbnobpighckaa.Rect
