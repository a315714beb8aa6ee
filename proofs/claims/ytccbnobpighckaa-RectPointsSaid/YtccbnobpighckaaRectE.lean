/- Rectangles in memory; Check, points, Area, Common, Within of the reference; equality. -/
import Derived.Test.YtccbnobpighckaaRectD
import Derived.Test.YtccbnobpighckaaRowC
namespace Go.Proofs.Ytccbnobpighckaa.Rect
open Go.ChangeShapes Go.WideShapes Go.RowKit Go.Lib Go.Proofs.Ytccbnobpighckaa.Rw
set_option linter.unusedVariables false
set_option maxRecDepth 100000

/-- A rectangle's cells. -/
abbrev cQ (r : Rc) : List Value := [.int .i64 r.1, .int .i64 r.2.1, .int .i64 r.2.2.1, .int .i64 r.2.2.2]
theorem cQ_len (r : Rc) : (cQ r).length = 4 := rfl
abbrev agQ (r : Rc) : Value := .agg #[.int .i64 r.1, .int .i64 r.2.1, .int .i64 r.2.2.1, .int .i64 r.2.2.2]
abbrev Rcs (w : World) (A : Option Addr) (L : List Rc) : Prop := Rd cQ 4 w A L
theorem rd_at {w : World} {A : Option Addr} {L : List Rc} (h : Rcs w A L) {k : Nat} {r : Rc} (hr : L[k]? = some r) : ∃ b off, A = some ⟨b, off, none⟩ ∧ b < w.heap.size ∧
    w.cell? ⟨b, off + k * 4, none⟩ = some (.int .i64 r.1) ∧ w.cell? ⟨b, off + k * 4 + 1, none⟩ = some (.int .i64 r.2.1) ∧ w.cell? ⟨b, off + k * 4 + 2, none⟩ = some (.int .i64 r.2.2.1) ∧ w.cell? ⟨b, off + k * 4 + 3, none⟩ = some (.int .i64 r.2.2.2) := by
  obtain ⟨b, off, e, hlt, hc⟩ := h k r hr
  exact ⟨b, off, e, hlt, hc 0 _ rfl, hc 1 _ rfl, hc 2 _ rfl, hc 3 _ rfl⟩
theorem cel4 {w : World} {g : Nat} {u0 u1 u2 u3 : Value} (h : Cel w g [u0, u1, u2, u3]) : w.cell? ⟨g, 0, none⟩ = some u0 ∧ w.cell? ⟨g, 1, none⟩ = some u1 ∧ w.cell? ⟨g, 2, none⟩ = some u2 ∧ w.cell? ⟨g, 3, none⟩ = some u3 :=
  ⟨h.at_ 0 _ rfl, h.at_ 1 _ rfl, h.at_ 2 _ rfl, h.at_ 3 _ rfl⟩
theorem warm4 {w : World} {g : Nat} {us : List Value} (h : Cel w g us) : w.frozen? ⟨g, 0, none⟩ = false ∧ w.frozen? ⟨g, 1, none⟩ = false ∧ w.frozen? ⟨g, 2, none⟩ = false ∧ w.frozen? ⟨g, 3, none⟩ = false := ⟨h.warm 0, h.warm 1, h.warm 2, h.warm 3⟩
theorem cel_put4 {w : World} {g : Nat} {u0 u1 u2 u3 : Value} (h : Cel w g [u0, u1, u2, u3]) (x0 x1 x2 x3 : Value) :
    Cel ((((w.setCell ⟨g, 0, none⟩ x0).setCell ⟨g, 1, none⟩ x1).setCell ⟨g, 2, none⟩ x2).setCell ⟨g, 3, none⟩ x3) g [x0, x1, x2, x3] := (((h.set 0 x0).set 1 x1).set 2 x2).set 3 x3
theorem below_put4 {B : Nat} {w w' : World} {g : Nat} (h : Below B w w') (hg : B ≤ g) (x0 x1 x2 x3 : Value) :
    Below B w ((((w'.setCell ⟨g, 0, none⟩ x0).setCell ⟨g, 1, none⟩ x1).setCell ⟨g, 2, none⟩ x2).setCell ⟨g, 3, none⟩ x3) :=
  (((h.setCell (p := ⟨g, 0, none⟩) hg _).setCell (p := ⟨g, 1, none⟩) hg _).setCell (p := ⟨g, 2, none⟩) hg _).setCell (p := ⟨g, 3, none⟩) hg _
theorem ret_two {x y a b : Int} (h : x = a) (h2 : y = b) : Ending.returned (.tuple #[.int .i64 x, .int .i64 y]) = .returned (.tuple #[.int .i64 a, .int .i64 b]) := by rw [h, h2]
theorem ne_tests {E : Int} (h : ¬ E = 0) : (E == 0) = false ∧ (E != 0) = true := by
  have : (E == 0) = false := beq_false_of_ne h
  exact ⟨this, by rw [bne, this]; rfl⟩
/-- A result that lies in a cell, beside one that does not. -/
theorem res_rect2 {fn : Func} {p u : Tmp} (h : fn.results = #[.cell p 23, .tmp u]) {tmps : Array Value} {w : World} {g : Nat} {r : Rc} (hp : tmps.getD p undef = .pointer (some ⟨g, 0, none⟩))
    (hc : Cel w g (cQ r)) : (results fn tmps).run Try.prog w = .ok (.tuple #[agQ r, tmps.getD u undef]) w := by
  have hp' : tmps[p]?.getD undef = .pointer (some ⟨g, 0, none⟩) := by simpa using hp
  obtain ⟨h0, h1, h2, h3⟩ := cel4 hc
  simp [results, h, hp', go_sem, h0, h1, h2, h3]
theorem eq_run (op : BinOp) (hop : op = .eql ∨ op = .neq) (x y : Rc) (w : World) : (binOp op 23 (agQ x) (agQ y)).run Try.prog w = .ok (.bool (if op = .eql then decide (x = y) else !(decide (x = y)))) w := by
  have u3 := Try.underlying3
  have a3 := Try.isAgg3
  have z3 := Try.sizeOf3
  have hS : Try.prog.underlying 23 = some (.struct (Try.prog.fieldsOf 23)) := by kernel_rfl
  have hp : Try.prog.stoodInHeld 23 = false := by kernel_rfl
  obtain ⟨a, b, c, d⟩ := x
  obtain ⟨a', b', c', d'⟩ := y
  rcases hop with rfl | rfl
  · rw [run_eql_struct, show (10000 : Nat) = 9999 + 1 from rfl, run_equalIn_agg w 9999 23 _ _ hS hp]
    simp only [Program.fieldsOf, Try.underlying23]
    go_simp
    by_cases h1 : a = a' <;> by_cases h2 : b = b' <;> by_cases h3 : c = c' <;> by_cases h4 : d = d' <;> simp [h1, h2, h3, h4]
  · rw [run_neq_struct, show (10000 : Nat) = 9999 + 1 from rfl, run_equalIn_agg w 9999 23 _ _ hS hp]
    simp only [Program.fieldsOf, Try.underlying23]
    go_simp
    by_cases h1 : a = a' <;> by_cases h2 : b = b' <;> by_cases h3 : c = c' <;> by_cases h4 : d = d' <;> simp [h1, h2, h3, h4]
theorem ckE_no {r : Rc} (h : ¬ ((0 ≤ r.1 ∧ r.1 ≤ r.2.1 ∧ r.2.1 ≤ 12000) ∧ 0 ≤ r.2.2.1 ∧ r.2.2.1 ≤ r.2.2.2 ∧ r.2.2.2 ≤ 17179869184)) : ckE r = 1 := by
  unfold ckE
  rw [if_neg (fun k => h (ckB_iff.mp k))]
theorem ckE_yes {r : Rc} (h : (0 ≤ r.1 ∧ r.1 ≤ r.2.1 ∧ r.2.1 ≤ 12000) ∧ 0 ≤ r.2.2.1 ∧ r.2.2.1 ≤ r.2.2.2 ∧ r.2.2.2 ≤ 17179869184) : ckE r = 0 := ckE_iff.mpr (ckB_iff.mpr h)
theorem min_if (P X : Int) : (if X < P then X else P) = min P X := by split <;> omega
theorem max_if (P X : Int) : (if P < X then X else P) = max P X := by split <;> omega

set_option maxHeartbeats 800000 in
theorem rr_Check (r : Rc) (w : World) :
    Calls Try.prog 16 #[agQ r] w fun e w' => e = .returned (.int .i64 (ckE r)) ∧ Below w.heap.size w w' := by
  obtain ⟨E, hE⟩ : ∃ E, ckE r = E := ⟨_, rfl⟩
  rw [hE]
  rcases Int.lt_or_le (r.1) (0) with h0 | h0
  · have d0 : decide (r.1 < 0) = true := decide_eq_true h0
    obtain rfl : E = 1 := by rw [← hE]; exact ckE_no (by omega)
    clear hE h0
    go_enter Try.func16, Try.ntmps16
    go_wp2_with fail
    go_ret
    exact ⟨rfl, below_alloc _ _⟩
  have d0 : decide (r.1 < 0) = false := decide_eq_false (by omega)
  rcases Int.lt_or_le (r.2.1) (r.1) with h1 | h1
  · have d1 : decide (r.2.1 < r.1) = true := decide_eq_true h1
    obtain rfl : E = 1 := by rw [← hE]; exact ckE_no (by omega)
    clear hE h0 h1
    go_enter Try.func16, Try.ntmps16
    go_wp2_with fail
    go_ret
    exact ⟨rfl, below_alloc _ _⟩
  have d1 : decide (r.2.1 < r.1) = false := decide_eq_false (by omega)
  rcases Int.lt_or_le (12000) (r.2.1) with h2 | h2
  · have d2 : decide (12000 < r.2.1) = true := decide_eq_true h2
    obtain rfl : E = 1 := by rw [← hE]; exact ckE_no (by omega)
    clear hE h0 h1 h2
    go_enter Try.func16, Try.ntmps16
    go_wp2_with fail
    go_ret
    exact ⟨rfl, below_alloc _ _⟩
  have d2 : decide (12000 < r.2.1) = false := decide_eq_false (by omega)
  rcases Int.lt_or_le (r.2.2.1) (0) with h3 | h3
  · have d3 : decide (r.2.2.1 < 0) = true := decide_eq_true h3
    obtain rfl : E = 1 := by rw [← hE]; exact ckE_no (by omega)
    clear hE h0 h1 h2 h3
    go_enter Try.func16, Try.ntmps16
    go_wp2_with fail
    go_ret
    exact ⟨rfl, below_alloc _ _⟩
  have d3 : decide (r.2.2.1 < 0) = false := decide_eq_false (by omega)
  rcases Int.lt_or_le (r.2.2.2) (r.2.2.1) with h4 | h4
  · have d4 : decide (r.2.2.2 < r.2.2.1) = true := decide_eq_true h4
    obtain rfl : E = 1 := by rw [← hE]; exact ckE_no (by omega)
    clear hE h0 h1 h2 h3 h4
    go_enter Try.func16, Try.ntmps16
    go_wp2_with fail
    go_ret
    exact ⟨rfl, below_alloc _ _⟩
  have d4 : decide (r.2.2.2 < r.2.2.1) = false := decide_eq_false (by omega)
  rcases Int.lt_or_le (17179869184) (r.2.2.2) with h5 | h5
  · have d5 : decide (17179869184 < r.2.2.2) = true := decide_eq_true h5
    obtain rfl : E = 1 := by rw [← hE]; exact ckE_no (by omega)
    clear hE h0 h1 h2 h3 h4 h5
    go_enter Try.func16, Try.ntmps16
    go_wp2_with fail
    go_ret
    exact ⟨rfl, below_alloc _ _⟩
  have d5 : decide (17179869184 < r.2.2.2) = false := decide_eq_false (by omega)
  obtain rfl : E = 0 := by rw [← hE]; exact ckE_yes (by omega)
  clear hE h0 h1 h2 h3 h4 h5
  go_enter Try.func16, Try.ntmps16
  go_wp2_with fail
  go_ret
  exact ⟨rfl, below_alloc _ _⟩

set_option maxHeartbeats 800000 in
theorem rr_points (r : Rc) (w : World) :
    Calls Try.prog 37 #[agQ r] w fun e w' => e = .returned (.bool (ptB r)) ∧ Below w.heap.size w w' := by
  obtain ⟨p, hp⟩ : ∃ p, ptB r = p := ⟨_, rfl⟩
  rw [hp]
  rcases Int.lt_or_le r.1 r.2.1 with h | h
  · have d0 : decide (r.1 < r.2.1) = true := decide_eq_true h
    have d1 : decide (r.2.2.1 < r.2.2.2) = p := by rw [← hp]; unfold ptB; rw [d0, Bool.true_and]
    clear h hp
    go_enter Try.func37, Try.ntmps37
    go_wp2_with fail
    go_ret
    exact ⟨rfl, below_alloc _ _⟩
  · have d0 : decide (r.1 < r.2.1) = false := decide_eq_false (by omega)
    obtain rfl : p = false := by rw [← hp]; unfold ptB; rw [d0]; rfl
    clear h hp
    go_enter Try.func37, Try.ntmps37
    go_wp2_with fail
    go_ret
    exact ⟨rfl, below_alloc _ _⟩

set_option maxHeartbeats 800000 in
theorem rr_Area (r : Rc) (w : World) :
    Calls Try.prog 12 #[agQ r] w fun e w' => e = .returned (.tuple #[.int .i64 (arV r), .int .i64 (ckE r)]) ∧ Below w.heap.size w w' := by
  have HCk := Lib.hid fun W => rr_Check r W
  obtain ⟨E, hE⟩ : ∃ E, ckE r = E := ⟨_, rfl⟩
  obtain ⟨V, hV⟩ : ∃ V, arV r = V := ⟨_, rfl⟩
  rw [hE] at HCk
  rw [hE, hV]
  by_cases hz : E = 0
  · subst hz
    have hk := ckB_iff.mp (ckE_iff.mp hE)
    have hl := siz_lim (ckE_iff.mp hE)
    have hs : siz r = V := by rw [← hV]; unfold arV; rw [if_pos hE]
    unfold siz at hs hl
    rw [hs] at hl
    obtain ⟨X, hX⟩ : ∃ X, r.2.1 - r.1 = X := ⟨_, rfl⟩
    obtain ⟨Y, hY⟩ : ∃ Y, r.2.2.2 - r.2.2.1 = Y := ⟨_, rfl⟩
    rw [hX, hY] at hs
    have wX : IntKind.i64.wrap X = X := wrap_id (by omega)
    have wY : IntKind.i64.wrap Y = Y := wrap_id (by omega)
    have wV : IntKind.i64.wrap V = V := wrap_id (by omega)
    clear hk hl hE hV
    go_enter Try.func12, Try.ntmps12
    go_upto_region 1 with fail
    obtain ⟨w0, hw0⟩ : ∃ W, w.alloc (.cells #[.int .i64 r.1, .int .i64 r.2.1, .int .i64 r.2.2.1, .int .i64 r.2.2.2] 23) = W := ⟨_, rfl⟩
    have C0 : Hid (Cel w0 w.heap.size (cQ r)) := hw0 ▸ Cel.new w (cQ r) _
    have B0 : Hid (Below w.heap.size w w0) := hw0 ▸ below_alloc _ _
    rw [hw0]
    clear hw0
    obtain ⟨x0, x1, x2, x3⟩ := cel4 C0.out
    go_wp2_with fail
    refine (HCk.out w0).mono ?_
    rintro e w1 ⟨rfl, hb⟩
    have B1 := Lib.hid (bstep B0.out hb)
    have C1 := Lib.hid (C0.out.on hb)
    clear hb x0 x1 x2 x3
    obtain ⟨x0, x1, x2, x3⟩ := cel4 C1.out
    go_wp2_with fail
    go_ret2
    exact ⟨rfl, B1.out⟩
  · obtain ⟨z1, z2⟩ := ne_tests hz
    obtain rfl : V = 0 := by rw [← hV]; unfold arV; rw [if_neg (by rw [hE]; exact hz)]
    clear hz hV hE
    go_enter Try.func12, Try.ntmps12
    go_upto_region 1 with fail
    obtain ⟨w0, hw0⟩ : ∃ W, w.alloc (.cells #[.int .i64 r.1, .int .i64 r.2.1, .int .i64 r.2.2.1, .int .i64 r.2.2.2] 23) = W := ⟨_, rfl⟩
    have C0 : Hid (Cel w0 w.heap.size (cQ r)) := hw0 ▸ Cel.new w (cQ r) _
    have B0 : Hid (Below w.heap.size w w0) := hw0 ▸ below_alloc _ _
    rw [hw0]
    clear hw0
    obtain ⟨x0, x1, x2, x3⟩ := cel4 C0.out
    go_wp2_with fail
    refine (HCk.out w0).mono ?_
    rintro e w1 ⟨rfl, hb⟩
    have B1 := Lib.hid (bstep B0.out hb)
    clear hb
    go_wp2_with fail
    go_ret2
    exact ⟨rfl, B1.out⟩

set_option maxHeartbeats 1600000 in
theorem rr_Within (a b : Rc) (w : World) :
    Calls Try.prog 18 #[agQ a, agQ b] w fun e w' => e = .returned (.bool (wiB a b)) ∧ Below w.heap.size w w' := by
  have HP := Lib.hid fun W => rr_points a W
  obtain ⟨p, hp⟩ : ∃ p, ptB a = p := ⟨_, rfl⟩
  obtain ⟨q, hq⟩ : ∃ q, wiB a b = q := ⟨_, rfl⟩
  rw [hp] at HP
  rw [hq]
  go_enter Try.func18, Try.ntmps18
  go_upto_region 1 with fail
  obtain ⟨w0, hw0⟩ : ∃ W, (w.alloc (.cells #[.int .i64 a.1, .int .i64 a.2.1, .int .i64 a.2.2.1, .int .i64 a.2.2.2] 23)).alloc (.cells #[.int .i64 b.1, .int .i64 b.2.1, .int .i64 b.2.2.1, .int .i64 b.2.2.2] 23) = W := ⟨_, rfl⟩
  have C0 : Hid (Cel w0 w.heap.size (cQ a)) := hw0 ▸ (Cel.new w (cQ a) _).alloc _
  have D0 : Hid (Cel w0 (w.heap.size + 1) (cQ b)) := hw0 ▸ Cel.new_at _ (cQ b) _ (by simp)
  have B0 : Hid (Below w.heap.size w w0) := hw0 ▸ bstep (below_alloc _ _) (below_alloc _ _)
  rw [hw0]
  clear hw0
  obtain ⟨x0, x1, x2, x3⟩ := cel4 C0.out
  go_wp2_with fail
  refine (HP.out w0).mono ?_
  rintro e w1 ⟨rfl, hb⟩
  have B1 := Lib.hid (bstep B0.out hb)
  have C1 := Lib.hid (C0.out.on hb)
  have D1 := Lib.hid (D0.out.on hb)
  clear hb x0 x1 x2 x3
  obtain ⟨x0, x1, x2, x3⟩ := cel4 C1.out
  obtain ⟨y0, y1, y2, y3⟩ := cel4 D1.out
  cases p with
  | false =>
    have HQ : Hid (true = q) := Lib.hid (by rw [← hq]; unfold wiB; rw [hp]; rfl)
    clear hp hq
    go_wp2_with fail
    go_ret
    exact ⟨ret_bool HQ.out, B1.out⟩
  | true =>
    have hq' : (decide (b.1 ≤ a.1) && (decide (a.2.1 ≤ b.2.1) && (decide (b.2.2.1 ≤ a.2.2.1) && decide (a.2.2.2 ≤ b.2.2.2)))) = q := by rw [← hq]; unfold wiB; rw [hp]; rfl
    clear hp hq
    rcases Int.lt_or_le (a.1) (b.1) with h0 | h0
    · have d0 : decide (b.1 ≤ a.1) = false := decide_eq_false (by omega)
      have HQ : Hid (false = q) := Lib.hid (by rw [← hq', d0]; simp)
      clear hq' h0
      go_wp2_with fail
      go_ret
      exact ⟨ret_bool HQ.out, B1.out⟩
    have d0 : decide (b.1 ≤ a.1) = true := decide_eq_true h0
    rcases Int.lt_or_le (b.2.1) (a.2.1) with h1 | h1
    · have d1 : decide (a.2.1 ≤ b.2.1) = false := decide_eq_false (by omega)
      have HQ : Hid (false = q) := Lib.hid (by rw [← hq', d0, d1]; simp)
      clear hq' h0 h1
      go_wp2_with fail
      go_ret
      exact ⟨ret_bool HQ.out, B1.out⟩
    have d1 : decide (a.2.1 ≤ b.2.1) = true := decide_eq_true h1
    rcases Int.lt_or_le (a.2.2.1) (b.2.2.1) with h2 | h2
    · have d2 : decide (b.2.2.1 ≤ a.2.2.1) = false := decide_eq_false (by omega)
      have HQ : Hid (false = q) := Lib.hid (by rw [← hq', d0, d1, d2]; simp)
      clear hq' h0 h1 h2
      go_wp2_with fail
      go_ret
      exact ⟨ret_bool HQ.out, B1.out⟩
    have d2 : decide (b.2.2.1 ≤ a.2.2.1) = true := decide_eq_true h2
    rcases Int.lt_or_le (b.2.2.2) (a.2.2.2) with h3 | h3
    · have d3 : decide (a.2.2.2 ≤ b.2.2.2) = false := decide_eq_false (by omega)
      have HQ : Hid (false = q) := Lib.hid (by rw [← hq', d0, d1, d2, d3]; simp)
      clear hq' h0 h1 h2 h3
      go_wp2_with fail
      go_ret
      exact ⟨ret_bool HQ.out, B1.out⟩
    have d3 : decide (a.2.2.2 ≤ b.2.2.2) = true := decide_eq_true h3
    have HQ : Hid (true = q) := Lib.hid (by rw [← hq', d0, d1, d2, d3]; rfl)
    clear hq' h0 h1 h2 h3
    go_wp2_with fail
    go_ret
    exact ⟨ret_bool HQ.out, B1.out⟩
#print axioms rr_Check
#print axioms rr_Area
#print axioms rr_Within
end Go.Proofs.Ytccbnobpighckaa.Rect
