/- product, isOnLine of the program; line of the reference. -/
import Derived.Test.YtkbnhmgladkojaaAlignO
namespace Go.Proofs.Ytkbnhmgladkojaa.Align
open Go.ChangeShapes Go.WideShapes Go.RowKit Go.Lib Go.Proofs.Ytkbnhmgladkojaa.Rw
set_option linter.unusedVariables false
set_option maxRecDepth 100000

def phi (x y : Nat) : Int := ((x * y / 18446744073709551616 : Nat) : Int)
def plo (x y : Nat) : Int := ((x * y % 18446744073709551616 : Nat) : Int)
theorem two_words {x y u v : Nat} : (phi x y = phi u v ∧ plo x y = plo u v) ↔ x * y = u * v := by
  unfold phi plo
  omega
theorem res_words {fn : Func} {p : Tmp} (h : fn.results = #[.cell p 55]) {tmps : Array Value} {w : World} {g : Nat} {x y : Int} (hp : tmps.getD p undef = .pointer (some ⟨g, 0, none⟩))
    (hc : Cel w g [.int .u64 x, .int .u64 y]) : (results fn tmps).run Try.prog w = .ok (.agg #[.int .u64 x, .int .u64 y]) w := by
  have hp' : tmps[p]?.getD undef = .pointer (some ⟨g, 0, none⟩) := by simpa using hp
  obtain ⟨h0, h1⟩ := hc.two
  simp [results, h, hp', go_sem, h0, h1]
set_option maxHeartbeats 800000 in
theorem align_product (x y : Nat) (w : World) (hx : x ≤ 17179869184) (hy : y ≤ 17179869184) :
    Calls Try.prog 37 #[.int .i64 (x : Int), .int .i64 (y : Int)] w fun e w' => e = .returned (.agg #[.int .u64 (phi x y), .int .u64 (plo x y)]) ∧ Below w.heap.size w w' := by
  have w1 : IntKind.u64.wrap (x : Int) = (x : Int) := by rw [IntKind.wrap_u64]; omega
  have w2 : IntKind.u64.wrap (y : Int) = (y : Int) := by rw [IntKind.wrap_u64]; omega
  have HM := Lib.hid fun W => Try.bits_Mul64 x y (by omega) (by omega) W
  go_enter Try.func37, Try.ntmps37
  go_upto_region 1 with fail
  obtain ⟨w3, hw3⟩ : ∃ W, w.alloc (.cells #[.int .u64 0, .int .u64 0] 55) = W := ⟨_, rfl⟩
  have H3 : Hid (Cel w3 w.heap.size [.int .u64 0, .int .u64 0]) := hw3 ▸ Cel.new w [.int .u64 0, .int .u64 0] _
  have HB3 : Hid (Below w.heap.size w w3) := hw3 ▸ below_alloc _ _
  rw [hw3]
  clear hw3
  go_wp2_with fail
  refine (HM.out w3).mono ?_
  rintro e w4 ⟨rfl, rfl⟩
  rw [← phi, ← plo]
  obtain ⟨x0, x1⟩ := H3.out.two
  obtain ⟨y0, y1⟩ := H3.out.warm2
  go_wp2_with fail
  exact bodyPost_ret (res_words Try.results37 rfl (H3.out.put2 _ _)) rfl ⟨rfl, below_put2 HB3.out (Nat.le_refl _) _ _⟩

theorem eql_run (a b c d : Int) (w : World) : (binOp .eql 55 (.agg #[.int .u64 a, .int .u64 b]) (.agg #[.int .u64 c, .int .u64 d])).run Try.prog w = .ok (.bool (decide (a = c ∧ b = d))) w := by
  have u3 := Try.underlying54
  have a3 := Try.isAgg54
  have z3 := Try.sizeOf54
  obtain ⟨i, hi⟩ : ∃ i, Try.prog.info? 54 = some i := ⟨_, rfl⟩
  have hc : Try.prog.cellsOf 54 = 1 := by kernel_rfl
  rw [run_eql_struct, show (10000 : Nat) = 9999 + 1 from rfl, run_equalIn_array w 9999 _ _ Try.underlying55 hi, hc]
  simp only [show List.range 2 = [0, 1] from rfl, Op.eqItems]
  go_simp
  by_cases h1 : a = c <;> by_cases h2 : b = d <;> simp [h1, h2]
theorem lin_words {x y u v : Nat} {P Q U V : Int} (h1 : (x : Int) = P) (h2 : (y : Int) = Q) (h3 : (u : Int) = U) (h4 : (v : Int) = V) : decide (phi x y = phi u v ∧ plo x y = plo u v) = decide (P * Q = U * V) := by
  subst h1 h2 h3 h4
  rw [Bool.eq_iff_iff, decide_eq_true_iff, decide_eq_true_iff, two_words]
  constructor
  · intro h; exact_mod_cast h
  · intro h; exact_mod_cast h

/-- Marks of which one lies on the way from one to another. -/
def Way (p m n : Mk) : Prop := (Aft p m ∧ Aft m n) ∧ (0 ≤ p.1 ∧ 0 ≤ p.2) ∧ n.1 ≤ 17179869184 ∧ n.2 ≤ 17179869184
theorem to_nat {x : Int} (h : 0 ≤ x) : ∃ n : Nat, (n : Int) = x := ⟨x.toNat, by omega⟩
set_option maxHeartbeats 3200000 in
theorem align_isOnLine (m p n : Mk) (w : World) (h : Way p m n) :
    Calls Try.prog 33 #[.agg #[.int .i64 m.1, .int .i64 m.2], .agg #[.int .i64 p.1, .int .i64 p.2], .agg #[.int .i64 n.1, .int .i64 n.2]] w fun e w' => e = .returned (.bool (lin p m n)) ∧ Below w.heap.size w w' := by
  obtain ⟨⟨⟨h1, h2⟩, h3, h4⟩, ⟨h5, h6⟩, h7, h8⟩ := h
  obtain ⟨a, ha⟩ := to_nat (x := m.2 - p.2) (by omega)
  obtain ⟨b, hb⟩ := to_nat (x := m.1 - p.1) (by omega)
  obtain ⟨c, hc⟩ := to_nat (x := n.2 - p.2) (by omega)
  obtain ⟨d, hd⟩ := to_nat (x := n.1 - p.1) (by omega)
  have HP1 := Lib.hid fun W => align_product a d W (by omega) (by omega)
  have HP2 := Lib.hid fun W => align_product c b W (by omega) (by omega)
  obtain ⟨r, hr⟩ : ∃ r, lin p m n = r := ⟨_, rfl⟩
  rw [hr]
  have hq := eql_run (phi a d) (plo a d) (phi c b) (plo c b)
  rw [lin_words ha hd hc hb] at hq
  have hq' : ∀ W, (binOp .eql 55 (.agg #[.int .u64 (phi a d), .int .u64 (plo a d)]) (.agg #[.int .u64 (phi c b), .int .u64 (plo c b)])).run Try.prog W = .ok (.bool r) W := fun W => by rw [hq W, ← hr]; rfl
  have e1 : m.2 - p.2 = (a : Int) := ha.symm
  have e2 : m.1 - p.1 = (b : Int) := hb.symm
  have e3 : n.2 - p.2 = (c : Int) := hc.symm
  have e4 : n.1 - p.1 = (d : Int) := hd.symm
  have v1 : IntKind.i64.wrap (a : Int) = (a : Int) := wrap_id (by omega)
  have v2 : IntKind.i64.wrap (b : Int) = (b : Int) := wrap_id (by omega)
  have v3 : IntKind.i64.wrap (c : Int) = (c : Int) := wrap_id (by omega)
  have v4 : IntKind.i64.wrap (d : Int) = (d : Int) := wrap_id (by omega)
  clear hq ha hb hc hd hr h1 h2 h3 h4 h5 h6 h7 h8
  go_enter Try.func33, Try.ntmps33
  go_upto_region 1 with fail
  obtain ⟨w1, hw1⟩ : ∃ W, ((w.alloc (.cells #[.int .i64 m.1, .int .i64 m.2] 41)).alloc (.cells #[.int .i64 p.1, .int .i64 p.2] 41)).alloc (.cells #[.int .i64 n.1, .int .i64 n.2] 41) = W := ⟨_, rfl⟩
  have H1 : Hid (Cel w1 w.heap.size [.int .i64 m.1, .int .i64 m.2]) := hw1 ▸ ((Cel.new w [.int .i64 m.1, .int .i64 m.2] _).alloc _).alloc _
  have H2 : Hid (Cel w1 (w.heap.size + 1) [.int .i64 p.1, .int .i64 p.2]) := hw1 ▸ (Cel.new_at _ [.int .i64 p.1, .int .i64 p.2] _ (by simp)).alloc _
  have H3 : Hid (Cel w1 (w.heap.size + 1 + 1) [.int .i64 n.1, .int .i64 n.2]) := hw1 ▸ Cel.new_at _ [.int .i64 n.1, .int .i64 n.2] _ (by simp)
  have HB1 : Hid (Below w.heap.size w w1) := hw1 ▸ bstep (bstep (below_alloc _ _) (below_alloc _ _)) (below_alloc _ _)
  rw [hw1]
  clear hw1
  have HS : Hid (∀ W, Below w1.heap.size w1 W → (W.cell? ⟨w.heap.size, 0, none⟩ = some (.int .i64 m.1) ∧ W.cell? ⟨w.heap.size, 1, none⟩ = some (.int .i64 m.2)) ∧ (W.cell? ⟨w.heap.size + 1, 0, none⟩ = some (.int .i64 p.1) ∧ W.cell? ⟨w.heap.size + 1, 1, none⟩ = some (.int .i64 p.2)) ∧ (W.cell? ⟨w.heap.size + 1 + 1, 0, none⟩ = some (.int .i64 n.1) ∧ W.cell? ⟨w.heap.size + 1 + 1, 1, none⟩ = some (.int .i64 n.2))) := fun W hb => ⟨(H1.out.on hb).two, (H2.out.on hb).two, (H3.out.on hb).two⟩
  obtain ⟨⟨x0, x1⟩, ⟨x2, x3⟩, x4, x5⟩ := HS.out _ (Below.refl _ _)
  go_region_held3 (fun W => (W.cell? ⟨w.heap.size, 0, none⟩ = some (.int .i64 m.1) ∧ W.cell? ⟨w.heap.size, 1, none⟩ = some (.int .i64 m.2)) ∧ (W.cell? ⟨w.heap.size + 1, 0, none⟩ = some (.int .i64 p.1) ∧ W.cell? ⟨w.heap.size + 1, 1, none⟩ = some (.int .i64 p.2)) ∧ (W.cell? ⟨w.heap.size + 1 + 1, 0, none⟩ = some (.int .i64 n.1) ∧ W.cell? ⟨w.heap.size + 1 + 1, 1, none⟩ = some (.int .i64 n.2)))
    (first | exact HS.out _ (Below.refl _ _) | exact HS.out _ (drew_below _) | exact HS.out _ HBL.out)
    ((go_at_call 37; first
      | ((with_reducible refine (HP1.out _).mono ?_); rintro e wa ⟨rfl, hba⟩; (have HBL := (by first | exact Lib.hid (bstep (drew_below _) hba) | exact Lib.hid (bstep HBL.out hba) : Hid (Below w1.heap.size w1 wa))); clear hba)
      | ((with_reducible refine (HP2.out _).mono ?_); rintro e wb ⟨rfl, hbb⟩; (have HBL := (by first | exact Lib.hid (bstep (drew_below _) hbb) | exact Lib.hid (bstep HBL.out hbb) : Hid (Below w1.heap.size w1 wb))); clear hbb)))
  all_goals
    go_wp2_with fail
    go_ret
    exact ⟨rfl, bstep HB1.out HBL.out⟩
#print axioms align_product
#print axioms align_isOnLine
end Go.Proofs.Ytkbnhmgladkojaa.Align
