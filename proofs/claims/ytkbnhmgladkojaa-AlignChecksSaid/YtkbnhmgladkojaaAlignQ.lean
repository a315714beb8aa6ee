/- line of the reference. -/
import Derived.Test.YtkbnhmgladkojaaAlignP
namespace Go.Proofs.Ytkbnhmgladkojaa.Align
open Go.ChangeShapes Go.WideShapes Go.RowKit Go.Lib Go.Proofs.Ytkbnhmgladkojaa.Rw
set_option linter.unusedVariables false
set_option maxRecDepth 100000

theorem lin_low {p m n : Mk} {a b c d : Nat} (ha : (a : Int) = m.2 - p.2) (hb : (b : Int) = m.1 - p.1) (hc : (c : Int) = n.2 - p.2) (hd : (d : Int) = n.1 - p.1) (h1 : 0 < a) (h2 : 0 < b) (h3 : 0 < c) (h4 : 0 < d) :
    lin p m n = (decide (a / Nat.gcd a b = c / Nat.gcd c d) && decide (b / Nat.gcd a b = d / Nat.gcd c d)) := by
  rw [Bool.eq_iff_iff, Bool.and_eq_true, decide_eq_true_iff, decide_eq_true_iff, line_low h1 h2 h3 h4, lin_iff, ← ha, ← hb, ← hc, ← hd]
  constructor
  · intro h; exact_mod_cast h
  · intro h; exact_mod_cast h
theorem quo_facts {x g q : Nat} (hg : 0 < g) (hx : x ≤ 17179869184) (h : x / g = q) : ((x : Int).tdiv (g : Int) = (q : Int) ∧ (x : Int) / (g : Int) = (q : Int)) ∧ IntKind.i64.wrap (q : Int) = (q : Int) := by
  have : q ≤ x := by rw [← h]; exact Nat.div_le_self _ _
  have e : (x : Int) / (g : Int) = (q : Int) := by rw [← h]; rfl
  exact ⟨⟨by rw [Int.tdiv_eq_ediv_of_nonneg (by omega)]; exact e, e⟩, wrap_id (by omega)⟩
set_option maxHeartbeats 3200000 in
theorem ref_line (p m n : Mk) (w : World) (h : Way p m n) :
    Calls Try.prog 34 #[.agg #[.int .i64 p.1, .int .i64 p.2], .agg #[.int .i64 m.1, .int .i64 m.2], .agg #[.int .i64 n.1, .int .i64 n.2]] w fun e w' => e = .returned (.bool (lin p m n)) ∧ Below w.heap.size w w' := by
  obtain ⟨⟨⟨h1, h2⟩, h3, h4⟩, ⟨h5, h6⟩, h7, h8⟩ := h
  obtain ⟨a, ha⟩ := to_nat (x := m.2 - p.2) (by omega)
  obtain ⟨b, hb⟩ := to_nat (x := m.1 - p.1) (by omega)
  obtain ⟨c, hc⟩ := to_nat (x := n.2 - p.2) (by omega)
  obtain ⟨d, hd⟩ := to_nat (x := n.1 - p.1) (by omega)
  have hlow := lin_low ha hb hc hd (by omega) (by omega) (by omega) (by omega)
  have hg0 : 0 < Nat.gcd a b := Nat.gcd_pos_of_pos_left _ (by omega)
  have hk0 : 0 < Nat.gcd c d := Nat.gcd_pos_of_pos_left _ (by omega)
  have HG := Lib.hid fun (W : World) (k : Nat) => ref_gcd a b W k (by omega) (by omega)
  have HK := Lib.hid fun (W : World) (k : Nat) => ref_gcd c d W k (by omega) (by omega)
  obtain ⟨g, hg⟩ : ∃ g, Nat.gcd a b = g := ⟨_, rfl⟩
  obtain ⟨k, hk⟩ : ∃ k, Nat.gcd c d = k := ⟨_, rfl⟩
  rw [hg] at hlow hg0 HG
  rw [hk] at hlow hk0 HK
  obtain ⟨a1, ha1⟩ : ∃ q, a / g = q := ⟨_, rfl⟩
  obtain ⟨b1, hb1⟩ : ∃ q, b / g = q := ⟨_, rfl⟩
  obtain ⟨c1, hc1⟩ : ∃ q, c / k = q := ⟨_, rfl⟩
  obtain ⟨d1, hd1⟩ : ∃ q, d / k = q := ⟨_, rfl⟩
  rw [ha1, hb1, hc1, hd1] at hlow
  obtain ⟨⟨qa, qa'⟩, va⟩ := quo_facts hg0 (by omega) ha1
  obtain ⟨⟨qb, qb'⟩, vb⟩ := quo_facts hg0 (by omega) hb1
  obtain ⟨⟨qc, qc'⟩, vc⟩ := quo_facts hk0 (by omega) hc1
  obtain ⟨⟨qd, qd'⟩, vd⟩ := quo_facts hk0 (by omega) hd1
  have n1 : ¬ (g : Int) = 0 := by omega
  have n2 : ((g : Int) == 0) = false := beq_false_of_ne n1
  have n3 : ¬ g = 0 := by omega
  have n4 : (g == 0) = false := beq_false_of_ne n3
  have n5 : ¬ (k : Int) = 0 := by omega
  have n6 : ((k : Int) == 0) = false := beq_false_of_ne n5
  have n7 : ¬ k = 0 := by omega
  have n8 : (k == 0) = false := beq_false_of_ne n7
  have e1 : m.2 - p.2 = (a : Int) := ha.symm
  have e2 : m.1 - p.1 = (b : Int) := hb.symm
  have e3 : n.2 - p.2 = (c : Int) := hc.symm
  have e4 : n.1 - p.1 = (d : Int) := hd.symm
  have v1 : IntKind.i64.wrap (a : Int) = (a : Int) := wrap_id (by omega)
  have v2 : IntKind.i64.wrap (b : Int) = (b : Int) := wrap_id (by omega)
  have v3 : IntKind.i64.wrap (c : Int) = (c : Int) := wrap_id (by omega)
  have v4 : IntKind.i64.wrap (d : Int) = (d : Int) := wrap_id (by omega)
  rw [hlow]
  obtain ⟨R, hR⟩ : ∃ R, (decide (a1 = c1) && decide (b1 = d1)) = R := ⟨_, rfl⟩
  rw [hR]
  have HRR := Lib.hid hR
  clear hR hlow ha hb hc hd h1 h2 h3 h4 h5 h6 h7 h8 hg hk ha1 hb1 hc1 hd1 hg0 hk0
  go_enter Try.func34, Try.ntmps34
  go_upto_region 1 with fail
  obtain ⟨w1, hw1⟩ : ∃ W, ((w.alloc (.cells #[.int .i64 p.1, .int .i64 p.2] 41)).alloc (.cells #[.int .i64 m.1, .int .i64 m.2] 41)).alloc (.cells #[.int .i64 n.1, .int .i64 n.2] 41) = W := ⟨_, rfl⟩
  have H1 : Hid (Cel w1 w.heap.size [.int .i64 p.1, .int .i64 p.2]) := hw1 ▸ ((Cel.new w [.int .i64 p.1, .int .i64 p.2] _).alloc _).alloc _
  have H2 : Hid (Cel w1 (w.heap.size + 1) [.int .i64 m.1, .int .i64 m.2]) := hw1 ▸ (Cel.new_at _ [.int .i64 m.1, .int .i64 m.2] _ (by simp)).alloc _
  have H3 : Hid (Cel w1 (w.heap.size + 1 + 1) [.int .i64 n.1, .int .i64 n.2]) := hw1 ▸ Cel.new_at _ [.int .i64 n.1, .int .i64 n.2] _ (by simp)
  have HB1 : Hid (Below w.heap.size w w1) := hw1 ▸ bstep (bstep (below_alloc _ _) (below_alloc _ _)) (below_alloc _ _)
  rw [hw1]
  clear hw1
  obtain ⟨x0, x1⟩ := H1.out.two
  obtain ⟨x2, x3⟩ := H2.out.two
  obtain ⟨x4, x5⟩ := H3.out.two
  go_quiet (fail)
  have HB2 := Lib.hid (below_drewN HB1.out nq)
  generalize hw2 : w1.drewN nq = w2 at HB2
  clear hw2 x0 x1 x2 x3 x4 x5 e1 e2 e3 e4
  by_cases h1 : a1 = c1
  · have t1 : ((a1 : Int) == (c1 : Int)) = true := by simp [h1]
    have t1' : decide (a1 = c1) = true := decide_eq_true h1
    have t2 : ((b1 : Int) == (d1 : Int)) = decide (b1 = d1) := by rw [Bool.eq_iff_iff]; simp; omega
    have hr := HRR.out
    rw [t1', Bool.true_and] at hr
    rw [hr] at t2
    clear hr h1 t1'
    go_wp2_with fail
    go_quiet ((go_at_call 38; first | (with_reducible exact HG.out w2 _) | (with_reducible exact HK.out w2 _)))
    go_wp2_with fail
    go_ret
    exact ⟨rfl, below_drewN HB2.out _⟩
  · have t1 : ((a1 : Int) == (c1 : Int)) = false := beq_false_of_ne (by omega)
    have t1' : decide (a1 = c1) = false := decide_eq_false h1
    have hr := HRR.out
    rw [t1', Bool.false_and] at hr
    subst hr
    clear h1 t1'
    go_wp2_with fail
    go_quiet ((go_at_call 38; first | (with_reducible exact HG.out w2 _) | (with_reducible exact HK.out w2 _)))
    go_wp2_with fail
    go_ret
    exact ⟨rfl, below_drewN HB2.out _⟩
#print axioms ref_line
end Go.Proofs.Ytkbnhmgladkojaa.Align
