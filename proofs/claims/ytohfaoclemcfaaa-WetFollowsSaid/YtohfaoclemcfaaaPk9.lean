/- Several texts in one: RatG, RatH, RatI, RatJ, RatK. -/
import Derived.Test.YtohfaoclemcfaaaPk8
import Derived.LoopN
import Derived.StillTailTactics
/- The contract of Valid of the reference. -/
namespace Go.Proofs.Ytohfaoclemcfaaa
open Go.ChangeShapes Go.WideShapes Go.RowKit
set_option linter.unusedVariables false
set_option maxRecDepth 100000

theorem ref_valid_in (xs : List Int) (va : Value) (w : World) (ha : In w va xs) : Calls Try.prog 44 #[va] w fun e w' => e = .returned (.bool (validB xs)) ∧ w = w' := by
  obtain ⟨A, c, rfl, hc, hm, hA⟩ := ha
  exact ref_Valid xs A c _ _ w hA (Nat.le_trans hc hm)

set_option maxHeartbeats 1600000 in
theorem ref_Valid3 (v : Value) (b : Bool) (xs ys : List Int) (w : World) (ha : InR w v b xs ys) :
    Calls Try.prog 23 #[v] w fun e w' => e = .returned (.bool (valR b xs ys)) ∧ Below w.heap.size w w' := by
  obtain ⟨vp, vq, rfl, ha, hb⟩ := ha
  obtain ⟨A, c, rfl, ha'⟩ := in_open ha
  obtain ⟨B, d, rfl, hb'⟩ := in_open hb
  have HA := Lib.hid ha'
  have HB := Lib.hid hb'
  have HC := Lib.hid (Cel.new w (.bool b) (.slice A xs.length c) (.slice B ys.length d) 27)
  have hm1 : xs.length ≤ 9223372036854775807 := by obtain ⟨_, _, e, h1, h2, _⟩ := ha'; cases e; exact Nat.le_trans h1 h2
  have hm2 : ys.length ≤ 9223372036854775807 := by obtain ⟨_, _, e, h1, h2, _⟩ := hb'; cases e; exact Nat.le_trans h1 h2
  have V1 := Lib.hid (fun W h => ref_valid_in xs (.slice A xs.length c) W h)
  have V2 := Lib.hid (fun W h => ref_valid_in ys (.slice B ys.length d) W h)
  have PG := Lib.hid (fun W h k => ref_Gcd xs ys (.slice A xs.length c) (.slice B ys.length d) W h k)
  clear ha hb ha' hb'
  cases hx : validB xs with
  | false =>
    have HV : Hid (valR b xs ys = false) := by rw [Hid, valR, hx]; rfl
    rw [hx] at V1
    clear hx
    go_enter Try.func23, Try.ntmps23
    go_wp2_with fail
    refine (V1.out _ (HA.out.alloc _)).mono ?_
    rintro e w1 ⟨rfl, rfl⟩
    go_wp2_with fail
    go_ret
    exact ⟨by rw [HV.out]; rfl, below_alloc _ _⟩
  | true =>
    cases hy : validB ys with
    | false =>
      have HV : Hid (valR b xs ys = false) := by rw [Hid, valR, hx, hy]; rfl
      rw [hx] at V1
      rw [hy] at V2
      clear hx hy
      go_enter Try.func23, Try.ntmps23
      go_wp2_with fail
      refine (V1.out _ (HA.out.alloc _)).mono ?_
      rintro e w1 ⟨rfl, rfl⟩
      go_wp2_with fail
      refine (V2.out _ (HB.out.alloc _)).mono ?_
      rintro e w1 ⟨rfl, rfl⟩
      go_wp2_with fail
      go_ret
      exact ⟨by rw [HV.out]; rfl, below_alloc _ _⟩
    | true =>
      have hbo : both xs ys = true := by rw [both, hx, hy]; rfl
      have HV := Lib.hid (valR_yes (b := b) hbo)
      have e1 : formE xs ys = 0 := by rw [formE, hbo]; rfl
      have e2 : gcdN xs ys = Nat.gcd (nval xs).toNat (nval ys).toNat := by rw [gcdN, hbo]; rfl
      rw [e1, e2] at PG
      obtain ⟨G, hG⟩ : ∃ G, G = Nat.gcd (nval xs).toNat (nval ys).toNat := ⟨_, rfl⟩
      rw [← hG] at PG HV
      rw [hx] at V1
      rw [hy] at V2
      clear hbo e1 e2 hG hx hy
      rcases Nat.eq_zero_or_pos ys.length with h0 | hp
      · have HV2 : Hid (valR b xs ys = false) := by rw [Hid, HV.out, emp_len, h0]; rfl
        have hn : ys = [] := List.eq_nil_of_length_eq_zero h0
        subst hn
        clear h0
        go_enter Try.func23, Try.ntmps23
        go_wp2_with fail
        refine (V1.out _ (HA.out.alloc _)).mono ?_
        rintro e w1 ⟨rfl, rfl⟩
        go_wp2_with fail
        refine (V2.out _ (HB.out.alloc _)).mono ?_
        rintro e w1 ⟨rfl, rfl⟩
        go_wp2_with fail
        go_ret
        exact ⟨by rw [HV2.out]; rfl, below_alloc _ _⟩
      · have hne : ((ys.length : Int) == 0) = false := beq_false_of_ne (by omega)
        have hye : ys.isEmpty = false := by rw [emp_len]; exact decide_eq_false (by omega)
        cases hbx : (b && xs.isEmpty) with
        | true =>
          have HV2 : Hid (valR b xs ys = false) := by rw [Hid, HV.out, hbx]; cases (!ys.isEmpty) <;> cases gcd1 G <;> rfl
          simp only [Bool.and_eq_true, List.isEmpty_iff] at hbx
          obtain ⟨rfl, rfl⟩ := hbx
          clear hye
          go_enter Try.func23, Try.ntmps23
          go_wp2_with fail
          refine (V1.out _ (HA.out.alloc _)).mono ?_
          rintro e w1 ⟨rfl, rfl⟩
          go_wp2_with fail
          refine (V2.out _ (HB.out.alloc _)).mono ?_
          rintro e w1 ⟨rfl, rfl⟩
          go_wp2_with fail
          go_ret
          exact ⟨by rw [HV2.out]; rfl, below_alloc _ _⟩
        | false =>
          have HV2 : Hid (valR b xs ys = gcd1 G) := by rw [Hid, HV.out, hbx, hye]; cases gcd1 G <;> rfl
          have hxb : xs.length ≠ 0 ∨ b = false := by
            rw [emp_len] at hbx
            by_cases h : xs.length = 0
            · right; rw [decide_eq_true h, Bool.and_true] at hbx; exact hbx
            · left; exact h
          clear hbx hye
          have hxc : ((xs.length : Int) == 0) = false ∨ (((xs.length : Int) == 0) = true ∧ b = false) := by
            rcases Nat.eq_zero_or_pos xs.length with h | h
            · right; exact ⟨by rw [h]; rfl, hxb.resolve_left (by omega)⟩
            · left; exact beq_false_of_ne (by omega)
          clear hxb
          rcases hxc with hx0 | ⟨hx0, rfl⟩
          all_goals
            go_enter Try.func23, Try.ntmps23
            go_wp2_with fail
            refine (V1.out _ (HA.out.alloc _)).mono ?_
            rintro e w1 ⟨rfl, rfl⟩
            go_wp2_with fail
            refine (V2.out _ (HB.out.alloc _)).mono ?_
            rintro e w1 ⟨rfl, rfl⟩
            go_wp2_with fail
            refine (PG.out _ (HA.out.alloc _) (HB.out.alloc _)).mono ?_
            rintro e w1 ⟨v1, rfl, h1, hb1⟩
            have HI := Lib.hid h1
            have HB1 := Lib.hid hb1
            clear hb1 h1
            go_wp2_with fail
            refine (limbs_in _ [1] _ _ _ (HI.out.alloc _) (in_one _ _ 1)).mono ?_
            rw [limbs_is_one]
            rintro e w2 ⟨rfl, hb2⟩
            have HB2 := Lib.hid hb2
            clear hb2
            go_wp2_with fail
            go_ret
            exact ⟨by rw [HV2.out]; rfl, bstep ((below_alloc _ _).trans (HB1.out.mono (by simp))) ((below_alloc _ _).trans (HB2.out.mono (by simp)))⟩
end Go.Proofs.Ytohfaoclemcfaaa
/- The three steps of rat.sum: closures over its variables. -/
namespace Go.Proofs.Ytohfaoclemcfaaa
open Go.ChangeShapes Go.WideShapes Go.RowKit
set_option linter.unusedVariables false
set_option maxRecDepth 100000

/-- A variable in a block of its own. -/
def One (w : World) (g : Nat) (u : Value) : Prop := w.cell? ⟨g, 0, none⟩ = some u ∧ w.frozen? ⟨g, 0, none⟩ = false
theorem One.lt {w : World} {g : Nat} {u : Value} (h : One w g u) : g < w.heap.size := World.block_lt_of_cell? w _ h.1
theorem One.below {w w' : World} {B g : Nat} {u : Value} (h : One w g u) (hb : Below B w w') (hg : g < B) : One w' g u :=
  ⟨(hb.cell (p := ⟨g, 0, none⟩) hg).trans h.1, (hb.frozen (p := ⟨g, 0, none⟩) hg).trans h.2⟩
theorem One.on {w w' : World} {g : Nat} {u : Value} (h : One w g u) (hb : Below w.heap.size w w') : One w' g u := h.below hb h.lt
theorem One.alloc {w : World} {g : Nat} {u : Value} (h : One w g u) (o : Obj) : One (w.alloc o) g u := h.on (below_alloc w o)
theorem One.new (w : World) (u : Value) (t : TypeId) : One (w.alloc (.cells #[u] t)) w.heap.size u := by
  have hb := heap_alloc_new w (.cells #[u] t)
  exact ⟨by rw [cell_of_row _ _ _ _ _ _ hb]; rfl, frozen_of hb _⟩
theorem One.set {w : World} {g : Nat} {u : Value} (h : One w g u) (v : Value) : One (w.setCell ⟨g, 0, none⟩ v) g v := ⟨set_same h.1 v, by simpa using h.2⟩
theorem One.other {w : World} {g : Nat} {u : Value} (h : One w g u) {p : Addr} (hp : p.block ≠ g) (v : Value) : One (w.setCell p v) g u :=
  ⟨(World.cell?_setCell_other w p _ v (fun e => hp (by rw [e]))).trans h.1, by simpa using h.2⟩
theorem Cel.other {w : World} {g : Nat} {u0 u1 u2 : Value} (h : Cel w g u0 u1 u2) {p : Addr} (hp : p.block ≠ g) (v : Value) : Cel (w.setCell p v) g u0 u1 u2 := by
  obtain ⟨⟨h0, h1, h2⟩, f0, f1, f2⟩ := h
  have k : ∀ i, (w.setCell p v).cell? ⟨g, i, none⟩ = w.cell? ⟨g, i, none⟩ := fun i => World.cell?_setCell_other w p _ v (fun e => hp (by rw [e]))
  exact ⟨⟨(k 0).trans h0, (k 1).trans h1, (k 2).trans h2⟩, by simpa using f0, by simpa using f1, by simpa using f2⟩
theorem Sl.set {w : World} {lo hi : Nat} {v : Value} {zs : List Int} (h : Sl w lo hi v zs) {p : Addr} (hp : p.block < lo ∨ hi ≤ p.block) (x : Value) : Sl (w.setCell p x) lo hi v zs := by
  obtain ⟨A, c, rfl, h1, h2, h3⟩ := h
  exact ⟨A, c, rfl, h1, h2, h3.keep fun k hk1 hk2 => Below.heap_setCell w p x k (fun e => by omega)⟩
def ptr (g : Nat) : Value := .pointer (some ⟨g, 0, none⟩)

set_option maxHeartbeats 800000 in
theorem sum_step1 (B : Nat) (r s : Rat) (hr : fitR r = true) (hs : fitR s = true) (va0 va1 va2 vb0 vb1 vb2 x0 y0 e0 : Value) (w : World)
    (ca : Cel w B va0 va1 va2) (cb : Cel w (B + 1) vb0 vb1 vb2) (cx : One w (B + 3) x0) (cy : One w (B + 4) y0) (ce : One w (B + 8) e0)
    (h1 : In w va1 (topL r)) (h2 : In w va2 (botL r)) (h3 : In w vb1 (topL s)) (h4 : In w vb2 (botL s)) :
    Calls Try.prog 84 #[ptr B, ptr (B + 1), ptr (B + 3), ptr (B + 4), ptr (B + 8)] w fun e w' => e = .returned (.tuple #[]) ∧ ∃ w1 vx vy,
      w' = ((w1.setCell ⟨B + 3, 0, none⟩ vx).setCell ⟨B + 4, 0, none⟩ vy).setCell ⟨B + 8, 0, none⟩ (.int .i64 (okE (prOk r.num.natAbs s.den s.num.natAbs r.den))) ∧ Below w.heap.size w w1 ∧
      Sl w1 w.heap.size w1.heap.size vx (okL (prOk r.num.natAbs s.den s.num.natAbs r.den) (r.num.natAbs * s.den)) ∧ Sl w1 w.heap.size w1.heap.size vy (okL (prOk r.num.natAbs s.den s.num.natAbs r.den) (s.num.natAbs * r.den)) := by
  rw [fitR_iff] at hr hs
  obtain ⟨A1, c1, rfl, h1'⟩ := in_open h1
  obtain ⟨A2, c2, rfl, h2'⟩ := in_open h2
  obtain ⟨A3, c3, rfl, h3'⟩ := in_open h3
  obtain ⟨A4, c4, rfl, h4'⟩ := in_open h4
  have PP := Lib.hid (rat_products _ _ _ _ _ _ _ _ w h1' h4' h3' h2' hr.1 hs.2 hs.1 hr.2)
  have CX := Lib.hid cx
  have CY := Lib.hid cy
  have CE := Lib.hid ce
  obtain ⟨⟨a0, a1, a2⟩, -⟩ := ca
  obtain ⟨⟨b0, b1, b2⟩, -⟩ := cb
  clear h1 h2 h3 h4 h1' h2' h3' h4' hr hs cx cy ce
  unfold ptr
  go_enter Try.func84, Try.ntmps84
  go_wp2_with fail
  refine PP.out.mono ?_
  rintro e w1 ⟨vp, vq, rfl, hp, hq, hb⟩
  obtain ⟨X, x, rfl, hp'⟩ : ∃ X x, vp = .slice X (okL (prOk r.num.natAbs s.den s.num.natAbs r.den) (r.num.natAbs * s.den)).length x ∧ Sl w1 w.heap.size w1.heap.size (.slice X (okL (prOk r.num.natAbs s.den s.num.natAbs r.den) (r.num.natAbs * s.den)).length x) (okL (prOk r.num.natAbs s.den s.num.natAbs r.den) (r.num.natAbs * s.den)) := by
    obtain ⟨A, c, rfl, k⟩ := hp; exact ⟨A, c, rfl, A, c, rfl, k⟩
  obtain ⟨Y, y, rfl, hq'⟩ : ∃ X x, vq = .slice X (okL (prOk r.num.natAbs s.den s.num.natAbs r.den) (s.num.natAbs * r.den)).length x ∧ Sl w1 w.heap.size w1.heap.size (.slice X (okL (prOk r.num.natAbs s.den s.num.natAbs r.den) (s.num.natAbs * r.den)).length x) (okL (prOk r.num.natAbs s.den s.num.natAbs r.den) (s.num.natAbs * r.den)) := by
    obtain ⟨A, c, rfl, k⟩ := hq; exact ⟨A, c, rfl, A, c, rfl, k⟩
  have HP := Lib.hid hp'
  have HQ := Lib.hid hq'
  have HB := Lib.hid hb
  obtain ⟨k1, k2⟩ := CX.out.on hb
  obtain ⟨k3, k4⟩ := CY.out.on hb
  obtain ⟨k5, k6⟩ := CE.out.on hb
  clear hp hq hp' hq' hb
  go_wp2_with fail
  go_end0
  exact ⟨rfl, w1, _, _, rfl, HB.out, HP.out, HQ.out⟩

set_option maxHeartbeats 800000 in
theorem sum_step2 (B : Nat) (r s : Rat) (hr : fitR r = true) (hs : fitR s = true) (va0 va1 va2 vb0 vb1 vb2 q0 e0 : Value) (w : World)
    (ca : Cel w B va0 va1 va2) (cb : Cel w (B + 1) vb0 vb1 vb2) (cq : One w (B + 6) q0) (ce : One w (B + 8) e0)
    (h2 : In w va2 (botL r)) (h4 : In w vb2 (botL s)) :
    Calls Try.prog 85 #[ptr B, ptr (B + 1), ptr (B + 6), ptr (B + 8)] w fun e w' => e = .returned (.tuple #[]) ∧ ∃ w1 vq,
      w' = (w1.setCell ⟨B + 6, 0, none⟩ vq).setCell ⟨B + 8, 0, none⟩ (.int .i64 (okE (decide (r.den * s.den < big48)))) ∧ Below w.heap.size w w1 ∧
      Sl w1 w.heap.size w1.heap.size vq (okL (decide (r.den * s.den < big48)) (r.den * s.den)) := by
  rw [fitR_iff] at hr hs
  obtain ⟨A2, c2, rfl, h2'⟩ := in_open h2
  obtain ⟨A4, c4, rfl, h4'⟩ := in_open h4
  have PP := Lib.hid (nat_Mul_in _ _ _ _ w h2' h4' hr.2 hs.2)
  have CQ := Lib.hid cq
  have CE := Lib.hid ce
  obtain ⟨⟨a0, a1, a2⟩, -⟩ := ca
  obtain ⟨⟨b0, b1, b2⟩, -⟩ := cb
  clear h2 h4 h2' h4' hr hs cq ce
  unfold ptr
  go_enter Try.func85, Try.ntmps85
  go_wp2_with fail
  refine PP.out.mono ?_
  rintro e w1 ⟨vp, rfl, hp, hb⟩
  obtain ⟨X, x, rfl, hp'⟩ : ∃ X x, vp = .slice X (okL (decide (r.den * s.den < big48)) (r.den * s.den)).length x ∧ Sl w1 w.heap.size w1.heap.size (.slice X (okL (decide (r.den * s.den < big48)) (r.den * s.den)).length x) (okL (decide (r.den * s.den < big48)) (r.den * s.den)) := by
    obtain ⟨A, c, rfl, k⟩ := hp; exact ⟨A, c, rfl, A, c, rfl, k⟩
  have HP := Lib.hid hp'
  have HB := Lib.hid hb
  obtain ⟨k1, k2⟩ := CQ.out.on hb
  obtain ⟨k5, k6⟩ := CE.out.on hb
  clear hp hp' hb
  go_wp2_with fail
  go_end0
  exact ⟨rfl, w1, _, rfl, HB.out, HP.out⟩

set_option maxHeartbeats 800000 in
theorem sum_step3 (B : Nat) (m n : Bool) (x y : Nat) (hx : x < big48) (hy : y < big48) (va1 va2 vb1 vb2 vx vy n0 p0 e0 : Value) (w : World)
    (ca : Cel w B (.bool m) va1 va2) (cb : Cel w (B + 1) (.bool n) vb1 vb2) (cx : One w (B + 3) vx) (cy : One w (B + 4) vy) (cn : One w (B + 7) n0) (cp : One w (B + 5) p0) (ce : One w (B + 8) e0)
    (h1 : In w vx (limbs x)) (h2 : In w vy (limbs y)) :
    Calls Try.prog 86 #[ptr B, ptr (B + 3), ptr (B + 1), ptr (B + 4), ptr (B + 7), ptr (B + 5), ptr (B + 8)] w fun e w' => e = .returned (.tuple #[]) ∧ ∃ w1 vp,
      w' = ((w1.setCell ⟨B + 7, 0, none⟩ (.bool (sNeg m x n y))).setCell ⟨B + 5, 0, none⟩ vp).setCell ⟨B + 8, 0, none⟩ (.int .i64 (okE (ssOk m x n y))) ∧ Below w.heap.size w w1 ∧
      Sl w1 w.heap.size w1.heap.size vp (okL (ssOk m x n y) (sMag m x n y)) := by
  obtain ⟨A1, c1, rfl, h1'⟩ := in_open h1
  obtain ⟨A2, c2, rfl, h2'⟩ := in_open h2
  have PP := Lib.hid (rat_signedSum m n x y _ _ w h1' h2' hx hy)
  have CN := Lib.hid cn
  have CP := Lib.hid cp
  have CE := Lib.hid ce
  obtain ⟨⟨a0, a1, a2⟩, -⟩ := ca
  obtain ⟨⟨b0, b1, b2⟩, -⟩ := cb
  obtain ⟨x0, -⟩ := cx
  obtain ⟨y0, -⟩ := cy
  clear h1 h2 h1' h2' hx hy cn cp ce
  unfold ptr
  go_enter Try.func86, Try.ntmps86
  go_wp2_with fail
  refine PP.out.mono ?_
  rintro e w1 ⟨vp, rfl, hp, hb⟩
  obtain ⟨X, x', rfl, hp'⟩ : ∃ X x', vp = .slice X (okL (ssOk m x n y) (sMag m x n y)).length x' ∧ Sl w1 w.heap.size w1.heap.size (.slice X (okL (ssOk m x n y) (sMag m x n y)).length x') (okL (ssOk m x n y) (sMag m x n y)) := by
    obtain ⟨A, c, rfl, k⟩ := hp; exact ⟨A, c, rfl, A, c, rfl, k⟩
  have HP := Lib.hid hp'
  have HB := Lib.hid hb
  obtain ⟨k1, k2⟩ := CN.out.on hb
  obtain ⟨k3, k4⟩ := CP.out.on hb
  obtain ⟨k5, k6⟩ := CE.out.on hb
  clear hp hp' hb
  go_wp2_with fail
  go_end0
  exact ⟨rfl, w1, _, rfl, HB.out, HP.out⟩
end Go.Proofs.Ytohfaoclemcfaaa
/- The contract of rat.sum. -/
namespace Go.Proofs.Ytohfaoclemcfaaa
open Go.ChangeShapes Go.WideShapes Go.RowKit
set_option linter.unusedVariables false
set_option maxRecDepth 100000

theorem sumOk_eq (r s : Rat) : sumOk r s = (prOk r.num.natAbs s.den s.num.natAbs r.den && (decide (r.den * s.den < big48) && ssOk (negR r) (r.num.natAbs * s.den) (negR s) (s.num.natAbs * r.den))) := by
  unfold sumOk prOk ssOk; rw [Bool.and_assoc]

/-- The variables of rat.sum: ten blocks from B on. -/
def Fr (W : World) (B : Nat) (a0 a1 a2 b0 b1 b2 x y p q n e f1 f2 f3 : Value) : Prop :=
  (Cel W B a0 a1 a2 ∧ Cel W (B + 1) b0 b1 b2 ∧ Cel W (B + 2) (.bool false) (.slice none 0 0) (.slice none 0 0)) ∧ (One W (B + 3) x ∧ One W (B + 4) y ∧ One W (B + 5) p ∧ One W (B + 6) q ∧ One W (B + 7) n ∧ One W (B + 8) e) ∧ Cel W (B + 9) f1 f2 f3
section
variable {w W w' : World} {B : Nat} {a0 a1 a2 b0 b1 b2 x y p q n e f1 f2 f3 : Value}
theorem Fr.on (h : Fr W B a0 a1 a2 b0 b1 b2 x y p q n e f1 f2 f3) (hb : Below W.heap.size W w') : Fr w' B a0 a1 a2 b0 b1 b2 x y p q n e f1 f2 f3 := by
  obtain ⟨⟨h1, h2, h3⟩, ⟨g1, g2, g3, g4, g5, g6⟩, h4⟩ := h
  exact ⟨⟨h1.on hb, h2.on hb, h3.on hb⟩, ⟨g1.on hb, g2.on hb, g3.on hb, g4.on hb, g5.on hb, g6.on hb⟩, h4.on hb⟩
theorem Fr.set_x (h : Fr W B a0 a1 a2 b0 b1 b2 x y p q n e f1 f2 f3) (v : Value) : Fr (W.setCell ⟨B + 3, 0, none⟩ v) B a0 a1 a2 b0 b1 b2 v y p q n e f1 f2 f3 := by
  obtain ⟨⟨h1, h2, h3⟩, ⟨g1, g2, g3, g4, g5, g6⟩, h4⟩ := h
  exact ⟨⟨h1.other (by show B + 3 ≠ B; omega) v, h2.other (by show B + 3 ≠ B + 1; omega) v, h3.other (by show B + 3 ≠ B + 2; omega) v⟩, ⟨g1.set v, g2.other (by show B + 3 ≠ B + 4; omega) v, g3.other (by show B + 3 ≠ B + 5; omega) v, g4.other (by show B + 3 ≠ B + 6; omega) v, g5.other (by show B + 3 ≠ B + 7; omega) v, g6.other (by show B + 3 ≠ B + 8; omega) v⟩, h4.other (by show B + 3 ≠ B + 9; omega) v⟩
theorem Fr.set_y (h : Fr W B a0 a1 a2 b0 b1 b2 x y p q n e f1 f2 f3) (v : Value) : Fr (W.setCell ⟨B + 4, 0, none⟩ v) B a0 a1 a2 b0 b1 b2 x v p q n e f1 f2 f3 := by
  obtain ⟨⟨h1, h2, h3⟩, ⟨g1, g2, g3, g4, g5, g6⟩, h4⟩ := h
  exact ⟨⟨h1.other (by show B + 4 ≠ B; omega) v, h2.other (by show B + 4 ≠ B + 1; omega) v, h3.other (by show B + 4 ≠ B + 2; omega) v⟩, ⟨g1.other (by show B + 4 ≠ B + 3; omega) v, g2.set v, g3.other (by show B + 4 ≠ B + 5; omega) v, g4.other (by show B + 4 ≠ B + 6; omega) v, g5.other (by show B + 4 ≠ B + 7; omega) v, g6.other (by show B + 4 ≠ B + 8; omega) v⟩, h4.other (by show B + 4 ≠ B + 9; omega) v⟩
theorem Fr.set_p (h : Fr W B a0 a1 a2 b0 b1 b2 x y p q n e f1 f2 f3) (v : Value) : Fr (W.setCell ⟨B + 5, 0, none⟩ v) B a0 a1 a2 b0 b1 b2 x y v q n e f1 f2 f3 := by
  obtain ⟨⟨h1, h2, h3⟩, ⟨g1, g2, g3, g4, g5, g6⟩, h4⟩ := h
  exact ⟨⟨h1.other (by show B + 5 ≠ B; omega) v, h2.other (by show B + 5 ≠ B + 1; omega) v, h3.other (by show B + 5 ≠ B + 2; omega) v⟩, ⟨g1.other (by show B + 5 ≠ B + 3; omega) v, g2.other (by show B + 5 ≠ B + 4; omega) v, g3.set v, g4.other (by show B + 5 ≠ B + 6; omega) v, g5.other (by show B + 5 ≠ B + 7; omega) v, g6.other (by show B + 5 ≠ B + 8; omega) v⟩, h4.other (by show B + 5 ≠ B + 9; omega) v⟩
theorem Fr.set_q (h : Fr W B a0 a1 a2 b0 b1 b2 x y p q n e f1 f2 f3) (v : Value) : Fr (W.setCell ⟨B + 6, 0, none⟩ v) B a0 a1 a2 b0 b1 b2 x y p v n e f1 f2 f3 := by
  obtain ⟨⟨h1, h2, h3⟩, ⟨g1, g2, g3, g4, g5, g6⟩, h4⟩ := h
  exact ⟨⟨h1.other (by show B + 6 ≠ B; omega) v, h2.other (by show B + 6 ≠ B + 1; omega) v, h3.other (by show B + 6 ≠ B + 2; omega) v⟩, ⟨g1.other (by show B + 6 ≠ B + 3; omega) v, g2.other (by show B + 6 ≠ B + 4; omega) v, g3.other (by show B + 6 ≠ B + 5; omega) v, g4.set v, g5.other (by show B + 6 ≠ B + 7; omega) v, g6.other (by show B + 6 ≠ B + 8; omega) v⟩, h4.other (by show B + 6 ≠ B + 9; omega) v⟩
theorem Fr.set_n (h : Fr W B a0 a1 a2 b0 b1 b2 x y p q n e f1 f2 f3) (v : Value) : Fr (W.setCell ⟨B + 7, 0, none⟩ v) B a0 a1 a2 b0 b1 b2 x y p q v e f1 f2 f3 := by
  obtain ⟨⟨h1, h2, h3⟩, ⟨g1, g2, g3, g4, g5, g6⟩, h4⟩ := h
  exact ⟨⟨h1.other (by show B + 7 ≠ B; omega) v, h2.other (by show B + 7 ≠ B + 1; omega) v, h3.other (by show B + 7 ≠ B + 2; omega) v⟩, ⟨g1.other (by show B + 7 ≠ B + 3; omega) v, g2.other (by show B + 7 ≠ B + 4; omega) v, g3.other (by show B + 7 ≠ B + 5; omega) v, g4.other (by show B + 7 ≠ B + 6; omega) v, g5.set v, g6.other (by show B + 7 ≠ B + 8; omega) v⟩, h4.other (by show B + 7 ≠ B + 9; omega) v⟩
theorem Fr.set_e (h : Fr W B a0 a1 a2 b0 b1 b2 x y p q n e f1 f2 f3) (v : Value) : Fr (W.setCell ⟨B + 8, 0, none⟩ v) B a0 a1 a2 b0 b1 b2 x y p q n v f1 f2 f3 := by
  obtain ⟨⟨h1, h2, h3⟩, ⟨g1, g2, g3, g4, g5, g6⟩, h4⟩ := h
  exact ⟨⟨h1.other (by show B + 8 ≠ B; omega) v, h2.other (by show B + 8 ≠ B + 1; omega) v, h3.other (by show B + 8 ≠ B + 2; omega) v⟩, ⟨g1.other (by show B + 8 ≠ B + 3; omega) v, g2.other (by show B + 8 ≠ B + 4; omega) v, g3.other (by show B + 8 ≠ B + 5; omega) v, g4.other (by show B + 8 ≠ B + 6; omega) v, g5.other (by show B + 8 ≠ B + 7; omega) v, g6.set v⟩, h4.other (by show B + 8 ≠ B + 9; omega) v⟩
/-- What lies behind the variables stays. -/
def Keep (W w' : World) (lo : Nat) : Prop := W.heap.size ≤ w'.heap.size ∧ ∀ v zs, Sl W lo W.heap.size v zs → Sl w' lo w'.heap.size v zs
theorem Keep.below {lo : Nat} (hb : Below W.heap.size W w') : Keep W w' lo := ⟨hb.size, fun v zs h => (h.below hb (Nat.le_refl _)).more (Nat.le_refl _) hb.size⟩
theorem Keep.set {lo : Nat} (h : Keep W w' lo) {a : Addr} (ha : a.block < lo) (v : Value) : Keep W (w'.setCell a v) lo :=
  ⟨by simpa using h.1, fun u zs hu => by simpa using (h.2 u zs hu).set (Or.inl ha) v⟩
theorem sl_size {lo : Nat} {v : Value} {zs : List Int} {a : Addr} {u : Value} (h : Sl W lo W.heap.size v zs) (ha : a.block < lo) : Sl (W.setCell a u) lo (W.setCell a u).heap.size v zs := by
  simpa using h.set (Or.inl ha) u
theorem below_set {a : Addr} (h : Below B w W) (ha : B ≤ a.block) (v : Value) : Below B w (W.setCell a v) := h.setCell ha v
end

/-- The world in which the steps begin. -/
theorem sum_start (w : World) (a0 a1 a2 b0 b1 b2 f1 f2 f3 : Value) (t1 t2 t3 t4 t5 : TypeId) :
    Fr ((((((((((w.alloc (.cells #[a0, a1, a2] t1)).alloc (.cells #[b0, b1, b2] t1)).alloc (.cells #[.bool false, .slice none 0 0, .slice none 0 0] t1)).alloc (.cells #[.slice none 0 0] t2)).alloc (.cells #[.slice none 0 0] t2)).alloc (.cells #[.slice none 0 0] t2)).alloc (.cells #[.slice none 0 0] t2)).alloc (.cells #[.bool false] t3)).alloc (.cells #[.int .i64 0] t4)).alloc (.cells #[f1, f2, f3] t5))
      w.heap.size a0 a1 a2 b0 b1 b2 (.slice none 0 0) (.slice none 0 0) (.slice none 0 0) (.slice none 0 0) (.bool false) (.int .i64 0) f1 f2 f3 := by
  have cn : ∀ (W : World) (u0 u1 u2 : Value) (t : TypeId) (g : Nat), g = W.heap.size → Cel (W.alloc (.cells #[u0, u1, u2] t)) g u0 u1 u2 := fun W u0 u1 u2 t g h => h ▸ Cel.new W u0 u1 u2 t
  have on : ∀ (W : World) (u : Value) (t : TypeId) (g : Nat), g = W.heap.size → One (W.alloc (.cells #[u] t)) g u := fun W u t g h => h ▸ One.new W u t
  refine ⟨⟨?_, ?_, ?_⟩, ⟨?_, ?_, ?_, ?_, ?_, ?_⟩, ?_⟩
  · exact (((((((((cn _ _ _ _ _ _ rfl).alloc _).alloc _).alloc _).alloc _).alloc _).alloc _).alloc _).alloc _).alloc _
  · exact ((((((((cn _ _ _ _ _ _ (by simp)).alloc _).alloc _).alloc _).alloc _).alloc _).alloc _).alloc _).alloc _
  · exact (((((((cn _ _ _ _ _ _ (by simp)).alloc _).alloc _).alloc _).alloc _).alloc _).alloc _).alloc _
  · exact ((((((on _ _ _ _ (by simp)).alloc _).alloc _).alloc _).alloc _).alloc _).alloc _
  · exact (((((on _ _ _ _ (by simp)).alloc _).alloc _).alloc _).alloc _).alloc _
  · exact ((((on _ _ _ _ (by simp)).alloc _).alloc _).alloc _).alloc _
  · exact (((on _ _ _ _ (by simp)).alloc _).alloc _).alloc _
  · exact ((on _ _ _ _ (by simp)).alloc _).alloc _
  · exact (on _ _ _ _ (by simp)).alloc _
  · exact cn _ _ _ _ _ _ (by simp)

section
variable {w W : World} {B : Nat} {r s : Rat} {va0 va1 va2 vb0 vb1 vb2 x y p q n e f1 f2 f3 : Value}
theorem sum_go1 (hr : fitR r = true) (hs : fitR s = true) (F : Fr W B va0 va1 va2 vb0 vb1 vb2 x y p q n e f1 f2 f3) (hB : B + 10 ≤ W.heap.size) (hbel : Below B w W)
    (h1 : In W va1 (topL r)) (h2 : In W va2 (botL r)) (h3 : In W vb1 (topL s)) (h4 : In W vb2 (botL s)) :
    Calls Try.prog 84 #[ptr B, ptr (B + 1), ptr (B + 3), ptr (B + 4), ptr (B + 8)] W fun e' w' => e' = .returned (.tuple #[]) ∧ ∃ vx vy,
      Fr w' B va0 va1 va2 vb0 vb1 vb2 vx vy p q n (.int .i64 (okE (prOk r.num.natAbs s.den s.num.natAbs r.den))) f1 f2 f3 ∧ Below B w w' ∧ Keep W w' (B + 10) ∧
      Sl w' (B + 10) w'.heap.size vx (okL (prOk r.num.natAbs s.den s.num.natAbs r.den) (r.num.natAbs * s.den)) ∧ Sl w' (B + 10) w'.heap.size vy (okL (prOk r.num.natAbs s.den s.num.natAbs r.den) (s.num.natAbs * r.den)) := by
  obtain ⟨⟨c1, c2, c3⟩, ⟨g1, g2, g3, g4, g5, g6⟩, c4⟩ := F
  have F : Fr W B va0 va1 va2 vb0 vb1 vb2 x y p q n e f1 f2 f3 := ⟨⟨c1, c2, c3⟩, ⟨g1, g2, g3, g4, g5, g6⟩, c4⟩
  refine (sum_step1 B r s hr hs _ _ _ _ _ _ _ _ _ W c1 c2 g1 g2 g6 h1 h2 h3 h4).mono ?_
  rintro e' w' ⟨rfl, w1, vx, vy, rfl, hb, hx, hy⟩
  have l3 : B + 3 < B + 10 := by omega
  have l4 : B + 4 < B + 10 := by omega
  have l8 : B + 8 < B + 10 := by omega
  refine ⟨rfl, vx, vy, (((F.on hb).set_x vx).set_y vy).set_e _, ?_, (((Keep.below hb).set (a := ⟨B + 3, 0, none⟩) l3 _).set (a := ⟨B + 4, 0, none⟩) l4 _).set (a := ⟨B + 8, 0, none⟩) l8 _, ?_, ?_⟩
  · exact (((hbel.trans (hb.mono (by omega))).setCell (p := ⟨B + 3, 0, none⟩) (by show B ≤ B + 3; omega) _).setCell (p := ⟨B + 4, 0, none⟩) (by show B ≤ B + 4; omega) _).setCell (p := ⟨B + 8, 0, none⟩) (by show B ≤ B + 8; omega) _
  · exact sl_size (sl_size (sl_size (hx.more hB (Nat.le_refl _)) l3) l4) l8
  · exact sl_size (sl_size (sl_size (hy.more hB (Nat.le_refl _)) l3) l4) l8
theorem sum_go2 (hr : fitR r = true) (hs : fitR s = true) (F : Fr W B va0 va1 va2 vb0 vb1 vb2 x y p q n e f1 f2 f3) (hB : B + 10 ≤ W.heap.size) (hbel : Below B w W)
    (h2 : In W va2 (botL r)) (h4 : In W vb2 (botL s)) :
    Calls Try.prog 85 #[ptr B, ptr (B + 1), ptr (B + 6), ptr (B + 8)] W fun e' w' => e' = .returned (.tuple #[]) ∧ ∃ vq,
      Fr w' B va0 va1 va2 vb0 vb1 vb2 x y p vq n (.int .i64 (okE (decide (r.den * s.den < big48)))) f1 f2 f3 ∧ Below B w w' ∧ Keep W w' (B + 10) ∧
      Sl w' (B + 10) w'.heap.size vq (okL (decide (r.den * s.den < big48)) (r.den * s.den)) := by
  obtain ⟨⟨c1, c2, c3⟩, ⟨g1, g2, g3, g4, g5, g6⟩, c4⟩ := F
  have F : Fr W B va0 va1 va2 vb0 vb1 vb2 x y p q n e f1 f2 f3 := ⟨⟨c1, c2, c3⟩, ⟨g1, g2, g3, g4, g5, g6⟩, c4⟩
  refine (sum_step2 B r s hr hs _ _ _ _ _ _ _ _ W c1 c2 g4 g6 h2 h4).mono ?_
  rintro e' w' ⟨rfl, w1, vq, rfl, hb, hq⟩
  have l6 : B + 6 < B + 10 := by omega
  have l8 : B + 8 < B + 10 := by omega
  refine ⟨rfl, vq, ((F.on hb).set_q vq).set_e _, ?_, ((Keep.below hb).set (a := ⟨B + 6, 0, none⟩) l6 _).set (a := ⟨B + 8, 0, none⟩) l8 _, ?_⟩
  · exact ((hbel.trans (hb.mono (by omega))).setCell (p := ⟨B + 6, 0, none⟩) (by show B ≤ B + 6; omega) _).setCell (p := ⟨B + 8, 0, none⟩) (by show B ≤ B + 8; omega) _
  · exact sl_size (sl_size (hq.more hB (Nat.le_refl _)) l6) l8
theorem sum_go3 {i j : Bool} {k l : Nat} (hk : k < big48) (hl : l < big48) (F : Fr W B (.bool i) va1 va2 (.bool j) vb1 vb2 x y p q n e f1 f2 f3) (hB : B + 10 ≤ W.heap.size) (hbel : Below B w W)
    (h1 : In W x (limbs k)) (h2 : In W y (limbs l)) :
    Calls Try.prog 86 #[ptr B, ptr (B + 3), ptr (B + 1), ptr (B + 4), ptr (B + 7), ptr (B + 5), ptr (B + 8)] W fun e' w' => e' = .returned (.tuple #[]) ∧ ∃ vp,
      Fr w' B (.bool i) va1 va2 (.bool j) vb1 vb2 x y vp q (.bool (sNeg i k j l)) (.int .i64 (okE (ssOk i k j l))) f1 f2 f3 ∧ Below B w w' ∧ Keep W w' (B + 10) ∧
      Sl w' (B + 10) w'.heap.size vp (okL (ssOk i k j l) (sMag i k j l)) := by
  obtain ⟨⟨c1, c2, c3⟩, ⟨g1, g2, g3, g4, g5, g6⟩, c4⟩ := F
  have F : Fr W B (.bool i) va1 va2 (.bool j) vb1 vb2 x y p q n e f1 f2 f3 := ⟨⟨c1, c2, c3⟩, ⟨g1, g2, g3, g4, g5, g6⟩, c4⟩
  refine (sum_step3 B i j k l hk hl _ _ _ _ _ _ _ _ _ W c1 c2 g1 g2 g5 g3 g6 h1 h2).mono ?_
  rintro e' w' ⟨rfl, w1, vp, rfl, hb, hp⟩
  have l7 : B + 7 < B + 10 := by omega
  have l5 : B + 5 < B + 10 := by omega
  have l8 : B + 8 < B + 10 := by omega
  refine ⟨rfl, vp, (((F.on hb).set_n _).set_p vp).set_e _, ?_, (((Keep.below hb).set (a := ⟨B + 7, 0, none⟩) l7 _).set (a := ⟨B + 5, 0, none⟩) l5 _).set (a := ⟨B + 8, 0, none⟩) l8 _, ?_⟩
  · exact (((hbel.trans (hb.mono (by omega))).setCell (p := ⟨B + 7, 0, none⟩) (by show B ≤ B + 7; omega) _).setCell (p := ⟨B + 5, 0, none⟩) (by show B ≤ B + 5; omega) _).setCell (p := ⟨B + 8, 0, none⟩) (by show B ≤ B + 8; omega) _
  · exact sl_size (sl_size (sl_size (hp.more hB (Nat.le_refl _)) l7) l5) l8
end
end Go.Proofs.Ytohfaoclemcfaaa
/- The contract of rat.sum. -/
namespace Go.Proofs.Ytohfaoclemcfaaa
open Go.ChangeShapes Go.WideShapes Go.RowKit
set_option linter.unusedVariables false
set_option maxRecDepth 100000

theorem sMag_lt {m n : Bool} {x y : Nat} (hx : x < big48) (hy : y < big48) (h : ssOk m x n y = true) : sMag m x n y < big48 := by
  unfold sMag ssOk at *
  by_cases hmn : m = n
  · subst hmn
    rw [if_pos rfl]
    have : (m != m) = false := by cases m <;> rfl
    rw [this, Bool.false_or] at h
    exact of_decide_eq_true h
  · rw [if_neg hmn]
    split <;> omega
theorem prOk_parts {a b c d : Nat} (h : prOk a b c d = true) : a * b < big48 ∧ c * d < big48 := by
  unfold prOk at h; simpa using h

set_option maxHeartbeats 1600000 in
theorem rat_sum_1 (r s : Rat) (hr : fitR r = true) (hs : fitR s = true) (v u : Value) (w : World) (hv : IsR w v r) (hu : IsR w u s) (ho1 : prOk r.num.natAbs s.den s.num.natAbs r.den = false) :
    Calls Try.prog 75 #[v, u] w (RRes w (okE (sumOk r s)) (r + s)) := by
  obtain ⟨vp, vq, rfl, h1, h2⟩ := hv
  obtain ⟨up, uq, rfl, h3, h4⟩ := hu
  obtain ⟨A1, c1, rfl, h1'⟩ := in_open h1
  obtain ⟨A2, c2, rfl, h2'⟩ := in_open h2
  obtain ⟨A3, c3, rfl, h3'⟩ := in_open h3
  obtain ⟨A4, c4, rfl, h4'⟩ := in_open h4
  have H1 := Lib.hid h1'
  have H2 := Lib.hid h2'
  have H3 := Lib.hid h3'
  have H4 := Lib.hid h4'
  have HR := Lib.hid hr
  have HS := Lib.hid hs
  have hmf : ∀ (fn : Fn) (first cap : Array Value) (w : World), (Instr.makeFunc fn first cap).run Try.prog w = .ok (.func fn first cap) w := fun _ _ _ _ => rfl
  have HO := Lib.hid (sumOk_eq r s)
  clear h1 h2 h3 h4 h1' h2' h3' h4' hr hs
  have HV : Hid (sumOk r s = false) := by rw [Hid, HO.out, ho1]; rfl
  have HO1 := Lib.hid ho1
  clear ho1
  go_enter Try.func75, Try.ntmps75
  go_wp2_with fail
  refine wp_loop_rounds 4 ?_
  rw [rounds_succ]
  go_wp2_with fail
  have hb0 : ∀ o1 o2 o3 o4 o5 o6 o7 o8 o9 o10, Below w.heap.size w ((((((((((w.alloc o1).alloc o2).alloc o3).alloc o4).alloc o5).alloc o6).alloc o7).alloc o8).alloc o9).alloc o10) := fun _ _ _ _ _ _ _ _ _ _ => balloc (balloc (balloc (balloc (balloc (balloc (balloc (balloc (balloc (below_alloc _ _) _) _) _) _) _) _) _) _) _
  refine (sum_go1 (w := w) (B := w.heap.size) HR.out HS.out (sum_start w _ _ _ _ _ _ _ _ _ _ _ _ _ _) (by simp) (hb0 _ _ _ _ _ _ _ _ _ _) (H1.out.on (hb0 _ _ _ _ _ _ _ _ _ _)) (H2.out.on (hb0 _ _ _ _ _ _ _ _ _ _)) (H3.out.on (hb0 _ _ _ _ _ _ _ _ _ _)) (H4.out.on (hb0 _ _ _ _ _ _ _ _ _ _))).mono ?_
  rw [HO1.out]
  rintro e w1 ⟨rfl, vx, vy, F1, hb1, K1, hx1, hy1⟩
  have hz1 : w.heap.size + 10 ≤ w1.heap.size := by have := K1.1; simp at this; omega
  have F := F1
  have HF1 := Lib.hid F1
  have HB1 := Lib.hid hb1
  have HX1 := Lib.hid hx1
  have HY1 := Lib.hid hy1
  clear F1 hb1 K1 hx1 hy1 hb0
  have e8 : w1.cell? ⟨w.heap.size + 1 + 1 + 1 + 1 + 1 + 1 + 1 + 1, 0, none⟩ = some (.int .i64 2) := F.2.1.2.2.2.2.2.1
  have C2 : Cel w1 (w.heap.size + 1 + 1) (.bool false) (.slice none 0 0) (.slice none 0 0) := F.1.2.2
  have HC2 := Lib.hid C2
  obtain ⟨⟨r0, r1, r2⟩, s0, s1, s2⟩ := C2
  clear F
  go_wp2_with fail
  go_region
  go_wp2_with fail
  obtain ⟨⟨z0, z1, z2⟩, -⟩ := HC2.out.put3 (.bool false) (.slice none 0 0) (.slice none 0 0)
  simp only [put3] at z0 z1 z2
  refine bodyPost_ret (v := .tuple #[.agg #[.bool false, .slice none 0 0, .slice none 0 0], .int .i64 2]) (by simp [results, Try.results75, go_sem, z0, z1, z2]) rfl ?_
  rw [HV.out]
  exact ⟨_, rfl, OutR.no (by decide), (below_put3 HB1.out (g := w.heap.size + 1 + 1) (by omega) _ _ _).drew⟩

set_option maxHeartbeats 1600000 in
theorem rat_sum_2 (r s : Rat) (hr : fitR r = true) (hs : fitR s = true) (v u : Value) (w : World) (hv : IsR w v r) (hu : IsR w u s) (ho1 : prOk r.num.natAbs s.den s.num.natAbs r.den = true) (ho2 : decide (r.den * s.den < big48) = false) :
    Calls Try.prog 75 #[v, u] w (RRes w (okE (sumOk r s)) (r + s)) := by
  obtain ⟨vp, vq, rfl, h1, h2⟩ := hv
  obtain ⟨up, uq, rfl, h3, h4⟩ := hu
  obtain ⟨A1, c1, rfl, h1'⟩ := in_open h1
  obtain ⟨A2, c2, rfl, h2'⟩ := in_open h2
  obtain ⟨A3, c3, rfl, h3'⟩ := in_open h3
  obtain ⟨A4, c4, rfl, h4'⟩ := in_open h4
  have H1 := Lib.hid h1'
  have H2 := Lib.hid h2'
  have H3 := Lib.hid h3'
  have H4 := Lib.hid h4'
  have HR := Lib.hid hr
  have HS := Lib.hid hs
  have hmf : ∀ (fn : Fn) (first cap : Array Value) (w : World), (Instr.makeFunc fn first cap).run Try.prog w = .ok (.func fn first cap) w := fun _ _ _ _ => rfl
  have HO := Lib.hid (sumOk_eq r s)
  clear h1 h2 h3 h4 h1' h2' h3' h4' hr hs
  have HV : Hid (sumOk r s = false) := by rw [Hid, HO.out, ho1, ho2]; rfl
  have HO1 := Lib.hid ho1
  have HO2 := Lib.hid ho2
  clear ho1 ho2
  go_enter Try.func75, Try.ntmps75
  go_wp2_with fail
  refine wp_loop_rounds 4 ?_
  rw [rounds_succ]
  go_wp2_with fail
  have hb0 : ∀ o1 o2 o3 o4 o5 o6 o7 o8 o9 o10, Below w.heap.size w ((((((((((w.alloc o1).alloc o2).alloc o3).alloc o4).alloc o5).alloc o6).alloc o7).alloc o8).alloc o9).alloc o10) := fun _ _ _ _ _ _ _ _ _ _ => balloc (balloc (balloc (balloc (balloc (balloc (balloc (balloc (balloc (below_alloc _ _) _) _) _) _) _) _) _) _) _
  refine (sum_go1 (w := w) (B := w.heap.size) HR.out HS.out (sum_start w _ _ _ _ _ _ _ _ _ _ _ _ _ _) (by simp) (hb0 _ _ _ _ _ _ _ _ _ _) (H1.out.on (hb0 _ _ _ _ _ _ _ _ _ _)) (H2.out.on (hb0 _ _ _ _ _ _ _ _ _ _)) (H3.out.on (hb0 _ _ _ _ _ _ _ _ _ _)) (H4.out.on (hb0 _ _ _ _ _ _ _ _ _ _))).mono ?_
  rw [HO1.out]
  rintro e w1 ⟨rfl, vx, vy, F1, hb1, K1, hx1, hy1⟩
  have hz1 : w.heap.size + 10 ≤ w1.heap.size := by have := K1.1; simp at this; omega
  have F := F1
  have HF1 := Lib.hid F1
  have HB1 := Lib.hid hb1
  have HX1 := Lib.hid hx1
  have HY1 := Lib.hid hy1
  clear F1 hb1 K1 hx1 hy1 hb0
  have e8 : w1.cell? ⟨w.heap.size + 1 + 1 + 1 + 1 + 1 + 1 + 1 + 1, 0, none⟩ = some (.int .i64 0) := F.2.1.2.2.2.2.2.1
  have st : w1.cell? ⟨w.heap.size + 1 + 1 + 1 + 1 + 1 + 1 + 1 + 1 + 1, 1, none⟩ = some _ := F.2.2.1.2.1
  clear F
  go_wp2_with fail
  rw [rounds_succ]
  go_wp2_with fail
  clear e8 st
  refine (sum_go2 (w := w) (B := w.heap.size) HR.out HS.out HF1.out hz1 HB1.out (H2.out.on HB1.out) (H4.out.on HB1.out)).mono ?_
  rw [HO2.out]
  rintro e w2 ⟨rfl, vq, F2, hb2, K2, hq2⟩
  have hz2 : w.heap.size + 10 ≤ w2.heap.size := by have := K2.1; omega
  have F := F2
  have HF2 := Lib.hid F2
  have HB2 := Lib.hid hb2
  have HX2 := Lib.hid (K2.2 _ _ HX1.out)
  have HY2 := Lib.hid (K2.2 _ _ HY1.out)
  have HQ2 := Lib.hid hq2
  clear F2 hb2 K2 hq2
  have e8 : w2.cell? ⟨w.heap.size + 1 + 1 + 1 + 1 + 1 + 1 + 1 + 1, 0, none⟩ = some (.int .i64 2) := F.2.1.2.2.2.2.2.1
  have C2 : Cel w2 (w.heap.size + 1 + 1) (.bool false) (.slice none 0 0) (.slice none 0 0) := F.1.2.2
  have HC2 := Lib.hid C2
  obtain ⟨⟨r0, r1, r2⟩, s0, s1, s2⟩ := C2
  clear F
  go_wp2_with fail
  go_region
  go_wp2_with fail
  obtain ⟨⟨z0, z1, z2⟩, -⟩ := HC2.out.put3 (.bool false) (.slice none 0 0) (.slice none 0 0)
  simp only [put3] at z0 z1 z2
  refine bodyPost_ret (v := .tuple #[.agg #[.bool false, .slice none 0 0, .slice none 0 0], .int .i64 2]) (by simp [results, Try.results75, go_sem, z0, z1, z2]) rfl ?_
  rw [HV.out]
  exact ⟨_, rfl, OutR.no (by decide), (below_put3 HB2.out (g := w.heap.size + 1 + 1) (by omega) _ _ _).drew⟩

set_option maxHeartbeats 1600000 in
theorem rat_sum_3 (r s : Rat) (hr : fitR r = true) (hs : fitR s = true) (v u : Value) (w : World) (hv : IsR w v r) (hu : IsR w u s) (ho1 : prOk r.num.natAbs s.den s.num.natAbs r.den = true) (ho2 : decide (r.den * s.den < big48) = true) (ho3 : ssOk (negR r) (r.num.natAbs * s.den) (negR s) (s.num.natAbs * r.den) = false) :
    Calls Try.prog 75 #[v, u] w (RRes w (okE (sumOk r s)) (r + s)) := by
  obtain ⟨vp, vq, rfl, h1, h2⟩ := hv
  obtain ⟨up, uq, rfl, h3, h4⟩ := hu
  obtain ⟨A1, c1, rfl, h1'⟩ := in_open h1
  obtain ⟨A2, c2, rfl, h2'⟩ := in_open h2
  obtain ⟨A3, c3, rfl, h3'⟩ := in_open h3
  obtain ⟨A4, c4, rfl, h4'⟩ := in_open h4
  have H1 := Lib.hid h1'
  have H2 := Lib.hid h2'
  have H3 := Lib.hid h3'
  have H4 := Lib.hid h4'
  have HR := Lib.hid hr
  have HS := Lib.hid hs
  have hmf : ∀ (fn : Fn) (first cap : Array Value) (w : World), (Instr.makeFunc fn first cap).run Try.prog w = .ok (.func fn first cap) w := fun _ _ _ _ => rfl
  have HO := Lib.hid (sumOk_eq r s)
  clear h1 h2 h3 h4 h1' h2' h3' h4' hr hs
  have HV : Hid (sumOk r s = false) := by rw [Hid, HO.out, ho1, ho2, ho3]; rfl
  have HO1 := Lib.hid ho1
  have HO2 := Lib.hid ho2
  have HO3 := Lib.hid ho3
  clear ho1 ho2 ho3
  go_enter Try.func75, Try.ntmps75
  go_wp2_with fail
  refine wp_loop_rounds 4 ?_
  rw [rounds_succ]
  go_wp2_with fail
  have hb0 : ∀ o1 o2 o3 o4 o5 o6 o7 o8 o9 o10, Below w.heap.size w ((((((((((w.alloc o1).alloc o2).alloc o3).alloc o4).alloc o5).alloc o6).alloc o7).alloc o8).alloc o9).alloc o10) := fun _ _ _ _ _ _ _ _ _ _ => balloc (balloc (balloc (balloc (balloc (balloc (balloc (balloc (balloc (below_alloc _ _) _) _) _) _) _) _) _) _) _
  refine (sum_go1 (w := w) (B := w.heap.size) HR.out HS.out (sum_start w _ _ _ _ _ _ _ _ _ _ _ _ _ _) (by simp) (hb0 _ _ _ _ _ _ _ _ _ _) (H1.out.on (hb0 _ _ _ _ _ _ _ _ _ _)) (H2.out.on (hb0 _ _ _ _ _ _ _ _ _ _)) (H3.out.on (hb0 _ _ _ _ _ _ _ _ _ _)) (H4.out.on (hb0 _ _ _ _ _ _ _ _ _ _))).mono ?_
  rw [HO1.out]
  rintro e w1 ⟨rfl, vx, vy, F1, hb1, K1, hx1, hy1⟩
  have hz1 : w.heap.size + 10 ≤ w1.heap.size := by have := K1.1; simp at this; omega
  have F := F1
  have HF1 := Lib.hid F1
  have HB1 := Lib.hid hb1
  have HX1 := Lib.hid hx1
  have HY1 := Lib.hid hy1
  clear F1 hb1 K1 hx1 hy1 hb0
  have e8 : w1.cell? ⟨w.heap.size + 1 + 1 + 1 + 1 + 1 + 1 + 1 + 1, 0, none⟩ = some (.int .i64 0) := F.2.1.2.2.2.2.2.1
  have st : w1.cell? ⟨w.heap.size + 1 + 1 + 1 + 1 + 1 + 1 + 1 + 1 + 1, 1, none⟩ = some _ := F.2.2.1.2.1
  clear F
  go_wp2_with fail
  rw [rounds_succ]
  go_wp2_with fail
  clear e8 st
  refine (sum_go2 (w := w) (B := w.heap.size) HR.out HS.out HF1.out hz1 HB1.out (H2.out.on HB1.out) (H4.out.on HB1.out)).mono ?_
  rw [HO2.out]
  rintro e w2 ⟨rfl, vq, F2, hb2, K2, hq2⟩
  have hz2 : w.heap.size + 10 ≤ w2.heap.size := by have := K2.1; omega
  have F := F2
  have HF2 := Lib.hid F2
  have HB2 := Lib.hid hb2
  have HX2 := Lib.hid (K2.2 _ _ HX1.out)
  have HY2 := Lib.hid (K2.2 _ _ HY1.out)
  have HQ2 := Lib.hid hq2
  clear F2 hb2 K2 hq2
  have e8 : w2.cell? ⟨w.heap.size + 1 + 1 + 1 + 1 + 1 + 1 + 1 + 1, 0, none⟩ = some (.int .i64 0) := F.2.1.2.2.2.2.2.1
  have st : w2.cell? ⟨w.heap.size + 1 + 1 + 1 + 1 + 1 + 1 + 1 + 1 + 1, 2, none⟩ = some _ := F.2.2.1.2.2
  clear F
  go_wp2_with fail
  rw [rounds_succ]
  go_wp2_with fail
  clear e8 st
  refine (sum_go3 (w := w) (B := w.heap.size) (prOk_parts HO1.out).1 (prOk_parts HO1.out).2 HF2.out hz2 HB2.out (HX2.out.toIn) (HY2.out.toIn)).mono ?_
  rw [HO3.out]
  rintro e w3 ⟨rfl, vp, F3, hb3, K3, hp3⟩
  have F := F3
  have HF3 := Lib.hid F3
  have HB3 := Lib.hid hb3
  have HQ3 := Lib.hid (K3.2 _ _ HQ2.out)
  have HP3 := Lib.hid hp3
  have hz3 : w.heap.size + 10 ≤ w3.heap.size := by have := K3.1; omega
  clear F3 hb3 K3 hp3
  have e8 : w3.cell? ⟨w.heap.size + 1 + 1 + 1 + 1 + 1 + 1 + 1 + 1, 0, none⟩ = some (.int .i64 2) := F.2.1.2.2.2.2.2.1
  have C2 : Cel w3 (w.heap.size + 1 + 1) (.bool false) (.slice none 0 0) (.slice none 0 0) := F.1.2.2
  have HC2 := Lib.hid C2
  obtain ⟨⟨r0, r1, r2⟩, s0, s1, s2⟩ := C2
  clear F
  go_wp2_with fail
  go_region
  go_wp2_with fail
  obtain ⟨⟨z0, z1, z2⟩, -⟩ := HC2.out.put3 (.bool false) (.slice none 0 0) (.slice none 0 0)
  simp only [put3] at z0 z1 z2
  refine bodyPost_ret (v := .tuple #[.agg #[.bool false, .slice none 0 0, .slice none 0 0], .int .i64 2]) (by simp [results, Try.results75, go_sem, z0, z1, z2]) rfl ?_
  rw [HV.out]
  exact ⟨_, rfl, OutR.no (by decide), (below_put3 HB3.out (g := w.heap.size + 1 + 1) (by omega) _ _ _).drew⟩

set_option maxHeartbeats 1600000 in
theorem rat_sum_4 (r s : Rat) (hr : fitR r = true) (hs : fitR s = true) (v u : Value) (w : World) (hv : IsR w v r) (hu : IsR w u s) (ho1 : prOk r.num.natAbs s.den s.num.natAbs r.den = true) (ho2 : decide (r.den * s.den < big48) = true) (ho3 : ssOk (negR r) (r.num.natAbs * s.den) (negR s) (s.num.natAbs * r.den) = true) :
    Calls Try.prog 75 #[v, u] w (RRes w (okE (sumOk r s)) (r + s)) := by
  obtain ⟨vp, vq, rfl, h1, h2⟩ := hv
  obtain ⟨up, uq, rfl, h3, h4⟩ := hu
  obtain ⟨A1, c1, rfl, h1'⟩ := in_open h1
  obtain ⟨A2, c2, rfl, h2'⟩ := in_open h2
  obtain ⟨A3, c3, rfl, h3'⟩ := in_open h3
  obtain ⟨A4, c4, rfl, h4'⟩ := in_open h4
  have H1 := Lib.hid h1'
  have H2 := Lib.hid h2'
  have H3 := Lib.hid h3'
  have H4 := Lib.hid h4'
  have HR := Lib.hid hr
  have HS := Lib.hid hs
  have hmf : ∀ (fn : Fn) (first cap : Array Value) (w : World), (Instr.makeFunc fn first cap).run Try.prog w = .ok (.func fn first cap) w := fun _ _ _ _ => rfl
  have HO := Lib.hid (sumOk_eq r s)
  clear h1 h2 h3 h4 h1' h2' h3' h4' hr hs
  have HV : Hid (sumOk r s = true) := by rw [Hid, HO.out, ho1, ho2, ho3]; rfl
  have HO1 := Lib.hid ho1
  have HO2 := Lib.hid ho2
  have HO3 := Lib.hid ho3
  clear ho1 ho2 ho3
  go_enter Try.func75, Try.ntmps75
  go_wp2_with fail
  refine wp_loop_rounds 4 ?_
  rw [rounds_succ]
  go_wp2_with fail
  have hb0 : ∀ o1 o2 o3 o4 o5 o6 o7 o8 o9 o10, Below w.heap.size w ((((((((((w.alloc o1).alloc o2).alloc o3).alloc o4).alloc o5).alloc o6).alloc o7).alloc o8).alloc o9).alloc o10) := fun _ _ _ _ _ _ _ _ _ _ => balloc (balloc (balloc (balloc (balloc (balloc (balloc (balloc (balloc (below_alloc _ _) _) _) _) _) _) _) _) _) _
  refine (sum_go1 (w := w) (B := w.heap.size) HR.out HS.out (sum_start w _ _ _ _ _ _ _ _ _ _ _ _ _ _) (by simp) (hb0 _ _ _ _ _ _ _ _ _ _) (H1.out.on (hb0 _ _ _ _ _ _ _ _ _ _)) (H2.out.on (hb0 _ _ _ _ _ _ _ _ _ _)) (H3.out.on (hb0 _ _ _ _ _ _ _ _ _ _)) (H4.out.on (hb0 _ _ _ _ _ _ _ _ _ _))).mono ?_
  rw [HO1.out]
  rintro e w1 ⟨rfl, vx, vy, F1, hb1, K1, hx1, hy1⟩
  have hz1 : w.heap.size + 10 ≤ w1.heap.size := by have := K1.1; simp at this; omega
  have F := F1
  have HF1 := Lib.hid F1
  have HB1 := Lib.hid hb1
  have HX1 := Lib.hid hx1
  have HY1 := Lib.hid hy1
  clear F1 hb1 K1 hx1 hy1 hb0
  have e8 : w1.cell? ⟨w.heap.size + 1 + 1 + 1 + 1 + 1 + 1 + 1 + 1, 0, none⟩ = some (.int .i64 0) := F.2.1.2.2.2.2.2.1
  have st : w1.cell? ⟨w.heap.size + 1 + 1 + 1 + 1 + 1 + 1 + 1 + 1 + 1, 1, none⟩ = some _ := F.2.2.1.2.1
  clear F
  go_wp2_with fail
  rw [rounds_succ]
  go_wp2_with fail
  clear e8 st
  refine (sum_go2 (w := w) (B := w.heap.size) HR.out HS.out HF1.out hz1 HB1.out (H2.out.on HB1.out) (H4.out.on HB1.out)).mono ?_
  rw [HO2.out]
  rintro e w2 ⟨rfl, vq, F2, hb2, K2, hq2⟩
  have hz2 : w.heap.size + 10 ≤ w2.heap.size := by have := K2.1; omega
  have F := F2
  have HF2 := Lib.hid F2
  have HB2 := Lib.hid hb2
  have HX2 := Lib.hid (K2.2 _ _ HX1.out)
  have HY2 := Lib.hid (K2.2 _ _ HY1.out)
  have HQ2 := Lib.hid hq2
  clear F2 hb2 K2 hq2
  have e8 : w2.cell? ⟨w.heap.size + 1 + 1 + 1 + 1 + 1 + 1 + 1 + 1, 0, none⟩ = some (.int .i64 0) := F.2.1.2.2.2.2.2.1
  have st : w2.cell? ⟨w.heap.size + 1 + 1 + 1 + 1 + 1 + 1 + 1 + 1 + 1, 2, none⟩ = some _ := F.2.2.1.2.2
  clear F
  go_wp2_with fail
  rw [rounds_succ]
  go_wp2_with fail
  clear e8 st
  refine (sum_go3 (w := w) (B := w.heap.size) (prOk_parts HO1.out).1 (prOk_parts HO1.out).2 HF2.out hz2 HB2.out (HX2.out.toIn) (HY2.out.toIn)).mono ?_
  rw [HO3.out]
  rintro e w3 ⟨rfl, vp, F3, hb3, K3, hp3⟩
  have F := F3
  have HF3 := Lib.hid F3
  have HB3 := Lib.hid hb3
  have HQ3 := Lib.hid (K3.2 _ _ HQ2.out)
  have HP3 := Lib.hid hp3
  have hz3 : w.heap.size + 10 ≤ w3.heap.size := by have := K3.1; omega
  clear F3 hb3 K3 hp3
  have e7 : w3.cell? ⟨w.heap.size + 1 + 1 + 1 + 1 + 1 + 1 + 1, 0, none⟩ = some (.bool (sNeg (negR r) (r.num.natAbs * s.den) (negR s) (s.num.natAbs * r.den))) := F.2.1.2.2.2.2.1.1
  have e5 : w3.cell? ⟨w.heap.size + 1 + 1 + 1 + 1 + 1, 0, none⟩ = some vp := F.2.1.2.2.1.1
  have e6 : w3.cell? ⟨w.heap.size + 1 + 1 + 1 + 1 + 1 + 1, 0, none⟩ = some vq := F.2.1.2.2.2.1.1
  have e8 : w3.cell? ⟨w.heap.size + 1 + 1 + 1 + 1 + 1 + 1 + 1 + 1, 0, none⟩ = some (.int .i64 0) := F.2.1.2.2.2.2.2.1
  obtain ⟨P, x, rfl, hp'⟩ := in_open HP3.out.toIn
  obtain ⟨Q, y, rfl, hq'⟩ := in_open HQ3.out.toIn
  have HP := Lib.hid hp'
  have HQ := Lib.hid hq'
  have HC3 : Hid (Cel w3 (w.heap.size + 1 + 1) (.bool false) (.slice none 0 0) (.slice none 0 0)) := F.1.2.2
  clear F hp' hq'
  go_wp2_with fail
  rw [rounds_succ]
  go_wp2_with fail
  refine (rat_reduced _ _ _ _ _ w3 HP.out HQ.out (sMag_lt (prOk_parts HO1.out).1 (prOk_parts HO1.out).2 HO3.out) (of_decide_eq_true HO2.out) (Nat.mul_ne_zero r.den_nz s.den_nz)).mono ?_
  rw [add_form]
  rintro e w4 ⟨v4, rfl, h4, hb4⟩
  obtain ⟨vp4, vq4, rfl, h4p, h4q⟩ := h4
  obtain ⟨P4, x4, rfl, h4p'⟩ := in_open h4p
  obtain ⟨Q4, y4, rfl, h4q'⟩ := in_open h4q
  have HP4 := Lib.hid h4p'
  have HQ4 := Lib.hid h4q'
  have HB4 := Lib.hid hb4
  have HC4 := HC3.out.on hb4
  have HC4' := Lib.hid HC4
  have HRR := Lib.hid (HC4.put3 (.bool (negR (r + s))) (.slice P4 (topL (r + s)).length x4) (.slice Q4 (botL (r + s)).length y4))
  obtain ⟨⟨d0, d1, d2⟩, f0, f1, f2⟩ := HC4
  clear h4p h4q h4p' h4q' hb4
  go_wp2_with fail
  obtain ⟨⟨r0, r1, r2⟩, -⟩ := HRR.out
  refine bodyPost_ret (v := .tuple #[.agg #[.bool (negR (r + s)), .slice P4 (topL (r + s)).length x4, .slice Q4 (botL (r + s)).length y4], .int .i64 0]) (by simp only [put3] at r0 r1 r2; simp [results, Try.results75, go_sem, r0, r1, r2]) rfl ?_
  rw [HV.out]
  exact ⟨_, rfl, OutR.ok ⟨_, _, rfl, HP4.out.put3 HC4'.out _ _ _, HQ4.out.put3 HC4'.out _ _ _⟩, below_put3 (HB3.out.trans (HB4.out.mono (by omega))) (by omega) _ _ _⟩

theorem rat_sum (r s : Rat) (hr : fitR r = true) (hs : fitR s = true) (v u : Value) (w : World) (hv : IsR w v r) (hu : IsR w u s) :
    Calls Try.prog 75 #[v, u] w (RRes w (okE (sumOk r s)) (r + s)) := by
  cases h1 : prOk r.num.natAbs s.den s.num.natAbs r.den with
  | false => exact rat_sum_1 r s hr hs v u w hv hu h1
  | true =>
    cases h2 : decide (r.den * s.den < big48) with
    | false => exact rat_sum_2 r s hr hs v u w hv hu h1 h2
    | true =>
      cases h3 : ssOk (negR r) (r.num.natAbs * s.den) (negR s) (s.num.natAbs * r.den) with
      | false => exact rat_sum_3 r s hr hs v u w hv hu h1 h2 h3
      | true => exact rat_sum_4 r s hr hs v u w hv hu h1 h2 h3
end Go.Proofs.Ytohfaoclemcfaaa
/- Contracts of rat.times, Add, Mul of rat; Add, Mul of the reference. -/
namespace Go.Proofs.Ytohfaoclemcfaaa
open Go.ChangeShapes Go.WideShapes Go.RowKit
set_option linter.unusedVariables false
set_option maxRecDepth 100000

theorem mulOk_eq (r s : Rat) : mulOk r s = prOk r.num.natAbs s.num.natAbs r.den s.den := rfl
theorem bne_dec (m n : Bool) : (m != n) = !(m == n) := rfl

set_option maxHeartbeats 1600000 in
theorem rat_times_0 (r s : Rat) (hr : fitR r = true) (hs : fitR s = true) (v u : Value) (w : World) (hv : IsR w v r) (hu : IsR w u s) (ho : mulOk r s = false) :
    Calls Try.prog 56 #[v, u] w (RRes w (okE (mulOk r s)) (r * s)) := by
  obtain ⟨vp, vq, rfl, h1, h2⟩ := hv
  obtain ⟨up, uq, rfl, h3, h4⟩ := hu
  obtain ⟨A1, c1, rfl, h1'⟩ := in_open h1
  obtain ⟨A2, c2, rfl, h2'⟩ := in_open h2
  obtain ⟨A3, c3, rfl, h3'⟩ := in_open h3
  obtain ⟨A4, c4, rfl, h4'⟩ := in_open h4
  rw [fitR_iff] at hr hs
  have PP := Lib.hid (fun W k1 k2 k3 k4 => rat_products r.num.natAbs s.num.natAbs r.den s.den (.slice A1 (topL r).length c1) (.slice A3 (topL s).length c3) (.slice A2 (botL r).length c2) (.slice A4 (botL s).length c4) W k1 k2 k3 k4 hr.1 hs.1 hr.2 hs.2)
  rw [← mulOk_eq, ho] at PP
  have H1 := Lib.hid h1'
  have H2 := Lib.hid h2'
  have H3 := Lib.hid h3'
  have H4 := Lib.hid h4'
  have HO := Lib.hid ho
  have HC := Lib.hid (Cel.new ((w.alloc (.cells #[.bool (negR r), .slice A1 (topL r).length c1, .slice A2 (botL r).length c2] 27)).alloc (.cells #[.bool (negR s), .slice A3 (topL s).length c3, .slice A4 (botL s).length c4] 27)) (.bool false) (.slice none 0 0) (.slice none 0 0) 27)
  have HCA := Lib.hid (((Cel.new w (.bool (negR r)) (.slice A1 (topL r).length c1) (.slice A2 (botL r).length c2) 27).alloc (.cells #[.bool (negR s), .slice A3 (topL s).length c3, .slice A4 (botL s).length c4] 27)).alloc (.cells #[.bool false, .slice none 0 0, .slice none 0 0] 27))
  have HCB := Lib.hid ((Cel.new (w.alloc (.cells #[.bool (negR r), .slice A1 (topL r).length c1, .slice A2 (botL r).length c2] 27)) (.bool (negR s)) (.slice A3 (topL s).length c3) (.slice A4 (botL s).length c4) 27).alloc (.cells #[.bool false, .slice none 0 0, .slice none 0 0] 27))
  simp only [World.size_alloc] at HC HCB
  clear h1 h2 h3 h4 h1' h2' h3' h4' hr hs ho
  go_enter Try.func56, Try.ntmps56
  go_wp2_with fail
  have hb0 : ∀ o1 o2 o3, Below w.heap.size w (((w.alloc o1).alloc o2).alloc o3) := fun _ _ _ => balloc (balloc (below_alloc _ _) _) _
  have hz0 : ∀ o1 o2 o3, (((w.alloc o1).alloc o2).alloc o3).heap.size = w.heap.size + 3 := fun _ _ _ => by simp
  refine (PP.out _ (H1.out.on (hb0 _ _ _)) (H3.out.on (hb0 _ _ _)) (H2.out.on (hb0 _ _ _)) (H4.out.on (hb0 _ _ _))).mono ?_
  rintro e w1 ⟨vp, vq, rfl, hp, hq, hb1⟩
  have hz1 : w.heap.size + 3 ≤ w1.heap.size := by have := hb1.size; rw [hz0] at this; exact this
  have HB1 : Hid (Below w.heap.size w w1) := (hb0 _ _ _).trans (hb1.mono (by rw [hz0]; omega))
  have HC1 := Lib.hid (HC.out.on hb1)
  obtain ⟨⟨r0, r1, r2⟩, s0, s1, s2⟩ : Cel w1 (w.heap.size + 1 + 1) (.bool false) (.slice none 0 0) (.slice none 0 0) := HC1.out
  clear hb0 hz0 hp hq hb1
  unfold okE
  go_wp2_with fail
  obtain ⟨⟨z0, z1, z2⟩, -⟩ := HC1.out.put3 (.bool false) (.slice none 0 0) (.slice none 0 0)
  simp only [put3] at z0 z1 z2
  refine bodyPost_ret (v := .tuple #[.agg #[.bool false, .slice none 0 0, .slice none 0 0], .int .i64 2]) (by simp [results, Try.results56, go_sem, z0, z1, z2]) rfl ?_
  rw [HO.out]
  exact ⟨_, rfl, OutR.no (by decide), below_put3 HB1.out (g := w.heap.size + 1 + 1) (by omega) _ _ _⟩

set_option maxHeartbeats 1600000 in
theorem rat_times_1 (r s : Rat) (hr : fitR r = true) (hs : fitR s = true) (v u : Value) (w : World) (hv : IsR w v r) (hu : IsR w u s) (ho : mulOk r s = true) :
    Calls Try.prog 56 #[v, u] w (RRes w (okE (mulOk r s)) (r * s)) := by
  obtain ⟨vp, vq, rfl, h1, h2⟩ := hv
  obtain ⟨up, uq, rfl, h3, h4⟩ := hu
  obtain ⟨A1, c1, rfl, h1'⟩ := in_open h1
  obtain ⟨A2, c2, rfl, h2'⟩ := in_open h2
  obtain ⟨A3, c3, rfl, h3'⟩ := in_open h3
  obtain ⟨A4, c4, rfl, h4'⟩ := in_open h4
  rw [fitR_iff] at hr hs
  have PP := Lib.hid (fun W k1 k2 k3 k4 => rat_products r.num.natAbs s.num.natAbs r.den s.den (.slice A1 (topL r).length c1) (.slice A3 (topL s).length c3) (.slice A2 (botL r).length c2) (.slice A4 (botL s).length c4) W k1 k2 k3 k4 hr.1 hs.1 hr.2 hs.2)
  rw [← mulOk_eq, ho] at PP
  have H1 := Lib.hid h1'
  have H2 := Lib.hid h2'
  have H3 := Lib.hid h3'
  have H4 := Lib.hid h4'
  have HO := Lib.hid ho
  have HC := Lib.hid (Cel.new ((w.alloc (.cells #[.bool (negR r), .slice A1 (topL r).length c1, .slice A2 (botL r).length c2] 27)).alloc (.cells #[.bool (negR s), .slice A3 (topL s).length c3, .slice A4 (botL s).length c4] 27)) (.bool false) (.slice none 0 0) (.slice none 0 0) 27)
  have HCA := Lib.hid (((Cel.new w (.bool (negR r)) (.slice A1 (topL r).length c1) (.slice A2 (botL r).length c2) 27).alloc (.cells #[.bool (negR s), .slice A3 (topL s).length c3, .slice A4 (botL s).length c4] 27)).alloc (.cells #[.bool false, .slice none 0 0, .slice none 0 0] 27))
  have HCB := Lib.hid ((Cel.new (w.alloc (.cells #[.bool (negR r), .slice A1 (topL r).length c1, .slice A2 (botL r).length c2] 27)) (.bool (negR s)) (.slice A3 (topL s).length c3) (.slice A4 (botL s).length c4) 27).alloc (.cells #[.bool false, .slice none 0 0, .slice none 0 0] 27))
  simp only [World.size_alloc] at HC HCB
  clear h1 h2 h3 h4 h1' h2' h3' h4' hr hs ho
  go_enter Try.func56, Try.ntmps56
  go_wp2_with fail
  have hb0 : ∀ o1 o2 o3, Below w.heap.size w (((w.alloc o1).alloc o2).alloc o3) := fun _ _ _ => balloc (balloc (below_alloc _ _) _) _
  have hz0 : ∀ o1 o2 o3, (((w.alloc o1).alloc o2).alloc o3).heap.size = w.heap.size + 3 := fun _ _ _ => by simp
  refine (PP.out _ (H1.out.on (hb0 _ _ _)) (H3.out.on (hb0 _ _ _)) (H2.out.on (hb0 _ _ _)) (H4.out.on (hb0 _ _ _))).mono ?_
  rintro e w1 ⟨vp, vq, rfl, hp, hq, hb1⟩
  have hz1 : w.heap.size + 3 ≤ w1.heap.size := by have := hb1.size; rw [hz0] at this; exact this
  have HB1 : Hid (Below w.heap.size w w1) := (hb0 _ _ _).trans (hb1.mono (by rw [hz0]; omega))
  have HC1 := Lib.hid (HC.out.on hb1)
  obtain ⟨⟨a0, -⟩, -⟩ : Cel w1 w.heap.size (.bool (negR r)) (.slice A1 (topL r).length c1) (.slice A2 (botL r).length c2) := HCA.out.on hb1
  obtain ⟨⟨b0, -⟩, -⟩ : Cel w1 (w.heap.size + 1) (.bool (negR s)) (.slice A3 (topL s).length c3) (.slice A4 (botL s).length c4) := HCB.out.on hb1
  have HP := Lib.hid hp.toIn
  have HQ := Lib.hid hq.toIn
  have HOP : Hid (prOk r.num.natAbs s.num.natAbs r.den s.den = true) := HO.out
  clear hb0 hz0 hp hq hb1
  unfold okE
  go_wp2_with fail
  refine (rat_reduced (negR r != negR s) _ _ _ _ w1 HP.out HQ.out (prOk_parts HOP.out).1 (prOk_parts HOP.out).2 (Nat.mul_ne_zero r.den_nz s.den_nz)).mono ?_
  rw [mul_form]
  rintro e w4 ⟨v4, rfl, h4, hb4⟩
  obtain ⟨vp4, vq4, rfl, h4p, h4q⟩ := h4
  obtain ⟨P4, x4, rfl, h4p'⟩ := in_open h4p
  obtain ⟨Q4, y4, rfl, h4q'⟩ := in_open h4q
  have HP4 := Lib.hid h4p'
  have HQ4 := Lib.hid h4q'
  have HB4 := Lib.hid hb4
  have HC4 := HC1.out.on hb4
  have HC4' := Lib.hid HC4
  have HRR := Lib.hid (HC4.put3 (.bool (negR (r * s))) (.slice P4 (topL (r * s)).length x4) (.slice Q4 (botL (r * s)).length y4))
  obtain ⟨⟨d0, d1, d2⟩, f0, f1, f2⟩ := HC4
  clear h4p h4q h4p' h4q' hb4
  go_wp2_with fail
  obtain ⟨⟨r0, r1, r2⟩, -⟩ := HRR.out
  refine bodyPost_ret (v := .tuple #[.agg #[.bool (negR (r * s)), .slice P4 (topL (r * s)).length x4, .slice Q4 (botL (r * s)).length y4], .int .i64 0]) (by simp only [put3] at r0 r1 r2; simp [results, Try.results56, go_sem, r0, r1, r2]) rfl ?_
  rw [HO.out]
  exact ⟨_, rfl, OutR.ok ⟨_, _, rfl, HP4.out.put3 HC4'.out _ _ _, HQ4.out.put3 HC4'.out _ _ _⟩, below_put3 (HB1.out.trans (HB4.out.mono (by omega))) (by omega) _ _ _⟩

theorem rat_times (r s : Rat) (hr : fitR r = true) (hs : fitR s = true) (v u : Value) (w : World) (hv : IsR w v r) (hu : IsR w u s) :
    Calls Try.prog 56 #[v, u] w (RRes w (okE (mulOk r s)) (r * s)) := by
  cases h : mulOk r s with
  | false => rw [← h]; exact rat_times_0 r s hr hs v u w hv hu h
  | true => rw [← h]; exact rat_times_1 r s hr hs v u w hv hu h
end Go.Proofs.Ytohfaoclemcfaaa
