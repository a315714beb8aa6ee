/- Several texts in one: NatX3, NatZ1, NatZ2, NatZ3, NatZ4, NatZ6, NatZ7, NatY, NatY2, NatY3, RatA, RatB, NatZ5, RatC. -/
import Derived.Test.YthkhaipbdphpeaaDoorPk3
import Derived.Test.YthkhaipbdphpeaaDoorPk2
import Derived.Deep.RegionWith
import Derived.Deep.RegionHeld3
/- The contract of DivMod of the reference, for every input; the walk of NatQuotients. -/
namespace Go.Proofs.YthkhaipbdphpeaaDoor
open Go.ChangeShapes Go.WideShapes Go.RowKit
set_option linter.unusedVariables false
set_option maxRecDepth 100000

set_option maxHeartbeats 1600000 in
theorem ref_DivMod (xs ys : List Int) (va vb : Value) (w : World) (ha : In w va xs) (hb : In w vb ys) :
    Calls Tryd.prog 45 #[va, vb] w (DmIn w xs ys) := by
  obtain ⟨A, c, rfl, hc, hm, hA⟩ := ha
  obtain ⟨B, d, rfl, hd, hn, hB⟩ := hb
  have HIA := Lib.hid (show In w (.slice A xs.length c) xs from ⟨A, c, rfl, hc, hm, hA⟩)
  have HIB := Lib.hid (show In w (.slice B ys.length d) ys from ⟨B, d, rfl, hd, hn, hB⟩)
  have HA := Lib.hid hA
  have HB := Lib.hid hB
  have hm1 : xs.length ≤ 9223372036854775807 := Nat.le_trans hc hm
  have hm2 : ys.length ≤ 9223372036854775807 := Nat.le_trans hd hn
  clear hA hB hm hn
  rcases both_cases xs ys with ⟨hx, hbo⟩ | ⟨hx, hy, hbo⟩ | ⟨hx, hy, hbo⟩
  · have HBO := Lib.hid hbo
    clear hbo
    go_enter Tryd.func45, Tryd.ntmps45
    go_wp2_with fail
    refine (ref_Valid xs A c _ _ w HA.out hm1).mono ?_
    rintro e w' ⟨rfl, rfl⟩
    go_wp2_with fail
    go_ret3
    exact DmIn.none (by rw [divOk, HBO.out]; rfl) (by rw [divE, HBO.out]; rfl) rfl (Below.refl _ _)
  · have HBO := Lib.hid hbo
    clear hbo
    go_enter Tryd.func45, Tryd.ntmps45
    go_wp2_with fail
    refine (ref_Valid xs A c _ _ w HA.out hm1).mono ?_
    rintro e w' ⟨rfl, rfl⟩
    go_wp2_with fail
    refine (ref_Valid ys B d _ _ _ HB.out hm2).mono ?_
    rintro e w' ⟨rfl, rfl⟩
    go_wp2_with fail
    go_ret3
    exact DmIn.none (by rw [divOk, HBO.out]; rfl) (by rw [divE, HBO.out]; rfl) rfl (Below.refl _ _)
  · rcases Nat.eq_zero_or_pos ys.length with h0 | hp
    · have HBO := Lib.hid hbo
      have hn : ys = [] := List.eq_nil_of_length_eq_zero h0
      subst hn
      clear hbo
      go_enter Tryd.func45, Tryd.ntmps45
      go_wp2_with fail
      refine (ref_Valid xs A c _ _ w HA.out hm1).mono ?_
      rintro e w' ⟨rfl, rfl⟩
      go_wp2_with fail
      refine (ref_Valid [] B d _ _ _ HB.out hm2).mono ?_
      rintro e w' ⟨rfl, rfl⟩
      go_wp2_with fail
      go_ret3
      exact DmIn.none (by rw [divOk, HBO.out]; rfl) (by rw [divE, HBO.out]; rfl) rfl (Below.refl _ _)
    · exact refdm_main xs ys A B c d w HIA.out HIB.out hx hy hp

end Go.Proofs.YthkhaipbdphpeaaDoor
/- Lehmer's steps: the arithmetic. No walk. -/
namespace Go.Proofs.YthkhaipbdphpeaaDoor
open Go.ChangeShapes Go.WideShapes Go.RowKit
set_option linter.unusedVariables false
set_option maxRecDepth 100000

/-- The steps of Euclid's algorithm that two leading limbs foresee: (a, b; c, d) from (X, Y); u, v: what the leading limbs have become. -/
structure LInv (u0 v0 X Y : Int) (a b c d u v : Int) : Prop where
  eu : u = a * u0 + b * v0
  ev : v = c * u0 + d * v0
  sg : (a * d - b * c = 1 ∧ 0 ≤ a ∧ b ≤ 0 ∧ c ≤ 0 ∧ 0 ≤ d) ∨ (a * d - b * c = -1 ∧ a ≤ 0 ∧ 0 ≤ b ∧ 0 ≤ c ∧ d ≤ 0)
  bd : -1000000000 < a ∧ a < 1000000000 ∧ -1000000000 < b ∧ b < 1000000000 ∧ -1000000000 < c ∧ c < 1000000000 ∧ -1000000000 < d ∧ d < 1000000000
  nn : 0 ≤ u ∧ 0 ≤ v
  gc : Int.gcd (a * X + b * Y) (c * X + d * Y) = Int.gcd X Y
  st : (a = 1 ∧ b = 0 ∧ c = 0 ∧ d = 1) ∨ (1000000000 ≤ u ∧ v < u ∧ 0 ≤ c * X + d * Y ∧ c * X + d * Y < a * X + b * Y ∧ a * X + b * Y ≤ Y)
theorem linv_start {u0 v0 X Y : Int} (hu : 0 ≤ u0) (hv : 0 ≤ v0) : LInv u0 v0 X Y 1 0 0 1 u0 v0 :=
  ⟨by omega, by omega, Or.inl ⟨by omega, by omega, by omega, by omega, by omega⟩, by omega, ⟨hu, hv⟩, by simp, Or.inl ⟨rfl, rfl, rfl, rfl⟩⟩
theorem quo_le {x y m m' : Int} (hx : 0 ≤ x) (hxy : x ≤ y) (hm : 0 < m') (hmm : m' ≤ m) : x / m ≤ y / m' := by
  rw [Int.le_ediv_iff_mul_le hm]
  have h1 : x / m * m ≤ x := Int.ediv_mul_le _ (by omega)
  have h0 : 0 ≤ x / m := Int.ediv_nonneg hx (by omega)
  have h2 : x / m * m' ≤ x / m * m := Int.mul_le_mul_of_nonneg_left hmm h0
  omega
/-- The test: then it is the quotient of u and v. -/
theorem linv_quo {u0 v0 X Y a b c d u v q : Int} (h : LInv u0 v0 X Y a b c d u v) (hv : 1000000000 ≤ v) (h1 : q = (u + a) / (v + c)) (h2 : q = (u + b) / (v + d)) : q = u / v ∧ 0 ≤ q := by
  have bd := h.bd
  have nn := h.nn
  have hub : 0 ≤ u + b ∧ 0 ≤ u + a := by
    rcases h.st with ⟨rfl, rfl, rfl, rfl⟩ | st
    · omega
    · omega
  rcases h.sg with sg | sg
  · have e1 : (u + b) / (v + d) ≤ u / v := quo_le hub.1 (by omega) (by omega) (by omega)
    have e2 : u / v ≤ (u + a) / (v + c) := quo_le nn.1 (by omega) (by omega) (by omega)
    have e3 : 0 ≤ u / v := Int.ediv_nonneg nn.1 nn.2
    omega
  · have e1 : (u + a) / (v + c) ≤ u / v := quo_le hub.2 (by omega) (by omega) (by omega)
    have e2 : u / v ≤ (u + b) / (v + d) := quo_le nn.1 (by omega) (by omega) (by omega)
    have e3 : 0 ≤ u / v := Int.ediv_nonneg nn.1 nn.2
    omega
theorem le_mul {a x K : Int} (ha : 0 ≤ a) (hx : x ≤ K) : a * x ≤ a * K := Int.mul_le_mul_of_nonneg_left hx ha
theorem le_mul_neg {a x K : Int} (ha : a ≤ 0) (hx : x ≤ K) : a * K ≤ a * x := by
  have := Int.mul_le_mul_of_nonneg_left hx (show 0 ≤ -a by omega)
  rw [Int.neg_mul, Int.neg_mul] at this; omega
theorem nn_mul_neg {a x : Int} (ha : a ≤ 0) (hx : 0 ≤ x) : a * x ≤ 0 := by
  have := Int.mul_nonneg (show 0 ≤ -a by omega) hx
  rw [Int.neg_mul] at this; omega
/-- What q * Y' <= X' < (q + 1) * Y' is shown from. -/
theorem true_quo {K L1 M1 L2 M2 Xc Yc q : Int} (hK : 0 < K) (q0 : 0 ≤ q) (hX1 : K * L1 ≤ Xc) (hX2 : Xc ≤ K * M1) (hY1 : K * L2 ≤ Yc) (hY2 : Yc ≤ K * M2) (hq1 : q * M2 ≤ L1) (hq2 : M1 < (q + 1) * L2) :
    0 ≤ Xc - q * Yc ∧ Xc - q * Yc < Yc := by
  have a1 : q * Yc ≤ q * (K * M2) := Int.mul_le_mul_of_nonneg_left hY2 q0
  have a2 : K * (q * M2) ≤ K * L1 := Int.mul_le_mul_of_nonneg_left hq1 (Int.le_of_lt hK)
  have e1 : q * (K * M2) = K * (q * M2) := by rw [Int.mul_left_comm]
  have b1 : (q + 1) * (K * L2) ≤ (q + 1) * Yc := Int.mul_le_mul_of_nonneg_left hY1 (by omega)
  have b2 : K * M1 < K * ((q + 1) * L2) := Int.mul_lt_mul_of_pos_left hq2 hK
  have e2 : (q + 1) * (K * L2) = K * ((q + 1) * L2) := by rw [Int.mul_left_comm]
  have e3 : (q + 1) * Yc = q * Yc + Yc := by rw [Int.add_mul, Int.one_mul]
  omega
theorem lt_succ_mul {x m q : Int} (hm : 0 < m) (h : q = x / m) : x < (q + 1) * m := by
  have h1 := Int.emod_add_mul_ediv x m
  have h2 := Int.emod_lt_of_pos x hm
  rw [← h] at h1
  rw [Int.add_mul, Int.one_mul, Int.mul_comm q m]; omega
theorem mul_le_of_quo {x m q : Int} (hm : 0 < m) (h : q = x / m) : q * m ≤ x := by rw [h]; exact Int.ediv_mul_le _ (by omega)
theorem linv_step {u0 v0 X Y x0 y0 K a b c d u v q : Int} (h : LInv u0 v0 X Y a b c d u v) (hv : 1000000000 ≤ v) (h1 : q = (u + a) / (v + c)) (h2 : q = (u + b) / (v + d))
    (hX : X = K * u0 + x0) (hY : Y = K * v0 + y0) (hK : 0 < K) (x00 : 0 ≤ x0) (x01 : x0 ≤ K) (y00 : 0 ≤ y0) (y01 : y0 ≤ K) (hu0 : u0 < 1000000000000000000) (hv0 : v0 < 1000000000000000000) :
    LInv u0 v0 X Y c d (a - q * c) (b - q * d) v (u - q * v) := by
  obtain ⟨hq, q0⟩ := linv_quo h hv h1 h2
  have bd := h.bd
  have nn := h.nn
  have vp : 0 < v := by omega
  have hlo := mul_le_of_quo vp hq
  have hhi := lt_succ_mul vp hq
  rw [Int.add_mul, Int.one_mul] at hhi
  have eXc : a * X + b * Y = K * u + (a * x0 + b * y0) := by rw [hX, hY, h.eu]; grind
  have eYc : c * X + d * Y = K * v + (c * x0 + d * y0) := by rw [hX, hY, h.ev]; grind
  have eN : (a - q * c) * X + (b - q * d) * Y = (a * X + b * Y) - q * (c * X + d * Y) := by grind
  have htrue : 0 ≤ (a * X + b * Y) - q * (c * X + d * Y) ∧ (a * X + b * Y) - q * (c * X + d * Y) < c * X + d * Y := by
    rcases h.sg with ⟨_, s1, s2, s3, s4⟩ | ⟨_, s1, s2, s3, s4⟩
    · refine true_quo (K := K) (L1 := u + b) (M1 := u + a) (L2 := v + c) (M2 := v + d) hK q0 ?_ ?_ ?_ ?_ (mul_le_of_quo (by omega) h2) (lt_succ_mul (by omega) h1)
      · rw [eXc, Int.mul_add, Int.mul_comm K b]
        have := Int.mul_nonneg s1 x00
        have := le_mul_neg s2 y01
        omega
      · rw [eXc, Int.mul_add, Int.mul_comm K a]
        have := le_mul s1 x01
        have := nn_mul_neg s2 y00
        omega
      · rw [eYc, Int.mul_add, Int.mul_comm K c]
        have := le_mul_neg s3 x01
        have := Int.mul_nonneg s4 y00
        omega
      · rw [eYc, Int.mul_add, Int.mul_comm K d]
        have := nn_mul_neg s3 x00
        have := le_mul s4 y01
        omega
    · refine true_quo (K := K) (L1 := u + a) (M1 := u + b) (L2 := v + d) (M2 := v + c) hK q0 ?_ ?_ ?_ ?_ (mul_le_of_quo (by omega) h1) (lt_succ_mul (by omega) h2)
      · rw [eXc, Int.mul_add, Int.mul_comm K a]
        have := le_mul_neg s1 x01
        have := Int.mul_nonneg s2 y00
        omega
      · rw [eXc, Int.mul_add, Int.mul_comm K b]
        have := nn_mul_neg s1 x00
        have := le_mul s2 y01
        omega
      · rw [eYc, Int.mul_add, Int.mul_comm K d]
        have := Int.mul_nonneg s3 x00
        have := le_mul_neg s4 y01
        omega
      · rw [eYc, Int.mul_add, Int.mul_comm K c]
        have := le_mul s3 x01
        have := nn_mul_neg s4 y00
        omega
  have hYle : c * X + d * Y ≤ Y := by
    rcases h.st with ⟨rfl, rfl, rfl, rfl⟩ | st
    · omega
    · omega
  have eu' : v = c * u0 + d * v0 := h.ev
  have ev' : u - q * v = (a - q * c) * u0 + (b - q * d) * v0 := by
    have := h.eu
    rw [this, eu']; grind
  -- the new factors are less than Limb
  have e3 : (b - q * d) * v - d * (u - q * v) = b * v - d * u := by grind
  have e4 : c * (u - q * v) - (a - q * c) * v = c * u - a * v := by grind
  have f1 : d * u - b * v = (a * d - b * c) * u0 := by rw [h.eu, h.ev]; grind
  have f2 : a * v - c * u = (a * d - b * c) * v0 := by rw [h.eu, h.ev]; grind
  have w0 : 0 ≤ u - q * v := by omega
  have w1 : u - q * v < v := by omega
  obtain ⟨C, hC⟩ : ∃ C, C = a - q * c := ⟨_, rfl⟩
  obtain ⟨D, hD⟩ : ∃ D, D = b - q * d := ⟨_, rfl⟩
  obtain ⟨V, hV⟩ : ∃ V, V = u - q * v := ⟨_, rfl⟩
  rw [← hC] at e4 eN ev'
  rw [← hD] at e3 eN ev'
  rw [← hV] at e3 e4 ev' w0 w1
  rw [← hC, ← hD, ← hV]
  have sgn : (c * D - d * C = 1 ∧ 0 ≤ c ∧ d ≤ 0 ∧ C ≤ 0 ∧ 0 ≤ D) ∨ (c * D - d * C = -1 ∧ c ≤ 0 ∧ 0 ≤ d ∧ 0 ≤ C ∧ D ≤ 0) := by
    have ed : c * D - d * C = -(a * d - b * c) := by rw [hC, hD]; grind
    rcases h.sg with ⟨s0, s1, s2, s3, s4⟩ | ⟨s0, s1, s2, s3, s4⟩
    · right
      have m1 := nn_mul_neg s3 q0
      have m2 := Int.mul_nonneg s4 q0
      refine ⟨by rw [ed, s0], s3, s4, ?_, ?_⟩
      · rw [hC, Int.mul_comm q c]; omega
      · rw [hD, Int.mul_comm q d]; omega
    · left
      have m1 := Int.mul_nonneg s3 q0
      have m2 := nn_mul_neg s4 q0
      refine ⟨by rw [ed, s0]; rfl, s3, s4, ?_, ?_⟩
      · rw [hC, Int.mul_comm q c]; omega
      · rw [hD, Int.mul_comm q d]; omega
  have bdn : -1000000000 < C ∧ C < 1000000000 ∧ -1000000000 < D ∧ D < 1000000000 := by
    have big : ∀ t : Int, 1000000000 ≤ t → 1000000000 * v ≤ t * v := fun t ht => Int.mul_le_mul_of_nonneg_right ht (by omega)
    rcases sgn with ⟨s0, s1, s2, s3, s4⟩ | ⟨s0, s1, s2, s3, s4⟩
    · -- pattern 1: D * v - d * V = u0, c * V - C * v = v0
      have k0 : a * d - b * c = -1 := by
        have : c * D - d * C = -(a * d - b * c) := by rw [hC, hD]; grind
        omega
      rw [k0] at f1 f2
      have m1 := nn_mul_neg s2 w0
      have m2 := Int.mul_nonneg s1 w0
      have hD2 : D < 1000000000 := by
        rcases Int.lt_or_le D 1000000000 with h | h
        · exact h
        · have := big D h; omega
      have hC2 : -1000000000 < C := by
        rcases Int.lt_or_le (-1000000000) C with h | h
        · exact h
        · have := big (-C) (by omega); rw [Int.neg_mul] at this; omega
      omega
    · have k0 : a * d - b * c = 1 := by
        have : c * D - d * C = -(a * d - b * c) := by rw [hC, hD]; grind
        omega
      rw [k0] at f1 f2
      have m1 := Int.mul_nonneg s2 w0
      have m2 := nn_mul_neg s1 w0
      have hC2 : C < 1000000000 := by
        rcases Int.lt_or_le C 1000000000 with h | h
        · exact h
        · have := big C h; omega
      have hD2 : -1000000000 < D := by
        rcases Int.lt_or_le (-1000000000) D with h | h
        · exact h
        · have := big (-D) (by omega); rw [Int.neg_mul] at this; omega
      omega
  refine ⟨eu', ev', sgn, by omega, ⟨by omega, w0⟩, ?_, Or.inr ⟨hv, w1, by rw [eN]; exact htrue.1, by rw [eN]; exact htrue.2, hYle⟩⟩
  rw [eN, Int.gcd_sub_mul_right_right, Int.gcd_comm]; exact h.gc
end Go.Proofs.YthkhaipbdphpeaaDoor
/- The contract of nat.foreseen. -/
namespace Go.Proofs.YthkhaipbdphpeaaDoor
open Go.ChangeShapes Go.WideShapes Go.RowKit
set_option linter.unusedVariables false
set_option maxRecDepth 100000

/-- A block of four integers. -/
def Four (w : World) (g : Nat) (a b c d : Int) : Prop := ∃ t, w.heap[g]? = some (.cells #[.int .i64 a, .int .i64 b, .int .i64 c, .int .i64 d] t (0, 0))
theorem Four.row {w : World} {g : Nat} {a b c d : Int} (h : Four w g a b c d) : Row w g [a, b, c, d] := by
  obtain ⟨t, h⟩ := h; exact row_of_heap (zs := [a, b, c, d]) h
theorem Four.lt {w : World} {g : Nat} {a b c d : Int} (h : Four w g a b c d) : g < w.heap.size := h.row.lt
theorem Four.new (w : World) (t : TypeId) (a b c d : Int) : Four (w.alloc (.cells #[.int .i64 a, .int .i64 b, .int .i64 c, .int .i64 d] t)) w.heap.size a b c d := ⟨t, heap_alloc_new w _⟩
theorem Four.keep {w w' : World} {g : Nat} {a b c d : Int} (h : Four w g a b c d) (hk : w'.heap[g]? = w.heap[g]?) : Four w' g a b c d := by
  obtain ⟨t, h⟩ := h; exact ⟨t, hk.trans h⟩
theorem Four.store {w : World} {g : Nat} {a b c d : Int} (h : Four w g a b c d) (a' b' c' d' : Int) :
    Four ((((w.setCell ⟨g, 0, none⟩ (.int .i64 a')).setCell ⟨g, 1, none⟩ (.int .i64 b')).setCell ⟨g, 2, none⟩ (.int .i64 c')).setCell ⟨g, 3, none⟩ (.int .i64 d')) g a' b' c' d' := by
  obtain ⟨t, h⟩ := h
  exact ⟨t, by simp [World.setCell, Array.getElem?_modify, h]⟩

/-- What is foreseen. -/
def SeenRes (w : World) (xs ys : List Int) (e : Ending) (w' : World) : Prop :=
  ∃ a b c d u v u0 v0, e = .returned (.agg #[.int .i64 a, .int .i64 b, .int .i64 c, .int .i64 d]) ∧ LInv u0 v0 (nval xs) (nval ys) a b c d u v ∧ (b ≠ 0 → xs.length = ys.length) ∧ Below w.heap.size w w'

theorem top_word {xs : List Int} {b off c n : Nat} {w : World} (hA : Holds w 0 w.heap.size (some ⟨b, off, none⟩) xs) (hx : lok xs = true) (hn : xs.length = n) (h2 : 2 ≤ n) (W : World) (hW : ∀ i, i < w.heap.size → W.heap[i]? = w.heap[i]?) :
    Calls Tryd.prog 90 #[.slice (some ⟨b, off + (n - 2), none⟩) 2 c] W fun e w' => e = .returned (.int .i64 (nval (xs.drop (n - 2)))) ∧ w' = W := by
  have hl : (xs.drop (n - 2)).length = 2 := by rw [List.length_drop]; omega
  have hS : Holds W 0 w.heap.size (some ⟨b, off + (n - 2), none⟩) (xs.drop (n - 2)) := by
    intro k z hz
    rw [List.getElem?_drop] at hz
    obtain ⟨b', off', e, _, hhi, hc⟩ := hA _ z hz
    cases e
    refine ⟨b, off + (n - 2), rfl, ⟨Nat.zero_le _, Or.inl rfl⟩, hhi, ?_⟩
    rw [Nat.add_assoc]
    exact (World.cell?_of_block (w := w) (a := ⟨b, off + (n - 2 + k), none⟩) (hW b hhi)).trans hc
  have h := nat_word (xs.drop (n - 2)) (some ⟨b, off + (n - 2), none⟩) c 0 w.heap.size W hS (lok_drop hx _) (by omega)
  rw [hl] at h
  exact h.mono fun _ _ k => ⟨k.1, k.2.symm⟩
theorem top_split {xs : List Int} {n : Nat} (hx : lok xs = true) (hn : xs.length = n) (h2 : 2 ≤ n) :
    nval xs = 1000000000 ^ (n - 2) * nval (xs.drop (n - 2)) + nval (xs.take (n - 2)) ∧ 0 ≤ nval (xs.take (n - 2)) ∧ nval (xs.take (n - 2)) ≤ 1000000000 ^ (n - 2) ∧ 0 ≤ nval (xs.drop (n - 2)) ∧ nval (xs.drop (n - 2)) < 1000000000000000000 := by
  have e := nval_append (xs.take (n - 2)) (xs.drop (n - 2))
  rw [List.take_append_drop, List.length_take, Nat.min_eq_left (by omega)] at e
  have a := nval_lt (lok_take hx (n - 2))
  rw [List.length_take, Nat.min_eq_left (by omega)] at a
  have b := nval_small (lok_drop hx (n - 2)) (by rw [List.length_drop]; omega)
  exact ⟨by omega, nval_nonneg (lok_take hx _), by omega, b.1, b.2⟩

set_option maxHeartbeats 3200000 in
theorem nat_foreseen (xs ys : List Int) (A B : Option Addr) (c d : Nat) (w : World) (hA : Holds w 0 w.heap.size A xs) (hB : Holds w 0 w.heap.size B ys) (hx : lok xs = true) (hy : lok ys = true) (hly : 2 < ys.length) (hc : xs.length ≤ c) (hd : ys.length ≤ d)
    (hlx : xs.length ≤ 1000) (hly2 : ys.length ≤ 1000) :
    Calls Tryd.prog 107 #[.slice A xs.length c, .slice B ys.length d] w (SeenRes w xs ys) := by
  have HA := Lib.hid hA
  have HB := Lib.hid hB
  have HX := Lib.hid hx
  have HY := Lib.hid hy
  clear hA hB hx hy
  by_cases hl : xs.length = ys.length
  · go_enter Tryd.func107, Tryd.ntmps107
    rw [← hl] at hly ⊢
    have HL := Lib.hid hl
    obtain ⟨n, hn⟩ : ∃ n, n = xs.length := ⟨_, rfl⟩
    have hn' : ys.length = n := by omega
    obtain ⟨bx, offx, rfl, -, -, -⟩ := HA.out 0 _ (List.getElem?_eq_getElem (by omega))
    obtain ⟨bY, offy, rfl, -, -, -⟩ := HB.out 0 _ (List.getElem?_eq_getElem (by omega))
    rw [← hn] at hly hc hlx ⊢
    have hd' : n ≤ d := by omega
    have tx := top_split HX.out hn.symm (by omega)
    have ty := top_split HY.out hn' (by omega)
    have WX := fun c' W hW => top_word (c := c') HA.out HX.out hn.symm (by omega) W hW
    have WY := fun c' W hW => top_word (c := c') HB.out HY.out hn' (by omega) W hW
    obtain ⟨u0, hu0⟩ : ∃ u0, u0 = nval (xs.drop (n - 2)) := ⟨_, rfl⟩
    obtain ⟨v0, hv0⟩ : ∃ v0, v0 = nval (ys.drop (n - 2)) := ⟨_, rfl⟩
    rw [← hu0] at tx WX
    rw [← hv0] at ty WY
    obtain ⟨tx1, tx2, tx3, tx4, tx5⟩ := tx
    obtain ⟨ty1, ty2, ty3, ty4, ty5⟩ := ty
    have hw0 : ∀ (o1 o2 : Obj) (m i : Nat), i < w.heap.size → (((w.alloc o1).alloc o2).drewN m).heap[i]? = w.heap[i]? := by
      intro o1 o2 m i hi
      show ((w.alloc o1).alloc o2).heap[i]? = _
      rw [Below.heap_alloc _ _ _ (by simp; omega), Below.heap_alloc _ _ _ hi]
    have HWX := Lib.hid WX
    have HWY := Lib.hid WY
    have HW0 := Lib.hid hw0
    have TX1 := Lib.hid tx1
    have TX2 := Lib.hid tx2
    have TX3 := Lib.hid tx3
    have TY1 := Lib.hid ty1
    have TY2 := Lib.hid ty2
    have TY3 := Lib.hid ty3
    have en : (n : Int) - 2 = ((n - 2 : Nat) : Int) := by omega
    have k1 : n - (n - 2) = 2 := by omega
    have k0 : IntKind.i64.wrap ((n - 2 : Nat) : Int) = ((n - 2 : Nat) : Int) := wrap_id (by omega) (by omega)
    have k2 : ¬ c = n - 2 := by omega
    have k3 : ¬ d = n - 2 := by omega
    have k4 : ((n - 2 : Nat) : Int) ≤ (n : Int) := by omega
    clear hl hn hn' hu0 hv0 tx1 tx2 tx3 ty1 ty2 ty3 WX WY hw0
    go_wp2_with fail
    go_quiet ((go_at_call 90; first | (with_reducible exact Calls.quiet_of_same (HWX.out _ _ (fun i hi => HW0.out _ _ _ i hi))) | (with_reducible exact Calls.quiet_of_same (HWY.out _ _ (fun i hi => HW0.out _ _ _ i hi)))))
    obtain ⟨W1, hW1⟩ : ∃ W1, W1 = ((w.alloc (.cells #[.int .i64 0, .int .i64 0, .int .i64 0, .int .i64 0] 86)).alloc (.cells #[.int .i64 1, .int .i64 0, .int .i64 0, .int .i64 1] 86)).drewN nq := ⟨_, rfl⟩
    have f4 : Four W1 w.heap.size 0 0 0 0 := by
      rw [hW1]
      exact ((Four.new w 86 0 0 0 0).keep (w' := (w.alloc _).alloc _) (Below.heap_alloc _ _ _ (by simp))).keep rfl
    have f5 : Four W1 (w.heap.size + 1) 1 0 0 1 := by
      rw [hW1]
      have := Four.new (w.alloc (.cells #[.int .i64 0, .int .i64 0, .int .i64 0, .int .i64 0] 86)) 86 1 0 0 1
      rw [show (w.alloc (.cells #[.int .i64 0, .int .i64 0, .int .i64 0, .int .i64 0] 86)).heap.size = w.heap.size + 1 by simp] at this
      exact this.keep rfl
    have bw : Below w.heap.size w W1 := by rw [hW1]; exact below_drewN (((Below.refl _ _).alloc (Nat.le_refl _) _).alloc (by simp) _) _
    have F4 := Lib.hid f4
    have F5 := Lib.hid f5
    have BW := Lib.hid bw
    rw [← hW1]
    clear f4 f5 bw hW1
    go_wp2_with fail
    go_loopw [6, 7] (fun uv vv wr => ∃ a b e f u v : Int, uv = .int .i64 u ∧ vv = .int .i64 v ∧ u < 1000000000000000000 ∧ v < 1000000000000000000 ∧ LInv u0 v0 (nval xs) (nval ys) a b e f u v ∧ Four wr w.heap.size 0 0 0 0 ∧ Four wr (w.heap.size + 1) a b e f ∧ Below w.heap.size w wr) (fun _ vv _ => (intOf vv).toNat)
    case atStart => exact ⟨1, 0, 0, 1, u0, v0, rfl, rfl, tx5, ty5, linv_start tx4 ty4, F4.out, F5.out, BW.out⟩
    case round =>
      obtain ⟨a, b, e, f, u, v, rfl, rfl, u1, v1, hinv, g4, g5, hbel⟩ := hrel
      have HI := Lib.hid hinv
      have G4 := Lib.hid g4
      have G5 := Lib.hid g5
      have HBL := Lib.hid hbel
      obtain ⟨bd1, bd2, bd3, bd4, bd5, bd6, bd7, bd8⟩ := hinv.bd
      obtain ⟨nn1, nn2⟩ := hinv.nn
      have c0 := g5.row.cell (i := 0) (z := a) rfl
      have c1 := g5.row.cell (i := 1) (z := b) rfl
      have c2 := g5.row.cell (i := 2) (z := e) rfl
      have c3 := g5.row.cell (i := 3) (z := f) rfl
      have z0 := g4.row.cell (i := 0) (z := 0) rfl
      have z1 := g4.row.cell (i := 1) (z := 0) rfl
      have z2 := g4.row.cell (i := 2) (z := 0) rfl
      have z3 := g4.row.cell (i := 3) (z := 0) rfl
      have fr5 := g5.row.frozen
      have fr4 := g4.row.frozen
      have HLL := Lib.hid HL.out
      rcases Int.lt_or_le v 1000000000 with hv | hv
      · have hv' : decide (1000000000 ≤ v) = false := decide_eq_false (by omega)
        clear hinv g4 g5 hbel
        go_wp2_with fail
        have hf := (G4.out.store a b e f).row
        have r0 := hf.cell (i := 0) (z := a) rfl
        have r1 := hf.cell (i := 1) (z := b) rfl
        have r2 := hf.cell (i := 2) (z := e) rfl
        have r3 := hf.cell (i := 3) (z := f) rfl
        exact bodyPost_ret (v := .agg #[.int .i64 a, .int .i64 b, .int .i64 e, .int .i64 f]) (by simp [results, Tryd.results107, go_sem, r0, r1, r2, r3]) rfl
          ⟨a, b, e, f, u, v, u0, v0, rfl, HI.out, fun _ => HL.out, (((HBL.out.setCell (p := ⟨w.heap.size, 0, none⟩) (Nat.le_refl _) _).setCell (p := ⟨w.heap.size, 1, none⟩) (Nat.le_refl _) _).setCell (p := ⟨w.heap.size, 2, none⟩) (Nat.le_refl _) _).setCell (p := ⟨w.heap.size, 3, none⟩) (Nat.le_refl _) _⟩
      · have hua : 0 ≤ u + a ∧ 0 ≤ u + b := by
          rcases hinv.st with ⟨rfl, rfl, rfl, rfl⟩ | st
          · omega
          · omega
        obtain ⟨hua1, hua2⟩ := hua
        obtain ⟨q, hq⟩ : ∃ q, q = (u + a) / (v + e) := ⟨_, rfl⟩
        obtain ⟨q2, hq2⟩ : ∃ q2, q2 = (u + b) / (v + f) := ⟨_, rfl⟩
        have t1 : (u + a).tdiv (v + e) = q := by rw [hq]; exact Int.tdiv_eq_ediv_of_nonneg hua1
        have t2 : (u + b).tdiv (v + f) = q2 := by rw [hq2]; exact Int.tdiv_eq_ediv_of_nonneg hua2
        have q0 : 0 ≤ q := by rw [hq]; exact Int.ediv_nonneg hua1 (by omega)
        have q1 : q ≤ u + a := by rw [hq]; exact Int.ediv_le_self _ hua1
        have q20 : 0 ≤ q2 := by rw [hq2]; exact Int.ediv_nonneg hua2 (by omega)
        have q21 : q2 ≤ u + b := by rw [hq2]; exact Int.ediv_le_self _ hua2
        have m1 : ¬ v + e = 0 := by omega
        have m2 : (v + e == 0) = false := beq_false_of_ne m1
        have m3 : ¬ v + f = 0 := by omega
        have m4 : (v + f == 0) = false := beq_false_of_ne m3
        by_cases hqq : q = q2
        · have hst := linv_step HI.out hv hq (hqq.trans hq2) TX1.out TY1.out (pow_pos' _) TX2.out TX3.out TY2.out TY3.out tx5 ty5
          obtain ⟨s1, s2, s3, s4, s5, s6, s7, s8⟩ := hst.bd
          have snn := hst.nn.2
          have squo := (linv_quo HI.out hv hq (hqq.trans hq2)).1
          have slt : u - q * v < v := by
            have := lt_succ_mul (by omega) squo
            rw [Int.add_mul, Int.one_mul] at this; omega
          have qv0 : 0 ≤ q * v := Int.mul_nonneg q0 (by omega)
          have HST := Lib.hid hst
          subst hqq
          have hqn : (q != q) = false := by simp
          have S5 := Lib.hid (G5.out.store e f (a - q * e) (b - q * f))
          have S4 := Lib.hid (show Four ((((wr.setCell ⟨w.heap.size + 1, 0, none⟩ (.int .i64 e)).setCell ⟨w.heap.size + 1, 1, none⟩ (.int .i64 f)).setCell ⟨w.heap.size + 1, 2, none⟩ (.int .i64 (a - q * e))).setCell ⟨w.heap.size + 1, 3, none⟩ (.int .i64 (b - q * f))) w.heap.size 0 0 0 0 from
            G4.out.keep (by rw [Below.heap_setCell _ _ _ _ (by show w.heap.size ≠ w.heap.size + 1; omega), Below.heap_setCell _ _ _ _ (by show w.heap.size ≠ w.heap.size + 1; omega), Below.heap_setCell _ _ _ _ (by show w.heap.size ≠ w.heap.size + 1; omega), Below.heap_setCell _ _ _ _ (by show w.heap.size ≠ w.heap.size + 1; omega)]))
          have SB := Lib.hid ((((HBL.out.setCell (p := ⟨w.heap.size + 1, 0, none⟩) (Nat.le_succ _) (.int .i64 e)).setCell (p := ⟨w.heap.size + 1, 1, none⟩) (Nat.le_succ _) (.int .i64 f)).setCell (p := ⟨w.heap.size + 1, 2, none⟩) (Nat.le_succ _) (.int .i64 (a - q * e))).setCell (p := ⟨w.heap.size + 1, 3, none⟩) (Nat.le_succ _) (.int .i64 (b - q * f)))
          clear hinv g4 g5 hbel hq hq2 hst squo z0 z1 z2 z3 fr4
          go_wp2_with fail
          go_roundw
          case rel => exact ⟨e, f, a - q * e, b - q * f, v, u - q * v, rfl, rfl, v1, by omega, HST.out, S4.out, S5.out, SB.out⟩
          case measure => simp only [intOf]; omega
        · have hqn : (q != q2) = true := by simpa using hqq
          clear hinv g4 g5 hbel hq hq2 hqq
          go_wp2_with fail
          have hf := (G4.out.store a b e f).row
          have r0 := hf.cell (i := 0) (z := a) rfl
          have r1 := hf.cell (i := 1) (z := b) rfl
          have r2 := hf.cell (i := 2) (z := e) rfl
          have r3 := hf.cell (i := 3) (z := f) rfl
          exact bodyPost_ret (v := .agg #[.int .i64 a, .int .i64 b, .int .i64 e, .int .i64 f]) (by simp [results, Tryd.results107, go_sem, r0, r1, r2, r3]) rfl
            ⟨a, b, e, f, u, v, u0, v0, rfl, HI.out, fun _ => HL.out, (((HBL.out.setCell (p := ⟨w.heap.size, 0, none⟩) (Nat.le_refl _) _).setCell (p := ⟨w.heap.size, 1, none⟩) (Nat.le_refl _) _).setCell (p := ⟨w.heap.size, 2, none⟩) (Nat.le_refl _) _).setCell (p := ⟨w.heap.size, 3, none⟩) (Nat.le_refl _) _⟩
  · have hne : ((xs.length : Int) != (ys.length : Int)) = true := by simp; omega
    go_enter Tryd.func107, Tryd.ntmps107
    go_wp2_with fail
    exact bodyPost_ret (v := .agg #[.int .i64 1, .int .i64 0, .int .i64 0, .int .i64 1]) (by simp [results, Tryd.results107, go_sem]) rfl
      ⟨1, 0, 0, 1, 0, 0, 0, 0, rfl, linv_start (by omega) (by omega), fun h => absurd rfl h, ((Below.refl _ _).alloc (Nat.le_refl _) _).alloc (by simp) _⟩
end Go.Proofs.YthkhaipbdphpeaaDoor
/- The contracts of nat.combined and nat.shortened. -/
namespace Go.Proofs.YthkhaipbdphpeaaDoor
open Go.ChangeShapes Go.WideShapes Go.RowKit
set_option linter.unusedVariables false
set_option maxRecDepth 100000

theorem comb_val {xs ys : List Int} {m n : Int} (hl : xs.length = ys.length) : nval (addT (addT (List.replicate (xs.length + 1) 0) xs m 0) ys n 0) = m * nval xs + n * nval ys := by
  rw [addT_val _ _ _ _ (by rw [addT_length]; simp; omega), addT_val _ _ _ _ (by simp), nval_zeros]; omega
theorem comb_bd {X m P : Int} (x0 : 0 ≤ X) (x1 : X < P) (m0 : -1000000000 < m) (m1 : m < 1000000000) : -(1000000000 * P) < m * X ∧ m * X < 1000000000 * P := by
  have a1 : m * X ≤ 999999999 * X := Int.mul_le_mul_of_nonneg_right (by omega) x0
  have a2 : -999999999 * X ≤ m * X := Int.mul_le_mul_of_nonneg_right (by omega) x0
  omega

set_option maxHeartbeats 1600000 in
theorem nat_combined (xs ys : List Int) (A B : Option Addr) (c d : Nat) (m n : Int) (w : World) (hA : Holds w 0 w.heap.size A xs) (hB : Holds w 0 w.heap.size B ys) (hx : lok xs = true) (hy : lok ys = true) (hl : xs.length = ys.length) (hlx : xs.length ≤ 1000)
    (m0 : -1000000000 < m) (m1 : m < 1000000000) (n0 : -1000000000 < n) (n1 : n < 1000000000) (h0 : 0 ≤ m * nval xs + n * nval ys) (h1 : m * nval xs + n * nval ys ≤ nval ys) :
    Calls Tryd.prog 108 #[.slice A xs.length c, .int .i64 m, .slice B ys.length d, .int .i64 n] w (GcdRes w (m * nval xs + n * nval ys).toNat) := by
  have hct := nat_times xs A c m 0 w.heap.size w hA (Nat.le_refl _) (by omega) hx m0 m1
  have x0 := nval_nonneg hx
  have x1 := nval_lt hx
  have y1 := nval_lt hy
  have hlT : (addT (List.replicate (xs.length + 1) 0) xs m 0).length = xs.length + 1 := by rw [addT_length]; simp
  have hvT : nval (addT (List.replicate (xs.length + 1) 0) xs m 0) = m * nval xs := by rw [addT_val _ _ _ _ (by simp), nval_zeros]; omega
  have hdT := addT_lok (List.replicate (xs.length + 1) 0) xs m 0
  have hbd := comb_bd x0 x1 m0 m1
  have hlast : ∀ z, (addT (List.replicate (xs.length + 1) 0) xs m 0)[xs.length]? = some z → -4000000000000000000 < z ∧ z < 4000000000000000000 := by
    intro z hz
    have := last_bd hdT hlT hz hvT hbd.1 (by rw [Int.pow_succ]; omega)
    omega
  have hvR := comb_val (m := m) (n := n) hl
  obtain ⟨T, hT⟩ : ∃ T, T = addT (List.replicate (xs.length + 1) 0) xs m 0 := ⟨_, rfl⟩
  rw [← hT] at hct hlT hdT hlast hvR
  have hRl : (addT T ys n 0).length = xs.length + 1 := by rw [addT_length, hlT]
  have hRk : lok (addT T ys n 0) = true := by
    refine lok_of_dropLast (by intro h; rw [h] at hRl; simp at hRl) (addT_lok _ _ _ _) (by rw [hvR]; exact h0) ?_
    rw [hvR, hRl, Int.pow_succ, hl]; omega
  have HCT := Lib.hid hct
  have HB := Lib.hid hB
  have HY := Lib.hid hy
  have HLT := Lib.hid hlT
  have HDT := Lib.hid hdT
  have HLA := Lib.hid hlast
  have HVR := Lib.hid hvR
  have HRL := Lib.hid hRl
  have HRK := Lib.hid hRk
  have HL := Lib.hid hl
  clear hA hB hx hy hct x0 x1 y1 hlT hvT hdT hbd hlast hvR hT hRl hRk hl h0 h1
  go_enter Tryd.func108, Tryd.ntmps108
  go_wp2_with fail
  refine HCT.out.mono ?_
  rintro e w1 ⟨rfl, hr1, hb1⟩
  have hadd := nat_addTimes T T ys n w.heap.size 0 (xs.length + 1) d 0 w.heap.size B w1 hr1 (by omega) (fun j _ => by rw [Nat.zero_add]) (HB.out.below hb1 (Nat.le_refl _)) (Or.inr (Nat.le_refl _)) (by rw [HLT.out, HL.out]; omega) (by rw [HLT.out]; omega) HDT.out (fun z hz => HLA.out z (by rw [HLT.out] at hz; exact hz)) HY.out n0 n1
  rw [HLT.out, laid_all (by rw [addT_length])] at hadd
  have HADD := Lib.hid hadd
  have HB1 := Lib.hid hb1
  clear hadd hr1 hb1
  go_wp2_with fail
  refine HADD.out.mono ?_
  rintro e w2 ⟨rfl, hrow, honly⟩
  have hb2 : Below w.heap.size w w2 := HB1.out.trans (honly.toBelow (Nat.le_refl _))
  have htr := nat_trimmed (addT T ys n 0) (some ⟨w.heap.size, 0, none⟩) (xs.length + 1) w.heap.size w2.heap.size w2 (hrow.holds (fun k z hz => by rw [Nat.zero_add]; exact hz) (Nat.le_refl _) hrow.lt) (by rw [HRL.out]; omega) (by unfold maxLen; omega)
  rw [HRL.out] at htr
  have hsl : Sl w2 w.heap.size w2.heap.size (.slice (some ⟨w.heap.size, 0, none⟩) (trimL (addT T ys n 0)).length (xs.length + 1)) (limbs (m * nval xs + n * nval ys).toNat) := by
    have e : limbs (m * nval xs + n * nval ys).toNat = trimL (addT T ys n 0) := by rw [trimL_limbs HRK.out, HVR.out]
    rw [e]
    have := trimL_len_le (addT T ys n 0)
    rw [HRL.out] at this
    exact ⟨_, _, rfl, this, by unfold maxLen; omega, by rw [← trimL_eq_take (addT T ys n 0)]; exact (hrow.take _).holds (fun k z hz => by rw [Nat.zero_add]; exact hz) (Nat.le_refl _) hrow.lt⟩
  have HTR := Lib.hid htr
  have HSL := Lib.hid hsl
  have HB2 := Lib.hid hb2
  clear htr hsl hb2 hrow honly
  go_wp2_with fail
  refine HTR.out.mono ?_
  rintro e w3 ⟨rfl, rfl⟩
  go_wp2_with fail
  go_ret
  exact ⟨_, rfl, HSL.out, HB2.out⟩
end Go.Proofs.YthkhaipbdphpeaaDoor
/- What nat.shortened leaves. -/
namespace Go.Proofs.YthkhaipbdphpeaaDoor
open Go.ChangeShapes Go.WideShapes Go.RowKit
set_option linter.unusedVariables false
set_option maxRecDepth 100000

def ShortRes (w : World) (xs ys : List Int) (e : Ending) (w' : World) : Prop :=
  ∃ vx vy xs' ys', e = .returned (.tuple #[vx, vy]) ∧ In w' vx xs' ∧ In w' vy ys' ∧ nrm xs' = true ∧ nrm ys' = true ∧ xs'.length ≤ ys.length ∧ ys'.length ≤ ys.length ∧
    Nat.gcd (nval xs').toNat (nval ys').toNat = Nat.gcd (nval xs).toNat (nval ys).toNat ∧ nval ys' < nval ys ∧ Below w.heap.size w w'
theorem len_le_of {N : Nat} {ys : List Int} (hy : nrm ys = true) (h : N ≤ (nval ys).toNat) : (limbs N).length ≤ ys.length := by
  have hl := nrm_limbs hy
  have : (nval ys).toNat < 1000000000 ^ ys.length := limbs_len_le.mp (by rw [← hl]; exact Nat.le_refl _)
  exact limbs_len_le.mpr (by omega)
theorem gcd_int {x y : Int} (hx : 0 ≤ x) (hy : 0 ≤ y) : Nat.gcd x.toNat y.toNat = Int.gcd x y := by
  have e1 : x.natAbs = x.toNat := by omega
  have e2 : y.natAbs = y.toNat := by omega
  show _ = Nat.gcd x.natAbs y.natAbs
  rw [e1, e2]
theorem short_facts {u0 v0 a b c d u v : Int} {xs ys : List Int} (h : LInv u0 v0 (nval xs) (nval ys) a b c d u v) (hb : b ≠ 0) (hx : nrm xs = true) (hy : nrm ys = true) :
    0 ≤ a * nval xs + b * nval ys ∧ a * nval xs + b * nval ys ≤ nval ys ∧ 0 ≤ c * nval xs + d * nval ys ∧ c * nval xs + d * nval ys < nval ys ∧
    Nat.gcd (a * nval xs + b * nval ys).toNat (c * nval xs + d * nval ys).toNat = Nat.gcd (nval xs).toNat (nval ys).toNat := by
  have x0 := nval_nonneg (nrm_lok hx)
  have y0 := nval_nonneg (nrm_lok hy)
  rcases h.st with ⟨_, h2, _, _⟩ | ⟨_, _, s1, s2, s3⟩
  · exact absurd h2 hb
  · refine ⟨by omega, s3, s1, by omega, ?_⟩
    rw [gcd_int (by omega) s1, h.gc, gcd_int x0 y0]

end Go.Proofs.YthkhaipbdphpeaaDoor
/- The contract of nat.gcd, out of that of shortened. -/
namespace Go.Proofs.YthkhaipbdphpeaaDoor
open Go.ChangeShapes Go.WideShapes Go.RowKit
set_option linter.unusedVariables false
set_option maxRecDepth 100000

/-- The integers that a slice holds, read off the world: for a loop's measure. -/
def readL (w : World) : Value → List Int
  | .slice (some a) n _ => (List.range n).map fun i => ((w.cell? ⟨a.block, a.off + i, none⟩).map intOf).getD 0
  | _ => []
theorem readL_in {w : World} {v : Value} {zs : List Int} (h : In w v zs) : readL w v = zs := by
  obtain ⟨A, c, rfl, _, _, hS⟩ := h
  cases A with
  | none =>
    cases zs with
    | nil => rfl
    | cons z zs => obtain ⟨b, off, hA, _⟩ := hS 0 z rfl; cases hA
  | some a =>
    apply List.ext_getElem?
    intro i
    show ((List.range zs.length).map fun i => ((w.cell? ⟨a.block, a.off + i, none⟩).map intOf).getD 0)[i]? = zs[i]?
    rw [List.getElem?_map]
    rcases Nat.lt_or_ge i zs.length with h | h
    · have hz : zs[i]? = some zs[i] := List.getElem?_eq_getElem h
      obtain ⟨b, off, hA, _, _, hc⟩ := hS i zs[i] hz
      cases hA
      rw [List.getElem?_range h, hz]
      simp [hc, intOf]
    · rw [List.getElem?_eq_none h, List.getElem?_eq_none (by simpa using h)]; rfl

set_option maxHeartbeats 6400000 in
theorem gcd_of_short (HSH : ∀ (xs ys : List Int) (va vb : Value) (W : World), In W va xs → In W vb ys → nrm xs = true → nrm ys = true → 2 < ys.length → xs.length ≤ 1000 → ys.length ≤ 1000 → Calls Tryd.prog 94 #[va, vb] W (ShortRes W xs ys))
    (xs ys : List Int) (va vb : Value) (w : World) (ha : In w va xs) (hb : In w vb ys) (hx : nrm xs = true) (hy : nrm ys = true) (hlx : xs.length ≤ 1000) (hly : ys.length ≤ 1000) :
    Calls Tryd.prog 78 #[va, vb] w (GcdRes w (Nat.gcd (nval xs).toNat (nval ys).toNat)) := by
  obtain ⟨G, hG⟩ : ∃ G, G = Nat.gcd (nval xs).toNat (nval ys).toNat := ⟨_, rfl⟩
  rw [← hG]
  have HA := Lib.hid ha
  have HB := Lib.hid hb
  have HX := Lib.hid hx
  have HY := Lib.hid hy
  have HG := Lib.hid hG
  have HSHH := Lib.hid HSH
  clear ha hb hx hy hG HSH
  go_enter Tryd.func78, Tryd.ntmps78
  go_wp2_with fail
  go_loopw [0, 1] (fun xv yv wr => ∃ xs' ys' : List Int, In wr xv xs' ∧ In wr yv ys' ∧ nrm xs' = true ∧ nrm ys' = true ∧ xs'.length ≤ 1000 ∧ ys'.length ≤ 1000 ∧ Nat.gcd (nval xs').toNat (nval ys').toNat = G ∧ Below w.heap.size w wr) (fun _ yv wr => (nval (readL wr yv)).toNat)
  case atStart => exact ⟨xs, ys, HA.out, HB.out, HX.out, HY.out, hlx, hly, HG.out.symm, Below.refl _ _⟩
  case round =>
    obtain ⟨xs', ys', hax, hby, hnx, hny, hl1, hl2, hg, hbel⟩ := hrel
    have HAX := Lib.hid hax
    have HBY := Lib.hid hby
    have HNX := Lib.hid hnx
    have HNY := Lib.hid hny
    have HGG := Lib.hid hg
    have HBL := Lib.hid hbel
    obtain ⟨A, ca, rfl, hca, hma, hAh⟩ := hax
    obtain ⟨B, cb, rfl, hcb, hmb, hBh⟩ := hby
    have HAH := Lib.hid hAh
    have HBH := Lib.hid hBh
    clear hnx hny hg hbel hAh hBh hma hmb
    rcases Nat.lt_or_ge 2 ys'.length with hlong | hshort
    · have hl' : (2 : Int) < (ys'.length : Int) := by omega
      go_wp2_with fail
      refine (HSHH.out xs' ys' _ _ wr HAX.out HBY.out HNX.out HNY.out hlong hl1 hl2).mono ?_
      rintro e w1 ⟨vx, vy, xs2, ys2, rfl, hi1, hi2, hn1, hn2, hle1, hle2, hgg, hlt, hb1⟩
      have I1 := Lib.hid hi1
      have I2 := Lib.hid hi2
      have N1 := Lib.hid hn1
      have N2 := Lib.hid hn2
      have GG := Lib.hid hgg
      have LT := Lib.hid hlt
      have B1 := Lib.hid (bstep HBL.out hb1)
      have R2 := Lib.hid (readL_in hi2)
      have R0 := Lib.hid (readL_in HBY.out)
      clear hi1 hi2 hn1 hn2 hgg hlt hb1
      go_wp2_with fail
      go_roundw
      case rel => exact ⟨xs2, ys2, I1.out, I2.out, N1.out, N2.out, by omega, by omega, GG.out.trans HGG.out, B1.out⟩
      case measure =>
        have h1 := R2.out
        have h2 := R0.out
        have h3 := LT.out
        have h4 := nval_nonneg (nrm_lok N2.out)
        rw [h1, h2]; omega
    · have hl2' : decide ((2 : Int) < (ys'.length : Int)) = false := decide_eq_false (by omega)
      rcases Nat.eq_zero_or_pos ys'.length with h0 | hp
      · have hnil : ys' = [] := List.eq_nil_of_length_eq_zero h0
        subst hnil
        have hg0 : (nval xs').toNat = G := by have := HGG.out; rw [show (nval []).toNat = 0 from rfl, Nat.gcd_zero_right] at this; exact this
        have HXL := Lib.hid (nrm_limbs HNX.out)
        have HG0 := Lib.hid hg0
        clear hg0
        go_wp2_with fail
        refine (nat_copied xs' A ca xs'.length _ _ wr HAH.out (Nat.le_refl _) (Nat.le_refl _) (by omega)).mono ?_
        rintro e w1 ⟨rfl, hrow, hb1⟩
        rw [padL_self] at hrow
        have HR := Lib.hid hrow
        have HB1 := Lib.hid (bstep HBL.out hb1)
        clear hrow hb1
        go_wp2_with fail
        go_ret
        have hs := HBL.out.size
        refine ⟨_, rfl, ?_, HB1.out⟩
        rw [← HG0.out, ← HXL.out]
        exact ⟨_, _, rfl, Nat.le_refl _, by unfold maxLen; omega, HR.out.holds (fun k z hz => by rw [Nat.zero_add]; exact hz) hs HR.out.lt⟩
      · have hne : ((ys'.length : Int) == 0) = false := beq_false_of_ne (by omega)
        have sy := nval_small (nrm_lok HNY.out) hshort
        have py := nval_pos HNY.out hp
        obtain ⟨M, hM⟩ : ∃ M, M = (nval ys').toNat := ⟨_, rfl⟩
        obtain ⟨N, hN⟩ : ∃ N, N = (nval xs').toNat := ⟨_, rfl⟩
        have eM : nval ys' = (M : Int) := by omega
        have hM1 : M < 1000000000000000000 := by omega
        have hM0 : 0 < M := by omega
        have hr2 : (limbs (N % M)).length ≤ 2 := limbs_len_le.mpr (by have := Nat.mod_lt N hM0; omega)
        have hdv := nat_divide xs' ys' _ _ wr HAX.out HBY.out HNX.out HNY.out hl1 hp
        have hgg := HGG.out
        rw [← hM, ← hN] at hgg
        have HGN := Lib.hid hgg
        have HM := Lib.hid hM
        have HN := Lib.hid hN
        have EM := Lib.hid eM
        have HR2 := Lib.hid hr2
        have HDV := Lib.hid hdv
        clear sy py hM hN eM hr2 hdv hgg
        go_wp2_with fail
        refine HDV.out.mono ?_
        rintro e w1 ⟨vq, vr, rfl, -, hr, hb⟩
        rw [← HM.out, ← HN.out] at hr
        obtain ⟨A2, c2, rfl, hc2, hm2, hA2⟩ := hr
        have hwb : Calls Tryd.prog 90 #[.slice B ys'.length cb] w1 fun e w' => e = .returned (.int .i64 M) ∧ w1 = w' := by
          rw [← EM.out]; exact nat_word ys' B cb _ _ w1 (Holds.below HBH.out hb (Nat.le_refl _)) (nrm_lok HNY.out) hshort
        have hwr : Calls Tryd.prog 90 #[.slice A2 (limbs (N % M)).length c2] w1 fun e w' => e = .returned (.int .i64 ((N % M : Nat) : Int)) ∧ w1 = w' := by
          have := nat_word (limbs (N % M)) A2 c2 _ _ w1 hA2 (lok_limbs _) HR2.out
          rw [nval_limbs] at this; exact this
        have HWB := Lib.hid hwb
        have HWR := Lib.hid hwr
        have HBL1 := Lib.hid (bstep HBL.out hb)
        clear hwb hwr hb hA2 hm2
        go_wp2_with fail
        refine HWB.out.mono ?_
        rintro e w' ⟨rfl, rfl⟩
        go_wp2_with fail
        refine HWR.out.mono ?_
        rintro e w' ⟨rfl, rfl⟩
        go_wp2_with fail
        go_loopw [7, 8] (fun m n wr2 => ∃ a b : Nat, m = .int .i64 a ∧ n = .int .i64 b ∧ a < 1000000000000000000 ∧ b < 1000000000000000000 ∧ Nat.gcd a b = G ∧ Below w.heap.size w wr2) (fun _ n _ => (intOf n).toNat)
        case atStart => exact ⟨M, N % M, rfl, rfl, hM1, by have := Nat.mod_lt N hM0; omega, (gcd_step _ _).trans HGN.out, HBL1.out⟩
        case round =>
          obtain ⟨a, b, rfl, rfl, ha1, hb1, hg, hbel⟩ := hrel
          have HG2 := Lib.hid hg
          have HBL2 := Lib.hid hbel
          clear hg hbel
          rcases Nat.eq_zero_or_pos b with rfl | hb0
          · have hg := HG2.out
            rw [Nat.gcd_zero_right] at hg
            have HG3 := Lib.hid hg
            clear hg
            go_wp2_with fail
            refine (nat_ofWord (a : Int) wr (by omega) (by omega)).mono ?_
            rintro e w2 ⟨v, rfl, hsl, hb2⟩
            rw [Int.toNat_natCast, HG3.out] at hsl
            have HSL := Lib.hid hsl
            have HB2 := Lib.hid hb2
            clear hsl hb2
            go_wp2_with fail
            go_ret
            have hs := HBL2.out.size
            exact ⟨_, rfl, HSL.out.more hs (Nat.le_refl _), HBL2.out.trans (HB2.out.mono hs)⟩
          · have hb2 : ((b : Int) != 0) = true := by simp; omega
            have hb3 : ¬ (b : Int) = 0 := by omega
            have hb4 : ((b : Int) == 0) = false := beq_false_of_ne hb3
            have hr : (a : Int).tmod (b : Int) = ((a % b : Nat) : Int) := by rw [Int.tmod_eq_emod_of_nonneg (by omega)]; rfl
            have hlt := Nat.mod_lt a hb0
            go_wp2_with fail
            go_quiet (fail)
            go_wp2_with fail
            go_roundw
            case rel => exact ⟨b, a % b, rfl, rfl, hb1, by omega, by rw [gcd_step]; exact HG2.out, below_drewN HBL2.out _⟩
            case measure => simp [intOf]; omega
end Go.Proofs.YthkhaipbdphpeaaDoor
/- The contract of Gcd of the reference; the walk of NatDivisors, out of the contract of shortened. -/
namespace Go.Proofs.YthkhaipbdphpeaaDoor
open Go.ChangeShapes Go.WideShapes Go.RowKit
set_option linter.unusedVariables false
set_option maxRecDepth 100000

def ResIn (w : World) (N : Nat) (err : Int) (e : Ending) (w' : World) : Prop :=
  ∃ v, e = .returned (.tuple #[v, .int .i64 err]) ∧ In w' v (limbs N) ∧ Below w.heap.size w w'
theorem ResIn.none {w w' : World} {N : Nat} {err err' : Int} {e : Ending} (hN : N = 0) (he : err = err') (h : e = .returned (.tuple #[.slice none 0 0, .int .i64 err'])) (hb : Below w.heap.size w w') : ResIn w N err e w' := by
  subst hN he h
  exact ⟨_, rfl, by rw [limbs_zero]; exact In.nil _, hb⟩
theorem valid_back {xs : List Int} (h : validB xs = true) : limbs (nval xs).toNat = xs := (nrm_limbs (valid_nrm h)).symm

set_option maxHeartbeats 3200000 in
theorem ref_Gcd (xs ys : List Int) (va vb : Value) (w : World) (ha : In w va xs) (hb : In w vb ys) :
    Calls Tryd.prog 54 #[va, vb] w (ResIn w (gcdN xs ys) (formE xs ys)) := by
  obtain ⟨A, c, rfl, hc, hm, hA⟩ := ha
  obtain ⟨B, d, rfl, hd, hn, hB⟩ := hb
  have HIB := Lib.hid (show In w (.slice B ys.length d) ys from ⟨B, d, rfl, hd, hn, hB⟩)
  have HA := Lib.hid hA
  have HB := Lib.hid hB
  have hm1 : xs.length ≤ 9223372036854775807 := Nat.le_trans hc hm
  have hm2 : ys.length ≤ 9223372036854775807 := Nat.le_trans hd hn
  clear hA hB hm hn
  rcases both_cases xs ys with ⟨hx, hbo⟩ | ⟨hx, hy, hbo⟩ | ⟨hx, hy, hbo⟩
  · have HBO := Lib.hid hbo
    clear hbo
    go_enter Tryd.func54, Tryd.ntmps54
    go_wp2_with fail
    refine (ref_Valid xs A c _ _ w HA.out hm1).mono ?_
    rintro e w' ⟨rfl, rfl⟩
    go_wp2_with fail
    go_ret2
    exact ResIn.none (by rw [gcdN, HBO.out]; rfl) (by rw [formE, HBO.out]; rfl) rfl (Below.refl _ _)
  · have HBO := Lib.hid hbo
    clear hbo
    go_enter Tryd.func54, Tryd.ntmps54
    go_wp2_with fail
    refine (ref_Valid xs A c _ _ w HA.out hm1).mono ?_
    rintro e w' ⟨rfl, rfl⟩
    go_wp2_with fail
    refine (ref_Valid ys B d _ _ _ HB.out hm2).mono ?_
    rintro e w' ⟨rfl, rfl⟩
    go_wp2_with fail
    go_ret2
    exact ResIn.none (by rw [gcdN, HBO.out]; rfl) (by rw [formE, HBO.out]; rfl) rfl (Below.refl _ _)
  · have HGN := Lib.hid (show gcdN xs ys = Nat.gcd (nval xs).toNat (nval ys).toNat by rw [gcdN, hbo]; rfl)
    have HFE := Lib.hid (show formE xs ys = 0 by rw [formE, hbo]; rfl)
    have HX := Lib.hid hx
    have HY := Lib.hid hy
    have l1 := valid_len hx
    have HAL := Lib.hid (Holds.below HA.out (below_alloc w (.cells #[] 3)) (Nat.le_refl _))
    have HOE := Lib.hid (own_empty w)
    have HLEN := Lib.hid (show ([] : List Int).length + xs.length ≤ 1000000 by simp; omega)
    clear hx hy hbo
    go_enter Tryd.func54, Tryd.ntmps54
    go_wp2_with fail
    refine (ref_Valid xs A c _ _ w HA.out hm1).mono ?_
    rintro e w' ⟨rfl, rfl⟩
    rw [HX.out]
    go_wp2_with fail
    refine (ref_Valid ys B d _ _ _ HB.out hm2).mono ?_
    rintro e w' ⟨rfl, rfl⟩
    rw [HY.out]
    go_wp2_with (first
      | (at_builtin; refine append_holds rfl (.tmp 17) (.tmp 18) rfl w.heap.size _ [] rfl HOE.out 0 w.heap.size A c xs _ rfl rfl HAL.out HLEN.out (by simp) ?_; intro v' w1 hown hgrow; refine Hid.out ?_)
      | fail)
    refine Lib.hid ?_
    rw [List.nil_append] at hown
    have hb1 : Below w.heap.size w w1 := (below_alloc _ _).grown hgrow (by simp) (own_block_ge HOE.out)
    have HI1 := Lib.hid (sl_of_owns hown).toIn
    have HIB1 := Lib.hid (HIB.out.on hb1)
    have HB1 := Lib.hid hb1
    clear hown hgrow hb1
    go_wp2_with fail
    go_loopw [0, 1] (fun xv yv wr => ∃ xs' ys' : List Int, In wr xv xs' ∧ In wr yv ys' ∧ validB xs' = true ∧ validB ys' = true ∧ Nat.gcd (nval xs').toNat (nval ys').toNat = gcdN xs ys ∧ Below w.heap.size w wr) (fun _ yv wr => (nval (readL wr yv)).toNat)
    case atStart => exact ⟨xs, ys, HI1.out, HIB1.out, HX.out, HY.out, HGN.out.symm, HB1.out⟩
    case round =>
      obtain ⟨xs', ys', hax, hby, hvx, hvy, hg, hbel⟩ := hrel
      have HAX := Lib.hid hax
      have HBY := Lib.hid hby
      have HVX := Lib.hid hvx
      have HVY := Lib.hid hvy
      have HGG := Lib.hid hg
      have HBL := Lib.hid hbel
      obtain ⟨B2, cb, rfl, hcb, hmb, hBh⟩ := hby
      have HBH := Lib.hid hBh
      have l2 := valid_len hvy
      clear hax hvx hvy hg hbel hBh hmb
      rcases Nat.eq_zero_or_pos ys'.length with h0 | hp
      · have hnil : ys' = [] := List.eq_nil_of_length_eq_zero h0
        subst hnil
        have hg0 : (nval xs').toNat = gcdN xs ys := by have := HGG.out; rw [show (nval []).toNat = 0 from rfl, Nat.gcd_zero_right] at this; exact this
        have HG0 := Lib.hid hg0
        clear hg0
        go_wp2_with fail
        go_ret2
        refine ⟨_, by rw [HFE.out]; rfl, ?_, HBL.out⟩
        rw [← HG0.out, valid_back HVX.out]; exact HAX.out
      · have hp' : (0 : Int) < (ys'.length : Int) := by omega
        have hbt : both xs' ys' = true := by rw [both, HVX.out, HVY.out]; rfl
        have hie : ys'.isEmpty = false := by cases ys' with
          | nil => simp at hp
          | cons a l => rfl
        have hrem : remN xs' ys' = (nval xs').toNat % (nval ys').toNat := by rw [remN, divOk, hbt, hie]; rfl
        have hpos := nval_pos (valid_nrm HVY.out) hp
        have hlt : remN xs' ys' < (nval ys').toNat := by rw [hrem]; exact Nat.mod_lt _ (by omega)
        have hvr : validB (limbs (remN xs' ys')) = true := valid_limbs (Nat.lt_trans hlt (valid_lt HVY.out))
        have hgn : Nat.gcd (nval ys').toNat (remN xs' ys') = gcdN xs ys := by rw [hrem, gcd_step]; exact HGG.out
        have HLT := Lib.hid hlt
        have HVR := Lib.hid hvr
        have HGN2 := Lib.hid hgn
        clear hbt hie hrem hpos hlt hvr hgn
        go_wp2_with fail
        refine (ref_DivMod xs' ys' _ _ wr HAX.out HBY.out).mono ?_
        rintro e w2 ⟨vq, vr, rfl, -, hr2, hb2⟩
        have HR2 := Lib.hid hr2
        have HAL2 := Lib.hid (Holds.below (Holds.below HBH.out hb2 (Nat.le_refl _)) (below_alloc w2 (.cells #[] 3)) hb2.size)
        have HOE2 := Lib.hid (own_empty w2)
        have HLEN2 := Lib.hid (show ([] : List Int).length + ys'.length ≤ 1000000 by simp; omega)
        have HB2 := Lib.hid (bstep HBL.out hb2)
        have R0 := Lib.hid (readL_in HBY.out)
        clear hr2 hb2
        go_wp2_with (first
          | (at_builtin; refine append_holds rfl (.tmp 30) (.tmp 31) rfl w2.heap.size _ [] rfl HOE2.out 0 wr.heap.size B2 cb ys' _ rfl rfl HAL2.out HLEN2.out (by simp) ?_; intro v' w3 hown hgrow; refine Hid.out ?_)
          | fail)
        refine Lib.hid ?_
        rw [List.nil_append] at hown
        have hb3 : Below w2.heap.size w2 w3 := (below_alloc _ _).grown hgrow (by simp) (own_block_ge HOE2.out)
        have HI3 := Lib.hid (sl_of_owns hown).toIn
        have HR3 := Lib.hid (HR2.out.on hb3)
        have HB3 := Lib.hid (bstep HB2.out hb3)
        have RD3 := Lib.hid (readL_in (HR2.out.on hb3))
        clear hown hgrow hb3
        go_wp2_with fail
        go_roundw
        case rel => exact ⟨ys', limbs (remN xs' ys'), HI3.out, HR3.out, HVY.out, HVR.out, by rw [nval_limbs, Int.toNat_natCast]; exact HGN2.out, HB3.out⟩
        case measure =>
          have h1 := RD3.out
          have h2 := R0.out
          have h3 := HLT.out
          rw [h1, h2, nval_limbs]; omega
end Go.Proofs.YthkhaipbdphpeaaDoor
/- Contracts of Of, Int, limb of the reference. -/
namespace Go.Proofs.YthkhaipbdphpeaaDoor
open Go.ChangeShapes Go.WideShapes Go.RowKit
set_option linter.unusedVariables false
set_option maxRecDepth 100000

set_option maxHeartbeats 800000 in
theorem ref_Of (n : Int) (w : World) (h1 : -9223372036854775808 ≤ n) (h2 : n ≤ 9223372036854775807) :
    Calls Tryd.prog 59 #[.int .i64 n] w (Res w n.toNat (ofE n)) := by
  by_cases hn : n < 0
  · have e : n.toNat = 0 := by omega
    have E := Lib.hid e
    clear e
    go_enter Tryd.func59, Tryd.ntmps59
    go_wp2
    go_ret2
    exact Res.none E.out (by rw [ofE, if_pos (by omega)]) rfl (Below.refl _ _)
  · have hn' : decide (n < 0) = false := decide_eq_false hn
    obtain ⟨i0, hi, hz0, hz1, hz2⟩ := info_parts info_int
    have HB := Lib.hid (show (limbs n.toNat).length ≤ 3 from limbs_len_le.mpr (by omega))
    have HE := Lib.hid (show ofE n = 0 by rw [ofE, if_neg hn])
    go_enter Tryd.func59, Tryd.ntmps59
    go_wp2_with fail
    go_loopw [0, 4] (fun i v wr => ∃ m ds, i = .int .i64 m ∧ m ≤ n ∧ limbs n.toNat = ds ++ limbs m.toNat ∧ wr.ownsRow w.heap.size 3 1 v ds.length (ds.map (Value.int .i64)) ∧ Below w.heap.size w wr) (fun i _ _ => (intOf i).toNat)
    case atStart => exact ⟨n, [], rfl, Int.le_refl _, rfl, World.ownsRow_nil _ _ _ _, Below.refl _ _⟩
    case round =>
      obtain ⟨m, ds, rfl, hm, hds, hown, hbel⟩ := hrel
      have hlen : ds.length ≤ 3 := by have := HB.out; rw [hds] at this; simp at this; omega
      have HD := Lib.hid hds
      have HOW := Lib.hid hown
      have HBL := Lib.hid hbel
      clear hds hown hbel
      by_cases hp : 0 < m
      · have hq := tdiv_nonneg' (n := m) (by omega)
        have hr := tmod_nonneg' (n := m) (by omega)
        have hd1 : m / 1000000000 ≤ 9223372037 := by omega
        have hd2 : 0 ≤ m / 1000000000 := by omega
        go_wp2_with (first
          | (at_builtin; refine wpList_append_own _ rfl _ _ 23 rfl w.heap.size 3 i0 (.int .i64 0) 1 8 Tryd.underlying23 hi hz0 hz1 hz2 rfl (by decide) _ _ _ rfl (HOW.out.alloc _) ⟨wr.heap.size, 0, none⟩ 1 1 [.int .i64 (m % 1000000000)] rfl rfl (one_cell _ _ _) (by intro u hu; simp at hu; subst hu; rfl) (by unfold maxLen; omega) (by omega) (by have := HBL.out.size; simp; omega) ?_; intro v' w1 hown' hgrow _; refine Hid.out ?_)
          | fail)
        refine Lib.hid ?_
        have HB1 := Lib.hid (show Below w.heap.size w w1 from (HBL.out.alloc HBL.out.size _).grown hgrow (by have := HBL.out.size; simp; omega) (own_block_ge HOW.out))
        have HOW1 := Lib.hid (own_snoc hown')
        clear hown' hgrow
        go_wp2_with fail
        go_roundw
        case rel =>
          refine ⟨m / 1000000000, ds ++ [m % 1000000000], rfl, by omega, ?_, HOW1.out, HB1.out⟩
          rw [HD.out, limbs_round hp, List.append_assoc]
        case measure => simp [intOf]; omega
      · have hds := HD.out
        have e0 : m.toNat = 0 := by omega
        rw [e0, limbs_zero, List.append_nil] at hds
        have HD2 := Lib.hid hds
        have hp' : decide (0 < m) = false := decide_eq_false hp
        clear hds e0
        go_wp2_with fail
        go_ret2
        exact ⟨_, by rw [HE.out]; rfl, by rw [HD2.out]; exact sl_of_owns HOW.out, HBL.out⟩

theorem int_split {xs : List Int} {k : Nat} (hk : k ≤ xs.length) (hx : lok xs = true) : nval (xs.drop (xs.length - k)) * 1000000000 ^ (xs.length - k) ≤ nval xs := by
  have e := nval_append (xs.take (xs.length - k)) (xs.drop (xs.length - k))
  rw [List.take_append_drop, List.length_take, Nat.min_eq_left (by omega)] at e
  have h := nval_nonneg (lok_take hx (xs.length - k))
  rw [Int.mul_comm]; omega

set_option maxHeartbeats 1600000 in
theorem ref_Int (xs : List Int) (va : Value) (w : World) (ha : In w va xs) :
    Calls Tryd.prog 46 #[va] w fun e w' => e = .returned (.tuple #[.int .i64 (intV xs), .int .i64 (intE xs)]) ∧ w = w' := by
  obtain ⟨A, c, rfl, hc, hm, hA⟩ := ha
  have HA := Lib.hid hA
  have hm1 : xs.length ≤ 9223372036854775807 := Nat.le_trans hc hm
  clear hA hm
  cases hx : validB xs with
  | false =>
    have HV := Lib.hid (show intV xs = 0 by rw [intV, hx]; rfl)
    have HE := Lib.hid (show intE xs = 3 by rw [intE, hx]; rfl)
    go_enter Tryd.func46, Tryd.ntmps46
    go_wp2_with fail
    refine (ref_Valid xs A c _ _ w HA.out hm1).mono ?_
    rintro e w' ⟨rfl, rfl⟩
    rw [hx]
    go_wp2_with fail
    go_ret2
    exact ⟨ret_two HV.out.symm HE.out.symm, rfl⟩
  | true =>
    have l1 := valid_len hx
    have HX := Lib.hid hx
    have HK := Lib.hid (valid_lok hx)
    have big : 1125899906842624 < nval xs → intV xs = 0 ∧ intE xs = 2 := fun h => ⟨by rw [intV, hx, if_pos rfl, if_neg (by omega)], by rw [intE, hx, if_pos rfl, if_neg (by omega)]⟩
    have small : nval xs ≤ 1125899906842624 → intV xs = nval xs ∧ intE xs = 0 := fun h => ⟨by rw [intV, hx, if_pos rfl, if_pos h], by rw [intE, hx, if_pos rfl, if_pos h]⟩
    have BIG := Lib.hid big
    have SM := Lib.hid small
    clear hx big small
    go_enter Tryd.func46, Tryd.ntmps46
    go_wp2_with fail
    refine (ref_Valid xs A c _ _ w HA.out hm1).mono ?_
    rintro e w' ⟨rfl, rfl⟩
    rw [HX.out]
    go_wp2_with fail
    go_loop [4, 5] (fun nv iv => ∃ k : Nat, k ≤ xs.length ∧ iv = .int .i64 ((xs.length : Int) - 1 - k) ∧ nv = .int .i64 (nval (xs.drop (xs.length - k))) ∧ nval (xs.drop (xs.length - k)) < 1125900000000000) (fun _ iv => (intOf iv + 1).toNat)
    case atStart => exact ⟨0, Nat.zero_le _, by simp, by simp [nval], by simp [nval]⟩
    case round =>
      obtain ⟨k, hk, rfl, rfl, hb⟩ := hrel
      have h0 := nval_nonneg (lok_drop HK.out (xs.length - k))
      rcases Nat.lt_or_ge k xs.length with hlt | hge
      · obtain ⟨j, hj⟩ : ∃ j, j = xs.length - 1 - k := ⟨_, rfl⟩
        obtain ⟨x, hx⟩ : ∃ x, xs[j]? = some x := ⟨_, List.getElem?_eq_getElem (by omega)⟩
        obtain ⟨b, off, rfl, _, _, hcell⟩ := HA.out j x hx
        have xb := lok_at HK.out hx
        have hst := nval_drop_step hx
        have e1 : xs.length - k = j + 1 := by omega
        have hsp := int_split (k := k) (by omega) HK.out
        rw [e1] at h0 hb hsp ⊢
        obtain ⟨N, hN⟩ : ∃ N, N = nval (xs.drop (j + 1)) := ⟨_, rfl⟩
        rw [← hN] at h0 hb hst hsp ⊢
        have ej : (xs.length : Int) - 1 - k = (j : Int) := by omega
        have hjl : j < xs.length := by omega
        have HJ := Lib.hid hj
        have HST := Lib.hid hst
        obtain ⟨x0, x1⟩ := xb
        rw [ej]
        rcases Int.lt_or_le 1125899 N with hN1 | hN1
        · have hbig : 1125899906842624 < nval xs := by
            have p1 : (1000000000 : Int) ^ 1 ≤ 1000000000 ^ (j + 1) := pow_le_pow' (by omega)
            have p2 : N * 1000000000 ^ 1 ≤ N * 1000000000 ^ (j + 1) := Int.mul_le_mul_of_nonneg_left p1 h0
            rw [Int.pow_one] at p2
            omega
          have HB := Lib.hid (BIG.out hbig)
          clear hx hst hsp hN hj hbig e1 ej
          go_wp2_with fail
          go_ret2
          exact ⟨ret_two HB.out.1.symm HB.out.2.symm, rfl⟩
        · have hN1' : decide (1125899 < N) = false := decide_eq_false (by omega)
          clear hx hst hsp hN hj e1 ej
          go_wp2_with fail
          go_round
          case rel =>
            have e3 : xs.length - (k + 1) = j := by have := HJ.out; omega
            have h := HST.out
            refine ⟨k + 1, by omega, ?_, ?_, ?_⟩
            · have := HJ.out; go_num
            · rw [e3, h]; exact congrArg _ (by omega)
            · rw [e3, h]; omega
          case measure => simp [intOf] <;> omega
      · obtain rfl : k = xs.length := by omega
        rw [Nat.sub_self, List.drop_zero] at hb h0 ⊢
        have e0 : (xs.length : Int) - 1 - xs.length = -1 := by omega
        rw [e0]
        rcases Int.lt_or_le 1125899906842624 (nval xs) with hn | hn
        · have HB := Lib.hid (BIG.out hn)
          clear e0
          go_wp2_with fail
          go_ret2
          exact ⟨ret_two HB.out.1.symm HB.out.2.symm, rfl⟩
        · have HB := Lib.hid (SM.out hn)
          have hn' : decide (1125899906842624 < nval xs) = false := decide_eq_false (by omega)
          clear e0
          go_wp2_with fail
          go_ret2
          exact ⟨ret_two HB.out.1.symm HB.out.2.symm, rfl⟩
end Go.Proofs.YthkhaipbdphpeaaDoor
/- Contracts of limb and Text of the reference. -/
namespace Go.Proofs.YthkhaipbdphpeaaDoor
open Go.ChangeShapes Go.WideShapes Go.RowKit
set_option linter.unusedVariables false
set_option maxRecDepth 100000

theorem padD_cons (k : Nat) : ∀ n : Nat, padD (k + 1) n = UInt8.ofNat (48 + n / 10 ^ k % 10) :: padD k n := by
  induction k with
  | zero => intro n; simp [padD]
  | succ k ih =>
    intro n
    rw [padD, ih (n / 10), padD, List.cons_append, Nat.div_div_eq_div_mul, Nat.pow_succ, Nat.mul_comm 10]
theorem padD_mod (k : Nat) : ∀ n : Nat, padD k n = padD k (n % 10 ^ k) := by
  induction k with
  | zero => intro n; rfl
  | succ k ih =>
    intro n
    have p : 0 < 10 ^ k := Nat.pow_pos (by decide)
    have e1 : n % 10 ^ (k + 1) / 10 = n / 10 % 10 ^ k := by rw [Nat.pow_succ, Nat.mul_comm, Nat.mod_mul_right_div_self]
    have e2 : n % 10 ^ (k + 1) % 10 = n % 10 := by rw [Nat.pow_succ, Nat.mul_comm, Nat.mod_mul_right_mod]
    rw [padD, padD, e1, e2, ih (n / 10)]
theorem dec_split (k n : Nat) (h : 0 < n / 10 ^ k) : Lib.decDigits n = Lib.decDigits (n / 10 ^ k) ++ padD k n := by
  have p : 0 < 10 ^ k := Nat.pow_pos (by decide)
  have e := dec_pad k (n / 10 ^ k) (n % 10 ^ k) h (Nat.mod_lt _ p)
  rw [Nat.mul_comm, Nat.div_add_mod, ← padD_mod] at e
  exact e
theorem dec_done (k n : Nat) (h0 : 0 < n / 10 ^ k) (h1 : n / 10 ^ (k + 1) = 0) : Lib.decDigits n = padD (k + 1) n := by
  have hd : n / 10 ^ k < 10 := by
    rw [Nat.pow_succ, ← Nat.div_div_eq_div_mul] at h1
    omega
  rw [dec_split k n h0, Lib.decDigits_one hd, padD_cons, Nat.mod_eq_of_lt hd]; rfl
/-- The digits of a limb: nine of them, if full. -/
def limbL (n : Nat) (full : Bool) : List UInt8 := if full then padD 9 n else Lib.decDigits n
theorem digit_str {d : Nat} (h : d < 10) : (ByteArray.extract ⟨#[48, 49, 50, 51, 52, 53, 54, 55, 56, 57]⟩ d (d + 1)) = ⟨#[UInt8.ofNat (48 + d)]⟩ := by
  have : ∀ d : Nat, d < 10 → (ByteArray.extract ⟨#[48, 49, 50, 51, 52, 53, 54, 55, 56, 57]⟩ d (d + 1)).data.toList = [UInt8.ofNat (48 + d)] := by decide +kernel
  exact bytes_inj (this d h)

set_option maxHeartbeats 1600000 in
theorem ref_limb (n : Nat) (full : Bool) (w : World) (hn : n < 1000000000) (hp : full = true ∨ 0 < n) :
    Calls Tryd.prog 77 #[.int .i64 (n : Int), .bool full] w fun e w' => ∃ S : ByteArray, e = .returned (.string S) ∧ Hid (S.data.toList = limbL n full) ∧ S.size ≤ 9 ∧ w = w' := by
  have HP := Lib.hid hp
  clear hp
  go_enter Tryd.func77, Tryd.ntmps77
  go_wp2_with fail
  go_loop [0, 5, 6] (fun nv sv iv => ∃ (k : Nat) (S : ByteArray), k ≤ 9 ∧ nv = .int .i64 ((n / 10 ^ k : Nat) : Int) ∧ sv = .string S ∧ iv = .int .i64 (k : Int) ∧ S.data.toList = padD k n ∧ S.size = k ∧ (full = false → 0 < k → 0 < n / 10 ^ (k - 1))) (fun _ _ iv => 9 - (intOf iv).toNat)
  case atStart => exact ⟨0, ⟨#[]⟩, by omega, by simp, rfl, rfl, rfl, rfl, fun _ h => absurd h (by omega)⟩
  case round =>
    obtain ⟨k, S, hk, rfl, rfl, rfl, hS, hsz, hfl⟩ := hrel
    obtain ⟨m, hm⟩ : ∃ m, m = n / 10 ^ k := ⟨_, rfl⟩
    have hmn : m ≤ n := by rw [hm]; exact Nat.div_le_self _ _
    have hm1 : n / 10 ^ (k + 1) = m / 10 := by rw [hm, Nat.pow_succ, Nat.div_div_eq_div_mul]
    rw [← hm]
    have HM := Lib.hid hm
    have HM1 := Lib.hid hm1
    have HS := Lib.hid hS
    have HSZ := Lib.hid hsz
    have HFL := Lib.hid hfl
    have hr : (m : Int).tmod 10 = ((m % 10 : Nat) : Int) := by rw [Int.tmod_eq_emod_of_nonneg (by omega)]; rfl
    have hq : (m : Int).tdiv 10 = ((m / 10 : Nat) : Int) := by rw [Int.tdiv_eq_ediv_of_nonneg (by omega)]; rfl
    have hd : m % 10 < 10 := Nat.mod_lt _ (by decide)
    obtain ⟨dd, hdd⟩ : ∃ dd, dd = m % 10 := ⟨_, rfl⟩
    rw [← hdd] at hr hd
    have HDD := Lib.hid hdd
    have hdig := digit_str hd
    obtain ⟨D, hD⟩ : ∃ D : ByteArray, D = ⟨#[UInt8.ofNat (48 + dd)]⟩ := ⟨_, rfl⟩
    rw [← hD] at hdig
    have HDIG := Lib.hid hdig
    have hDs : D.size = 1 := by rw [hD]; rfl
    have HDL := Lib.hid (show (D ++ S).data.toList = UInt8.ofNat (48 + dd) :: S.data.toList by rw [hD, ByteArray.data_append]; simp)
    have HDSZ := Lib.hid (show (D ++ S).size = k + 1 by rw [ByteArray.size_append, hDs, hsz]; omega)
    have hSs : S.size = k := hsz
    have step : (D ++ S).data.toList = padD (k + 1) n := by rw [HDL.out, hS, padD_cons, ← hm, ← hdd]
    have STEP := Lib.hid step
    clear hm hm1 hS hsz hfl hdd hD step
    rcases Nat.lt_or_ge k 9 with hk9 | hk9
    · by_cases hmp : 0 < m
      · go_wp2_with fail
        go_round
        case rel =>
          refine ⟨k + 1, D ++ S, by omega, ?_, rfl, by go_num, STEP.out, HDSZ.out, fun _ _ => ?_⟩
          · rw [HM1.out]; go_num
          · rw [Nat.add_sub_cancel, ← HM.out]; exact hmp
        case measure => simp [intOf]; omega
      · obtain rfl : m = 0 := by omega
        cases full with
        | true =>
          go_wp2_with fail
          go_round
          case rel =>
            refine ⟨k + 1, D ++ S, by omega, ?_, ?_, by go_num, STEP.out, HDSZ.out, fun h => by cases h⟩
            · rw [HM1.out]; go_num
            · have e : dd = 0 := by simpa using HDD.out
              rw [← HDIG.out, e]
          case measure => simp [intOf]; omega
        | false =>
          have hfin : S.data.toList = limbL n false := by
            have hn0 : 0 < n := HP.out.resolve_left (by simp)
            rw [HS.out, limbL]
            cases k with
            | zero => exfalso; have := HM.out; simp at this; omega
            | succ k =>
              have h0 := HFL.out rfl (by omega)
              rw [Nat.add_sub_cancel] at h0
              exact (dec_done k n h0 HM.out.symm).symm
          have HFIN := Lib.hid hfin
          clear hfin
          go_wp2_with fail
          go_ret
          exact ⟨S, rfl, HFIN.out, by omega, rfl⟩
    · obtain rfl : k = 9 := by omega
      have hfin : S.data.toList = limbL n full := by
        rw [HS.out]
        cases full with
        | true => rfl
        | false =>
          have h0 := HFL.out rfl (by omega)
          have h1 : n / 10 ^ (8 + 1) = 0 := Nat.div_eq_of_lt (by simpa using hn)
          exact (dec_done 8 n h0 h1).symm
      have HFIN := Lib.hid hfin
      clear hfin
      go_wp2_with fail
      go_ret
      exact ⟨S, rfl, HFIN.out, by omega, rfl⟩

theorem padD_add (j : Nat) (k : Nat) : ∀ q r : Nat, r < 10 ^ k → padD (j + k) (q * 10 ^ k + r) = padD j q ++ padD k r := by
  induction k with
  | zero => intro q r h; obtain rfl : r = 0 := by simpa using h
            simp [padD]
  | succ k ih =>
    intro q r hr
    have p : 0 < 10 ^ k := Nat.pow_pos (by decide)
    rw [Nat.pow_succ] at hr ⊢
    have e1 : (q * (10 ^ k * 10) + r) / 10 = q * 10 ^ k + r / 10 := by
      rw [← Nat.mul_assoc, Nat.mul_comm (q * 10 ^ k) 10, Nat.mul_add_div (by decide)]
    have e2 : (q * (10 ^ k * 10) + r) % 10 = r % 10 := by
      rw [← Nat.mul_assoc, Nat.mul_comm (q * 10 ^ k) 10, Nat.mul_add_mod]
    rw [← Nat.add_assoc, padD, e1, e2, ih q (r / 10) (by omega), padD, List.append_assoc]
theorem nval_nat_lt {l : List Int} (h : lok l = true) : (nval l).toNat < 10 ^ (9 * l.length) := by
  rw [← pow9]
  have a := nval_lt h
  have b := nval_nonneg h
  have : ((1000000000 ^ l.length : Nat) : Int) = (1000000000 : Int) ^ l.length := by rw [Int.natCast_pow]; rfl
  omega
theorem nval_nat_snoc {l : List Int} {k : Nat} {x : Int} (hx : l[k]? = some x) (hl : lok l = true) : (nval (l.take (k + 1))).toNat = x.toNat * 10 ^ (9 * k) + (nval (l.take k)).toNat := by
  have xb := lok_at hl hx
  have hk : k < l.length := by
    rcases Nat.lt_or_ge k l.length with h1 | h1
    · exact h1
    · rw [List.getElem?_eq_none h1] at hx; cases hx
  rw [trim_step hx, nval_snoc, List.length_take, Nat.min_eq_left (by omega), ← pow9]
  have b := nval_nonneg (lok_take hl k)
  have e : ((1000000000 ^ k : Nat) : Int) = (1000000000 : Int) ^ k := by rw [Int.natCast_pow]; rfl
  have ex : x = (x.toNat : Int) := by omega
  have e2 : (1000000000 : Int) ^ k * x = ((x.toNat * 1000000000 ^ k : Nat) : Int) := by rw [Int.natCast_mul, e, ← ex, Int.mul_comm]
  rw [e2]; omega
theorem take_nat_lt {l : List Int} {k : Nat} (hl : lok l = true) (hk : k ≤ l.length) : (nval (l.take k)).toNat < 10 ^ (9 * k) := by
  have := nval_nat_lt (lok_take hl k)
  rwa [List.length_take, Nat.min_eq_left hk] at this
end Go.Proofs.YthkhaipbdphpeaaDoor
/- The contract of Text of the reference. -/
namespace Go.Proofs.YthkhaipbdphpeaaDoor
open Go.ChangeShapes Go.WideShapes Go.RowKit
set_option linter.unusedVariables false
set_option maxRecDepth 100000

theorem top_pos_last {ys : List Int} {b : Int} (hy : nrm ys = true) (hp : 0 < ys.length) (hb : ys[ys.length - 1]? = some b) : 0 < b := by
  have h := nrm_lok hy
  have b0 := lok_at h hb
  rcases Int.lt_or_eq_of_le b0.1 with h1 | h1
  · exact h1
  · exfalso
    subst h1
    have : ys.getLast? = some 0 := by rw [List.getLast?_eq_getElem?]; exact hb
    simp [nrm, this] at hy
theorem rtext_step {xs : List Int} {k : Nat} {x : Int} {S T : ByteArray} (hl : lok xs = true) (hx : xs[k]? = some x) (hk : k < xs.length) (hT : T.data.toList = limbL x.toNat true) (hS : S.data.toList = padD (9 * k) (nval (xs.take k)).toNat) :
    (T ++ S).data.toList = padD (9 * (k + 1)) (nval (xs.take (k + 1))).toNat := by
  rw [ByteArray.data_append, Array.toList_append, hT, hS, nval_nat_snoc hx hl, show 9 * (k + 1) = 9 + 9 * k by omega, padD_add _ _ _ _ (take_nat_lt hl (by omega))]
  rfl
theorem rtext_last {xs : List Int} {x : Int} {S T : ByteArray} (hv : validB xs = true) (hp : 0 < xs.length) (hx : xs[xs.length - 1]? = some x) (hT : T.data.toList = limbL x.toNat false) (hS : S.data.toList = padD (9 * (xs.length - 1)) (nval (xs.take (xs.length - 1))).toNat) :
    T ++ S = textV xs ∧ 0 < x.toNat := by
  have hl := valid_lok hv
  have xp : 0 < x := by
    have := top_pos_last (valid_nrm hv) hp hx
    exact this
  have h := nval_nat_snoc hx hl
  rw [show xs.length - 1 + 1 = xs.length by omega, List.take_length] at h
  refine ⟨bytes_inj ?_, by omega⟩
  rw [ByteArray.data_append, Array.toList_append, hT, hS, textV, hv]
  show limbL x.toNat false ++ _ = Lib.decDigits (nval xs).toNat
  rw [h, dec_pad _ _ _ (by omega) (take_nat_lt hl (by omega))]
  rfl

theorem fin_text {xs : List Int} {s : ByteArray} {n : Int} {w w' : World} (h1 : s = textV xs) (h2 : n = oneE xs) (h3 : w = w') : Ending.returned (.tuple #[.string s, .int .i64 n]) = Ending.returned (.tuple #[.string (textV xs), .int .i64 (oneE xs)]) ∧ w = w' := by
  subst h1 h2; exact ⟨rfl, h3⟩

set_option maxHeartbeats 1600000 in
theorem ref_Text (xs : List Int) (va : Value) (w : World) (ha : In w va xs) :
    Calls Tryd.prog 49 #[va] w fun e w' => e = .returned (.tuple #[.string (textV xs), .int .i64 (oneE xs)]) ∧ w = w' := by
  obtain ⟨A, c, rfl, hc, hm, hA⟩ := ha
  have HA := Lib.hid hA
  have hm1 : xs.length ≤ 9223372036854775807 := Nat.le_trans hc hm
  clear hA hm
  cases hx : validB xs with
  | false =>
    have HX := Lib.hid hx
    go_enter Tryd.func49, Tryd.ntmps49
    go_wp2_with fail
    refine (ref_Valid xs A c _ _ w HA.out hm1).mono ?_
    rintro e w' ⟨rfl, rfl⟩
    go_wp2_with fail
    go_ret2
    exact fin_text (by rw [textV, HX.out]; rfl) (by rw [oneE, HX.out]; rfl) rfl
  | true =>
    have HX := Lib.hid hx
    have l1 := valid_len hx
    rcases Nat.eq_zero_or_pos xs.length with h0 | hp
    · have hnil : xs = [] := List.eq_nil_of_length_eq_zero h0
      subst hnil
      have hz : decS (nval []).toNat = ⟨#[48]⟩ := by show decS 0 = _; unfold decS; rw [Lib.decDigits_one (by decide)]; rfl
      have HZ := Lib.hid hz
      clear hz
      go_enter Tryd.func49, Tryd.ntmps49
      go_wp2_with fail
      refine (ref_Valid [] A c _ _ w HA.out hm1).mono ?_
      rintro e w' ⟨rfl, rfl⟩
      go_wp2_with fail
      go_ret2
      exact fin_text (by rw [textV, if_pos validB_nil, HZ.out]) (by rw [oneE, if_pos validB_nil]) rfl
    · have hne : ((xs.length : Int) == 0) = false := beq_false_of_ne (by omega)
      clear hx
      go_enter Tryd.func49, Tryd.ntmps49
      go_wp2_with fail
      refine (ref_Valid xs A c _ _ w HA.out hm1).mono ?_
      rintro e w' ⟨rfl, rfl⟩
      rw [HX.out]
      go_wp2_with fail
      go_loop [4, 5] (fun sv iv => ∃ (k : Nat) (S : ByteArray), k ≤ xs.length ∧ iv = .int .i64 (k : Int) ∧ sv = .string S ∧ S.size ≤ 9 * k ∧ (k < xs.length → S.data.toList = padD (9 * k) (nval (xs.take k)).toNat) ∧ (k = xs.length → S = textV xs)) (fun _ iv => xs.length - (intOf iv).toNat)
      case atStart => exact ⟨0, ⟨#[]⟩, Nat.zero_le _, rfl, rfl, by simp [ByteArray.size], fun _ => rfl, fun h => absurd h (by omega)⟩
      case round =>
        obtain ⟨k, S, hk, rfl, rfl, hsz, hS, hE⟩ := hrel
        have HS := Lib.hid hS
        have HE := Lib.hid hE
        clear hS hE
        rcases Nat.lt_or_ge k xs.length with hlt | hge
        · obtain ⟨x, hxk⟩ : ∃ x, xs[k]? = some x := ⟨_, List.getElem?_eq_getElem hlt⟩
          obtain ⟨b, off, rfl, _, _, hcell⟩ := HA.out k x hxk
          have xb := lok_at (valid_lok HX.out) hxk
          have ex : x = ((x.toNat : Nat) : Int) := by omega
          obtain ⟨n, hn⟩ : ∃ n, n = x.toNat := ⟨_, rfl⟩
          rw [← hn] at ex
          have hn9 : n < 1000000000 := by omega
          have HN := Lib.hid hn
          have HXK := Lib.hid hxk
          subst ex
          clear hxk hn xb
          by_cases hlast : k < xs.length - 1
          · have hl : (k : Int) < (xs.length : Int) - 1 := by omega
            go_wp2_with fail
            refine (ref_limb n true w hn9 (Or.inl rfl)).mono ?_
            rintro e w' ⟨T, rfl, hT, hTs, rfl⟩
            go_wp2_with fail
            go_round
            case rel =>
              refine ⟨k + 1, T ++ S, by omega, by go_num, rfl, by rw [ByteArray.size_append]; omega, fun _ => ?_, fun h => absurd h (by omega)⟩
              exact rtext_step (valid_lok HX.out) HXK.out hlt (by rw [Int.toNat_natCast]; exact hT.out) (HS.out hlt)
            case measure => simp [intOf]; omega
          · have hl : decide ((k : Int) < (xs.length : Int) - 1) = false := decide_eq_false (by omega)
            have hke : k = xs.length - 1 := by omega
            have hnp : 0 < n := by
              have h := HXK.out
              rw [hke] at h
              have := top_pos_last (valid_nrm HX.out) hp h
              omega
            have HKE := Lib.hid hke
            clear hke
            go_wp2_with fail
            refine (ref_limb n false w hn9 (Or.inr hnp)).mono ?_
            rintro e w' ⟨T, rfl, hT, hTs, rfl⟩
            go_wp2_with fail
            go_round
            case rel =>
              refine ⟨k + 1, T ++ S, by omega, by go_num, rfl, by rw [ByteArray.size_append]; omega, fun h => absurd h (by omega), fun _ => ?_⟩
              have h1 := HXK.out
              have h2 := HS.out hlt
              rw [HKE.out] at h1 h2
              exact (rtext_last HX.out hp h1 (by rw [Int.toNat_natCast]; exact hT.out) h2).1
            case measure => simp [intOf]; omega
        · obtain rfl : k = xs.length := by omega
          have HF := Lib.hid (HE.out rfl)
          go_wp2_with fail
          go_ret2
          exact fin_text HF.out (by rw [oneE, HX.out]; rfl) rfl
end Go.Proofs.YthkhaipbdphpeaaDoor
/- Exact rational numbers: what a sign and two lists of limbs stand for; the one form of each number; what fits. No walk. -/
namespace Go.Proofs.YthkhaipbdphpeaaDoor
open Go.ChangeShapes Go.WideShapes Go.RowKit
set_option linter.unusedVariables false
set_option maxRecDepth 100000

/-- The first number that has too many limbs. -/
def big48 : Nat := 1000000000 ^ 48
theorem big48_pos : 0 < big48 := Nat.pow_pos (by decide)

def gcd1 (n : Nat) : Bool := decide (n = 1)
/-- A valid form: a sign, and two lists of limbs. -/
def valR (b : Bool) (xs ys : List Int) : Bool := (validB xs && validB ys) && (!ys.isEmpty && (gcd1 (Nat.gcd (nval xs).toNat (nval ys).toNat) && !(b && xs.isEmpty)))
def sgI (b : Bool) (n : Nat) : Int := if b then -(n : Int) else (n : Int)
theorem sgI_abs (b : Bool) (n : Nat) : (sgI b n).natAbs = n := by cases b <;> simp [sgI]
/-- What it stands for. -/
def ratV (b : Bool) (xs ys : List Int) : Rat := mkRat (sgI b (nval xs).toNat) (nval ys).toNat
/-- The one form of a number. -/
def negR (r : Rat) : Bool := decide (r.num < 0)
def topL (r : Rat) : List Int := limbs r.num.natAbs
def botL (r : Rat) : List Int := limbs r.den
def fitR (r : Rat) : Bool := decide (r.num.natAbs < big48) && decide (r.den < big48)
theorem fitR_iff {r : Rat} : fitR r = true ↔ r.num.natAbs < big48 ∧ r.den < big48 := by simp [fitR]

theorem sgI_neg {r : Rat} : sgI (negR r) r.num.natAbs = r.num := by
  unfold sgI negR
  by_cases h : r.num < 0
  · simp [h]; omega
  · simp [h]; omega
theorem mk_back (r : Rat) : mkRat (sgI (negR r) r.num.natAbs) r.den = r := by rw [sgI_neg, Rat.mkRat_self]
theorem limbs_ne {n : Nat} (h : n ≠ 0) : (limbs n).isEmpty = false := by rw [limbs_pos h]; rfl
theorem limbs_emp (n : Nat) : (limbs n).isEmpty = decide (n = 0) := by
  by_cases h : n = 0
  · subst h; rw [limbs_zero]; rfl
  · rw [limbs_ne h]; simp [h]
theorem limbs_len_pos {n : Nat} : 0 < (limbs n).length ↔ n ≠ 0 := by
  constructor
  · intro h e; subst e; rw [limbs_zero] at h; simp at h
  · intro h; rw [limbs_pos h]; simp
theorem nvt (n : Nat) : (nval (limbs n)).toNat = n := by rw [nval_limbs]; exact Int.toNat_natCast n
theorem valid48 {n : Nat} (h : n < big48) : validB (limbs n) = true := validB_iff.mpr ⟨limbs_len_le.mpr h, nrm_of_limbs _⟩
theorem lt48 {xs : List Int} (h : validB xs = true) : (nval xs).toNat < big48 := limbs_len_le.mp (by rw [← nrm_limbs (valid_nrm h)]; exact valid_len h)
theorem form_val {r : Rat} (h : fitR r = true) : valR (negR r) (topL r) (botL r) = true ∧ ratV (negR r) (topL r) (botL r) = r := by
  rw [fitR_iff] at h
  refine ⟨?_, ?_⟩
  · unfold valR topL botL
    rw [valid48 h.1, valid48 h.2, nvt, nvt, limbs_ne r.den_nz, limbs_emp]
    have hc : gcd1 (Nat.gcd r.num.natAbs r.den) = true := decide_eq_true r.reduced
    rw [hc]
    by_cases h0 : r.num < 0
    · have : r.num.natAbs ≠ 0 := by omega
      simp [negR, this]
    · simp [negR, h0]
  · unfold ratV topL botL
    rw [nvt, nvt, mk_back]
theorem val_parts {b : Bool} {xs ys : List Int} (h : valR b xs ys = true) : validB xs = true ∧ validB ys = true ∧ ys.isEmpty = false ∧ Nat.gcd (nval xs).toNat (nval ys).toNat = 1 ∧ (b && xs.isEmpty) = false := by
  simp only [valR, gcd1, Bool.and_eq_true, decide_eq_true_eq, Bool.not_eq_true'] at h
  exact ⟨h.1.1, h.1.2, h.2.1, h.2.2.1, h.2.2.2⟩
theorem val_pos {ys : List Int} (h : validB ys = true) (he : ys.isEmpty = false) : (nval ys).toNat ≠ 0 := by
  intro e
  have h1 := valid_back h
  rw [e, limbs_zero] at h1
  rw [← h1] at he; cases he
theorem val_form {b : Bool} {xs ys : List Int} (h : valR b xs ys = true) : ∃ r, fitR r = true ∧ b = negR r ∧ xs = topL r ∧ ys = botL r := by
  obtain ⟨h1, h2, h3, h4, h5⟩ := val_parts h
  have hq := val_pos h2 h3
  have h4' : Nat.gcd (nval ys).toNat (nval xs).toNat = 1 := by rw [Nat.gcd_comm]; exact h4
  refine ⟨ratV b xs ys, ?_⟩
  have hn : (ratV b xs ys).num = sgI b (nval xs).toNat := by unfold ratV; rw [Rat.num_mkRat, if_neg hq, sgI_abs, h4']; simp
  have hd : (ratV b xs ys).den = (nval ys).toNat := by unfold ratV; rw [Rat.den_mkRat, if_neg hq, sgI_abs, h4']; simp
  have ha : (ratV b xs ys).num.natAbs = (nval xs).toNat := by rw [hn, sgI_abs]
  refine ⟨?_, ?_, ?_, ?_⟩
  · rw [fitR_iff, ha, hd]; exact ⟨lt48 h1, lt48 h2⟩
  · unfold negR
    rw [hn]
    cases b with
    | false => simp [sgI]; omega
    | true =>
      have hx : (nval xs).toNat ≠ 0 := val_pos h1 (by simpa using h5)
      simp [sgI]; omega
  · unfold topL; rw [ha]; exact (valid_back h1).symm
  · unfold botL; rw [hd]; exact (valid_back h2).symm
/-- Two numbers with one form are one. -/
theorem form_inj {r s : Rat} (h1 : negR r = negR s) (h2 : topL r = topL s) (h3 : botL r = botL s) : r = s := by
  have e2 := limbs_inj h2
  have e3 := limbs_inj h3
  rw [← mk_back r, ← mk_back s, h1, e2, e3]

/-- A reduced quotient fits where its parts do. -/
theorem mk_fit {b : Bool} {p q : Nat} (hp : p < big48) (hq : q < big48) (h0 : q ≠ 0) : fitR (mkRat (sgI b p) q) = true := by
  rw [fitR_iff, Rat.num_mkRat, Rat.den_mkRat, if_neg h0, if_neg h0, sgI_abs]
  have hg : 0 < Nat.gcd q p := Nat.gcd_pos_of_pos_left _ (by omega)
  refine ⟨?_, Nat.lt_of_le_of_lt (Nat.div_le_self _ _) hq⟩
  have : (sgI b p / (Nat.gcd q p : Int)).natAbs ≤ p := by
    have hd : (Nat.gcd q p : Int) ∣ sgI b p := by
      have h1 : (Nat.gcd q p : Int) ∣ (p : Int) := Int.natCast_dvd_natCast.mpr (Nat.gcd_dvd_right _ _)
      cases b with
      | false => exact h1
      | true => exact Int.dvd_neg.mpr h1
    rw [Int.natAbs_ediv_of_dvd hd, sgI_abs]
    exact Nat.div_le_self _ _
  exact Nat.lt_of_le_of_lt this hp
/-- The parts of a reduced quotient. -/
theorem mk_parts {b : Bool} {p q : Nat} (h0 : q ≠ 0) : (mkRat (sgI b p) q).num = sgI b (p / Nat.gcd p q) ∧ (mkRat (sgI b p) q).den = q / Nat.gcd p q := by
  rw [Rat.num_mkRat, Rat.den_mkRat, if_neg h0, if_neg h0, sgI_abs, Nat.gcd_comm q p]
  refine ⟨?_, rfl⟩
  cases b with
  | false => simp [sgI]
  | true =>
    have h1 : (Nat.gcd p q : Int) ∣ (p : Int) := Int.natCast_dvd_natCast.mpr (Nat.gcd_dvd_left _ _)
    simp only [sgI, if_true]
    rw [Int.neg_ediv_of_dvd h1, Int.natCast_ediv]
theorem negR_sg {r : Rat} {b : Bool} {p : Nat} (h : r.num = sgI b p) : negR r = (b && decide (0 < p)) := by
  unfold negR; rw [h]
  cases b with
  | false => simp [sgI]
  | true => simp [sgI]

/-- A rational number in memory: a sign, and two slices that hold limbs. -/
def InR (w : World) (v : Value) (b : Bool) (xs ys : List Int) : Prop := ∃ vp vq, v = .agg #[.bool b, vp, vq] ∧ In w vp xs ∧ In w vq ys
theorem InR.on {w w' : World} {v : Value} {b : Bool} {xs ys : List Int} (h : InR w v b xs ys) (hb : Below w.heap.size w w') : InR w' v b xs ys := by
  obtain ⟨vp, vq, e, h1, h2⟩ := h; exact ⟨vp, vq, e, h1.on hb, h2.on hb⟩
def IsR (w : World) (v : Value) (r : Rat) : Prop := InR w v (negR r) (topL r) (botL r)
theorem IsR.on {w w' : World} {v : Value} {r : Rat} (h : IsR w v r) (hb : Below w.heap.size w w') : IsR w' v r := InR.on h hb
/-- What is returned beside an error: the zero value. -/
def OutR (w : World) (v : Value) (err : Int) (r : Rat) : Prop := if err = 0 then IsR w v r else InR w v false [] []
def RRes (w : World) (err : Int) (r : Rat) (e : Ending) (w' : World) : Prop := ∃ v, e = .returned (.tuple #[v, .int .i64 err]) ∧ OutR w' v err r ∧ Below w.heap.size w w'
theorem OutR.ok {w : World} {v : Value} {r : Rat} (h : IsR w v r) : OutR w v 0 r := by unfold OutR; rw [if_pos rfl]; exact h
theorem OutR.no {w : World} {err : Int} {r : Rat} (h : err ≠ 0) : OutR w (.agg #[.bool false, .slice none 0 0, .slice none 0 0]) err r := by
  unfold OutR; rw [if_neg h]; exact ⟨_, _, rfl, In.nil _, In.nil _⟩

/-- What fits. -/
def sumOk (r s : Rat) : Bool :=
  decide (r.num.natAbs * s.den < big48) && (decide (s.num.natAbs * r.den < big48) && (decide (r.den * s.den < big48) && ((negR r != negR s) || decide (r.num.natAbs * s.den + s.num.natAbs * r.den < big48))))
def mulOk (r s : Rat) : Bool := decide (r.num.natAbs * s.num.natAbs < big48) && decide (r.den * s.den < big48)
def crossOk (r s : Rat) : Bool := decide (r.num.natAbs * s.den < big48) && decide (s.num.natAbs * r.den < big48)
/-- The magnitude and the sign of a sum with signs. -/
def sMag (m : Bool) (x : Nat) (n : Bool) (y : Nat) : Nat := if m = n then x + y else if x < y then y - x else x - y
def sNeg (m : Bool) (x : Nat) (n : Bool) (y : Nat) : Bool := if m = n then m else if x < y then n else m
theorem sMag_val (m n : Bool) (x y : Nat) : sgI (sNeg m x n y) (sMag m x n y) = sgI m x + sgI n y := by
  unfold sgI sNeg sMag
  by_cases h : x < y
  · cases m <;> cases n <;> simp [h] <;> omega
  · cases m <;> cases n <;> simp [h] <;> omega
theorem sgI_mul (a b : Bool) (p q : Nat) : sgI (a != b) (p * q) = sgI a p * sgI b q := by
  cases a <;> cases b <;> simp [sgI, Int.neg_mul, Int.mul_neg]
theorem sgI_mulN (a : Bool) (p q : Nat) : sgI a (p * q) = sgI a p * (q : Int) := by
  cases a <;> simp [sgI, Int.neg_mul]
theorem add_form (r s : Rat) : mkRat (sgI (sNeg (negR r) (r.num.natAbs * s.den) (negR s) (s.num.natAbs * r.den)) (sMag (negR r) (r.num.natAbs * s.den) (negR s) (s.num.natAbs * r.den))) (r.den * s.den) = r + s := by
  rw [sMag_val, sgI_mulN, sgI_mulN, sgI_neg, sgI_neg]
  conv => rhs; rw [← Rat.mkRat_self r, ← Rat.mkRat_self s, Rat.mkRat_add_mkRat _ _ r.den_nz s.den_nz]
theorem mul_form (r s : Rat) : mkRat (sgI (negR r != negR s) (r.num.natAbs * s.num.natAbs)) (r.den * s.den) = r * s := by
  rw [sgI_mul, sgI_neg, sgI_neg]
  conv => rhs; rw [← Rat.mkRat_self r, ← Rat.mkRat_self s, Rat.mkRat_mul_mkRat]
theorem neg_parts (r : Rat) : (-r).num = -r.num ∧ (-r).den = r.den := ⟨rfl, rfl⟩
theorem neg_form (r : Rat) : negR (-r) = (!negR r && decide (0 < r.num.natAbs)) ∧ topL (-r) = topL r ∧ botL (-r) = botL r := by
  refine ⟨?_, ?_, rfl⟩
  · unfold negR
    rw [(neg_parts r).1]
    rcases Int.lt_trichotomy r.num 0 with h | h | h
    · rw [decide_eq_true h, decide_eq_false (show ¬ -r.num < 0 by omega)]; rfl
    · rw [h]; rfl
    · rw [decide_eq_true (show -r.num < 0 by omega), decide_eq_false (show ¬ r.num < 0 by omega), decide_eq_true (show 0 < r.num.natAbs by omega)]; rfl
  · unfold topL
    rw [(neg_parts r).1, Int.natAbs_neg]
theorem fit_neg {r : Rat} (h : fitR r = true) : fitR (-r) = true := by
  rw [fitR_iff] at h ⊢; rw [(neg_parts r).1, (neg_parts r).2, Int.natAbs_neg]; exact h
theorem inv_form {r : Rat} (h : r.num ≠ 0) : negR r⁻¹ = negR r ∧ topL r⁻¹ = botL r ∧ botL r⁻¹ = topL r ∧ (fitR r = true → fitR r⁻¹ = true) := by
  have h1 : (r⁻¹).num = r.num.sign * r.den := Rat.num_inv r
  have h2 : (r⁻¹).den = r.num.natAbs := by rw [Rat.den_inv, if_neg h]
  have hd := r.den_nz
  have h3 : (r⁻¹).num.natAbs = r.den := by
    rw [h1, Int.natAbs_mul, Int.natAbs_sign_of_ne_zero h]; simp
  refine ⟨?_, by unfold topL botL; rw [h3], by unfold topL botL; rw [h2], fun hf => ?_⟩
  · unfold negR
    rw [h1]
    rcases Int.lt_or_gt_of_ne h with h4 | h4
    · rw [Int.sign_eq_neg_one_of_neg h4]; simp [h4]; omega
    · rw [Int.sign_eq_one_of_pos h4]; simp; omega
  · rw [fitR_iff] at hf ⊢; rw [h3, h2]; exact ⟨hf.2, hf.1⟩
end Go.Proofs.YthkhaipbdphpeaaDoor
/- Small functions of rat and of its reference: isOne, isZero, inRange, limbs, Same, signed, negated. -/
namespace Go.Proofs.YthkhaipbdphpeaaDoor
open Go.ChangeShapes Go.WideShapes Go.RowKit
set_option linter.unusedVariables false
set_option maxRecDepth 100000

theorem bcell {W w1 : World} (hb : Below W.heap.size W w1) : (∀ b o, b < W.heap.size → w1.cell? ⟨b, o, none⟩ = W.cell? ⟨b, o, none⟩) ∧ (∀ b o, b < W.heap.size → w1.frozen? ⟨b, o, none⟩ = W.frozen? ⟨b, o, none⟩) :=
  ⟨fun b o h => hb.cell (p := ⟨b, o, none⟩) h, fun b o h => hb.frozen (p := ⟨b, o, none⟩) h⟩

set_option maxHeartbeats 800000 in
theorem ref_limbs (xs ys : List Int) (A B : Option Addr) (c d : Nat) (lo hi lo' hi' : Nat) (w : World) (hS : Holds w lo hi A xs) (hT : Holds w lo' hi' B ys) (hh : hi ≤ w.heap.size) (hh' : hi' ≤ w.heap.size)
    (hm : xs.length ≤ 9223372036854775807) (hm2 : ys.length ≤ 9223372036854775807) :
    Calls Tryd.prog 50 #[.slice A xs.length c, .slice B ys.length d] w fun e w' => e = .returned (.bool (decide (xs = ys))) ∧ Below w.heap.size w w' := by
  have HS := Lib.hid hS
  have HT := Lib.hid hT
  clear hS hT
  by_cases hl : xs.length = ys.length
  · go_enter Tryd.func50, Tryd.ntmps50
    rw [← hl]
    have HL := Lib.hid hl
    clear hl hm2
    go_wp2_with fail
    go_loopw [5] (fun i wr => ∃ k : Nat, k ≤ xs.length ∧ i = .int .i64 k ∧ xs.take k = ys.take k ∧ Below w.heap.size w wr) (fun i _ => xs.length - (intOf i).toNat)
    case atStart => exact ⟨0, Nat.zero_le _, rfl, rfl, Below.refl _ _⟩
    case round =>
      obtain ⟨k, hk, rfl, hz, hbel⟩ := hrel
      have HK := Lib.hid hz
      have HB := Lib.hid hbel
      clear hz hbel
      rcases Nat.lt_or_ge k xs.length with hlt | hge
      · obtain ⟨z, hz⟩ : ∃ z, xs[k]? = some z := ⟨_, List.getElem?_eq_getElem hlt⟩
        obtain ⟨y, hy⟩ : ∃ y, ys[k]? = some y := ⟨_, List.getElem?_eq_getElem (by have := HL.out; omega)⟩
        obtain ⟨b, off, rfl, _, _, hcell⟩ := (HS.out.below HB.out hh) k z hz
        obtain ⟨b2, off2, rfl, _, _, hcell2⟩ := (HT.out.below HB.out hh') k y hy
        have HZ := Lib.hid hz
        have HY := Lib.hid hy
        clear hz hy
        by_cases h0 : z = y
        · subst h0
          have hne : (z != z) = false := by simp
          go_wp2_with fail
          go_quiet (fail)
          go_wp2_with fail
          go_roundw
          case rel => exact ⟨k + 1, by omega, by go_num, by rw [trim_step HZ.out, trim_step HY.out, HK.out], below_drewN HB.out _⟩
          case measure => simp [intOf]; omega
        · have hne : (z != y) = true := by simpa using h0
          have hv : ¬ xs = ys := by
            rintro rfl; have h1 := HZ.out; rw [HY.out] at h1; cases h1; exact h0 rfl
          have HV := Lib.hid hv
          clear hv h0
          go_wp2_with fail
          go_quiet (fail)
          go_wp2_with fail
          go_ret
          rw [decide_eq_false HV.out]; exact ⟨rfl, below_drewN HB.out _⟩
      · obtain rfl : k = xs.length := by omega
        have HE := Lib.hid (same_end HL.out HK.out)
        go_wp2_with fail
        go_ret
        rw [decide_eq_true HE.out]; exact ⟨rfl, HB.out⟩
  · have hne : ((xs.length : Int) != (ys.length : Int)) = true := by simp; omega
    have hv : ¬ xs = ys := fun h => hl (congrArg _ h)
    have HV := Lib.hid hv
    clear hv hl
    go_enter Tryd.func50, Tryd.ntmps50
    go_wp2_with fail
    go_ret
    rw [decide_eq_false HV.out]; exact ⟨rfl, Below.refl _ _⟩

theorem limbs_in (xs ys : List Int) (va vb : Value) (w : World) (ha : In w va xs) (hb : In w vb ys) :
    Calls Tryd.prog 50 #[va, vb] w fun e w' => e = .returned (.bool (decide (xs = ys))) ∧ Below w.heap.size w w' := by
  obtain ⟨A, c, rfl, hc, hm, hA⟩ := ha
  obtain ⟨B, d, rfl, hd, hn, hB⟩ := hb
  exact ref_limbs xs ys A B c d 0 w.heap.size 0 w.heap.size w hA hB (Nat.le_refl _) (Nat.le_refl _) (Nat.le_trans hc hm) (Nat.le_trans hd hn)

theorem rat_isOne (xs : List Int) (va : Value) (w : World) (ha : In w va xs) :
    Calls Tryd.prog 48 #[va] w fun e w' => e = .returned (.bool (decide (xs = [1]))) ∧ Below w.heap.size w w' := by
  obtain ⟨A, c, rfl, hc, hm, hA⟩ := ha
  have HA := Lib.hid hA
  have hm1 : xs.length ≤ 9223372036854775807 := Nat.le_trans hc hm
  clear hA hc hm
  by_cases h1 : xs.length = 1
  · obtain ⟨z, rfl⟩ := List.length_eq_one_iff.mp h1
    obtain ⟨b, off, rfl, _, _, hcell⟩ := HA.out 0 z rfl
    rw [Nat.add_zero] at hcell
    clear h1 hm1
    go_enter Tryd.func48, Tryd.ntmps48
    go_wp2_with fail
    go_ret
    exact ⟨by by_cases h : z = 1 <;> simp [h], Below.refl _ _⟩
  · have hv : ¬ xs = [1] := by rintro rfl; exact h1 rfl
    have HV := Lib.hid hv
    have hne : ((xs.length : Int) == 1) = false := by simpa using fun h => h1 (by omega)
    clear hv h1
    go_enter Tryd.func48, Tryd.ntmps48
    go_wp2_with fail
    go_ret
    rw [decide_eq_false HV.out]; exact ⟨rfl, Below.refl _ _⟩

theorem rat_isZero (v : Value) (b : Bool) (xs ys : List Int) (w : World) (ha : InR w v b xs ys) :
    Calls Tryd.prog 52 #[v] w fun e w' => e = .returned (.bool xs.isEmpty) ∧ Below w.heap.size w w' := by
  obtain ⟨vp, vq, rfl, ⟨A, c, rfl, hc, hm, hA⟩, ⟨B, d, rfl, hd, hn, hB⟩⟩ := ha
  have hm1 : xs.length ≤ 9223372036854775807 := Nat.le_trans hc hm
  clear hA hB hc hm hd hn
  cases xs with
  | nil =>
    go_enter Tryd.func52, Tryd.ntmps52
    go_wp2_with fail
    go_ret
    exact ⟨rfl, below_alloc _ _⟩
  | cons x xs =>
    have hne : (((x :: xs).length : Int) == 0) = false := by simp; omega
    obtain ⟨n, hnn⟩ : ∃ n, n = (x :: xs).length := ⟨_, rfl⟩
    rw [← hnn] at hne hm1 ⊢
    clear hnn
    go_enter Tryd.func52, Tryd.ntmps52
    go_wp2_with fail
    go_ret
    exact ⟨rfl, below_alloc _ _⟩

def inRB (n : Int) : Bool := decide (-1125899906842624 ≤ n) && decide (n ≤ 1125899906842624)
theorem rat_inRange (n : Int) (w : World) :
    Calls Tryd.prog 56 #[.int .i64 n] w fun e w' => e = .returned (.bool (inRB n)) ∧ w = w' := by
  by_cases h1 : -1125899906842624 ≤ n
  · go_enter Tryd.func56, Tryd.ntmps56
    go_wp2_with fail
    go_ret
    exact ⟨by simp [inRB, h1], rfl⟩
  · have h2 : decide (-1125899906842624 ≤ n) = false := decide_eq_false h1
    go_enter Tryd.func56, Tryd.ntmps56
    go_wp2_with fail
    go_ret
    exact ⟨by unfold inRB; rw [h2]; rfl, rfl⟩

/-- A struct that a function leaves. -/
def StR (w : World) (b : Bool) (xs ys : List Int) (e : Ending) (w' : World) : Prop := ∃ v, e = .returned v ∧ InR w' v b xs ys ∧ Below w.heap.size w w'

theorem rat_signed (n : Bool) (xs ys : List Int) (va vb : Value) (w : World) (ha : In w va xs) (hb : In w vb ys) :
    Calls Tryd.prog 41 #[.bool n, va, vb] w (StR w (n && !xs.isEmpty) xs ys) := by
  have HIA := Lib.hid ha
  have HIB := Lib.hid hb
  obtain ⟨A, c, rfl, hc, hm, hA⟩ := ha
  obtain ⟨B, d, rfl, hd, hn, hB⟩ := hb
  have hm1 : xs.length ≤ 9223372036854775807 := Nat.le_trans hc hm
  have hm2 : ys.length ≤ 9223372036854775807 := Nat.le_trans hd hn
  have he : xs.isEmpty = !decide (0 < xs.length) := by cases xs <;> simp
  rw [he, Bool.not_not]
  clear hA hB hc hm hd hn he
  cases n with
  | false =>
    go_enter Tryd.func41, Tryd.ntmps41
    go_wp2_with fail
    exact bodyPost_ret (v := .agg #[.bool false, .slice A xs.length c, .slice B ys.length d]) (by simp [results, Tryd.results41, go_sem]) rfl ⟨_, rfl, ⟨_, _, rfl, HIA.out.alloc _, HIB.out.alloc _⟩, below_alloc _ _⟩
  | true =>
    go_enter Tryd.func41, Tryd.ntmps41
    go_wp2_with fail
    exact bodyPost_ret (v := .agg #[.bool (decide (0 < xs.length)), .slice A xs.length c, .slice B ys.length d]) (by simp [results, Tryd.results41, go_sem]) rfl ⟨_, rfl, ⟨_, _, rfl, HIA.out.alloc _, HIB.out.alloc _⟩, below_alloc _ _⟩

theorem ref_negated (v : Value) (b : Bool) (xs ys : List Int) (w : World) (ha : InR w v b xs ys) :
    Calls Tryd.prog 43 #[v] w (StR w (!b && !xs.isEmpty) xs ys) := by
  obtain ⟨vp, vq, rfl, ha, hb⟩ := ha
  have HIA := Lib.hid ha
  have HIB := Lib.hid hb
  obtain ⟨A, c, rfl, hc, hm, hA⟩ := ha
  obtain ⟨B, d, rfl, hd, hn, hB⟩ := hb
  have hm1 : xs.length ≤ 9223372036854775807 := Nat.le_trans hc hm
  have hm2 : ys.length ≤ 9223372036854775807 := Nat.le_trans hd hn
  have he : xs.isEmpty = !decide (0 < xs.length) := by cases xs <;> simp
  rw [he, Bool.not_not]
  clear hA hB hc hm hd hn he
  cases b with
  | true =>
    go_enter Tryd.func43, Tryd.ntmps43
    go_wp2_with fail
    exact bodyPost_ret (v := .agg #[.bool false, .slice A xs.length c, .slice B ys.length d]) (by simp [results, Tryd.results43, go_sem]) rfl ⟨_, rfl, ⟨_, _, rfl, (HIA.out.alloc _).alloc _, (HIB.out.alloc _).alloc _⟩, balloc (below_alloc _ _) _⟩
  | false =>
    go_enter Tryd.func43, Tryd.ntmps43
    go_wp2_with fail
    exact bodyPost_ret (v := .agg #[.bool (decide (0 < xs.length)), .slice A xs.length c, .slice B ys.length d]) (by simp [results, Tryd.results43, go_sem]) rfl ⟨_, rfl, ⟨_, _, rfl, (HIA.out.alloc _).alloc _, (HIB.out.alloc _).alloc _⟩, balloc (below_alloc _ _) _⟩

theorem ref_Same3 (v u : Value) (b c : Bool) (xs ys zs ts : List Int) (w : World) (ha : InR w v b xs ys) (hb : InR w u c zs ts) :
    Calls Tryd.prog 21 #[v, u] w fun e w' => e = .returned (.bool ((b == c) && (decide (xs = zs) && decide (ys = ts)))) ∧ Below w.heap.size w w' := by
  obtain ⟨vp, vq, rfl, ha1, ha2⟩ := ha
  obtain ⟨up, uq, rfl, hb1, hb2⟩ := hb
  have HA1 := Lib.hid ha1
  have HA2 := Lib.hid ha2
  have HB1 := Lib.hid hb1
  have HB2 := Lib.hid hb2
  obtain ⟨A1, a1, rfl, -⟩ := ha1
  obtain ⟨A2, a2, rfl, -⟩ := ha2
  obtain ⟨B1, b1, rfl, -⟩ := hb1
  obtain ⟨B2, b2, rfl, -⟩ := hb2
  cases hbc : (b == c) with
  | false =>
    go_enter Tryd.func21, Tryd.ntmps21
    go_wp2_with fail
    go_ret
    exact ⟨rfl, balloc (below_alloc _ _) _⟩
  | true =>
    go_enter Tryd.func21, Tryd.ntmps21
    go_wp2_with fail
    refine (limbs_in xs zs _ _ _ ((HA1.out.alloc _).alloc _) ((HB1.out.alloc _).alloc _)).mono ?_
    rintro e w1 ⟨rfl, h1⟩
    obtain ⟨hc, hf⟩ := bcell h1
    have HB := Lib.hid h1
    clear h1
    cases hxz : decide (xs = zs) with
    | false =>
      go_wp2_with fail
      go_ret
      exact ⟨by rw [hxz]; rfl, (balloc (below_alloc _ _) _).trans (HB.out.mono (by simp; omega))⟩
    | true =>
      go_wp2_with fail
      refine (limbs_in ys ts _ _ _ (((HA2.out.alloc _).alloc _).on HB.out) (((HB2.out.alloc _).alloc _).on HB.out)).mono ?_
      rintro e w2 ⟨rfl, h2⟩
      have HC := Lib.hid h2
      clear h2
      go_wp2_with fail
      go_ret
      exact ⟨by rw [hxz]; rfl, bstep ((balloc (below_alloc _ _) _).trans (HB.out.mono (by simp; omega))) HC.out⟩
end Go.Proofs.YthkhaipbdphpeaaDoor
/- The contract of nat.shortened. -/
namespace Go.Proofs.YthkhaipbdphpeaaDoor
open Go.ChangeShapes Go.WideShapes Go.RowKit
set_option linter.unusedVariables false
set_option maxRecDepth 100000

set_option maxHeartbeats 6400000 in
theorem nat_shortened (xs ys : List Int) (va vb : Value) (w : World) (ha : In w va xs) (hb : In w vb ys) (hx : nrm xs = true) (hy : nrm ys = true) (hly : 2 < ys.length) (hlx : xs.length ≤ 1000) (hly2 : ys.length ≤ 1000) :
    Calls Tryd.prog 94 #[va, vb] w (ShortRes w xs ys) := by
  have HIA := Lib.hid ha
  have HIB := Lib.hid hb
  obtain ⟨A, ca, rfl, hc, hm, hA⟩ := ha
  obtain ⟨B, cb, rfl, hd, hn, hB⟩ := hb
  have hfs := nat_foreseen xs ys A B ca cb w hA hB (nrm_lok hx) (nrm_lok hy) hly hc hd hlx hly2
  have HFS := Lib.hid hfs
  have HA := Lib.hid hA
  have HB := Lib.hid hB
  have HX := Lib.hid hx
  have HY := Lib.hid hy
  clear hA hB hx hy hfs hm hn
  go_enter Tryd.func94, Tryd.ntmps94
  go_wp2_with (go_at_call 107; refine HFS.out.mono ?_; rintro e w1 ⟨a, b, c, d, u, v, u0, v0, rfl, hinv, hle, hb1⟩; refine Hid.out ?_)
  refine Lib.hid ?_
  have HI := Lib.hid hinv
  have HLE := Lib.hid hle
  have HB1 := Lib.hid hb1
  have bd := hinv.bd
  clear hinv hle hb1
  by_cases hb0 : b = 0
  · subst hb0
    have HB2 := Lib.hid (balloc HB1.out (.cells #[.int .i64 a, .int .i64 0, .int .i64 c, .int .i64 d] 86))
    go_wp2_with fail
    refine (nat_divide xs ys _ _ _ (HIA.out.on HB2.out) (HIB.out.on HB2.out) HX.out HY.out hlx (by omega)).mono ?_
    rintro e w3 ⟨vq, vr, rfl, -, hr, hb3⟩
    have HR := Lib.hid hr.toIn
    have HB3 := Lib.hid (bstep HB2.out hb3)
    clear hr hb3
    go_wp2_with fail
    go_ret2
    have y0 := nval_pos HY.out (by omega)
    have x0 := nval_nonneg (nrm_lok HX.out)
    have hlt : (nval xs).toNat % (nval ys).toNat < (nval ys).toNat := Nat.mod_lt _ (by omega)
    refine ⟨_, _, ys, limbs ((nval xs).toNat % (nval ys).toNat), rfl, HIB.out.on HB3.out, HR.out, HY.out, nrm_of_limbs _, Nat.le_refl _, len_le_of HY.out (by omega), ?_, ?_, HB3.out⟩
    · rw [nval_limbs, Int.toNat_natCast]; exact gcd_step _ _
    · rw [nval_limbs]; omega
  · have hbn : (b == 0) = false := beq_false_of_ne hb0
    have hfc := short_facts HI.out hb0 HX.out HY.out
    have hlen := HLE.out hb0
    obtain ⟨f1, f2, f3, f4, f5⟩ := hfc
    have hc1 : ∀ W, Below w.heap.size w W → Calls Tryd.prog 108 #[.slice A xs.length ca, .int .i64 a, .slice B ys.length cb, .int .i64 b] W (GcdRes W (a * nval xs + b * nval ys).toNat) :=
      fun W hW => nat_combined xs ys A B ca cb a b W ((HA.out.below hW (Nat.le_refl _)).more (Nat.le_refl _) hW.size) ((HB.out.below hW (Nat.le_refl _)).more (Nat.le_refl _) hW.size) (nrm_lok HX.out) (nrm_lok HY.out) hlen hlx (by omega) (by omega) (by omega) (by omega) f1 f2
    have hc2 : ∀ W, Below w.heap.size w W → Calls Tryd.prog 108 #[.slice A xs.length ca, .int .i64 c, .slice B ys.length cb, .int .i64 d] W (GcdRes W (c * nval xs + d * nval ys).toNat) :=
      fun W hW => nat_combined xs ys A B ca cb c d W ((HA.out.below hW (Nat.le_refl _)).more (Nat.le_refl _) hW.size) ((HB.out.below hW (Nat.le_refl _)).more (Nat.le_refl _) hW.size) (nrm_lok HX.out) (nrm_lok HY.out) hlen hlx (by omega) (by omega) (by omega) (by omega) f3 (by omega)
    have HC1 := Lib.hid hc1
    have HC2 := Lib.hid hc2
    have F2 := Lib.hid f2
    have F4 := Lib.hid f4
    have F5 := Lib.hid f5
    have F1 := Lib.hid f1
    have F3 := Lib.hid f3
    obtain ⟨W2, hW2⟩ : ∃ W2, W2 = w1.alloc (.cells #[.int .i64 a, .int .i64 b, .int .i64 c, .int .i64 d] 86) := ⟨_, rfl⟩
    have hfour : Four W2 w1.heap.size a b c d := by rw [hW2]; exact Four.new _ _ _ _ _ _
    have hbw : Below w.heap.size w W2 := by rw [hW2]; exact balloc HB1.out _
    have four_on : ∀ (W W' : World), Four W w1.heap.size a b c d → Below W.heap.size W W' → W'.cell? ⟨w1.heap.size, 0, none⟩ = some (.int .i64 a) ∧ W'.cell? ⟨w1.heap.size, 1, none⟩ = some (.int .i64 b) ∧ W'.cell? ⟨w1.heap.size, 2, none⟩ = some (.int .i64 c) ∧ W'.cell? ⟨w1.heap.size, 3, none⟩ = some (.int .i64 d) := by
      intro W W' h hb
      have h' := (h.keep (hb.block _ h.lt)).row
      exact ⟨h'.cell (i := 0) rfl, h'.cell (i := 1) rfl, h'.cell (i := 2) rfl, h'.cell (i := 3) rfl⟩
    have FO := Lib.hid four_on
    have HF := Lib.hid hfour
    have HBW := Lib.hid hbw
    clear hc1 hc2 f1 f2 f3 f4 f5 four_on hfour hbw hlen
    go_wp2_with fail
    rw [← hW2]
    obtain ⟨g0, g1, g2, g3⟩ := FO.out W2 W2 HF.out (Below.refl _ _)
    clear hW2
    go_region_held3 (fun W' => W'.cell? ⟨w1.heap.size, 0, none⟩ = some (.int .i64 a) ∧ W'.cell? ⟨w1.heap.size, 1, none⟩ = some (.int .i64 b) ∧ W'.cell? ⟨w1.heap.size, 2, none⟩ = some (.int .i64 c) ∧ W'.cell? ⟨w1.heap.size, 3, none⟩ = some (.int .i64 d))
      (first | exact ⟨g0, g1, g2, g3⟩ | exact FO.out W2.drew _ (HF.out.keep rfl) (by assumption) | exact FO.out W2.drew _ (HF.out.keep rfl) (bstep hb3 (by assumption)))
      (first | (go_at_call 108; (with_reducible refine (HC1.out _ HBW.out.drew).mono ?_); rintro e w3 ⟨v1, rfl, hs1, hb3⟩) | (go_at_call 108; (with_reducible refine (HC2.out _ (bstep HBW.out.drew hb3)).mono ?_); rintro e w4 ⟨v2, rfl, hs2, hb4⟩))
    all_goals go_wp2_with fail
    all_goals go_ret2
    all_goals have hb34 := bstep (bstep HBW.out.drew hb3) hb4
    all_goals exact ⟨v1, v2, limbs (a * nval xs + b * nval ys).toNat, limbs (c * nval xs + d * nval ys).toNat, rfl, hs1.toIn.on hb4, hs2.toIn, nrm_of_limbs _, nrm_of_limbs _, len_le_of HY.out (by have := F2.out; omega), len_le_of HY.out (by have := F4.out; omega), (by rw [nval_limbs, nval_limbs, Int.toNat_natCast, Int.toNat_natCast]; exact F5.out), (by rw [nval_limbs]; have := F3.out; have := F4.out; omega), hb34⟩
end Go.Proofs.YthkhaipbdphpeaaDoor
/- Contracts of rat.reduced and of Reduce of the reference; the calls of nat that they make. -/
namespace Go.Proofs.YthkhaipbdphpeaaDoor
open Go.ChangeShapes Go.WideShapes Go.RowKit
set_option linter.unusedVariables false
set_option maxRecDepth 100000

theorem in_open {w : World} {v : Value} {zs : List Int} (h : In w v zs) : ∃ A c, v = .slice A zs.length c ∧ In w (.slice A zs.length c) zs := by
  obtain ⟨A, c, rfl, k⟩ := h; exact ⟨A, c, rfl, A, c, rfl, k⟩
/-- A store into a cell that holds no integer leaves the limbs alone. -/
theorem In.set {w : World} {v : Value} {zs : List Int} {p : Addr} {u : Value} (h : In w v zs) (hx : w.cell? p = some u) (hu : ∀ z, u ≠ .int .i64 z) (x : Value) : In (w.setCell p x) v zs := by
  obtain ⟨A, c, rfl, h1, h2, h3⟩ := h
  refine ⟨A, c, rfl, h1, h2, fun k z hz => ?_⟩
  obtain ⟨b, off, hA, hlo, hlt, hc⟩ := h3 k z hz
  refine ⟨b, off, hA, ⟨Nat.zero_le _, Or.inl rfl⟩, by simpa using hlt, ?_⟩
  rw [World.cell?_setCell_other w p _ x (fun e => by subst e; rw [hx] at hc; cases hc; exact hu z rfl)]
  exact hc

/-- A number in a block: three cells, none frozen. -/
def Cel (w : World) (g : Nat) (u0 u1 u2 : Value) : Prop :=
  (w.cell? ⟨g, 0, none⟩ = some u0 ∧ w.cell? ⟨g, 1, none⟩ = some u1 ∧ w.cell? ⟨g, 2, none⟩ = some u2) ∧ (w.frozen? ⟨g, 0, none⟩ = false ∧ w.frozen? ⟨g, 1, none⟩ = false ∧ w.frozen? ⟨g, 2, none⟩ = false)
theorem Cel.lt {w : World} {g : Nat} {u0 u1 u2 : Value} (h : Cel w g u0 u1 u2) : g < w.heap.size := World.block_lt_of_cell? w _ h.1.1
theorem Cel.below {w w' : World} {B g : Nat} {u0 u1 u2 : Value} (h : Cel w g u0 u1 u2) (hb : Below B w w') (hg : g < B) : Cel w' g u0 u1 u2 := by
  obtain ⟨⟨h0, h1, h2⟩, f0, f1, f2⟩ := h
  exact ⟨⟨(hb.cell (p := ⟨g, 0, none⟩) hg).trans h0, (hb.cell (p := ⟨g, 1, none⟩) hg).trans h1, (hb.cell (p := ⟨g, 2, none⟩) hg).trans h2⟩,
    (hb.frozen (p := ⟨g, 0, none⟩) hg).trans f0, (hb.frozen (p := ⟨g, 1, none⟩) hg).trans f1, (hb.frozen (p := ⟨g, 2, none⟩) hg).trans f2⟩
theorem Cel.on {w w' : World} {g : Nat} {u0 u1 u2 : Value} (h : Cel w g u0 u1 u2) (hb : Below w.heap.size w w') : Cel w' g u0 u1 u2 := h.below hb h.lt
theorem Cel.alloc {w : World} {g : Nat} {u0 u1 u2 : Value} (h : Cel w g u0 u1 u2) (o : Obj) : Cel (w.alloc o) g u0 u1 u2 := h.on (below_alloc w o)
theorem set_same {w : World} {a : Addr} {u : Value} (h : w.cell? a = some u) (v : Value) : (w.setCell a v).cell? a = some v := World.cell?_setCell_same w a v h
theorem frozen_of {W : World} {g : Nat} {cs : Array Value} {t : TypeId} (h : W.heap[g]? = some (.cells cs t (0, 0))) (i : Nat) : W.frozen? ⟨g, i, none⟩ = false := by simp [World.frozen?, h]
theorem Cel.new (w : World) (u0 u1 u2 : Value) (t : TypeId) : Cel (w.alloc (.cells #[u0, u1, u2] t)) w.heap.size u0 u1 u2 := by
  have hb := heap_alloc_new w (.cells #[u0, u1, u2] t)
  refine ⟨⟨?_, ?_, ?_⟩, ?_, ?_, ?_⟩
  · rw [cell_of_row _ _ _ _ _ _ hb]; rfl
  · rw [cell_of_row _ _ _ _ _ _ hb]; rfl
  · rw [cell_of_row _ _ _ _ _ _ hb]; rfl
  · exact frozen_of hb _
  · exact frozen_of hb _
  · exact frozen_of hb _
/-- A number stored into such a block. -/
def put3 (w : World) (g : Nat) (u0 u1 u2 : Value) : World := ((w.setCell ⟨g, 0, none⟩ u0).setCell ⟨g, 1, none⟩ u1).setCell ⟨g, 2, none⟩ u2
theorem put3_size (w : World) (g : Nat) (u0 u1 u2 : Value) : (put3 w g u0 u1 u2).heap.size = w.heap.size := by simp [put3]
theorem Cel.put3 {w : World} {g : Nat} {u0 u1 u2 : Value} (h : Cel w g u0 u1 u2) (x0 x1 x2 : Value) : Cel (put3 w g x0 x1 x2) g x0 x1 x2 := by
  obtain ⟨⟨h0, h1, h2⟩, f0, f1, f2⟩ := h
  have ne : ∀ (i j : Nat), i ≠ j → ((⟨g, i, none⟩ : Addr) ≠ ⟨g, j, none⟩) := fun i j hij e => by cases e; exact hij rfl
  have a0 : ∀ (W : World) (x : Value) (i : Nat), i ≠ 0 → (W.setCell ⟨g, 0, none⟩ x).cell? ⟨g, i, none⟩ = W.cell? ⟨g, i, none⟩ := fun W x i hi => World.cell?_setCell_other W _ _ x (ne _ _ hi.symm)
  have a1 : ∀ (W : World) (x : Value) (i : Nat), i ≠ 1 → (W.setCell ⟨g, 1, none⟩ x).cell? ⟨g, i, none⟩ = W.cell? ⟨g, i, none⟩ := fun W x i hi => World.cell?_setCell_other W _ _ x (ne _ _ hi.symm)
  have a2 : ∀ (W : World) (x : Value) (i : Nat), i ≠ 2 → (W.setCell ⟨g, 2, none⟩ x).cell? ⟨g, i, none⟩ = W.cell? ⟨g, i, none⟩ := fun W x i hi => World.cell?_setCell_other W _ _ x (ne _ _ hi.symm)
  unfold Go.Proofs.YthkhaipbdphpeaaDoor.put3
  refine ⟨⟨?_, ?_, ?_⟩, ?_, ?_, ?_⟩
  · rw [a2 _ _ _ (by decide), a1 _ _ _ (by decide)]; exact set_same h0 _
  · rw [a2 _ _ _ (by decide)]; exact set_same ((a0 _ _ _ (by decide)).trans h1) _
  · exact set_same (((a1 _ _ _ (by decide)).trans (a0 _ _ _ (by decide))).trans h2) _
  · simpa using f0
  · simpa using f1
  · simpa using f2
theorem In.put3 {w : World} {v : Value} {zs : List Int} {g : Nat} {b : Bool} {A B : Option Addr} {n c m d : Nat} (h : In w v zs) (hc : Cel w g (.bool b) (.slice A n c) (.slice B m d)) (x0 x1 x2 : Value) : In (put3 w g x0 x1 x2) v zs := by
  have ne : ∀ (i j : Nat), i ≠ j → ((⟨g, i, none⟩ : Addr) ≠ ⟨g, j, none⟩) := fun i j hij e => by cases e; exact hij rfl
  obtain ⟨⟨h0, h1, h2⟩, -⟩ := hc
  refine ((h.set h0 (fun _ e => by cases e) x0).set (p := ⟨g, 1, none⟩) (u := .slice A n c) ?_ (fun _ e => by cases e) x1).set (p := ⟨g, 2, none⟩) (u := .slice B m d) ?_ (fun _ e => by cases e) x2
  · exact (World.cell?_setCell_other _ _ _ _ (ne _ _ (by decide))).trans h1
  · exact (World.cell?_setCell_other _ _ _ _ (ne _ _ (by decide))).trans ((World.cell?_setCell_other _ _ _ _ (ne _ _ (by decide))).trans h2)
theorem below_put3 {B : Nat} {w w' : World} (h : Below B w w') {g : Nat} (hg : B ≤ g) (x0 x1 x2 : Value) : Below B w (put3 w' g x0 x1 x2) :=
  ((h.setCell (p := ⟨g, 0, none⟩) hg _).setCell (p := ⟨g, 1, none⟩) hg _).setCell (p := ⟨g, 2, none⟩) hg _

theorem nat_Gcd_in (xs ys : List Int) (va vb : Value) (w : World) (ha : In w va xs) (hb : In w vb ys) :
    Calls Tryd.prog 51 #[va, vb] w (ResIn w (gcdN xs ys) (formE xs ys)) := by
  refine (Gcd_of xs ys va vb w ha hb fun h1 h2 => gcd_of_short (fun xs ys va vb W ha hb hx hy h1 h2 h3 => nat_shortened xs ys va vb W ha hb hx hy h1 h2 h3) xs ys va vb w ha hb (valid_nrm h1) (valid_nrm h2) (by have := valid_len h1; omega) (by have := valid_len h2; omega)).mono ?_
  rintro e w' ⟨v, h1, h2, h3⟩
  exact ⟨v, h1, h2.toIn, h3⟩
theorem nat_DivMod_in (xs ys : List Int) (va vb : Value) (w : World) (ha : In w va xs) (hb : In w vb ys) :
    Calls Tryd.prog 68 #[va, vb] w (DmIn w xs ys) := by
  refine (nat_DivMod xs ys va vb w ha hb).mono ?_
  rintro e w' ⟨vq, vr, h1, h2, h3, h4⟩
  exact ⟨vq, vr, h1, h2.toIn, h3.toIn, h4⟩

theorem both48 {p q : Nat} (hp : p < big48) (hq : q < big48) : both (limbs p) (limbs q) = true := by rw [both, valid48 hp, valid48 hq]; rfl
theorem gcdN_limbs {p q : Nat} (hp : p < big48) (hq : q < big48) : gcdN (limbs p) (limbs q) = Nat.gcd p q := by rw [gcdN, both48 hp hq, if_pos rfl, nvt, nvt]
theorem formE_limbs {p q : Nat} (hp : p < big48) (hq : q < big48) : formE (limbs p) (limbs q) = 0 := by rw [formE, both48 hp hq, if_pos rfl]
theorem divOk_limbs {p q : Nat} (hp : p < big48) (hq : q < big48) (h0 : q ≠ 0) : divOk (limbs p) (limbs q) = true := by rw [divOk, both48 hp hq, limbs_ne h0]; rfl
theorem quoN_limbs {p q : Nat} (hp : p < big48) (hq : q < big48) (h0 : q ≠ 0) : quoN (limbs p) (limbs q) = p / q := by rw [quoN, divOk_limbs hp hq h0, if_pos rfl, nvt, nvt]
theorem remN_limbs {p q : Nat} (hp : p < big48) (hq : q < big48) (h0 : q ≠ 0) : remN (limbs p) (limbs q) = p % q := by rw [remN, divOk_limbs hp hq h0, if_pos rfl, nvt, nvt]
theorem divE_limbs {p q : Nat} (hp : p < big48) (hq : q < big48) (h0 : q ≠ 0) : divE (limbs p) (limbs q) = 0 := by rw [divE, both48 hp hq, if_pos rfl, limbs_ne h0]; rfl
theorem red_form {b : Bool} {p q : Nat} (h0 : q ≠ 0) :
    negR (mkRat (sgI b p) q) = (b && !(limbs (p / Nat.gcd p q)).isEmpty) ∧ topL (mkRat (sgI b p) q) = limbs (p / Nat.gcd p q) ∧ botL (mkRat (sgI b p) q) = limbs (q / Nat.gcd p q) := by
  obtain ⟨h1, h2⟩ := mk_parts (b := b) (p := p) h0
  refine ⟨?_, ?_, ?_⟩
  · rw [negR_sg h1, limbs_emp]
    congr 1; by_cases h : p / Nat.gcd p q = 0
    · rw [h]; rfl
    · rw [decide_eq_true (Nat.pos_of_ne_zero h), decide_eq_false h]; rfl
  · unfold topL; rw [h1, sgI_abs]
  · unfold botL; rw [h2]

set_option maxHeartbeats 800000 in
theorem rat_reduced (b : Bool) (p q : Nat) (va vb : Value) (w : World) (ha : In w va (limbs p)) (hb : In w vb (limbs q)) (hp : p < big48) (hq : q < big48) (h0 : q ≠ 0) :
    Calls Tryd.prog 58 #[.bool b, va, vb] w (fun e w' => ∃ v, e = .returned v ∧ IsR w' v (mkRat (sgI b p) q) ∧ Below w.heap.size w w') := by
  have hg : Nat.gcd p q < big48 ∧ Nat.gcd p q ≠ 0 := ⟨Nat.lt_of_le_of_lt (Nat.gcd_le_right _ (by omega)) hq, fun h => h0 (Nat.eq_zero_of_gcd_eq_zero_right h)⟩
  have FF := Lib.hid (red_form (b := b) (p := p) h0)
  have G := Lib.hid (gcdN_limbs hp hq)
  have D1 := Lib.hid (quoN_limbs hp hg.1 hg.2)
  have D2 := Lib.hid (quoN_limbs hq hg.1 hg.2)
  have HC := Lib.hid (Cel.new w (.bool false) (.slice none 0 0) (.slice none 0 0) 25)
  obtain ⟨A, c, rfl, ha'⟩ := in_open ha
  obtain ⟨B, d, rfl, hb'⟩ := in_open hb
  have HA := Lib.hid ha'
  have HB := Lib.hid hb'
  clear ha hb ha' hb' hp hq h0 hg
  go_enter Tryd.func58, Tryd.ntmps58
  go_wp2_with fail
  refine (nat_Gcd_in _ _ _ _ _ (HA.out.alloc _) (HB.out.alloc _)).mono ?_
  rintro e w1 ⟨v1, rfl, h1, hb1⟩
  rw [G.out] at h1
  have HG := Lib.hid h1
  have HB1 := Lib.hid hb1
  have HC1 := Lib.hid (HC.out.on hb1)
  clear h1 hb1
  go_wp2_with fail
  refine (nat_DivMod_in _ _ _ _ _ ((HA.out.alloc _).on HB1.out) HG.out).mono ?_
  rintro e w2 ⟨v2, v2r, rfl, h2, _, hb2⟩
  rw [D1.out] at h2
  obtain ⟨X, x, rfl, h2'⟩ := in_open h2
  have HX := Lib.hid h2'
  have HB2 := Lib.hid hb2
  have HC2 := Lib.hid (HC1.out.on hb2)
  clear h2 h2' hb2
  go_wp2_with fail
  refine (nat_DivMod_in _ _ _ _ _ (((HB.out.alloc _).on HB1.out).on HB2.out) (HG.out.on HB2.out)).mono ?_
  rintro e w3 ⟨v3, v3r, rfl, h3, _, hb3⟩
  rw [D2.out] at h3
  obtain ⟨Y, y, rfl, h3'⟩ := in_open h3
  have HY := Lib.hid h3'
  have HB3 := Lib.hid hb3
  have HC3 := Lib.hid (HC2.out.on hb3)
  clear h3 h3' hb3
  go_wp2_with fail
  refine (rat_signed b _ _ _ _ _ (HX.out.on HB3.out) HY.out).mono ?_
  rintro e w4 ⟨v4, rfl, h4, hb4⟩
  obtain ⟨vp, vq, rfl, h4p, h4q⟩ := h4
  obtain ⟨P, x4, rfl, h4p'⟩ := in_open h4p
  obtain ⟨Q, y4, rfl, h4q'⟩ := in_open h4q
  have HP := Lib.hid h4p'
  have HQ := Lib.hid h4q'
  have HB4 := Lib.hid hb4
  have HC4 := HC3.out.on hb4
  have HC4' := Lib.hid HC4
  have HR := Lib.hid (HC4.put3 (.bool (b && !(limbs (p / Nat.gcd p q)).isEmpty)) (.slice P (limbs (p / Nat.gcd p q)).length x4) (.slice Q (limbs (q / Nat.gcd p q)).length y4))
  obtain ⟨⟨c0, c1, c2⟩, f0, f1, f2⟩ := HC4
  clear h4p h4q h4p' h4q' hb4
  go_wp2_with fail
  obtain ⟨⟨r0, r1, r2⟩, -⟩ := HR.out
  refine bodyPost_ret (v := .agg #[.bool (b && !(limbs (p / Nat.gcd p q)).isEmpty), .slice P (limbs (p / Nat.gcd p q)).length x4, .slice Q (limbs (q / Nat.gcd p q)).length y4]) (by simp only [put3] at r0 r1 r2; simp [results, Tryd.results58, go_sem, r0, r1, r2]) rfl ?_
  refine ⟨_, rfl, ⟨_, _, by rw [FF.out.1], ?_, ?_⟩, ?_⟩
  · rw [FF.out.2.1]; exact HP.out.put3 HC4'.out _ _ _
  · rw [FF.out.2.2]; exact HQ.out.put3 HC4'.out _ _ _
  · exact below_put3 (bstep (bstep (bstep ((below_alloc _ _).trans (HB1.out.mono (by simp))) HB2.out) HB3.out) HB4.out) (Nat.le_refl _) _ _ _
end Go.Proofs.YthkhaipbdphpeaaDoor
