/- Several texts in one: RatT, RatU. -/
import Derived.Test.YtgmlccjjhmhgbaaPk13
import Derived.Test.YtgmlccjjhmhgbaaPk8
import Derived.Lib.SliceRun
/- Contracts of Make and Of, of rat and of its reference. -/
namespace Go.Proofs.Ytgmlccjjhmhgbaa
open Go.ChangeShapes Go.WideShapes Go.RowKit
set_option linter.unusedVariables false
set_option maxRecDepth 100000

def mkNeg (p q : Int) : Bool := decide (p < 0) != decide (q < 0)
def mkV (p q : Int) : Rat := mkRat (sgI (mkNeg p q) p.natAbs) q.natAbs
def mkE (p q : Int) : Int := if inRB p && inRB q then (if q = 0 then 16 else 0) else 1
theorem inRB_iff {n : Int} : inRB n = true ↔ -1125899906842624 ≤ n ∧ n ≤ 1125899906842624 := by simp [inRB]
theorem mkE_1 {p q : Int} (h : inRB p = false) : mkE p q = 1 := by unfold mkE; rw [h]; rfl
theorem mkE_2 {p q : Int} (h : inRB p = true) (h2 : inRB q = false) : mkE p q = 1 := by unfold mkE; rw [h, h2]; rfl
theorem mkE_3 {p : Int} (h : inRB p = true) : mkE p 0 = 16 := by unfold mkE; rw [h]; rfl
theorem mkE_4 {p q : Int} (h : inRB p = true) (h2 : inRB q = true) (h3 : q ≠ 0) : mkE p q = 0 := by unfold mkE; rw [h, h2]; simp [h3]
theorem small48 {n : Nat} (h : n ≤ 1125899906842624) : n < big48 := by
  have : 1000000000 ^ 2 ≤ big48 := Nat.pow_le_pow_right (by decide) (by decide)
  have e : (1000000000 : Nat) ^ 2 = 1000000000000000000 := by decide
  omega

set_option maxHeartbeats 1600000 in
theorem rat_Make_1 (p q : Int) (w : World) (hp : inRB p = false) :
    Calls Try.prog 44 #[.int .i64 p, .int .i64 q] w (RRes w (mkE p q) (mkV p q)) := by
  have HP := Lib.hid hp
  clear hp
  go_enter Try.func44, Try.ntmps44
  go_wp2_with fail
  refine (rat_inRange p _).mono ?_
  rw [HP.out]
  rintro e w' ⟨rfl, rfl⟩
  go_wp2_with fail
  refine bodyPost_ret (v := .tuple #[.agg #[.bool false, .slice none 0 0, .slice none 0 0], .int .i64 1]) (by simp [results, Try.results44, go_sem]) rfl ?_
  rw [mkE_1 HP.out]
  exact ⟨_, rfl, OutR.no (by decide), below_alloc _ _⟩

set_option maxHeartbeats 1600000 in
theorem rat_Make_2 (p q : Int) (w : World) (hp : inRB p = true) (hq : inRB q = false) :
    Calls Try.prog 44 #[.int .i64 p, .int .i64 q] w (RRes w (mkE p q) (mkV p q)) := by
  have HP := Lib.hid hp
  have HQ := Lib.hid hq
  clear hp hq
  go_enter Try.func44, Try.ntmps44
  go_wp2_with fail
  refine (rat_inRange p _).mono ?_
  rw [HP.out]
  rintro e w' ⟨rfl, rfl⟩
  go_wp2_with fail
  refine (rat_inRange q _).mono ?_
  rw [HQ.out]
  rintro e w' ⟨rfl, rfl⟩
  go_wp2_with fail
  refine bodyPost_ret (v := .tuple #[.agg #[.bool false, .slice none 0 0, .slice none 0 0], .int .i64 1]) (by simp [results, Try.results44, go_sem]) rfl ?_
  rw [mkE_2 HP.out HQ.out]
  exact ⟨_, rfl, OutR.no (by decide), below_alloc _ _⟩

set_option maxHeartbeats 1600000 in
theorem rat_Make_3 (p q : Int) (w : World) (hp : inRB p = true) (hq : q = 0) :
    Calls Try.prog 44 #[.int .i64 p, .int .i64 q] w (RRes w (mkE p q) (mkV p q)) := by
  subst hq
  have HP := Lib.hid hp
  have HQ : Hid (inRB 0 = true) := rfl
  clear hp
  go_enter Try.func44, Try.ntmps44
  go_wp2_with fail
  refine (rat_inRange p _).mono ?_
  rw [HP.out]
  rintro e w' ⟨rfl, rfl⟩
  go_wp2_with fail
  refine (rat_inRange 0 _).mono ?_
  rw [HQ.out]
  rintro e w' ⟨rfl, rfl⟩
  go_wp2_with fail
  refine bodyPost_ret (v := .tuple #[.agg #[.bool false, .slice none 0 0, .slice none 0 0], .int .i64 16]) (by simp [results, Try.results44, go_sem]) rfl ?_
  rw [mkE_3 HP.out]
  exact ⟨_, rfl, OutR.no (by decide), below_alloc _ _⟩

set_option maxHeartbeats 1600000 in
theorem rat_Make_4 (p q : Int) (w : World) (hp : inRB p = true) (hq : inRB q = true) (hq0 : q ≠ 0) :
    Calls Try.prog 44 #[.int .i64 p, .int .i64 q] w (RRes w (mkE p q) (mkV p q)) := by
  have HP := Lib.hid hp
  have HQ := Lib.hid hq
  have H0 := Lib.hid hq0
  have bp := inRB_iff.mp hp
  have bq := inRB_iff.mp hq
  have hp1 : max p (-p) = (p.natAbs : Int) := by omega
  have hq1 : max q (-q) = (q.natAbs : Int) := by omega
  have hqz : (q == 0) = false := beq_false_of_ne hq0
  have HN : Hid (mkNeg p q = !(decide (p < 0) == decide (q < 0))) := rfl
  have HPS : Hid (p.natAbs < big48) := small48 (by omega)
  have HQS : Hid (q.natAbs < big48) := small48 (by omega)
  have HQN : Hid (q.natAbs ≠ 0) := by rw [Hid]; omega
  have HC := Lib.hid (Cel.new w (.bool false) (.slice none 0 0) (.slice none 0 0) 33)
  obtain ⟨P, hP⟩ : ∃ P, P = p.natAbs := ⟨_, rfl⟩
  obtain ⟨Q, hQ⟩ : ∃ Q, Q = q.natAbs := ⟨_, rfl⟩
  have HPP := Lib.hid hP
  have HQQ := Lib.hid hQ
  rw [← hP] at hp1 HPS
  rw [← hQ] at hq1 HQS HQN
  have bP : (P : Int) ≤ 1125899906842624 := by omega
  have bQ : (Q : Int) ≤ 1125899906842624 := by omega
  clear hq0 hp hq hP hQ
  go_enter Try.func44, Try.ntmps44
  go_wp2_with fail
  refine (rat_inRange p _).mono ?_
  rw [HP.out]
  rintro e w' ⟨rfl, rfl⟩
  go_wp2_with fail
  refine (rat_inRange q _).mono ?_
  rw [HQ.out]
  rintro e w' ⟨rfl, rfl⟩
  go_wp2_with fail
  refine (nat_Of (P : Int) _ (by omega) (by omega)).mono ?_
  rintro e w1 ⟨v1, rfl, h1, hb1⟩
  rw [Int.toNat_natCast] at h1
  have HX := Lib.hid h1.toIn
  have HB1 := Lib.hid hb1
  have HC1 := Lib.hid (HC.out.on hb1)
  have hz1 : w.heap.size + 1 ≤ w1.heap.size := by have := hb1.size; simp at this; exact this
  clear h1 hb1
  go_wp2_with fail
  refine (nat_Of (Q : Int) _ (by omega) (by omega)).mono ?_
  rintro e w2 ⟨v2, rfl, h2, hb2⟩
  rw [Int.toNat_natCast] at h2
  have HY := Lib.hid h2.toIn
  have HX2 := Lib.hid (HX.out.on hb2)
  have HB2 := Lib.hid hb2
  have HC2 := Lib.hid (HC1.out.on hb2)
  have hz2 : w.heap.size + 1 ≤ w2.heap.size := by have := hb2.size; omega
  clear h2 hb2
  go_wp2_with fail
  rw [← HN.out]
  refine (rat_reduced (mkNeg p q) P Q _ _ w2 HX2.out HY.out HPS.out HQS.out HQN.out).mono ?_
  rw [HPP.out, HQQ.out, show mkRat (sgI (mkNeg p q) p.natAbs) q.natAbs = mkV p q from rfl]
  rintro e w4 ⟨v4, rfl, h4, hb4⟩
  obtain ⟨vp4, vq4, rfl, h4p, h4q⟩ := h4
  obtain ⟨P4, x4, rfl, h4p'⟩ := in_open h4p
  obtain ⟨Q4, y4, rfl, h4q'⟩ := in_open h4q
  have HP4 := Lib.hid h4p'
  have HQ4 := Lib.hid h4q'
  have HB4 := Lib.hid hb4
  have HC4 := HC2.out.on hb4
  have HC4' := Lib.hid HC4
  have HRR := Lib.hid (HC4.put3 (.bool (negR (mkV p q))) (.slice P4 (topL (mkV p q)).length x4) (.slice Q4 (botL (mkV p q)).length y4))
  obtain ⟨⟨d0, d1, d2⟩, f0, f1, f2⟩ := HC4
  clear h4p h4q h4p' h4q' hb4
  go_wp2_with fail
  obtain ⟨⟨r0, r1, r2⟩, -⟩ := HRR.out
  refine bodyPost_ret (v := .tuple #[.agg #[.bool (negR (mkV p q)), .slice P4 (topL (mkV p q)).length x4, .slice Q4 (botL (mkV p q)).length y4], .int .i64 0]) (by simp only [put3] at r0 r1 r2; simp [results, Try.results44, go_sem, r0, r1, r2]) rfl ?_
  rw [mkE_4 HP.out HQ.out H0.out]
  exact ⟨_, rfl, OutR.ok ⟨_, _, rfl, HP4.out.put3 HC4'.out _ _ _, HQ4.out.put3 HC4'.out _ _ _⟩, below_put3 (bstep (bstep ((below_alloc _ _).trans (HB1.out.mono (by simp))) HB2.out) HB4.out) (Nat.le_refl _) _ _ _⟩

theorem rat_Make (p q : Int) (w : World) (h1 : -9223372036854775808 ≤ p) (h2 : p ≤ 9223372036854775807) (h3 : -9223372036854775808 ≤ q) (h4 : q ≤ 9223372036854775807) :
    Calls Try.prog 44 #[.int .i64 p, .int .i64 q] w (RRes w (mkE p q) (mkV p q)) := by
  rcases bcase (inRB p) with hp | hp
  · rcases bcase (inRB q) with hq | hq
    · by_cases h0 : q = 0
      · exact rat_Make_3 p q w hp h0
      · exact rat_Make_4 p q w hp hq h0
    · exact rat_Make_2 p q w hp hq
  · exact rat_Make_1 p q w hp

set_option maxHeartbeats 1600000 in
theorem rat_Of (p : Int) (w : World) (h1 : -9223372036854775808 ≤ p) (h2 : p ≤ 9223372036854775807) :
    Calls Try.prog 24 #[.int .i64 p] w (RRes w (mkE p 1) (mkV p 1)) := by
  have HM := Lib.hid (fun W => rat_Make p 1 W h1 h2 (by decide) (by decide))
  have HC := Lib.hid (Cel.new w (.bool false) (.slice none 0 0) (.slice none 0 0) 33)
  clear h1 h2
  go_enter Try.func24, Try.ntmps24
  go_wp2_with fail
  refine (HM.out _).mono ?_
  rintro e w3 h3
  obtain ⟨b3, A5, n5, d5, A6, n6, d6, rfl, ho3, hb3⟩ := h3.open_
  have HO3 := Lib.hid ho3
  have HB3 := Lib.hid hb3
  have HC3 := HC.out.on hb3
  have HC3' := Lib.hid HC3
  have HRR := Lib.hid (HC3.put3 (.bool b3) (.slice A5 n5 d5) (.slice A6 n6 d6))
  obtain ⟨⟨d0, d1, d2⟩, f0, f1, f2⟩ := HC3
  clear h3 ho3 hb3
  go_wp2_with fail
  obtain ⟨⟨r0, r1, r2⟩, -⟩ := HRR.out
  refine bodyPost_ret (v := .tuple #[.agg #[.bool b3, .slice A5 n5 d5, .slice A6 n6 d6], .int .i64 (mkE p 1)]) (by simp only [put3] at r0 r1 r2; simp [results, Try.results24, go_sem, r0, r1, r2]) rfl ?_
  exact ⟨_, rfl, HO3.out.put3 HC3'.out _ _ _, below_put3 ((below_alloc _ _).trans (HB3.out.mono (by simp))) (Nat.le_refl _) _ _ _⟩

theorem ref_Of_in (n : Int) (w : World) (h1 : -9223372036854775808 ≤ n) (h2 : n ≤ 9223372036854775807) :
    Calls Try.prog 35 #[.int .i64 n] w fun e w' => ∃ v, e = .returned (.tuple #[v, .int .i64 (ofE n)]) ∧ Sl w' w.heap.size w'.heap.size v (limbs n.toNat) ∧ Below w.heap.size w w' := ref_Of n w h1 h2

set_option maxHeartbeats 1600000 in
theorem ref_Make3_1 (p q : Int) (w : World) (hp : inRB p = false) :
    Calls Try.prog 13 #[.int .i64 p, .int .i64 q] w (RRes w (mkE p q) (mkV p q)) := by
  have HP := Lib.hid hp
  have hor : p < -1125899906842624 ∨ (-1125899906842624 ≤ p ∧ 1125899906842624 < p) := by
    have := mt inRB_iff.mpr (by rw [hp]; decide)
    omega
  rcases hor with hl | ⟨hl, hg⟩
  · clear hp
    go_enter Try.func13, Try.ntmps13
    go_wp2_with fail
    refine bodyPost_ret (v := .tuple #[.agg #[.bool false, .slice none 0 0, .slice none 0 0], .int .i64 1]) (by simp [results, Try.results13, go_sem]) rfl ?_
    rw [mkE_1 HP.out]
    exact ⟨_, rfl, OutR.no (by decide), below_alloc _ _⟩
  · have hl2 : decide (p < -1125899906842624) = false := decide_eq_false (by omega)
    clear hp
    go_enter Try.func13, Try.ntmps13
    go_wp2_with fail
    refine bodyPost_ret (v := .tuple #[.agg #[.bool false, .slice none 0 0, .slice none 0 0], .int .i64 1]) (by simp [results, Try.results13, go_sem]) rfl ?_
    rw [mkE_1 HP.out]
    exact ⟨_, rfl, OutR.no (by decide), below_alloc _ _⟩

set_option maxHeartbeats 1600000 in
theorem ref_Make3_2 (p q : Int) (w : World) (hp : inRB p = true) (hq : inRB q = false) :
    Calls Try.prog 13 #[.int .i64 p, .int .i64 q] w (RRes w (mkE p q) (mkV p q)) := by
  have HP := Lib.hid hp
  have HQ := Lib.hid hq
  obtain ⟨p1, p2⟩ := inRB_iff.mp hp
  have hor : q < -1125899906842624 ∨ (-1125899906842624 ≤ q ∧ 1125899906842624 < q) := by
    have := mt inRB_iff.mpr (by rw [hq]; decide)
    omega
  clear hp
  rcases hor with hl | ⟨hl, hg⟩
  · clear hq
    go_enter Try.func13, Try.ntmps13
    go_wp2_with fail
    refine bodyPost_ret (v := .tuple #[.agg #[.bool false, .slice none 0 0, .slice none 0 0], .int .i64 1]) (by simp [results, Try.results13, go_sem]) rfl ?_
    rw [mkE_2 HP.out HQ.out]
    exact ⟨_, rfl, OutR.no (by decide), below_alloc _ _⟩
  · have hl2 : decide (q < -1125899906842624) = false := decide_eq_false (by omega)
    clear hq
    go_enter Try.func13, Try.ntmps13
    go_wp2_with fail
    refine bodyPost_ret (v := .tuple #[.agg #[.bool false, .slice none 0 0, .slice none 0 0], .int .i64 1]) (by simp [results, Try.results13, go_sem]) rfl ?_
    rw [mkE_2 HP.out HQ.out]
    exact ⟨_, rfl, OutR.no (by decide), below_alloc _ _⟩

set_option maxHeartbeats 1600000 in
theorem ref_Make3_3 (p q : Int) (w : World) (hp : inRB p = true) (hq : q = 0) :
    Calls Try.prog 13 #[.int .i64 p, .int .i64 q] w (RRes w (mkE p q) (mkV p q)) := by
  subst hq
  have HP := Lib.hid hp
  obtain ⟨p1, p2⟩ := inRB_iff.mp hp
  clear hp
  go_enter Try.func13, Try.ntmps13
  go_wp2_with fail
  refine bodyPost_ret (v := .tuple #[.agg #[.bool false, .slice none 0 0, .slice none 0 0], .int .i64 16]) (by simp [results, Try.results13, go_sem]) rfl ?_
  rw [mkE_3 HP.out]
  exact ⟨_, rfl, OutR.no (by decide), below_alloc _ _⟩

set_option maxHeartbeats 1600000 in
theorem ref_Make3_4 (p q : Int) (w : World) (hp : inRB p = true) (hq : inRB q = true) (hq0 : q ≠ 0) :
    Calls Try.prog 13 #[.int .i64 p, .int .i64 q] w (RRes w (mkE p q) (mkV p q)) := by
  have HP := Lib.hid hp
  have HQ := Lib.hid hq
  have H0 := Lib.hid hq0
  have bp := inRB_iff.mp hp
  have bq := inRB_iff.mp hq
  have hp1 : max p (-p) = (p.natAbs : Int) := by omega
  have hq1 : max q (-q) = (q.natAbs : Int) := by omega
  have hqz : (q == 0) = false := beq_false_of_ne hq0
  have HN : Hid (mkNeg p q = !(decide (p < 0) == decide (q < 0))) := rfl
  have HPS : Hid (p.natAbs < big48) := small48 (by omega)
  have HQS : Hid (q.natAbs < big48) := small48 (by omega)
  have HQN : Hid (q.natAbs ≠ 0) := by rw [Hid]; omega
  have HC := Lib.hid (Cel.new w (.bool false) (.slice none 0 0) (.slice none 0 0) 33)
  obtain ⟨P, hP⟩ : ∃ P, P = p.natAbs := ⟨_, rfl⟩
  obtain ⟨Q, hQ⟩ : ∃ Q, Q = q.natAbs := ⟨_, rfl⟩
  have HPP := Lib.hid hP
  have HQQ := Lib.hid hQ
  rw [← hP] at hp1 HPS
  rw [← hQ] at hq1 HQS HQN
  have bP : (P : Int) ≤ 1125899906842624 := by omega
  have bQ : (Q : Int) ≤ 1125899906842624 := by omega
  clear hq0 hp hq hP hQ
  go_enter Try.func13, Try.ntmps13
  go_wp2_with fail
  refine (ref_Of_in (P : Int) _ (by omega) (by omega)).mono ?_
  rintro e w1 ⟨v1, rfl, h1, hb1⟩
  rw [Int.toNat_natCast] at h1
  have HX := Lib.hid h1.toIn
  have HB1 := Lib.hid hb1
  have HC1 := Lib.hid (HC.out.on hb1)
  have hz1 : w.heap.size + 1 ≤ w1.heap.size := by have := hb1.size; simp at this; exact this
  clear h1 hb1
  go_wp2_with fail
  refine (ref_Of_in (Q : Int) _ (by omega) (by omega)).mono ?_
  rintro e w2 ⟨v2, rfl, h2, hb2⟩
  rw [Int.toNat_natCast] at h2
  have HY := Lib.hid h2.toIn
  have HX2 := Lib.hid (HX.out.on hb2)
  have HB2 := Lib.hid hb2
  have HC2 := Lib.hid (HC1.out.on hb2)
  have hz2 : w.heap.size + 1 ≤ w2.heap.size := by have := hb2.size; omega
  clear h2 hb2
  go_wp2_with fail
  rw [← HN.out]
  refine (ref_Reduce (mkNeg p q) P Q _ _ w2 HX2.out HY.out HPS.out HQS.out HQN.out).mono ?_
  rw [HPP.out, HQQ.out, show mkRat (sgI (mkNeg p q) p.natAbs) q.natAbs = mkV p q from rfl]
  rintro e w4 ⟨v4, rfl, h4, hb4⟩
  obtain ⟨vp4, vq4, rfl, h4p, h4q⟩ := h4
  obtain ⟨P4, x4, rfl, h4p'⟩ := in_open h4p
  obtain ⟨Q4, y4, rfl, h4q'⟩ := in_open h4q
  have HP4 := Lib.hid h4p'
  have HQ4 := Lib.hid h4q'
  have HB4 := Lib.hid hb4
  have HC4 := HC2.out.on hb4
  have HC4' := Lib.hid HC4
  have HRR := Lib.hid (HC4.put3 (.bool (negR (mkV p q))) (.slice P4 (topL (mkV p q)).length x4) (.slice Q4 (botL (mkV p q)).length y4))
  obtain ⟨⟨d0, d1, d2⟩, f0, f1, f2⟩ := HC4
  clear h4p h4q h4p' h4q' hb4
  go_wp2_with fail
  obtain ⟨⟨r0, r1, r2⟩, -⟩ := HRR.out
  refine bodyPost_ret (v := .tuple #[.agg #[.bool (negR (mkV p q)), .slice P4 (topL (mkV p q)).length x4, .slice Q4 (botL (mkV p q)).length y4], .int .i64 0]) (by simp only [put3] at r0 r1 r2; simp [results, Try.results13, go_sem, r0, r1, r2]) rfl ?_
  rw [mkE_4 HP.out HQ.out H0.out]
  exact ⟨_, rfl, OutR.ok ⟨_, _, rfl, HP4.out.put3 HC4'.out _ _ _, HQ4.out.put3 HC4'.out _ _ _⟩, below_put3 (bstep (bstep ((below_alloc _ _).trans (HB1.out.mono (by simp))) HB2.out) HB4.out) (Nat.le_refl _) _ _ _⟩

theorem ref_Make3 (p q : Int) (w : World) (h1 : -9223372036854775808 ≤ p) (h2 : p ≤ 9223372036854775807) (h3 : -9223372036854775808 ≤ q) (h4 : q ≤ 9223372036854775807) :
    Calls Try.prog 13 #[.int .i64 p, .int .i64 q] w (RRes w (mkE p q) (mkV p q)) := by
  rcases bcase (inRB p) with hp | hp
  · rcases bcase (inRB q) with hq | hq
    · by_cases h0 : q = 0
      · exact ref_Make3_3 p q w hp h0
      · exact ref_Make3_4 p q w hp hq h0
    · exact ref_Make3_2 p q w hp hq
  · exact ref_Make3_1 p q w hp

set_option maxHeartbeats 1600000 in
theorem ref_Of3 (p : Int) (w : World) (h1 : -9223372036854775808 ≤ p) (h2 : p ≤ 9223372036854775807) :
    Calls Try.prog 27 #[.int .i64 p] w (RRes w (mkE p 1) (mkV p 1)) := by
  have HM := Lib.hid (fun W => ref_Make3 p 1 W h1 h2 (by decide) (by decide))
  have HC := Lib.hid (Cel.new w (.bool false) (.slice none 0 0) (.slice none 0 0) 33)
  clear h1 h2
  go_enter Try.func27, Try.ntmps27
  go_wp2_with fail
  refine (HM.out _).mono ?_
  rintro e w3 h3
  obtain ⟨b3, A5, n5, d5, A6, n6, d6, rfl, ho3, hb3⟩ := h3.open_
  have HO3 := Lib.hid ho3
  have HB3 := Lib.hid hb3
  have HC3 := HC.out.on hb3
  have HC3' := Lib.hid HC3
  have HRR := Lib.hid (HC3.put3 (.bool b3) (.slice A5 n5 d5) (.slice A6 n6 d6))
  obtain ⟨⟨d0, d1, d2⟩, f0, f1, f2⟩ := HC3
  clear h3 ho3 hb3
  go_wp2_with fail
  obtain ⟨⟨r0, r1, r2⟩, -⟩ := HRR.out
  refine bodyPost_ret (v := .tuple #[.agg #[.bool b3, .slice A5 n5 d5, .slice A6 n6 d6], .int .i64 (mkE p 1)]) (by simp only [put3] at r0 r1 r2; simp [results, Try.results27, go_sem, r0, r1, r2]) rfl ?_
  exact ⟨_, rfl, HO3.out.put3 HC3'.out _ _ _, below_put3 ((below_alloc _ _).trans (HB3.out.mono (by simp))) (Nat.le_refl _) _ _ _⟩

end Go.Proofs.Ytgmlccjjhmhgbaa
/- Contracts of slices.Clone at api.Nat; Neg of rat and of its reference. -/
namespace Go.Proofs.Ytgmlccjjhmhgbaa
open Go.ChangeShapes Go.WideShapes Go.RowKit
set_option linter.unusedVariables false
set_option maxRecDepth 100000

theorem own_nothing (w : World) : (w.alloc (.cells #[] 3)).ownsRow w.heap.size 3 1 (.slice (some ⟨w.heap.size, 0, none⟩) 0 0) ([] : List Int).length (([] : List Int).map (Value.int .i64)) := own_empty w
/-- A function of one number. -/
def opH (er : Rat → Int) (b : Bool) (xs ys : List Int) : Int := if valR b xs ys then er (ratV b xs ys) else 3
def opU (f : Rat → Rat) (b : Bool) (xs ys : List Int) : Rat := f (ratV b xs ys)
theorem opH_no {er : Rat → Int} {b : Bool} {xs ys : List Int} (h : valR b xs ys = false) : opH er b xs ys = 3 := by unfold opH; rw [h]; rfl
theorem opH_form {er : Rat → Int} {f : Rat → Rat} {r : Rat} (hr : fitR r = true) : opH er (negR r) (topL r) (botL r) = er r ∧ opU f (negR r) (topL r) (botL r) = f r := by
  unfold opH opU; rw [(form_val hr).1, (form_val hr).2]; exact ⟨rfl, rfl⟩
def noE (r : Rat) : Int := 0
def negOp (r : Rat) : Rat := -r

end Go.Proofs.Ytgmlccjjhmhgbaa
