/- Several texts in one: RatT, RatU, RatV. -/
import Derived.Test.YtagjimdplmimoaaGreatPk16
import Derived.Test.YtagjimdplmimoaaGreatPk12
import Derived.Lib.SliceRun
/- Contracts of Make and Of, of rat and of its reference. -/
namespace Go.Proofs.YtagjimdplmimoaaGreat
open Go.ChangeShapes Go.WideShapes Go.RowKit
set_option linter.unusedVariables false
set_option maxRecDepth 100000

def mkNeg (p q : Int) : Bool := decide (p < 0) != decide (q < 0)
def mkV (p q : Int) : Rat := mkRat (sgI (mkNeg p q) p.natAbs) q.natAbs
def mkE (p q : Int) : Int := if inRB p && inRB q then (if q = 0 then 16 else 0) else 1
theorem inRB_iff {n : Int} : inRB n = true ↔ -1125899906842624 ≤ n ∧ n ≤ 1125899906842624 := by simp [inRB]
theorem mkE_1 {p q : Int} (h : inRB p = false) : mkE p q = 1 := by unfold mkE; rw [h]; rfl
theorem mkE_2 {p q : Int} (h : inRB p = true) (h2 : inRB q = false) : mkE p q = 1 := by unfold mkE; rw [h, h2]; rfl
theorem mkE_3 {p : Int} (h : inRB p = true) : mkE p 0 = 16 := by unfold mkE; rw [h]; rfl
theorem mkE_4 {p q : Int} (h : inRB p = true) (h2 : inRB q = true) (h3 : q ≠ 0) : mkE p q = 0 := by unfold mkE; rw [h, h2]; simp [h3]
theorem small48 {n : Nat} (h : n ≤ 1125899906842624) : n < big48 := by
  have : 1000000000 ^ 2 ≤ big48 := Nat.pow_le_pow_right (by decide) (by decide)
  have e : (1000000000 : Nat) ^ 2 = 1000000000000000000 := by decide
  omega

set_option maxHeartbeats 1600000 in
theorem rat_Make_1 (p q : Int) (w : World) (hp : inRB p = false) :
    Calls Tryz.prog 35 #[.int .i64 p, .int .i64 q] w (RRes w (mkE p q) (mkV p q)) := by
  have HP := Lib.hid hp
  clear hp
  go_enter Tryz.func35, Tryz.ntmps35
  go_wp2_with fail
  refine (rat_inRange p _).mono ?_
  rw [HP.out]
  rintro e w' ⟨rfl, rfl⟩
  go_wp2_with fail
  refine bodyPost_ret (v := .tuple #[.agg #[.bool false, .slice none 0 0, .slice none 0 0], .int .i64 1]) (by simp [results, Tryz.results35, go_sem]) rfl ?_
  rw [mkE_1 HP.out]
  exact ⟨_, rfl, OutR.no (by decide), below_alloc _ _⟩

set_option maxHeartbeats 1600000 in
theorem rat_Make_2 (p q : Int) (w : World) (hp : inRB p = true) (hq : inRB q = false) :
    Calls Tryz.prog 35 #[.int .i64 p, .int .i64 q] w (RRes w (mkE p q) (mkV p q)) := by
  have HP := Lib.hid hp
  have HQ := Lib.hid hq
  clear hp hq
  go_enter Tryz.func35, Tryz.ntmps35
  go_wp2_with fail
  refine (rat_inRange p _).mono ?_
  rw [HP.out]
  rintro e w' ⟨rfl, rfl⟩
  go_wp2_with fail
  refine (rat_inRange q _).mono ?_
  rw [HQ.out]
  rintro e w' ⟨rfl, rfl⟩
  go_wp2_with fail
  refine bodyPost_ret (v := .tuple #[.agg #[.bool false, .slice none 0 0, .slice none 0 0], .int .i64 1]) (by simp [results, Tryz.results35, go_sem]) rfl ?_
  rw [mkE_2 HP.out HQ.out]
  exact ⟨_, rfl, OutR.no (by decide), below_alloc _ _⟩

set_option maxHeartbeats 1600000 in
theorem rat_Make_3 (p q : Int) (w : World) (hp : inRB p = true) (hq : q = 0) :
    Calls Tryz.prog 35 #[.int .i64 p, .int .i64 q] w (RRes w (mkE p q) (mkV p q)) := by
  subst hq
  have HP := Lib.hid hp
  have HQ : Hid (inRB 0 = true) := rfl
  clear hp
  go_enter Tryz.func35, Tryz.ntmps35
  go_wp2_with fail
  refine (rat_inRange p _).mono ?_
  rw [HP.out]
  rintro e w' ⟨rfl, rfl⟩
  go_wp2_with fail
  refine (rat_inRange 0 _).mono ?_
  rw [HQ.out]
  rintro e w' ⟨rfl, rfl⟩
  go_wp2_with fail
  refine bodyPost_ret (v := .tuple #[.agg #[.bool false, .slice none 0 0, .slice none 0 0], .int .i64 16]) (by simp [results, Tryz.results35, go_sem]) rfl ?_
  rw [mkE_3 HP.out]
  exact ⟨_, rfl, OutR.no (by decide), below_alloc _ _⟩

set_option maxHeartbeats 1600000 in
theorem rat_Make_4 (p q : Int) (w : World) (hp : inRB p = true) (hq : inRB q = true) (hq0 : q ≠ 0) :
    Calls Tryz.prog 35 #[.int .i64 p, .int .i64 q] w (RRes w (mkE p q) (mkV p q)) := by
  have HP := Lib.hid hp
  have HQ := Lib.hid hq
  have H0 := Lib.hid hq0
  have bp := inRB_iff.mp hp
  have bq := inRB_iff.mp hq
  have hp1 : max p (-p) = (p.natAbs : Int) := by omega
  have hq1 : max q (-q) = (q.natAbs : Int) := by omega
  have hqz : (q == 0) = false := beq_false_of_ne hq0
  have HN : Hid (mkNeg p q = !(decide (p < 0) == decide (q < 0))) := rfl
  have HPS : Hid (p.natAbs < big48) := small48 (by omega)
  have HQS : Hid (q.natAbs < big48) := small48 (by omega)
  have HQN : Hid (q.natAbs ≠ 0) := by rw [Hid]; omega
  have HC := Lib.hid (Cel.new w (.bool false) (.slice none 0 0) (.slice none 0 0) 46)
  obtain ⟨P, hP⟩ : ∃ P, P = p.natAbs := ⟨_, rfl⟩
  obtain ⟨Q, hQ⟩ : ∃ Q, Q = q.natAbs := ⟨_, rfl⟩
  have HPP := Lib.hid hP
  have HQQ := Lib.hid hQ
  rw [← hP] at hp1 HPS
  rw [← hQ] at hq1 HQS HQN
  have bP : (P : Int) ≤ 1125899906842624 := by omega
  have bQ : (Q : Int) ≤ 1125899906842624 := by omega
  clear hq0 hp hq hP hQ
  go_enter Tryz.func35, Tryz.ntmps35
  go_wp2_with fail
  refine (rat_inRange p _).mono ?_
  rw [HP.out]
  rintro e w' ⟨rfl, rfl⟩
  go_wp2_with fail
  refine (rat_inRange q _).mono ?_
  rw [HQ.out]
  rintro e w' ⟨rfl, rfl⟩
  go_wp2_with fail
  refine (nat_Of (P : Int) _ (by omega) (by omega)).mono ?_
  rintro e w1 ⟨v1, rfl, h1, hb1⟩
  rw [Int.toNat_natCast] at h1
  have HX := Lib.hid h1.toIn
  have HB1 := Lib.hid hb1
  have HC1 := Lib.hid (HC.out.on hb1)
  have hz1 : w.heap.size + 1 ≤ w1.heap.size := by have := hb1.size; simp at this; exact this
  clear h1 hb1
  go_wp2_with fail
  refine (nat_Of (Q : Int) _ (by omega) (by omega)).mono ?_
  rintro e w2 ⟨v2, rfl, h2, hb2⟩
  rw [Int.toNat_natCast] at h2
  have HY := Lib.hid h2.toIn
  have HX2 := Lib.hid (HX.out.on hb2)
  have HB2 := Lib.hid hb2
  have HC2 := Lib.hid (HC1.out.on hb2)
  have hz2 : w.heap.size + 1 ≤ w2.heap.size := by have := hb2.size; omega
  clear h2 hb2
  go_wp2_with fail
  rw [← HN.out]
  refine (rat_reduced (mkNeg p q) P Q _ _ w2 HX2.out HY.out HPS.out HQS.out HQN.out).mono ?_
  rw [HPP.out, HQQ.out, show mkRat (sgI (mkNeg p q) p.natAbs) q.natAbs = mkV p q from rfl]
  rintro e w4 ⟨v4, rfl, h4, hb4⟩
  obtain ⟨vp4, vq4, rfl, h4p, h4q⟩ := h4
  obtain ⟨P4, x4, rfl, h4p'⟩ := in_open h4p
  obtain ⟨Q4, y4, rfl, h4q'⟩ := in_open h4q
  have HP4 := Lib.hid h4p'
  have HQ4 := Lib.hid h4q'
  have HB4 := Lib.hid hb4
  have HC4 := HC2.out.on hb4
  have HC4' := Lib.hid HC4
  have HRR := Lib.hid (HC4.put3 (.bool (negR (mkV p q))) (.slice P4 (topL (mkV p q)).length x4) (.slice Q4 (botL (mkV p q)).length y4))
  obtain ⟨⟨d0, d1, d2⟩, f0, f1, f2⟩ := HC4
  clear h4p h4q h4p' h4q' hb4
  go_wp2_with fail
  obtain ⟨⟨r0, r1, r2⟩, -⟩ := HRR.out
  refine bodyPost_ret (v := .tuple #[.agg #[.bool (negR (mkV p q)), .slice P4 (topL (mkV p q)).length x4, .slice Q4 (botL (mkV p q)).length y4], .int .i64 0]) (by simp only [put3] at r0 r1 r2; simp [results, Tryz.results35, go_sem, r0, r1, r2]) rfl ?_
  rw [mkE_4 HP.out HQ.out H0.out]
  exact ⟨_, rfl, OutR.ok ⟨_, _, rfl, HP4.out.put3 HC4'.out _ _ _, HQ4.out.put3 HC4'.out _ _ _⟩, below_put3 (bstep (bstep ((below_alloc _ _).trans (HB1.out.mono (by simp))) HB2.out) HB4.out) (Nat.le_refl _) _ _ _⟩

theorem rat_Make (p q : Int) (w : World) (h1 : -9223372036854775808 ≤ p) (h2 : p ≤ 9223372036854775807) (h3 : -9223372036854775808 ≤ q) (h4 : q ≤ 9223372036854775807) :
    Calls Tryz.prog 35 #[.int .i64 p, .int .i64 q] w (RRes w (mkE p q) (mkV p q)) := by
  rcases bcase (inRB p) with hp | hp
  · rcases bcase (inRB q) with hq | hq
    · by_cases h0 : q = 0
      · exact rat_Make_3 p q w hp h0
      · exact rat_Make_4 p q w hp hq h0
    · exact rat_Make_2 p q w hp hq
  · exact rat_Make_1 p q w hp

set_option maxHeartbeats 1600000 in
theorem rat_Of (p : Int) (w : World) (h1 : -9223372036854775808 ≤ p) (h2 : p ≤ 9223372036854775807) :
    Calls Tryz.prog 20 #[.int .i64 p] w (RRes w (mkE p 1) (mkV p 1)) := by
  have HM := Lib.hid (fun W => rat_Make p 1 W h1 h2 (by decide) (by decide))
  have HC := Lib.hid (Cel.new w (.bool false) (.slice none 0 0) (.slice none 0 0) 46)
  clear h1 h2
  go_enter Tryz.func20, Tryz.ntmps20
  go_wp2_with fail
  refine (HM.out _).mono ?_
  rintro e w3 h3
  obtain ⟨b3, A5, n5, d5, A6, n6, d6, rfl, ho3, hb3⟩ := h3.open_
  have HO3 := Lib.hid ho3
  have HB3 := Lib.hid hb3
  have HC3 := HC.out.on hb3
  have HC3' := Lib.hid HC3
  have HRR := Lib.hid (HC3.put3 (.bool b3) (.slice A5 n5 d5) (.slice A6 n6 d6))
  obtain ⟨⟨d0, d1, d2⟩, f0, f1, f2⟩ := HC3
  clear h3 ho3 hb3
  go_wp2_with fail
  obtain ⟨⟨r0, r1, r2⟩, -⟩ := HRR.out
  refine bodyPost_ret (v := .tuple #[.agg #[.bool b3, .slice A5 n5 d5, .slice A6 n6 d6], .int .i64 (mkE p 1)]) (by simp only [put3] at r0 r1 r2; simp [results, Tryz.results20, go_sem, r0, r1, r2]) rfl ?_
  exact ⟨_, rfl, HO3.out.put3 HC3'.out _ _ _, below_put3 ((below_alloc _ _).trans (HB3.out.mono (by simp))) (Nat.le_refl _) _ _ _⟩

end Go.Proofs.YtagjimdplmimoaaGreat
/- Contracts of slices.Clone at api.Nat; Neg of rat and of its reference. -/
namespace Go.Proofs.YtagjimdplmimoaaGreat
open Go.ChangeShapes Go.WideShapes Go.RowKit
set_option linter.unusedVariables false
set_option maxRecDepth 100000

theorem own_nothing (w : World) : (w.alloc (.cells #[] 3)).ownsRow w.heap.size 3 1 (.slice (some ⟨w.heap.size, 0, none⟩) 0 0) ([] : List Int).length (([] : List Int).map (Value.int .i64)) := own_empty w
set_option maxHeartbeats 800000 in
theorem nat_Clone (xs : List Int) (va : Value) (w : World) (ha : In w va xs) (hl : xs.length ≤ 1000) :
    Calls Tryz.prog 51 #[va] w fun e w' => ∃ v, e = .returned v ∧ In w' v xs ∧ Below w.heap.size w w' := by
  obtain ⟨A, c, rfl, hc, hm, hA⟩ := ha
  have HS := Lib.hid hA
  clear hA
  cases A with
  | none =>
    have hn : xs = [] := by
      cases xs with
      | nil => rfl
      | cons z zs => obtain ⟨b, off, h, _⟩ := HS.out 0 z rfl; cases h
    subst hn
    have heq : ∀ W : World, (binOp .eql 44 (.slice none 0 c) (.slice none 0 0)).run Tryz.prog W = .ok (.bool true) W := fun W => Lib.run_eql_slice_nil W _ 3 none 0 c 0 0 Tryz.underlying44
    go_enter Tryz.func51, Tryz.ntmps51
    go_wp2_with fail
    go_ret
    exact ⟨_, rfl, In.nil _, Below.refl _ _⟩
  | some ad =>
    have heq : ∀ W : World, (binOp .eql 44 (.slice (some ad) xs.length c) (.slice none 0 0)).run Tryz.prog W = .ok (.bool false) W := fun W => Lib.run_eql_slice_nil W _ 3 (some ad) xs.length c 0 0 Tryz.underlying44
    have HAL := Lib.hid (HS.out.below (below_alloc w (.cells #[] 3)) (Nat.le_refl _))
    have HOE := Lib.hid (own_nothing w)
    have HLEN := Lib.hid (show ([] : List Int).length + xs.length ≤ 1000000 by simp; omega)
    go_enter Tryz.func51, Tryz.ntmps51
    go_wp2_with (first
      | (at_builtin; refine append_holds rfl (.tmp 5) (.tmp 6) rfl w.heap.size _ [] rfl HOE.out 0 w.heap.size (some ad) c xs xs.length rfl rfl HAL.out HLEN.out (by simp) ?_; intro v' w5 hown hgrow; refine Hid.out ?_)
      | fail)
    refine Lib.hid ?_
    rw [List.nil_append] at hown
    have hb5 : Below w.heap.size w w5 := (below_alloc _ _).grown hgrow (by simp) (own_block_ge HOE.out)
    have HSL := Lib.hid (sl_of_owns hown)
    have HB5 := Lib.hid hb5
    clear hown hgrow hb5
    go_wp2_with fail
    go_ret
    exact ⟨v', rfl, HSL.out.toIn, HB5.out⟩

/-- A function of one number. -/
def opH (er : Rat → Int) (b : Bool) (xs ys : List Int) : Int := if valR b xs ys then er (ratV b xs ys) else 3
def opU (f : Rat → Rat) (b : Bool) (xs ys : List Int) : Rat := f (ratV b xs ys)
theorem opH_no {er : Rat → Int} {b : Bool} {xs ys : List Int} (h : valR b xs ys = false) : opH er b xs ys = 3 := by unfold opH; rw [h]; rfl
theorem opH_form {er : Rat → Int} {f : Rat → Rat} {r : Rat} (hr : fitR r = true) : opH er (negR r) (topL r) (botL r) = er r ∧ opU f (negR r) (topL r) (botL r) = f r := by
  unfold opH opU; rw [(form_val hr).1, (form_val hr).2]; exact ⟨rfl, rfl⟩
def noE (r : Rat) : Int := 0
def negOp (r : Rat) : Rat := -r

set_option maxHeartbeats 1600000 in
theorem rat_Neg_no (b : Bool) (xs ys : List Int) (v : Value) (w : World) (hv : InR w v b xs ys) (hn1 : valR b xs ys = false) :
    Calls Tryz.prog 33 #[v] w (RRes w (opH noE b xs ys) (opU negOp b xs ys)) := by
  have HN1 := Lib.hid hn1
  clear hn1
  obtain ⟨vp, vq, rfl, h1, h2⟩ := hv
  obtain ⟨A1, c1, rfl, h1'⟩ := in_open h1
  obtain ⟨A2, c2, rfl, h2'⟩ := in_open h2
  have H1 := Lib.hid h1'
  have H2 := Lib.hid h2'
  have HV := Lib.hid (show InR w (.agg #[.bool b, .slice A1 xs.length c1, .slice A2 ys.length c2]) b xs ys from ⟨_, _, rfl, h1', h2'⟩)
  have HC := Lib.hid (Cel.new (w.alloc (.cells #[.bool b, .slice A1 xs.length c1, .slice A2 ys.length c2] 46)) (.bool false) (.slice none 0 0) (.slice none 0 0) 46)
  have HCA := Lib.hid ((Cel.new w (.bool b) (.slice A1 xs.length c1) (.slice A2 ys.length c2) 46).alloc (.cells #[.bool false, .slice none 0 0, .slice none 0 0] 46))
  simp only [World.size_alloc] at HC
  have hb0 : ∀ o1 o2, Below w.heap.size w ((w.alloc o1).alloc o2) := fun _ _ => balloc (below_alloc _ _) _
  have hz0 : ∀ o1 o2, ((w.alloc o1).alloc o2).heap.size = w.heap.size + 2 := fun _ _ => by simp
  have HB0 := Lib.hid hb0
  have HZ0 := Lib.hid hz0
  clear h1 h2 h1' h2' hb0 hz0
  go_enter Tryz.func33, Tryz.ntmps33
  go_wp2_with fail
  refine (rat_Valid _ _ _ _ _ (HV.out.on (HB0.out _ _ ))).mono ?_
  rw [HN1.out]
  rintro e w1 ⟨rfl, hb⟩
  have HZ1 : w.heap.size + 2 ≤ w1.heap.size := by have := hb.size; rw [HZ0.out] at this; exact this
  have HB1 : Hid (Below w.heap.size w w1) := (HB0.out _ _ ).trans (hb.mono (by rw [HZ0.out]; omega))
  have HCA1 := Lib.hid (HCA.out.on hb)
  have HC1 := Lib.hid (HC.out.on hb)
  clear hb
  obtain ⟨⟨r0, r1, r2⟩, s0, s1, s2⟩ : Cel w1 (w.heap.size + 1) (.bool false) (.slice none 0 0) (.slice none 0 0) := HC1.out
  go_wp2_with fail
  obtain ⟨⟨z0, z1, z2⟩, -⟩ := HC1.out.put3 (.bool false) (.slice none 0 0) (.slice none 0 0)
  simp only [put3] at z0 z1 z2
  refine bodyPost_ret (v := .tuple #[.agg #[.bool false, .slice none 0 0, .slice none 0 0], .int .i64 3]) (by simp [results, Tryz.results33, go_sem, z0, z1, z2]) rfl ?_
  rw [opH_no HN1.out]
  exact ⟨_, rfl, OutR.no (by decide), below_put3 HB1.out (g := w.heap.size + 1) (by omega) _ _ _⟩

set_option maxHeartbeats 1600000 in
theorem rat_Neg_yes (r : Rat) (hr : fitR r = true) (v : Value) (w : World) (hv : IsR w v r) :
    Calls Tryz.prog 33 #[v] w (RRes w (opH noE (negR r) (topL r) (botL r)) (opU negOp (negR r) (topL r) (botL r))) := by
  have HF := Lib.hid (opH_form (er := noE) (f := negOp) hr)
  have HR := Lib.hid hr
  have HN1 := Lib.hid (form_val hr).1
  have BR := Lib.hid (fitR_iff.mp hr)
  clear hr
  obtain ⟨vp, vq, rfl, h1, h2⟩ := hv
  obtain ⟨A1, c1, rfl, h1'⟩ := in_open h1
  obtain ⟨A2, c2, rfl, h2'⟩ := in_open h2
  have H1 := Lib.hid h1'
  have H2 := Lib.hid h2'
  have HV := Lib.hid (show InR w (.agg #[.bool (negR r), .slice A1 (topL r).length c1, .slice A2 (botL r).length c2]) (negR r) (topL r) (botL r) from ⟨_, _, rfl, h1', h2'⟩)
  have HC := Lib.hid (Cel.new (w.alloc (.cells #[.bool (negR r), .slice A1 (topL r).length c1, .slice A2 (botL r).length c2] 46)) (.bool false) (.slice none 0 0) (.slice none 0 0) 46)
  have HCA := Lib.hid ((Cel.new w (.bool (negR r)) (.slice A1 (topL r).length c1) (.slice A2 (botL r).length c2) 46).alloc (.cells #[.bool false, .slice none 0 0, .slice none 0 0] 46))
  simp only [World.size_alloc] at HC
  have hb0 : ∀ o1 o2, Below w.heap.size w ((w.alloc o1).alloc o2) := fun _ _ => balloc (below_alloc _ _) _
  have hz0 : ∀ o1 o2, ((w.alloc o1).alloc o2).heap.size = w.heap.size + 2 := fun _ _ => by simp
  have HB0 := Lib.hid hb0
  have HZ0 := Lib.hid hz0
  clear h1 h2 h1' h2' hb0 hz0
  go_enter Tryz.func33, Tryz.ntmps33
  go_wp2_with fail
  refine (rat_Valid _ _ _ _ _ (HV.out.on (HB0.out _ _ ))).mono ?_
  rw [HN1.out]
  rintro e w1 ⟨rfl, hb⟩
  have HZ1 : w.heap.size + 2 ≤ w1.heap.size := by have := hb.size; rw [HZ0.out] at this; exact this
  have HB1 : Hid (Below w.heap.size w w1) := (HB0.out _ _ ).trans (hb.mono (by rw [HZ0.out]; omega))
  have HCA1 := Lib.hid (HCA.out.on hb)
  have HC1 := Lib.hid (HC.out.on hb)
  clear hb
  obtain ⟨⟨a0, a1, a2⟩, -⟩ : Cel w1 w.heap.size (.bool (negR r)) (.slice A1 (topL r).length c1) (.slice A2 (botL r).length c2) := HCA1.out
  have KA := Lib.hid HCA1.out.drew
  have KC := Lib.hid HC1.out.drew
  have HBD := Lib.hid HB1.out.drew
  have L1 : Hid ((topL r).length ≤ 1000) := by have := limbs_len_le.mpr (show r.num.natAbs < 1000000000 ^ 48 from BR.out.1); unfold Hid topL; omega
  have L2 : Hid ((botL r).length ≤ 1000) := by have := limbs_len_le.mpr (show r.den < 1000000000 ^ 48 from BR.out.2); unfold Hid botL; omega
  have HZD : w.heap.size + 2 ≤ w1.drew.heap.size := HZ1
  go_wp2_with fail
  go_region_held3 (fun W' => W'.cell? ⟨w.heap.size, 0, none⟩ = some (.bool (negR r)) ∧ W'.cell? ⟨w.heap.size, 1, none⟩ = some (.slice A1 (topL r).length c1) ∧ W'.cell? ⟨w.heap.size, 2, none⟩ = some (.slice A2 (botL r).length c2))
    (first | exact ⟨a0, a1, a2⟩ | exact (KA.out.on hb2).1 | exact ((KA.out.on hb2).on hb3).1 | exact (((KA.out.on hb2).on hb3).on hb4).1 | exact ((((KA.out.on hb2).on hb3).on hb4).put3o (g' := w.heap.size + 1) (by omega) _ _ _).1)
    (first | (go_at_call 51; (with_reducible refine (nat_Clone (topL r) (.slice A1 (topL r).length c1) _ (H1.out.on HBD.out) L1.out).mono ?_); rintro e w2 ⟨v2, rfl, h2, hb2⟩) | (go_at_call 51; (with_reducible refine (nat_Clone (botL r) (.slice A2 (botL r).length c2) _ ((H2.out.on HBD.out).on hb2) L2.out).mono ?_); rintro e w3 ⟨v3, rfl, h3, hb3⟩) | (go_at_call 50; (with_reducible refine (rat_signed (!negR r) (topL r) (botL r) _ _ _ (h2.on hb3) h3).mono ?_); rintro e w4 ⟨v4, rfl, h4, hb4⟩; obtain ⟨vp4, vq4, rfl, h4p, h4q⟩ := h4; obtain ⟨P4, x4, rfl, h4p'⟩ := in_open h4p; obtain ⟨Q4, y4, rfl, h4q'⟩ := in_open h4q; obtain ⟨⟨d0, d1, d2⟩, f0, f1, f2⟩ := ((KC.out.on hb2).on hb3).on hb4))
  all_goals go_wp2_with fail
  all_goals (obtain ⟨⟨z0, z1, z2⟩, -⟩ := (((KC.out.on hb2).on hb3).on hb4).put3 (.bool (!negR r && !(topL r).isEmpty)) (.slice P4 (topL r).length x4) (.slice Q4 (botL r).length y4))
  all_goals simp only [put3] at z0 z1 z2
  all_goals refine bodyPost_ret (v := .tuple #[.agg #[.bool (!negR r && !(topL r).isEmpty), .slice P4 (topL r).length x4, .slice Q4 (botL r).length y4], .int .i64 0]) (by simp [results, Tryz.results33, go_sem, z0, z1, z2]) rfl ?_
  all_goals rw [HF.out.1, HF.out.2]
  all_goals exact ⟨_, rfl, OutR.ok (signed_neg ⟨_, _, rfl, h4p'.put3 (((KC.out.on hb2).on hb3).on hb4) _ _ _, h4q'.put3 (((KC.out.on hb2).on hb3).on hb4) _ _ _⟩), below_put3 (((HBD.out.trans (hb2.mono (by omega))).trans (hb3.mono (by have := hb2.size; omega))).trans (hb4.mono (by have := hb2.size; have := hb3.size; omega))) (by omega) _ _ _⟩

theorem rat_Neg (b : Bool) (xs ys : List Int) (v : Value) (w : World) (hv : InR w v b xs ys) :
    Calls Tryz.prog 33 #[v] w (RRes w (opH noE b xs ys) (opU negOp b xs ys)) := by
  rcases bcase (valR b xs ys) with h | h
  · obtain ⟨r, hr, rfl, rfl, rfl⟩ := val_form h
    exact rat_Neg_yes r hr v w hv
  · exact rat_Neg_no b xs ys v w hv h

end Go.Proofs.YtagjimdplmimoaaGreat
/- Contracts of rounded, Floor, Ceil of rat; Floor, Ceil of the reference. -/
namespace Go.Proofs.YtagjimdplmimoaaGreat
open Go.ChangeShapes Go.WideShapes Go.RowKit
set_option linter.unusedVariables false
set_option maxRecDepth 100000

def rQ (r : Rat) : Nat := r.num.natAbs / r.den
def rM (r : Rat) : Nat := r.num.natAbs % r.den
def rmag (r : Rat) (away : Bool) : Nat := if away && decide (0 < rM r) then rQ r + 1 else rQ r
def rndV (r : Rat) (away : Bool) : Int := if rmag r away ≤ 1125899906842624 then sgI (negR r) (rmag r away) else 0
def rndE (r : Rat) (away : Bool) : Int := if rmag r away ≤ 1125899906842624 then 0 else 2
def rW (away : Bool) (b : Bool) (xs ys : List Int) : Int := if valR b xs ys then rndV (ratV b xs ys) away else 0
theorem rW_no {away b : Bool} {xs ys : List Int} (h : valR b xs ys = false) : rW away b xs ys = 0 := by unfold rW; rw [h]; rfl
theorem rW_form {away : Bool} {r : Rat} (hr : fitR r = true) : rW away (negR r) (topL r) (botL r) = rndV r away := by unfold rW; rw [(form_val hr).1, (form_val hr).2]; rfl
theorem rE_form {away : Bool} {r : Rat} (hr : fitR r = true) : opH (fun r => rndE r away) (negR r) (topL r) (botL r) = rndE r away := (opH_form (f := negOp) hr).1
theorem rnd_big {r : Rat} {away : Bool} (h : 1125899906842624 < rmag r away) : rndV r away = 0 ∧ rndE r away = 2 := ⟨if_neg (by omega), if_neg (by omega)⟩
theorem rnd_ok {r : Rat} {away : Bool} {n : Nat} (e : rmag r away = n) (h : n ≤ 1125899906842624) : rndV r away = sgI (negR r) n ∧ rndE r away = 0 := by
  subst e; exact ⟨if_pos h, if_pos h⟩
theorem rmag_away {r : Rat} (h : 0 < rM r) : rmag r true = rQ r + 1 := by unfold rmag; rw [decide_eq_true h]; rfl
theorem rmag_exact {r : Rat} {away : Bool} (h : rM r = 0) : rmag r away = rQ r := by unfold rmag; rw [h]; cases away <;> rfl
theorem rmag_down (r : Rat) : rmag r false = rQ r := rfl
theorem rmag_ge (r : Rat) (away : Bool) : rQ r ≤ rmag r away := by unfold rmag; split <;> omega
theorem intV_limbs {n : Nat} (h : n < big48) : intV (limbs n) = (if (n : Int) ≤ 1125899906842624 then (n : Int) else 0) ∧ intE (limbs n) = (if (n : Int) ≤ 1125899906842624 then 0 else 2) := by
  unfold intV intE; rw [valid48 h, if_pos rfl, if_pos rfl, nval_limbs]; exact ⟨rfl, rfl⟩
theorem rQ_lt {r : Rat} (hr : fitR r = true) : rQ r < big48 := Nat.lt_of_le_of_lt (Nat.div_le_self _ _) (fitR_iff.mp hr).1
theorem len_pos_dec (n : Nat) : decide (0 < (limbs n).length) = decide (0 < n) := by
  by_cases h : n = 0
  · subst h; rw [limbs_zero]; rfl
  · rw [decide_eq_true (limbs_len_pos.mpr h), decide_eq_true (Nat.pos_of_ne_zero h)]

set_option maxHeartbeats 1600000 in
theorem rat_rounded_no (b : Bool) (xs ys : List Int) (v : Value) (w : World) (hv : InR w v b xs ys) (away : Bool) (hn1 : valR b xs ys = false) :
    Calls Tryz.prog 45 #[v, .bool away] w (fun e w' => e = .returned (.tuple #[.int .i64 (rW away b xs ys), .int .i64 (opH (fun r => rndE r away) b xs ys)]) ∧ Below w.heap.size w w') := by
  have HN1 := Lib.hid hn1
  clear hn1
  obtain ⟨vp, vq, rfl, h1, h2⟩ := hv
  obtain ⟨A1, c1, rfl, h1'⟩ := in_open h1
  obtain ⟨A2, c2, rfl, h2'⟩ := in_open h2
  have H1 := Lib.hid h1'
  have H2 := Lib.hid h2'
  have HV := Lib.hid (show InR w (.agg #[.bool b, .slice A1 xs.length c1, .slice A2 ys.length c2]) b xs ys from ⟨_, _, rfl, h1', h2'⟩)
  have HCA := Lib.hid (Cel.new w (.bool b) (.slice A1 xs.length c1) (.slice A2 ys.length c2) 46)
  have hb0 : ∀ o1, Below w.heap.size w (w.alloc o1) := fun _ => below_alloc _ _
  have hz0 : ∀ o1, (w.alloc o1).heap.size = w.heap.size + 1 := fun _ => by simp
  have HB0 := Lib.hid hb0
  have HZ0 := Lib.hid hz0
  clear h1 h2 h1' h2' hb0 hz0
  go_enter Tryz.func45, Tryz.ntmps45
  go_wp2_with fail
  refine (rat_Valid _ _ _ _ _ (HV.out.on (HB0.out _ ))).mono ?_
  rw [HN1.out]
  rintro e w1 ⟨rfl, hb⟩
  have HZ1 : w.heap.size + 1 ≤ w1.heap.size := by have := hb.size; rw [HZ0.out] at this; exact this
  have HB1 : Hid (Below w.heap.size w w1) := (HB0.out _ ).trans (hb.mono (by rw [HZ0.out]; omega))
  have HCA1 := Lib.hid (HCA.out.on hb)
  clear hb
  go_wp2_with fail
  go_ret2
  rw [rW_no HN1.out, opH_no HN1.out]
  exact ⟨rfl, HB1.out⟩

set_option maxHeartbeats 1600000 in
theorem rat_rounded_big (away : Bool) (r : Rat) (hr : fitR r = true) (v : Value) (w : World) (hv : IsR w v r) (hq : 1125899906842624 < rQ r) :
    Calls Tryz.prog 45 #[v, .bool away] w (fun e w' => e = .returned (.tuple #[.int .i64 (rW away (negR r) (topL r) (botL r)), .int .i64 (opH (fun r => rndE r away) (negR r) (topL r) (botL r))]) ∧ Below w.heap.size w w') := by
  have hqlt := rQ_lt hr
  have HD1 : Hid (limbs (quoN (topL r) (botL r)) = limbs (rQ r)) := by unfold Hid topL botL; rw [quoN_limbs (fitR_iff.mp hr).1 (fitR_iff.mp hr).2 r.den_nz]; rfl
  have HD2 : Hid (limbs (remN (topL r) (botL r)) = limbs (rM r)) := by unfold Hid topL botL; rw [remN_limbs (fitR_iff.mp hr).1 (fitR_iff.mp hr).2 r.den_nz]; rfl
  have HD3 : Hid (divE (topL r) (botL r) = 0) := by unfold Hid topL botL; rw [divE_limbs (fitR_iff.mp hr).1 (fitR_iff.mp hr).2 r.den_nz]
  have HI : Hid (intV (limbs (rQ r)) = 0 ∧ intE (limbs (rQ r)) = 2) := by
    obtain ⟨e1, e2⟩ := intV_limbs hqlt
    exact ⟨by rw [e1]; exact if_neg (by omega), by rw [e2]; exact if_neg (by omega)⟩
  clear hqlt
  have HQB := Lib.hid hq
  have HF : Hid (rW away (negR r) (topL r) (botL r) = rndV r away ∧ opH (fun r => rndE r away) (negR r) (topL r) (botL r) = rndE r away) := ⟨rW_form hr, rE_form hr⟩
  have HR := Lib.hid hr
  have HN1 := Lib.hid (form_val hr).1
  have BR := Lib.hid (fitR_iff.mp hr)
  clear hr
  obtain ⟨vp, vq, rfl, h1, h2⟩ := hv
  obtain ⟨A1, c1, rfl, h1'⟩ := in_open h1
  obtain ⟨A2, c2, rfl, h2'⟩ := in_open h2
  have H1 := Lib.hid h1'
  have H2 := Lib.hid h2'
  have HV := Lib.hid (show InR w (.agg #[.bool (negR r), .slice A1 (topL r).length c1, .slice A2 (botL r).length c2]) (negR r) (topL r) (botL r) from ⟨_, _, rfl, h1', h2'⟩)
  have HCA := Lib.hid (Cel.new w (.bool (negR r)) (.slice A1 (topL r).length c1) (.slice A2 (botL r).length c2) 46)
  have hb0 : ∀ o1, Below w.heap.size w (w.alloc o1) := fun _ => below_alloc _ _
  have hz0 : ∀ o1, (w.alloc o1).heap.size = w.heap.size + 1 := fun _ => by simp
  have HB0 := Lib.hid hb0
  have HZ0 := Lib.hid hz0
  clear h1 h2 h1' h2' hb0 hz0
  go_enter Tryz.func45, Tryz.ntmps45
  go_wp2_with fail
  refine (rat_Valid _ _ _ _ _ (HV.out.on (HB0.out _ ))).mono ?_
  rw [HN1.out]
  rintro e w1 ⟨rfl, hb⟩
  have HZ1 : w.heap.size + 1 ≤ w1.heap.size := by have := hb.size; rw [HZ0.out] at this; exact this
  have HB1 : Hid (Below w.heap.size w w1) := (HB0.out _ ).trans (hb.mono (by rw [HZ0.out]; omega))
  have HCA1 := Lib.hid (HCA.out.on hb)
  clear hb
  obtain ⟨⟨a0, a1, a2⟩, -⟩ : Cel w1 w.heap.size (.bool (negR r)) (.slice A1 (topL r).length c1) (.slice A2 (botL r).length c2) := HCA1.out
  go_wp2_with fail
  refine (nat_DivMod_in _ _ _ _ w1 (H1.out.on HB1.out) (H2.out.on HB1.out)).mono ?_
  rintro e w2 ⟨vq, vr, rfl, hq, hrm, hb⟩
  rw [HD1.out] at hq
  rw [HD2.out] at hrm
  rw [HD3.out]
  have HQ := Lib.hid hq
  obtain ⟨X, x, rfl, hrm'⟩ := in_open hrm
  have HZ2 : w.heap.size + 1 ≤ w2.heap.size := by have := hb.size; omega
  have HB2 : Hid (Below w.heap.size w w2) := HB1.out.trans (hb.mono (by omega))
  have HCA2 := Lib.hid (HCA1.out.on hb)
  clear hb hq hrm hrm' a0 a1 a2
  go_wp2_with fail
  refine (nat_Int _ _ w2 HQ.out).mono ?_
  rw [HI.out.1, HI.out.2]
  rintro e w' ⟨rfl, rfl⟩
  go_wp2_with fail
  go_ret2
  rw [HF.out.1, HF.out.2, (rnd_big (Nat.lt_of_lt_of_le HQB.out (rmag_ge r away))).1, (rnd_big (Nat.lt_of_lt_of_le HQB.out (rmag_ge r away))).2]
  exact ⟨rfl, HB2.out⟩

set_option maxHeartbeats 1600000 in
theorem rat_rounded_down_true (r : Rat) (hr : fitR r = true) (v : Value) (w : World) (hv : IsR w v r) (hq : rQ r ≤ 1125899906842624) (hs : negR r = true) :
    Calls Tryz.prog 45 #[v, .bool false] w (fun e w' => e = .returned (.tuple #[.int .i64 (rW false (negR r) (topL r) (botL r)), .int .i64 (opH (fun r => rndE r false) (negR r) (topL r) (botL r))]) ∧ Below w.heap.size w w') := by
  have hqlt := rQ_lt hr
  have HD1 : Hid (limbs (quoN (topL r) (botL r)) = limbs (rQ r)) := by unfold Hid topL botL; rw [quoN_limbs (fitR_iff.mp hr).1 (fitR_iff.mp hr).2 r.den_nz]; rfl
  have HD2 : Hid (limbs (remN (topL r) (botL r)) = limbs (rM r)) := by unfold Hid topL botL; rw [remN_limbs (fitR_iff.mp hr).1 (fitR_iff.mp hr).2 r.den_nz]; rfl
  have HD3 : Hid (divE (topL r) (botL r) = 0) := by unfold Hid topL botL; rw [divE_limbs (fitR_iff.mp hr).1 (fitR_iff.mp hr).2 r.den_nz]
  have HI : Hid (intV (limbs (rQ r)) = (rQ r : Int) ∧ intE (limbs (rQ r)) = 0) := by
    obtain ⟨e1, e2⟩ := intV_limbs hqlt
    exact ⟨by rw [e1]; exact if_pos (by omega), by rw [e2]; exact if_pos (by omega)⟩
  clear hqlt
  have HQB := Lib.hid hq
  have HS := Lib.hid hs
  have HF : Hid (rW false (negR r) (topL r) (botL r) = rndV r false ∧ opH (fun r => rndE r false) (negR r) (topL r) (botL r) = rndE r false) := ⟨rW_form hr, rE_form hr⟩
  have HR := Lib.hid hr
  have HN1 := Lib.hid (form_val hr).1
  have BR := Lib.hid (fitR_iff.mp hr)
  clear hr
  clear hs
  obtain ⟨vp, vq, rfl, h1, h2⟩ := hv
  obtain ⟨A1, c1, rfl, h1'⟩ := in_open h1
  obtain ⟨A2, c2, rfl, h2'⟩ := in_open h2
  have H1 := Lib.hid h1'
  have H2 := Lib.hid h2'
  have HV := Lib.hid (show InR w (.agg #[.bool (negR r), .slice A1 (topL r).length c1, .slice A2 (botL r).length c2]) (negR r) (topL r) (botL r) from ⟨_, _, rfl, h1', h2'⟩)
  have HCA := Lib.hid (Cel.new w (.bool (negR r)) (.slice A1 (topL r).length c1) (.slice A2 (botL r).length c2) 46)
  have hb0 : ∀ o1, Below w.heap.size w (w.alloc o1) := fun _ => below_alloc _ _
  have hz0 : ∀ o1, (w.alloc o1).heap.size = w.heap.size + 1 := fun _ => by simp
  have HB0 := Lib.hid hb0
  have HZ0 := Lib.hid hz0
  clear h1 h2 h1' h2' hb0 hz0
  go_enter Tryz.func45, Tryz.ntmps45
  go_wp2_with fail
  refine (rat_Valid _ _ _ _ _ (HV.out.on (HB0.out _ ))).mono ?_
  rw [HN1.out]
  rintro e w1 ⟨rfl, hb⟩
  have HZ1 : w.heap.size + 1 ≤ w1.heap.size := by have := hb.size; rw [HZ0.out] at this; exact this
  have HB1 : Hid (Below w.heap.size w w1) := (HB0.out _ ).trans (hb.mono (by rw [HZ0.out]; omega))
  have HCA1 := Lib.hid (HCA.out.on hb)
  clear hb
  obtain ⟨⟨a0, a1, a2⟩, -⟩ : Cel w1 w.heap.size (.bool (negR r)) (.slice A1 (topL r).length c1) (.slice A2 (botL r).length c2) := HCA1.out
  go_wp2_with fail
  refine (nat_DivMod_in _ _ _ _ w1 (H1.out.on HB1.out) (H2.out.on HB1.out)).mono ?_
  rintro e w2 ⟨vq, vr, rfl, hq, hrm, hb⟩
  rw [HD1.out] at hq
  rw [HD2.out] at hrm
  rw [HD3.out]
  have HQ := Lib.hid hq
  obtain ⟨X, x, rfl, hrm'⟩ := in_open hrm
  have HZ2 : w.heap.size + 1 ≤ w2.heap.size := by have := hb.size; omega
  have HB2 : Hid (Below w.heap.size w w2) := HB1.out.trans (hb.mono (by omega))
  have HCA2 := Lib.hid (HCA1.out.on hb)
  clear hb hq hrm hrm' a0 a1 a2
  go_wp2_with fail
  refine (nat_Int _ _ w2 HQ.out).mono ?_
  rw [HI.out.1, HI.out.2]
  rintro e w' ⟨rfl, rfl⟩
  have HIN : Hid (inRB ((rQ r : Int)) = true) := inRB_iff.mpr ⟨by have := HQB.out; omega, by have := HQB.out; omega⟩
  have hqb : (rQ r : Int) ≤ 1125899906842624 := by have := HQB.out; omega
  have hq0 : (0 : Int) ≤ (rQ r : Int) := by omega
  go_wp2_with fail
  refine (rat_inRange _ _).mono ?_
  rw [HIN.out]
  rintro e w' ⟨rfl, rfl⟩
  obtain ⟨⟨a0, -⟩, -⟩ : Cel w2 w.heap.size (.bool (negR r)) (.slice A1 (topL r).length c1) (.slice A2 (botL r).length c2) := HCA2.out
  rw [HS.out] at a0
  go_wp2_with fail
  go_ret2
  rw [HF.out.1, HF.out.2, (rnd_ok (rmag_down r) HQB.out).1, (rnd_ok (rmag_down r) HQB.out).2, HS.out]
  exact ⟨rfl, HB2.out⟩

set_option maxHeartbeats 1600000 in
theorem rat_rounded_down_false (r : Rat) (hr : fitR r = true) (v : Value) (w : World) (hv : IsR w v r) (hq : rQ r ≤ 1125899906842624) (hs : negR r = false) :
    Calls Tryz.prog 45 #[v, .bool false] w (fun e w' => e = .returned (.tuple #[.int .i64 (rW false (negR r) (topL r) (botL r)), .int .i64 (opH (fun r => rndE r false) (negR r) (topL r) (botL r))]) ∧ Below w.heap.size w w') := by
  have hqlt := rQ_lt hr
  have HD1 : Hid (limbs (quoN (topL r) (botL r)) = limbs (rQ r)) := by unfold Hid topL botL; rw [quoN_limbs (fitR_iff.mp hr).1 (fitR_iff.mp hr).2 r.den_nz]; rfl
  have HD2 : Hid (limbs (remN (topL r) (botL r)) = limbs (rM r)) := by unfold Hid topL botL; rw [remN_limbs (fitR_iff.mp hr).1 (fitR_iff.mp hr).2 r.den_nz]; rfl
  have HD3 : Hid (divE (topL r) (botL r) = 0) := by unfold Hid topL botL; rw [divE_limbs (fitR_iff.mp hr).1 (fitR_iff.mp hr).2 r.den_nz]
  have HI : Hid (intV (limbs (rQ r)) = (rQ r : Int) ∧ intE (limbs (rQ r)) = 0) := by
    obtain ⟨e1, e2⟩ := intV_limbs hqlt
    exact ⟨by rw [e1]; exact if_pos (by omega), by rw [e2]; exact if_pos (by omega)⟩
  clear hqlt
  have HQB := Lib.hid hq
  have HS := Lib.hid hs
  have HF : Hid (rW false (negR r) (topL r) (botL r) = rndV r false ∧ opH (fun r => rndE r false) (negR r) (topL r) (botL r) = rndE r false) := ⟨rW_form hr, rE_form hr⟩
  have HR := Lib.hid hr
  have HN1 := Lib.hid (form_val hr).1
  have BR := Lib.hid (fitR_iff.mp hr)
  clear hr
  clear hs
  obtain ⟨vp, vq, rfl, h1, h2⟩ := hv
  obtain ⟨A1, c1, rfl, h1'⟩ := in_open h1
  obtain ⟨A2, c2, rfl, h2'⟩ := in_open h2
  have H1 := Lib.hid h1'
  have H2 := Lib.hid h2'
  have HV := Lib.hid (show InR w (.agg #[.bool (negR r), .slice A1 (topL r).length c1, .slice A2 (botL r).length c2]) (negR r) (topL r) (botL r) from ⟨_, _, rfl, h1', h2'⟩)
  have HCA := Lib.hid (Cel.new w (.bool (negR r)) (.slice A1 (topL r).length c1) (.slice A2 (botL r).length c2) 46)
  have hb0 : ∀ o1, Below w.heap.size w (w.alloc o1) := fun _ => below_alloc _ _
  have hz0 : ∀ o1, (w.alloc o1).heap.size = w.heap.size + 1 := fun _ => by simp
  have HB0 := Lib.hid hb0
  have HZ0 := Lib.hid hz0
  clear h1 h2 h1' h2' hb0 hz0
  go_enter Tryz.func45, Tryz.ntmps45
  go_wp2_with fail
  refine (rat_Valid _ _ _ _ _ (HV.out.on (HB0.out _ ))).mono ?_
  rw [HN1.out]
  rintro e w1 ⟨rfl, hb⟩
  have HZ1 : w.heap.size + 1 ≤ w1.heap.size := by have := hb.size; rw [HZ0.out] at this; exact this
  have HB1 : Hid (Below w.heap.size w w1) := (HB0.out _ ).trans (hb.mono (by rw [HZ0.out]; omega))
  have HCA1 := Lib.hid (HCA.out.on hb)
  clear hb
  obtain ⟨⟨a0, a1, a2⟩, -⟩ : Cel w1 w.heap.size (.bool (negR r)) (.slice A1 (topL r).length c1) (.slice A2 (botL r).length c2) := HCA1.out
  go_wp2_with fail
  refine (nat_DivMod_in _ _ _ _ w1 (H1.out.on HB1.out) (H2.out.on HB1.out)).mono ?_
  rintro e w2 ⟨vq, vr, rfl, hq, hrm, hb⟩
  rw [HD1.out] at hq
  rw [HD2.out] at hrm
  rw [HD3.out]
  have HQ := Lib.hid hq
  obtain ⟨X, x, rfl, hrm'⟩ := in_open hrm
  have HZ2 : w.heap.size + 1 ≤ w2.heap.size := by have := hb.size; omega
  have HB2 : Hid (Below w.heap.size w w2) := HB1.out.trans (hb.mono (by omega))
  have HCA2 := Lib.hid (HCA1.out.on hb)
  clear hb hq hrm hrm' a0 a1 a2
  go_wp2_with fail
  refine (nat_Int _ _ w2 HQ.out).mono ?_
  rw [HI.out.1, HI.out.2]
  rintro e w' ⟨rfl, rfl⟩
  have HIN : Hid (inRB ((rQ r : Int)) = true) := inRB_iff.mpr ⟨by have := HQB.out; omega, by have := HQB.out; omega⟩
  have hqb : (rQ r : Int) ≤ 1125899906842624 := by have := HQB.out; omega
  have hq0 : (0 : Int) ≤ (rQ r : Int) := by omega
  go_wp2_with fail
  refine (rat_inRange _ _).mono ?_
  rw [HIN.out]
  rintro e w' ⟨rfl, rfl⟩
  obtain ⟨⟨a0, -⟩, -⟩ : Cel w2 w.heap.size (.bool (negR r)) (.slice A1 (topL r).length c1) (.slice A2 (botL r).length c2) := HCA2.out
  rw [HS.out] at a0
  go_wp2_with fail
  go_ret2
  rw [HF.out.1, HF.out.2, (rnd_ok (rmag_down r) HQB.out).1, (rnd_ok (rmag_down r) HQB.out).2, HS.out]
  exact ⟨rfl, HB2.out⟩

set_option maxHeartbeats 1600000 in
theorem rat_rounded_exact_true (r : Rat) (hr : fitR r = true) (v : Value) (w : World) (hv : IsR w v r) (hq : rQ r ≤ 1125899906842624) (hrem : rM r = 0) (hs : negR r = true) :
    Calls Tryz.prog 45 #[v, .bool true] w (fun e w' => e = .returned (.tuple #[.int .i64 (rW true (negR r) (topL r) (botL r)), .int .i64 (opH (fun r => rndE r true) (negR r) (topL r) (botL r))]) ∧ Below w.heap.size w w') := by
  have hqlt := rQ_lt hr
  have HD1 : Hid (limbs (quoN (topL r) (botL r)) = limbs (rQ r)) := by unfold Hid topL botL; rw [quoN_limbs (fitR_iff.mp hr).1 (fitR_iff.mp hr).2 r.den_nz]; rfl
  have HD2 : Hid (limbs (remN (topL r) (botL r)) = limbs (rM r)) := by unfold Hid topL botL; rw [remN_limbs (fitR_iff.mp hr).1 (fitR_iff.mp hr).2 r.den_nz]; rfl
  have HD3 : Hid (divE (topL r) (botL r) = 0) := by unfold Hid topL botL; rw [divE_limbs (fitR_iff.mp hr).1 (fitR_iff.mp hr).2 r.den_nz]
  have HI : Hid (intV (limbs (rQ r)) = (rQ r : Int) ∧ intE (limbs (rQ r)) = 0) := by
    obtain ⟨e1, e2⟩ := intV_limbs hqlt
    exact ⟨by rw [e1]; exact if_pos (by omega), by rw [e2]; exact if_pos (by omega)⟩
  clear hqlt
  have HQB := Lib.hid hq
  have HREM := Lib.hid hrem
  have HS := Lib.hid hs
  have HF : Hid (rW true (negR r) (topL r) (botL r) = rndV r true ∧ opH (fun r => rndE r true) (negR r) (topL r) (botL r) = rndE r true) := ⟨rW_form hr, rE_form hr⟩
  have HR := Lib.hid hr
  have HN1 := Lib.hid (form_val hr).1
  have BR := Lib.hid (fitR_iff.mp hr)
  clear hr
  clear hrem hs
  obtain ⟨vp, vq, rfl, h1, h2⟩ := hv
  obtain ⟨A1, c1, rfl, h1'⟩ := in_open h1
  obtain ⟨A2, c2, rfl, h2'⟩ := in_open h2
  have H1 := Lib.hid h1'
  have H2 := Lib.hid h2'
  have HV := Lib.hid (show InR w (.agg #[.bool (negR r), .slice A1 (topL r).length c1, .slice A2 (botL r).length c2]) (negR r) (topL r) (botL r) from ⟨_, _, rfl, h1', h2'⟩)
  have HCA := Lib.hid (Cel.new w (.bool (negR r)) (.slice A1 (topL r).length c1) (.slice A2 (botL r).length c2) 46)
  have hb0 : ∀ o1, Below w.heap.size w (w.alloc o1) := fun _ => below_alloc _ _
  have hz0 : ∀ o1, (w.alloc o1).heap.size = w.heap.size + 1 := fun _ => by simp
  have HB0 := Lib.hid hb0
  have HZ0 := Lib.hid hz0
  clear h1 h2 h1' h2' hb0 hz0
  go_enter Tryz.func45, Tryz.ntmps45
  go_wp2_with fail
  refine (rat_Valid _ _ _ _ _ (HV.out.on (HB0.out _ ))).mono ?_
  rw [HN1.out]
  rintro e w1 ⟨rfl, hb⟩
  have HZ1 : w.heap.size + 1 ≤ w1.heap.size := by have := hb.size; rw [HZ0.out] at this; exact this
  have HB1 : Hid (Below w.heap.size w w1) := (HB0.out _ ).trans (hb.mono (by rw [HZ0.out]; omega))
  have HCA1 := Lib.hid (HCA.out.on hb)
  clear hb
  obtain ⟨⟨a0, a1, a2⟩, -⟩ : Cel w1 w.heap.size (.bool (negR r)) (.slice A1 (topL r).length c1) (.slice A2 (botL r).length c2) := HCA1.out
  go_wp2_with fail
  refine (nat_DivMod_in _ _ _ _ w1 (H1.out.on HB1.out) (H2.out.on HB1.out)).mono ?_
  rintro e w2 ⟨vq, vr, rfl, hq, hrm, hb⟩
  rw [HD1.out] at hq
  rw [HD2.out] at hrm
  rw [HD3.out]
  have HQ := Lib.hid hq
  obtain ⟨X, x, rfl, hrm'⟩ := in_open hrm
  have HZ2 : w.heap.size + 1 ≤ w2.heap.size := by have := hb.size; omega
  have HB2 : Hid (Below w.heap.size w w2) := HB1.out.trans (hb.mono (by omega))
  have HCA2 := Lib.hid (HCA1.out.on hb)
  clear hb hq hrm hrm' a0 a1 a2
  go_wp2_with fail
  refine (nat_Int _ _ w2 HQ.out).mono ?_
  rw [HI.out.1, HI.out.2]
  rintro e w' ⟨rfl, rfl⟩
  have hl : decide (0 < (limbs (rM r)).length) = false := by rw [HREM.out, limbs_zero]; rfl
  have HIN : Hid (inRB ((rQ r : Int)) = true) := inRB_iff.mpr ⟨by have := HQB.out; omega, by have := HQB.out; omega⟩
  have hqb : (rQ r : Int) ≤ 1125899906842624 := by have := HQB.out; omega
  have hq0 : (0 : Int) ≤ (rQ r : Int) := by omega
  go_wp2_with fail
  refine (rat_inRange _ _).mono ?_
  rw [HIN.out]
  rintro e w' ⟨rfl, rfl⟩
  obtain ⟨⟨a0, -⟩, -⟩ : Cel w2 w.heap.size (.bool (negR r)) (.slice A1 (topL r).length c1) (.slice A2 (botL r).length c2) := HCA2.out
  rw [HS.out] at a0
  go_wp2_with fail
  go_ret2
  rw [HF.out.1, HF.out.2, (rnd_ok (rmag_exact HREM.out) HQB.out).1, (rnd_ok (rmag_exact HREM.out) HQB.out).2, HS.out]
  exact ⟨rfl, HB2.out⟩

set_option maxHeartbeats 1600000 in
theorem rat_rounded_exact_false (r : Rat) (hr : fitR r = true) (v : Value) (w : World) (hv : IsR w v r) (hq : rQ r ≤ 1125899906842624) (hrem : rM r = 0) (hs : negR r = false) :
    Calls Tryz.prog 45 #[v, .bool true] w (fun e w' => e = .returned (.tuple #[.int .i64 (rW true (negR r) (topL r) (botL r)), .int .i64 (opH (fun r => rndE r true) (negR r) (topL r) (botL r))]) ∧ Below w.heap.size w w') := by
  have hqlt := rQ_lt hr
  have HD1 : Hid (limbs (quoN (topL r) (botL r)) = limbs (rQ r)) := by unfold Hid topL botL; rw [quoN_limbs (fitR_iff.mp hr).1 (fitR_iff.mp hr).2 r.den_nz]; rfl
  have HD2 : Hid (limbs (remN (topL r) (botL r)) = limbs (rM r)) := by unfold Hid topL botL; rw [remN_limbs (fitR_iff.mp hr).1 (fitR_iff.mp hr).2 r.den_nz]; rfl
  have HD3 : Hid (divE (topL r) (botL r) = 0) := by unfold Hid topL botL; rw [divE_limbs (fitR_iff.mp hr).1 (fitR_iff.mp hr).2 r.den_nz]
  have HI : Hid (intV (limbs (rQ r)) = (rQ r : Int) ∧ intE (limbs (rQ r)) = 0) := by
    obtain ⟨e1, e2⟩ := intV_limbs hqlt
    exact ⟨by rw [e1]; exact if_pos (by omega), by rw [e2]; exact if_pos (by omega)⟩
  clear hqlt
  have HQB := Lib.hid hq
  have HREM := Lib.hid hrem
  have HS := Lib.hid hs
  have HF : Hid (rW true (negR r) (topL r) (botL r) = rndV r true ∧ opH (fun r => rndE r true) (negR r) (topL r) (botL r) = rndE r true) := ⟨rW_form hr, rE_form hr⟩
  have HR := Lib.hid hr
  have HN1 := Lib.hid (form_val hr).1
  have BR := Lib.hid (fitR_iff.mp hr)
  clear hr
  clear hrem hs
  obtain ⟨vp, vq, rfl, h1, h2⟩ := hv
  obtain ⟨A1, c1, rfl, h1'⟩ := in_open h1
  obtain ⟨A2, c2, rfl, h2'⟩ := in_open h2
  have H1 := Lib.hid h1'
  have H2 := Lib.hid h2'
  have HV := Lib.hid (show InR w (.agg #[.bool (negR r), .slice A1 (topL r).length c1, .slice A2 (botL r).length c2]) (negR r) (topL r) (botL r) from ⟨_, _, rfl, h1', h2'⟩)
  have HCA := Lib.hid (Cel.new w (.bool (negR r)) (.slice A1 (topL r).length c1) (.slice A2 (botL r).length c2) 46)
  have hb0 : ∀ o1, Below w.heap.size w (w.alloc o1) := fun _ => below_alloc _ _
  have hz0 : ∀ o1, (w.alloc o1).heap.size = w.heap.size + 1 := fun _ => by simp
  have HB0 := Lib.hid hb0
  have HZ0 := Lib.hid hz0
  clear h1 h2 h1' h2' hb0 hz0
  go_enter Tryz.func45, Tryz.ntmps45
  go_wp2_with fail
  refine (rat_Valid _ _ _ _ _ (HV.out.on (HB0.out _ ))).mono ?_
  rw [HN1.out]
  rintro e w1 ⟨rfl, hb⟩
  have HZ1 : w.heap.size + 1 ≤ w1.heap.size := by have := hb.size; rw [HZ0.out] at this; exact this
  have HB1 : Hid (Below w.heap.size w w1) := (HB0.out _ ).trans (hb.mono (by rw [HZ0.out]; omega))
  have HCA1 := Lib.hid (HCA.out.on hb)
  clear hb
  obtain ⟨⟨a0, a1, a2⟩, -⟩ : Cel w1 w.heap.size (.bool (negR r)) (.slice A1 (topL r).length c1) (.slice A2 (botL r).length c2) := HCA1.out
  go_wp2_with fail
  refine (nat_DivMod_in _ _ _ _ w1 (H1.out.on HB1.out) (H2.out.on HB1.out)).mono ?_
  rintro e w2 ⟨vq, vr, rfl, hq, hrm, hb⟩
  rw [HD1.out] at hq
  rw [HD2.out] at hrm
  rw [HD3.out]
  have HQ := Lib.hid hq
  obtain ⟨X, x, rfl, hrm'⟩ := in_open hrm
  have HZ2 : w.heap.size + 1 ≤ w2.heap.size := by have := hb.size; omega
  have HB2 : Hid (Below w.heap.size w w2) := HB1.out.trans (hb.mono (by omega))
  have HCA2 := Lib.hid (HCA1.out.on hb)
  clear hb hq hrm hrm' a0 a1 a2
  go_wp2_with fail
  refine (nat_Int _ _ w2 HQ.out).mono ?_
  rw [HI.out.1, HI.out.2]
  rintro e w' ⟨rfl, rfl⟩
  have hl : decide (0 < (limbs (rM r)).length) = false := by rw [HREM.out, limbs_zero]; rfl
  have HIN : Hid (inRB ((rQ r : Int)) = true) := inRB_iff.mpr ⟨by have := HQB.out; omega, by have := HQB.out; omega⟩
  have hqb : (rQ r : Int) ≤ 1125899906842624 := by have := HQB.out; omega
  have hq0 : (0 : Int) ≤ (rQ r : Int) := by omega
  go_wp2_with fail
  refine (rat_inRange _ _).mono ?_
  rw [HIN.out]
  rintro e w' ⟨rfl, rfl⟩
  obtain ⟨⟨a0, -⟩, -⟩ : Cel w2 w.heap.size (.bool (negR r)) (.slice A1 (topL r).length c1) (.slice A2 (botL r).length c2) := HCA2.out
  rw [HS.out] at a0
  go_wp2_with fail
  go_ret2
  rw [HF.out.1, HF.out.2, (rnd_ok (rmag_exact HREM.out) HQB.out).1, (rnd_ok (rmag_exact HREM.out) HQB.out).2, HS.out]
  exact ⟨rfl, HB2.out⟩

set_option maxHeartbeats 1600000 in
theorem rat_rounded_up_true (r : Rat) (hr : fitR r = true) (v : Value) (w : World) (hv : IsR w v r) (hq : rQ r + 1 ≤ 1125899906842624) (hrem : 0 < rM r) (hs : negR r = true) :
    Calls Tryz.prog 45 #[v, .bool true] w (fun e w' => e = .returned (.tuple #[.int .i64 (rW true (negR r) (topL r) (botL r)), .int .i64 (opH (fun r => rndE r true) (negR r) (topL r) (botL r))]) ∧ Below w.heap.size w w') := by
  have hqlt := rQ_lt hr
  have HD1 : Hid (limbs (quoN (topL r) (botL r)) = limbs (rQ r)) := by unfold Hid topL botL; rw [quoN_limbs (fitR_iff.mp hr).1 (fitR_iff.mp hr).2 r.den_nz]; rfl
  have HD2 : Hid (limbs (remN (topL r) (botL r)) = limbs (rM r)) := by unfold Hid topL botL; rw [remN_limbs (fitR_iff.mp hr).1 (fitR_iff.mp hr).2 r.den_nz]; rfl
  have HD3 : Hid (divE (topL r) (botL r) = 0) := by unfold Hid topL botL; rw [divE_limbs (fitR_iff.mp hr).1 (fitR_iff.mp hr).2 r.den_nz]
  have HI : Hid (intV (limbs (rQ r)) = (rQ r : Int) ∧ intE (limbs (rQ r)) = 0) := by
    obtain ⟨e1, e2⟩ := intV_limbs hqlt
    exact ⟨by rw [e1]; exact if_pos (by omega), by rw [e2]; exact if_pos (by omega)⟩
  clear hqlt
  have HQB := Lib.hid hq
  have HREM := Lib.hid hrem
  have HS := Lib.hid hs
  have HF : Hid (rW true (negR r) (topL r) (botL r) = rndV r true ∧ opH (fun r => rndE r true) (negR r) (topL r) (botL r) = rndE r true) := ⟨rW_form hr, rE_form hr⟩
  have HR := Lib.hid hr
  have HN1 := Lib.hid (form_val hr).1
  have BR := Lib.hid (fitR_iff.mp hr)
  clear hr
  clear hrem hs
  obtain ⟨vp, vq, rfl, h1, h2⟩ := hv
  obtain ⟨A1, c1, rfl, h1'⟩ := in_open h1
  obtain ⟨A2, c2, rfl, h2'⟩ := in_open h2
  have H1 := Lib.hid h1'
  have H2 := Lib.hid h2'
  have HV := Lib.hid (show InR w (.agg #[.bool (negR r), .slice A1 (topL r).length c1, .slice A2 (botL r).length c2]) (negR r) (topL r) (botL r) from ⟨_, _, rfl, h1', h2'⟩)
  have HCA := Lib.hid (Cel.new w (.bool (negR r)) (.slice A1 (topL r).length c1) (.slice A2 (botL r).length c2) 46)
  have hb0 : ∀ o1, Below w.heap.size w (w.alloc o1) := fun _ => below_alloc _ _
  have hz0 : ∀ o1, (w.alloc o1).heap.size = w.heap.size + 1 := fun _ => by simp
  have HB0 := Lib.hid hb0
  have HZ0 := Lib.hid hz0
  clear h1 h2 h1' h2' hb0 hz0
  go_enter Tryz.func45, Tryz.ntmps45
  go_wp2_with fail
  refine (rat_Valid _ _ _ _ _ (HV.out.on (HB0.out _ ))).mono ?_
  rw [HN1.out]
  rintro e w1 ⟨rfl, hb⟩
  have HZ1 : w.heap.size + 1 ≤ w1.heap.size := by have := hb.size; rw [HZ0.out] at this; exact this
  have HB1 : Hid (Below w.heap.size w w1) := (HB0.out _ ).trans (hb.mono (by rw [HZ0.out]; omega))
  have HCA1 := Lib.hid (HCA.out.on hb)
  clear hb
  obtain ⟨⟨a0, a1, a2⟩, -⟩ : Cel w1 w.heap.size (.bool (negR r)) (.slice A1 (topL r).length c1) (.slice A2 (botL r).length c2) := HCA1.out
  go_wp2_with fail
  refine (nat_DivMod_in _ _ _ _ w1 (H1.out.on HB1.out) (H2.out.on HB1.out)).mono ?_
  rintro e w2 ⟨vq, vr, rfl, hq, hrm, hb⟩
  rw [HD1.out] at hq
  rw [HD2.out] at hrm
  rw [HD3.out]
  have HQ := Lib.hid hq
  obtain ⟨X, x, rfl, hrm'⟩ := in_open hrm
  have HZ2 : w.heap.size + 1 ≤ w2.heap.size := by have := hb.size; omega
  have HB2 : Hid (Below w.heap.size w w2) := HB1.out.trans (hb.mono (by omega))
  have HCA2 := Lib.hid (HCA1.out.on hb)
  clear hb hq hrm hrm' a0 a1 a2
  go_wp2_with fail
  refine (nat_Int _ _ w2 HQ.out).mono ?_
  rw [HI.out.1, HI.out.2]
  rintro e w' ⟨rfl, rfl⟩
  have hl : 0 < (limbs (rM r)).length := limbs_len_pos.mpr (Nat.ne_of_gt HREM.out)
  have HIN : Hid (inRB ((rQ r : Int) + 1) = true) := inRB_iff.mpr ⟨by have := HQB.out; omega, by have := HQB.out; omega⟩
  have hqb : (rQ r : Int) ≤ 1125899906842624 := by have := HQB.out; omega
  have hq0 : (0 : Int) ≤ (rQ r : Int) := by omega
  go_wp2_with fail
  refine (rat_inRange _ _).mono ?_
  rw [HIN.out]
  rintro e w' ⟨rfl, rfl⟩
  obtain ⟨⟨a0, -⟩, -⟩ : Cel w2 w.heap.size (.bool (negR r)) (.slice A1 (topL r).length c1) (.slice A2 (botL r).length c2) := HCA2.out
  rw [HS.out] at a0
  go_wp2_with fail
  go_ret2
  rw [HF.out.1, HF.out.2, (rnd_ok (rmag_away HREM.out) HQB.out).1, (rnd_ok (rmag_away HREM.out) HQB.out).2, HS.out]
  exact ⟨rfl, HB2.out⟩

set_option maxHeartbeats 1600000 in
theorem rat_rounded_up_false (r : Rat) (hr : fitR r = true) (v : Value) (w : World) (hv : IsR w v r) (hq : rQ r + 1 ≤ 1125899906842624) (hrem : 0 < rM r) (hs : negR r = false) :
    Calls Tryz.prog 45 #[v, .bool true] w (fun e w' => e = .returned (.tuple #[.int .i64 (rW true (negR r) (topL r) (botL r)), .int .i64 (opH (fun r => rndE r true) (negR r) (topL r) (botL r))]) ∧ Below w.heap.size w w') := by
  have hqlt := rQ_lt hr
  have HD1 : Hid (limbs (quoN (topL r) (botL r)) = limbs (rQ r)) := by unfold Hid topL botL; rw [quoN_limbs (fitR_iff.mp hr).1 (fitR_iff.mp hr).2 r.den_nz]; rfl
  have HD2 : Hid (limbs (remN (topL r) (botL r)) = limbs (rM r)) := by unfold Hid topL botL; rw [remN_limbs (fitR_iff.mp hr).1 (fitR_iff.mp hr).2 r.den_nz]; rfl
  have HD3 : Hid (divE (topL r) (botL r) = 0) := by unfold Hid topL botL; rw [divE_limbs (fitR_iff.mp hr).1 (fitR_iff.mp hr).2 r.den_nz]
  have HI : Hid (intV (limbs (rQ r)) = (rQ r : Int) ∧ intE (limbs (rQ r)) = 0) := by
    obtain ⟨e1, e2⟩ := intV_limbs hqlt
    exact ⟨by rw [e1]; exact if_pos (by omega), by rw [e2]; exact if_pos (by omega)⟩
  clear hqlt
  have HQB := Lib.hid hq
  have HREM := Lib.hid hrem
  have HS := Lib.hid hs
  have HF : Hid (rW true (negR r) (topL r) (botL r) = rndV r true ∧ opH (fun r => rndE r true) (negR r) (topL r) (botL r) = rndE r true) := ⟨rW_form hr, rE_form hr⟩
  have HR := Lib.hid hr
  have HN1 := Lib.hid (form_val hr).1
  have BR := Lib.hid (fitR_iff.mp hr)
  clear hr
  clear hrem hs
  obtain ⟨vp, vq, rfl, h1, h2⟩ := hv
  obtain ⟨A1, c1, rfl, h1'⟩ := in_open h1
  obtain ⟨A2, c2, rfl, h2'⟩ := in_open h2
  have H1 := Lib.hid h1'
  have H2 := Lib.hid h2'
  have HV := Lib.hid (show InR w (.agg #[.bool (negR r), .slice A1 (topL r).length c1, .slice A2 (botL r).length c2]) (negR r) (topL r) (botL r) from ⟨_, _, rfl, h1', h2'⟩)
  have HCA := Lib.hid (Cel.new w (.bool (negR r)) (.slice A1 (topL r).length c1) (.slice A2 (botL r).length c2) 46)
  have hb0 : ∀ o1, Below w.heap.size w (w.alloc o1) := fun _ => below_alloc _ _
  have hz0 : ∀ o1, (w.alloc o1).heap.size = w.heap.size + 1 := fun _ => by simp
  have HB0 := Lib.hid hb0
  have HZ0 := Lib.hid hz0
  clear h1 h2 h1' h2' hb0 hz0
  go_enter Tryz.func45, Tryz.ntmps45
  go_wp2_with fail
  refine (rat_Valid _ _ _ _ _ (HV.out.on (HB0.out _ ))).mono ?_
  rw [HN1.out]
  rintro e w1 ⟨rfl, hb⟩
  have HZ1 : w.heap.size + 1 ≤ w1.heap.size := by have := hb.size; rw [HZ0.out] at this; exact this
  have HB1 : Hid (Below w.heap.size w w1) := (HB0.out _ ).trans (hb.mono (by rw [HZ0.out]; omega))
  have HCA1 := Lib.hid (HCA.out.on hb)
  clear hb
  obtain ⟨⟨a0, a1, a2⟩, -⟩ : Cel w1 w.heap.size (.bool (negR r)) (.slice A1 (topL r).length c1) (.slice A2 (botL r).length c2) := HCA1.out
  go_wp2_with fail
  refine (nat_DivMod_in _ _ _ _ w1 (H1.out.on HB1.out) (H2.out.on HB1.out)).mono ?_
  rintro e w2 ⟨vq, vr, rfl, hq, hrm, hb⟩
  rw [HD1.out] at hq
  rw [HD2.out] at hrm
  rw [HD3.out]
  have HQ := Lib.hid hq
  obtain ⟨X, x, rfl, hrm'⟩ := in_open hrm
  have HZ2 : w.heap.size + 1 ≤ w2.heap.size := by have := hb.size; omega
  have HB2 : Hid (Below w.heap.size w w2) := HB1.out.trans (hb.mono (by omega))
  have HCA2 := Lib.hid (HCA1.out.on hb)
  clear hb hq hrm hrm' a0 a1 a2
  go_wp2_with fail
  refine (nat_Int _ _ w2 HQ.out).mono ?_
  rw [HI.out.1, HI.out.2]
  rintro e w' ⟨rfl, rfl⟩
  have hl : 0 < (limbs (rM r)).length := limbs_len_pos.mpr (Nat.ne_of_gt HREM.out)
  have HIN : Hid (inRB ((rQ r : Int) + 1) = true) := inRB_iff.mpr ⟨by have := HQB.out; omega, by have := HQB.out; omega⟩
  have hqb : (rQ r : Int) ≤ 1125899906842624 := by have := HQB.out; omega
  have hq0 : (0 : Int) ≤ (rQ r : Int) := by omega
  go_wp2_with fail
  refine (rat_inRange _ _).mono ?_
  rw [HIN.out]
  rintro e w' ⟨rfl, rfl⟩
  obtain ⟨⟨a0, -⟩, -⟩ : Cel w2 w.heap.size (.bool (negR r)) (.slice A1 (topL r).length c1) (.slice A2 (botL r).length c2) := HCA2.out
  rw [HS.out] at a0
  go_wp2_with fail
  go_ret2
  rw [HF.out.1, HF.out.2, (rnd_ok (rmag_away HREM.out) HQB.out).1, (rnd_ok (rmag_away HREM.out) HQB.out).2, HS.out]
  exact ⟨rfl, HB2.out⟩

set_option maxHeartbeats 1600000 in
theorem rat_rounded_over (r : Rat) (hr : fitR r = true) (v : Value) (w : World) (hv : IsR w v r) (hq : rQ r = 1125899906842624) (hrem : 0 < rM r) :
    Calls Tryz.prog 45 #[v, .bool true] w (fun e w' => e = .returned (.tuple #[.int .i64 (rW true (negR r) (topL r) (botL r)), .int .i64 (opH (fun r => rndE r true) (negR r) (topL r) (botL r))]) ∧ Below w.heap.size w w') := by
  have hqlt := rQ_lt hr
  have HD1 : Hid (limbs (quoN (topL r) (botL r)) = limbs (rQ r)) := by unfold Hid topL botL; rw [quoN_limbs (fitR_iff.mp hr).1 (fitR_iff.mp hr).2 r.den_nz]; rfl
  have HD2 : Hid (limbs (remN (topL r) (botL r)) = limbs (rM r)) := by unfold Hid topL botL; rw [remN_limbs (fitR_iff.mp hr).1 (fitR_iff.mp hr).2 r.den_nz]; rfl
  have HD3 : Hid (divE (topL r) (botL r) = 0) := by unfold Hid topL botL; rw [divE_limbs (fitR_iff.mp hr).1 (fitR_iff.mp hr).2 r.den_nz]
  have HI : Hid (intV (limbs (rQ r)) = (rQ r : Int) ∧ intE (limbs (rQ r)) = 0) := by
    obtain ⟨e1, e2⟩ := intV_limbs hqlt
    exact ⟨by rw [e1]; exact if_pos (by omega), by rw [e2]; exact if_pos (by omega)⟩
  clear hqlt
  have HQB := Lib.hid hq
  have HREM := Lib.hid hrem
  have HF : Hid (rW true (negR r) (topL r) (botL r) = rndV r true ∧ opH (fun r => rndE r true) (negR r) (topL r) (botL r) = rndE r true) := ⟨rW_form hr, rE_form hr⟩
  have HR := Lib.hid hr
  have HN1 := Lib.hid (form_val hr).1
  have BR := Lib.hid (fitR_iff.mp hr)
  clear hr
  clear hrem
  obtain ⟨vp, vq, rfl, h1, h2⟩ := hv
  obtain ⟨A1, c1, rfl, h1'⟩ := in_open h1
  obtain ⟨A2, c2, rfl, h2'⟩ := in_open h2
  have H1 := Lib.hid h1'
  have H2 := Lib.hid h2'
  have HV := Lib.hid (show InR w (.agg #[.bool (negR r), .slice A1 (topL r).length c1, .slice A2 (botL r).length c2]) (negR r) (topL r) (botL r) from ⟨_, _, rfl, h1', h2'⟩)
  have HCA := Lib.hid (Cel.new w (.bool (negR r)) (.slice A1 (topL r).length c1) (.slice A2 (botL r).length c2) 46)
  have hb0 : ∀ o1, Below w.heap.size w (w.alloc o1) := fun _ => below_alloc _ _
  have hz0 : ∀ o1, (w.alloc o1).heap.size = w.heap.size + 1 := fun _ => by simp
  have HB0 := Lib.hid hb0
  have HZ0 := Lib.hid hz0
  clear h1 h2 h1' h2' hb0 hz0
  go_enter Tryz.func45, Tryz.ntmps45
  go_wp2_with fail
  refine (rat_Valid _ _ _ _ _ (HV.out.on (HB0.out _ ))).mono ?_
  rw [HN1.out]
  rintro e w1 ⟨rfl, hb⟩
  have HZ1 : w.heap.size + 1 ≤ w1.heap.size := by have := hb.size; rw [HZ0.out] at this; exact this
  have HB1 : Hid (Below w.heap.size w w1) := (HB0.out _ ).trans (hb.mono (by rw [HZ0.out]; omega))
  have HCA1 := Lib.hid (HCA.out.on hb)
  clear hb
  obtain ⟨⟨a0, a1, a2⟩, -⟩ : Cel w1 w.heap.size (.bool (negR r)) (.slice A1 (topL r).length c1) (.slice A2 (botL r).length c2) := HCA1.out
  go_wp2_with fail
  refine (nat_DivMod_in _ _ _ _ w1 (H1.out.on HB1.out) (H2.out.on HB1.out)).mono ?_
  rintro e w2 ⟨vq, vr, rfl, hq, hrm, hb⟩
  rw [HD1.out] at hq
  rw [HD2.out] at hrm
  rw [HD3.out]
  have HQ := Lib.hid hq
  obtain ⟨X, x, rfl, hrm'⟩ := in_open hrm
  have HZ2 : w.heap.size + 1 ≤ w2.heap.size := by have := hb.size; omega
  have HB2 : Hid (Below w.heap.size w w2) := HB1.out.trans (hb.mono (by omega))
  have HCA2 := Lib.hid (HCA1.out.on hb)
  clear hb hq hrm hrm' a0 a1 a2
  go_wp2_with fail
  refine (nat_Int _ _ w2 HQ.out).mono ?_
  rw [HI.out.1, HI.out.2]
  rintro e w' ⟨rfl, rfl⟩
  have hl : 0 < (limbs (rM r)).length := limbs_len_pos.mpr (Nat.ne_of_gt HREM.out)
  have hqe : (rQ r : Int) = 1125899906842624 := by have := HQB.out; omega
  have HIN : Hid (inRB 1125899906842625 = false) := rfl
  rw [hqe]
  clear hqe
  go_wp2_with fail
  refine (rat_inRange _ _).mono ?_
  rw [HIN.out]
  rintro e w' ⟨rfl, rfl⟩
  go_wp2_with fail
  go_ret2
  rw [HF.out.1, HF.out.2, (rnd_big (by rw [rmag_away HREM.out, HQB.out]; decide)).1, (rnd_big (by rw [rmag_away HREM.out, HQB.out]; decide)).2]
  exact ⟨rfl, HB2.out⟩

theorem rat_rounded (b : Bool) (xs ys : List Int) (v : Value) (w : World) (hv : InR w v b xs ys) (away : Bool) :
    Calls Tryz.prog 45 #[v, .bool away] w (fun e w' => e = .returned (.tuple #[.int .i64 (rW away b xs ys), .int .i64 (opH (fun r => rndE r away) b xs ys)]) ∧ Below w.heap.size w w') := by
  rcases bcase (valR b xs ys) with h | h
  · obtain ⟨r, hr, rfl, rfl, rfl⟩ := val_form h
    rcases Nat.lt_or_ge 1125899906842624 (rQ r) with hq | hq
    · exact rat_rounded_big away r hr v w hv hq
    · rcases bcase away with ha | ha
      · subst ha
        rcases Nat.eq_zero_or_pos (rM r) with hm | hm
        · rcases bcase (negR r) with hs | hs
          · exact rat_rounded_exact_true r hr v w hv hq hm hs
          · exact rat_rounded_exact_false r hr v w hv hq hm hs
        · rcases Nat.eq_or_lt_of_le hq with he | hl
          · exact rat_rounded_over r hr v w hv he hm
          · rcases bcase (negR r) with hs | hs
            · exact rat_rounded_up_true r hr v w hv hl hm hs
            · exact rat_rounded_up_false r hr v w hv hl hm hs
      · subst ha
        rcases bcase (negR r) with hs | hs
        · exact rat_rounded_down_true r hr v w hv hq hs
        · exact rat_rounded_down_false r hr v w hv hq hs
  · exact rat_rounded_no b xs ys v w hv away h

end Go.Proofs.YtagjimdplmimoaaGreat
