/- Several texts in one: RatV, RatW, RatX, RatY, RatZ. -/
import Derived.Test.YtagjimdplmimoaaPk15
import Derived.Test.YtagjimdplmimoaaPk11
/- Contracts of rounded, Floor, Ceil of rat; Floor, Ceil of the reference. -/
namespace Go.Proofs.Ytagjimdplmimoaa
open Go.ChangeShapes Go.WideShapes Go.RowKit
set_option linter.unusedVariables false
set_option maxRecDepth 100000

def rQ (r : Rat) : Nat := r.num.natAbs / r.den
def rM (r : Rat) : Nat := r.num.natAbs % r.den
def rmag (r : Rat) (away : Bool) : Nat := if away && decide (0 < rM r) then rQ r + 1 else rQ r
def rndV (r : Rat) (away : Bool) : Int := if rmag r away ≤ 1125899906842624 then sgI (negR r) (rmag r away) else 0
def rndE (r : Rat) (away : Bool) : Int := if rmag r away ≤ 1125899906842624 then 0 else 2
def rW (away : Bool) (b : Bool) (xs ys : List Int) : Int := if valR b xs ys then rndV (ratV b xs ys) away else 0
theorem rW_no {away b : Bool} {xs ys : List Int} (h : valR b xs ys = false) : rW away b xs ys = 0 := by unfold rW; rw [h]; rfl
theorem rW_form {away : Bool} {r : Rat} (hr : fitR r = true) : rW away (negR r) (topL r) (botL r) = rndV r away := by unfold rW; rw [(form_val hr).1, (form_val hr).2]; rfl
theorem rE_form {away : Bool} {r : Rat} (hr : fitR r = true) : opH (fun r => rndE r away) (negR r) (topL r) (botL r) = rndE r away := (opH_form (f := negOp) hr).1
theorem rnd_big {r : Rat} {away : Bool} (h : 1125899906842624 < rmag r away) : rndV r away = 0 ∧ rndE r away = 2 := ⟨if_neg (by omega), if_neg (by omega)⟩
theorem rnd_ok {r : Rat} {away : Bool} {n : Nat} (e : rmag r away = n) (h : n ≤ 1125899906842624) : rndV r away = sgI (negR r) n ∧ rndE r away = 0 := by
  subst e; exact ⟨if_pos h, if_pos h⟩
theorem rmag_away {r : Rat} (h : 0 < rM r) : rmag r true = rQ r + 1 := by unfold rmag; rw [decide_eq_true h]; rfl
theorem rmag_exact {r : Rat} {away : Bool} (h : rM r = 0) : rmag r away = rQ r := by unfold rmag; rw [h]; cases away <;> rfl
theorem rmag_down (r : Rat) : rmag r false = rQ r := rfl
theorem rmag_ge (r : Rat) (away : Bool) : rQ r ≤ rmag r away := by unfold rmag; split <;> omega
theorem intV_limbs {n : Nat} (h : n < big48) : intV (limbs n) = (if (n : Int) ≤ 1125899906842624 then (n : Int) else 0) ∧ intE (limbs n) = (if (n : Int) ≤ 1125899906842624 then 0 else 2) := by
  unfold intV intE; rw [valid48 h, if_pos rfl, if_pos rfl, nval_limbs]; exact ⟨rfl, rfl⟩
theorem rQ_lt {r : Rat} (hr : fitR r = true) : rQ r < big48 := Nat.lt_of_le_of_lt (Nat.div_le_self _ _) (fitR_iff.mp hr).1
theorem len_pos_dec (n : Nat) : decide (0 < (limbs n).length) = decide (0 < n) := by
  by_cases h : n = 0
  · subst h; rw [limbs_zero]; rfl
  · rw [decide_eq_true (limbs_len_pos.mpr h), decide_eq_true (Nat.pos_of_ne_zero h)]

set_option maxHeartbeats 1600000 in
theorem rat_rounded_no (b : Bool) (xs ys : List Int) (v : Value) (w : World) (hv : InR w v b xs ys) (away : Bool) (hn1 : valR b xs ys = false) :
    Calls Try.prog 44 #[v, .bool away] w (fun e w' => e = .returned (.tuple #[.int .i64 (rW away b xs ys), .int .i64 (opH (fun r => rndE r away) b xs ys)]) ∧ Below w.heap.size w w') := by
  have HN1 := Lib.hid hn1
  clear hn1
  obtain ⟨vp, vq, rfl, h1, h2⟩ := hv
  obtain ⟨A1, c1, rfl, h1'⟩ := in_open h1
  obtain ⟨A2, c2, rfl, h2'⟩ := in_open h2
  have H1 := Lib.hid h1'
  have H2 := Lib.hid h2'
  have HV := Lib.hid (show InR w (.agg #[.bool b, .slice A1 xs.length c1, .slice A2 ys.length c2]) b xs ys from ⟨_, _, rfl, h1', h2'⟩)
  have HCA := Lib.hid (Cel.new w (.bool b) (.slice A1 xs.length c1) (.slice A2 ys.length c2) 46)
  have hb0 : ∀ o1, Below w.heap.size w (w.alloc o1) := fun _ => below_alloc _ _
  have hz0 : ∀ o1, (w.alloc o1).heap.size = w.heap.size + 1 := fun _ => by simp
  have HB0 := Lib.hid hb0
  have HZ0 := Lib.hid hz0
  clear h1 h2 h1' h2' hb0 hz0
  go_enter Try.func44, Try.ntmps44
  go_wp2_with fail
  refine (rat_Valid _ _ _ _ _ (HV.out.on (HB0.out _ ))).mono ?_
  rw [HN1.out]
  rintro e w1 ⟨rfl, hb⟩
  have HZ1 : w.heap.size + 1 ≤ w1.heap.size := by have := hb.size; rw [HZ0.out] at this; exact this
  have HB1 : Hid (Below w.heap.size w w1) := (HB0.out _ ).trans (hb.mono (by rw [HZ0.out]; omega))
  have HCA1 := Lib.hid (HCA.out.on hb)
  clear hb
  go_wp2_with fail
  go_ret2
  rw [rW_no HN1.out, opH_no HN1.out]
  exact ⟨rfl, HB1.out⟩

set_option maxHeartbeats 1600000 in
theorem rat_rounded_big (away : Bool) (r : Rat) (hr : fitR r = true) (v : Value) (w : World) (hv : IsR w v r) (hq : 1125899906842624 < rQ r) :
    Calls Try.prog 44 #[v, .bool away] w (fun e w' => e = .returned (.tuple #[.int .i64 (rW away (negR r) (topL r) (botL r)), .int .i64 (opH (fun r => rndE r away) (negR r) (topL r) (botL r))]) ∧ Below w.heap.size w w') := by
  have hqlt := rQ_lt hr
  have HD1 : Hid (limbs (quoN (topL r) (botL r)) = limbs (rQ r)) := by unfold Hid topL botL; rw [quoN_limbs (fitR_iff.mp hr).1 (fitR_iff.mp hr).2 r.den_nz]; rfl
  have HD2 : Hid (limbs (remN (topL r) (botL r)) = limbs (rM r)) := by unfold Hid topL botL; rw [remN_limbs (fitR_iff.mp hr).1 (fitR_iff.mp hr).2 r.den_nz]; rfl
  have HD3 : Hid (divE (topL r) (botL r) = 0) := by unfold Hid topL botL; rw [divE_limbs (fitR_iff.mp hr).1 (fitR_iff.mp hr).2 r.den_nz]
  have HI : Hid (intV (limbs (rQ r)) = 0 ∧ intE (limbs (rQ r)) = 2) := by
    obtain ⟨e1, e2⟩ := intV_limbs hqlt
    exact ⟨by rw [e1]; exact if_neg (by omega), by rw [e2]; exact if_neg (by omega)⟩
  clear hqlt
  have HQB := Lib.hid hq
  have HF : Hid (rW away (negR r) (topL r) (botL r) = rndV r away ∧ opH (fun r => rndE r away) (negR r) (topL r) (botL r) = rndE r away) := ⟨rW_form hr, rE_form hr⟩
  have HR := Lib.hid hr
  have HN1 := Lib.hid (form_val hr).1
  have BR := Lib.hid (fitR_iff.mp hr)
  clear hr
  obtain ⟨vp, vq, rfl, h1, h2⟩ := hv
  obtain ⟨A1, c1, rfl, h1'⟩ := in_open h1
  obtain ⟨A2, c2, rfl, h2'⟩ := in_open h2
  have H1 := Lib.hid h1'
  have H2 := Lib.hid h2'
  have HV := Lib.hid (show InR w (.agg #[.bool (negR r), .slice A1 (topL r).length c1, .slice A2 (botL r).length c2]) (negR r) (topL r) (botL r) from ⟨_, _, rfl, h1', h2'⟩)
  have HCA := Lib.hid (Cel.new w (.bool (negR r)) (.slice A1 (topL r).length c1) (.slice A2 (botL r).length c2) 46)
  have hb0 : ∀ o1, Below w.heap.size w (w.alloc o1) := fun _ => below_alloc _ _
  have hz0 : ∀ o1, (w.alloc o1).heap.size = w.heap.size + 1 := fun _ => by simp
  have HB0 := Lib.hid hb0
  have HZ0 := Lib.hid hz0
  clear h1 h2 h1' h2' hb0 hz0
  go_enter Try.func44, Try.ntmps44
  go_wp2_with fail
  refine (rat_Valid _ _ _ _ _ (HV.out.on (HB0.out _ ))).mono ?_
  rw [HN1.out]
  rintro e w1 ⟨rfl, hb⟩
  have HZ1 : w.heap.size + 1 ≤ w1.heap.size := by have := hb.size; rw [HZ0.out] at this; exact this
  have HB1 : Hid (Below w.heap.size w w1) := (HB0.out _ ).trans (hb.mono (by rw [HZ0.out]; omega))
  have HCA1 := Lib.hid (HCA.out.on hb)
  clear hb
  obtain ⟨⟨a0, a1, a2⟩, -⟩ : Cel w1 w.heap.size (.bool (negR r)) (.slice A1 (topL r).length c1) (.slice A2 (botL r).length c2) := HCA1.out
  go_wp2_with fail
  refine (nat_DivMod_in _ _ _ _ w1 (H1.out.on HB1.out) (H2.out.on HB1.out)).mono ?_
  rintro e w2 ⟨vq, vr, rfl, hq, hrm, hb⟩
  rw [HD1.out] at hq
  rw [HD2.out] at hrm
  rw [HD3.out]
  have HQ := Lib.hid hq
  obtain ⟨X, x, rfl, hrm'⟩ := in_open hrm
  have HZ2 : w.heap.size + 1 ≤ w2.heap.size := by have := hb.size; omega
  have HB2 : Hid (Below w.heap.size w w2) := HB1.out.trans (hb.mono (by omega))
  have HCA2 := Lib.hid (HCA1.out.on hb)
  clear hb hq hrm hrm' a0 a1 a2
  go_wp2_with fail
  refine (nat_Int _ _ w2 HQ.out).mono ?_
  rw [HI.out.1, HI.out.2]
  rintro e w' ⟨rfl, rfl⟩
  go_wp2_with fail
  go_ret2
  rw [HF.out.1, HF.out.2, (rnd_big (Nat.lt_of_lt_of_le HQB.out (rmag_ge r away))).1, (rnd_big (Nat.lt_of_lt_of_le HQB.out (rmag_ge r away))).2]
  exact ⟨rfl, HB2.out⟩

set_option maxHeartbeats 1600000 in
theorem rat_rounded_down_true (r : Rat) (hr : fitR r = true) (v : Value) (w : World) (hv : IsR w v r) (hq : rQ r ≤ 1125899906842624) (hs : negR r = true) :
    Calls Try.prog 44 #[v, .bool false] w (fun e w' => e = .returned (.tuple #[.int .i64 (rW false (negR r) (topL r) (botL r)), .int .i64 (opH (fun r => rndE r false) (negR r) (topL r) (botL r))]) ∧ Below w.heap.size w w') := by
  have hqlt := rQ_lt hr
  have HD1 : Hid (limbs (quoN (topL r) (botL r)) = limbs (rQ r)) := by unfold Hid topL botL; rw [quoN_limbs (fitR_iff.mp hr).1 (fitR_iff.mp hr).2 r.den_nz]; rfl
  have HD2 : Hid (limbs (remN (topL r) (botL r)) = limbs (rM r)) := by unfold Hid topL botL; rw [remN_limbs (fitR_iff.mp hr).1 (fitR_iff.mp hr).2 r.den_nz]; rfl
  have HD3 : Hid (divE (topL r) (botL r) = 0) := by unfold Hid topL botL; rw [divE_limbs (fitR_iff.mp hr).1 (fitR_iff.mp hr).2 r.den_nz]
  have HI : Hid (intV (limbs (rQ r)) = (rQ r : Int) ∧ intE (limbs (rQ r)) = 0) := by
    obtain ⟨e1, e2⟩ := intV_limbs hqlt
    exact ⟨by rw [e1]; exact if_pos (by omega), by rw [e2]; exact if_pos (by omega)⟩
  clear hqlt
  have HQB := Lib.hid hq
  have HS := Lib.hid hs
  have HF : Hid (rW false (negR r) (topL r) (botL r) = rndV r false ∧ opH (fun r => rndE r false) (negR r) (topL r) (botL r) = rndE r false) := ⟨rW_form hr, rE_form hr⟩
  have HR := Lib.hid hr
  have HN1 := Lib.hid (form_val hr).1
  have BR := Lib.hid (fitR_iff.mp hr)
  clear hr
  clear hs
  obtain ⟨vp, vq, rfl, h1, h2⟩ := hv
  obtain ⟨A1, c1, rfl, h1'⟩ := in_open h1
  obtain ⟨A2, c2, rfl, h2'⟩ := in_open h2
  have H1 := Lib.hid h1'
  have H2 := Lib.hid h2'
  have HV := Lib.hid (show InR w (.agg #[.bool (negR r), .slice A1 (topL r).length c1, .slice A2 (botL r).length c2]) (negR r) (topL r) (botL r) from ⟨_, _, rfl, h1', h2'⟩)
  have HCA := Lib.hid (Cel.new w (.bool (negR r)) (.slice A1 (topL r).length c1) (.slice A2 (botL r).length c2) 46)
  have hb0 : ∀ o1, Below w.heap.size w (w.alloc o1) := fun _ => below_alloc _ _
  have hz0 : ∀ o1, (w.alloc o1).heap.size = w.heap.size + 1 := fun _ => by simp
  have HB0 := Lib.hid hb0
  have HZ0 := Lib.hid hz0
  clear h1 h2 h1' h2' hb0 hz0
  go_enter Try.func44, Try.ntmps44
  go_wp2_with fail
  refine (rat_Valid _ _ _ _ _ (HV.out.on (HB0.out _ ))).mono ?_
  rw [HN1.out]
  rintro e w1 ⟨rfl, hb⟩
  have HZ1 : w.heap.size + 1 ≤ w1.heap.size := by have := hb.size; rw [HZ0.out] at this; exact this
  have HB1 : Hid (Below w.heap.size w w1) := (HB0.out _ ).trans (hb.mono (by rw [HZ0.out]; omega))
  have HCA1 := Lib.hid (HCA.out.on hb)
  clear hb
  obtain ⟨⟨a0, a1, a2⟩, -⟩ : Cel w1 w.heap.size (.bool (negR r)) (.slice A1 (topL r).length c1) (.slice A2 (botL r).length c2) := HCA1.out
  go_wp2_with fail
  refine (nat_DivMod_in _ _ _ _ w1 (H1.out.on HB1.out) (H2.out.on HB1.out)).mono ?_
  rintro e w2 ⟨vq, vr, rfl, hq, hrm, hb⟩
  rw [HD1.out] at hq
  rw [HD2.out] at hrm
  rw [HD3.out]
  have HQ := Lib.hid hq
  obtain ⟨X, x, rfl, hrm'⟩ := in_open hrm
  have HZ2 : w.heap.size + 1 ≤ w2.heap.size := by have := hb.size; omega
  have HB2 : Hid (Below w.heap.size w w2) := HB1.out.trans (hb.mono (by omega))
  have HCA2 := Lib.hid (HCA1.out.on hb)
  clear hb hq hrm hrm' a0 a1 a2
  go_wp2_with fail
  refine (nat_Int _ _ w2 HQ.out).mono ?_
  rw [HI.out.1, HI.out.2]
  rintro e w' ⟨rfl, rfl⟩
  have HIN : Hid (inRB ((rQ r : Int)) = true) := inRB_iff.mpr ⟨by have := HQB.out; omega, by have := HQB.out; omega⟩
  have hqb : (rQ r : Int) ≤ 1125899906842624 := by have := HQB.out; omega
  have hq0 : (0 : Int) ≤ (rQ r : Int) := by omega
  go_wp2_with fail
  refine (rat_inRange _ _).mono ?_
  rw [HIN.out]
  rintro e w' ⟨rfl, rfl⟩
  obtain ⟨⟨a0, -⟩, -⟩ : Cel w2 w.heap.size (.bool (negR r)) (.slice A1 (topL r).length c1) (.slice A2 (botL r).length c2) := HCA2.out
  rw [HS.out] at a0
  go_wp2_with fail
  go_ret2
  rw [HF.out.1, HF.out.2, (rnd_ok (rmag_down r) HQB.out).1, (rnd_ok (rmag_down r) HQB.out).2, HS.out]
  exact ⟨rfl, HB2.out⟩

set_option maxHeartbeats 1600000 in
theorem rat_rounded_down_false (r : Rat) (hr : fitR r = true) (v : Value) (w : World) (hv : IsR w v r) (hq : rQ r ≤ 1125899906842624) (hs : negR r = false) :
    Calls Try.prog 44 #[v, .bool false] w (fun e w' => e = .returned (.tuple #[.int .i64 (rW false (negR r) (topL r) (botL r)), .int .i64 (opH (fun r => rndE r false) (negR r) (topL r) (botL r))]) ∧ Below w.heap.size w w') := by
  have hqlt := rQ_lt hr
  have HD1 : Hid (limbs (quoN (topL r) (botL r)) = limbs (rQ r)) := by unfold Hid topL botL; rw [quoN_limbs (fitR_iff.mp hr).1 (fitR_iff.mp hr).2 r.den_nz]; rfl
  have HD2 : Hid (limbs (remN (topL r) (botL r)) = limbs (rM r)) := by unfold Hid topL botL; rw [remN_limbs (fitR_iff.mp hr).1 (fitR_iff.mp hr).2 r.den_nz]; rfl
  have HD3 : Hid (divE (topL r) (botL r) = 0) := by unfold Hid topL botL; rw [divE_limbs (fitR_iff.mp hr).1 (fitR_iff.mp hr).2 r.den_nz]
  have HI : Hid (intV (limbs (rQ r)) = (rQ r : Int) ∧ intE (limbs (rQ r)) = 0) := by
    obtain ⟨e1, e2⟩ := intV_limbs hqlt
    exact ⟨by rw [e1]; exact if_pos (by omega), by rw [e2]; exact if_pos (by omega)⟩
  clear hqlt
  have HQB := Lib.hid hq
  have HS := Lib.hid hs
  have HF : Hid (rW false (negR r) (topL r) (botL r) = rndV r false ∧ opH (fun r => rndE r false) (negR r) (topL r) (botL r) = rndE r false) := ⟨rW_form hr, rE_form hr⟩
  have HR := Lib.hid hr
  have HN1 := Lib.hid (form_val hr).1
  have BR := Lib.hid (fitR_iff.mp hr)
  clear hr
  clear hs
  obtain ⟨vp, vq, rfl, h1, h2⟩ := hv
  obtain ⟨A1, c1, rfl, h1'⟩ := in_open h1
  obtain ⟨A2, c2, rfl, h2'⟩ := in_open h2
  have H1 := Lib.hid h1'
  have H2 := Lib.hid h2'
  have HV := Lib.hid (show InR w (.agg #[.bool (negR r), .slice A1 (topL r).length c1, .slice A2 (botL r).length c2]) (negR r) (topL r) (botL r) from ⟨_, _, rfl, h1', h2'⟩)
  have HCA := Lib.hid (Cel.new w (.bool (negR r)) (.slice A1 (topL r).length c1) (.slice A2 (botL r).length c2) 46)
  have hb0 : ∀ o1, Below w.heap.size w (w.alloc o1) := fun _ => below_alloc _ _
  have hz0 : ∀ o1, (w.alloc o1).heap.size = w.heap.size + 1 := fun _ => by simp
  have HB0 := Lib.hid hb0
  have HZ0 := Lib.hid hz0
  clear h1 h2 h1' h2' hb0 hz0
  go_enter Try.func44, Try.ntmps44
  go_wp2_with fail
  refine (rat_Valid _ _ _ _ _ (HV.out.on (HB0.out _ ))).mono ?_
  rw [HN1.out]
  rintro e w1 ⟨rfl, hb⟩
  have HZ1 : w.heap.size + 1 ≤ w1.heap.size := by have := hb.size; rw [HZ0.out] at this; exact this
  have HB1 : Hid (Below w.heap.size w w1) := (HB0.out _ ).trans (hb.mono (by rw [HZ0.out]; omega))
  have HCA1 := Lib.hid (HCA.out.on hb)
  clear hb
  obtain ⟨⟨a0, a1, a2⟩, -⟩ : Cel w1 w.heap.size (.bool (negR r)) (.slice A1 (topL r).length c1) (.slice A2 (botL r).length c2) := HCA1.out
  go_wp2_with fail
  refine (nat_DivMod_in _ _ _ _ w1 (H1.out.on HB1.out) (H2.out.on HB1.out)).mono ?_
  rintro e w2 ⟨vq, vr, rfl, hq, hrm, hb⟩
  rw [HD1.out] at hq
  rw [HD2.out] at hrm
  rw [HD3.out]
  have HQ := Lib.hid hq
  obtain ⟨X, x, rfl, hrm'⟩ := in_open hrm
  have HZ2 : w.heap.size + 1 ≤ w2.heap.size := by have := hb.size; omega
  have HB2 : Hid (Below w.heap.size w w2) := HB1.out.trans (hb.mono (by omega))
  have HCA2 := Lib.hid (HCA1.out.on hb)
  clear hb hq hrm hrm' a0 a1 a2
  go_wp2_with fail
  refine (nat_Int _ _ w2 HQ.out).mono ?_
  rw [HI.out.1, HI.out.2]
  rintro e w' ⟨rfl, rfl⟩
  have HIN : Hid (inRB ((rQ r : Int)) = true) := inRB_iff.mpr ⟨by have := HQB.out; omega, by have := HQB.out; omega⟩
  have hqb : (rQ r : Int) ≤ 1125899906842624 := by have := HQB.out; omega
  have hq0 : (0 : Int) ≤ (rQ r : Int) := by omega
  go_wp2_with fail
  refine (rat_inRange _ _).mono ?_
  rw [HIN.out]
  rintro e w' ⟨rfl, rfl⟩
  obtain ⟨⟨a0, -⟩, -⟩ : Cel w2 w.heap.size (.bool (negR r)) (.slice A1 (topL r).length c1) (.slice A2 (botL r).length c2) := HCA2.out
  rw [HS.out] at a0
  go_wp2_with fail
  go_ret2
  rw [HF.out.1, HF.out.2, (rnd_ok (rmag_down r) HQB.out).1, (rnd_ok (rmag_down r) HQB.out).2, HS.out]
  exact ⟨rfl, HB2.out⟩

set_option maxHeartbeats 1600000 in
theorem rat_rounded_exact_true (r : Rat) (hr : fitR r = true) (v : Value) (w : World) (hv : IsR w v r) (hq : rQ r ≤ 1125899906842624) (hrem : rM r = 0) (hs : negR r = true) :
    Calls Try.prog 44 #[v, .bool true] w (fun e w' => e = .returned (.tuple #[.int .i64 (rW true (negR r) (topL r) (botL r)), .int .i64 (opH (fun r => rndE r true) (negR r) (topL r) (botL r))]) ∧ Below w.heap.size w w') := by
  have hqlt := rQ_lt hr
  have HD1 : Hid (limbs (quoN (topL r) (botL r)) = limbs (rQ r)) := by unfold Hid topL botL; rw [quoN_limbs (fitR_iff.mp hr).1 (fitR_iff.mp hr).2 r.den_nz]; rfl
  have HD2 : Hid (limbs (remN (topL r) (botL r)) = limbs (rM r)) := by unfold Hid topL botL; rw [remN_limbs (fitR_iff.mp hr).1 (fitR_iff.mp hr).2 r.den_nz]; rfl
  have HD3 : Hid (divE (topL r) (botL r) = 0) := by unfold Hid topL botL; rw [divE_limbs (fitR_iff.mp hr).1 (fitR_iff.mp hr).2 r.den_nz]
  have HI : Hid (intV (limbs (rQ r)) = (rQ r : Int) ∧ intE (limbs (rQ r)) = 0) := by
    obtain ⟨e1, e2⟩ := intV_limbs hqlt
    exact ⟨by rw [e1]; exact if_pos (by omega), by rw [e2]; exact if_pos (by omega)⟩
  clear hqlt
  have HQB := Lib.hid hq
  have HREM := Lib.hid hrem
  have HS := Lib.hid hs
  have HF : Hid (rW true (negR r) (topL r) (botL r) = rndV r true ∧ opH (fun r => rndE r true) (negR r) (topL r) (botL r) = rndE r true) := ⟨rW_form hr, rE_form hr⟩
  have HR := Lib.hid hr
  have HN1 := Lib.hid (form_val hr).1
  have BR := Lib.hid (fitR_iff.mp hr)
  clear hr
  clear hrem hs
  obtain ⟨vp, vq, rfl, h1, h2⟩ := hv
  obtain ⟨A1, c1, rfl, h1'⟩ := in_open h1
  obtain ⟨A2, c2, rfl, h2'⟩ := in_open h2
  have H1 := Lib.hid h1'
  have H2 := Lib.hid h2'
  have HV := Lib.hid (show InR w (.agg #[.bool (negR r), .slice A1 (topL r).length c1, .slice A2 (botL r).length c2]) (negR r) (topL r) (botL r) from ⟨_, _, rfl, h1', h2'⟩)
  have HCA := Lib.hid (Cel.new w (.bool (negR r)) (.slice A1 (topL r).length c1) (.slice A2 (botL r).length c2) 46)
  have hb0 : ∀ o1, Below w.heap.size w (w.alloc o1) := fun _ => below_alloc _ _
  have hz0 : ∀ o1, (w.alloc o1).heap.size = w.heap.size + 1 := fun _ => by simp
  have HB0 := Lib.hid hb0
  have HZ0 := Lib.hid hz0
  clear h1 h2 h1' h2' hb0 hz0
  go_enter Try.func44, Try.ntmps44
  go_wp2_with fail
  refine (rat_Valid _ _ _ _ _ (HV.out.on (HB0.out _ ))).mono ?_
  rw [HN1.out]
  rintro e w1 ⟨rfl, hb⟩
  have HZ1 : w.heap.size + 1 ≤ w1.heap.size := by have := hb.size; rw [HZ0.out] at this; exact this
  have HB1 : Hid (Below w.heap.size w w1) := (HB0.out _ ).trans (hb.mono (by rw [HZ0.out]; omega))
  have HCA1 := Lib.hid (HCA.out.on hb)
  clear hb
  obtain ⟨⟨a0, a1, a2⟩, -⟩ : Cel w1 w.heap.size (.bool (negR r)) (.slice A1 (topL r).length c1) (.slice A2 (botL r).length c2) := HCA1.out
  go_wp2_with fail
  refine (nat_DivMod_in _ _ _ _ w1 (H1.out.on HB1.out) (H2.out.on HB1.out)).mono ?_
  rintro e w2 ⟨vq, vr, rfl, hq, hrm, hb⟩
  rw [HD1.out] at hq
  rw [HD2.out] at hrm
  rw [HD3.out]
  have HQ := Lib.hid hq
  obtain ⟨X, x, rfl, hrm'⟩ := in_open hrm
  have HZ2 : w.heap.size + 1 ≤ w2.heap.size := by have := hb.size; omega
  have HB2 : Hid (Below w.heap.size w w2) := HB1.out.trans (hb.mono (by omega))
  have HCA2 := Lib.hid (HCA1.out.on hb)
  clear hb hq hrm hrm' a0 a1 a2
  go_wp2_with fail
  refine (nat_Int _ _ w2 HQ.out).mono ?_
  rw [HI.out.1, HI.out.2]
  rintro e w' ⟨rfl, rfl⟩
  have hl : decide (0 < (limbs (rM r)).length) = false := by rw [HREM.out, limbs_zero]; rfl
  have HIN : Hid (inRB ((rQ r : Int)) = true) := inRB_iff.mpr ⟨by have := HQB.out; omega, by have := HQB.out; omega⟩
  have hqb : (rQ r : Int) ≤ 1125899906842624 := by have := HQB.out; omega
  have hq0 : (0 : Int) ≤ (rQ r : Int) := by omega
  go_wp2_with fail
  refine (rat_inRange _ _).mono ?_
  rw [HIN.out]
  rintro e w' ⟨rfl, rfl⟩
  obtain ⟨⟨a0, -⟩, -⟩ : Cel w2 w.heap.size (.bool (negR r)) (.slice A1 (topL r).length c1) (.slice A2 (botL r).length c2) := HCA2.out
  rw [HS.out] at a0
  go_wp2_with fail
  go_ret2
  rw [HF.out.1, HF.out.2, (rnd_ok (rmag_exact HREM.out) HQB.out).1, (rnd_ok (rmag_exact HREM.out) HQB.out).2, HS.out]
  exact ⟨rfl, HB2.out⟩

set_option maxHeartbeats 1600000 in
theorem rat_rounded_exact_false (r : Rat) (hr : fitR r = true) (v : Value) (w : World) (hv : IsR w v r) (hq : rQ r ≤ 1125899906842624) (hrem : rM r = 0) (hs : negR r = false) :
    Calls Try.prog 44 #[v, .bool true] w (fun e w' => e = .returned (.tuple #[.int .i64 (rW true (negR r) (topL r) (botL r)), .int .i64 (opH (fun r => rndE r true) (negR r) (topL r) (botL r))]) ∧ Below w.heap.size w w') := by
  have hqlt := rQ_lt hr
  have HD1 : Hid (limbs (quoN (topL r) (botL r)) = limbs (rQ r)) := by unfold Hid topL botL; rw [quoN_limbs (fitR_iff.mp hr).1 (fitR_iff.mp hr).2 r.den_nz]; rfl
  have HD2 : Hid (limbs (remN (topL r) (botL r)) = limbs (rM r)) := by unfold Hid topL botL; rw [remN_limbs (fitR_iff.mp hr).1 (fitR_iff.mp hr).2 r.den_nz]; rfl
  have HD3 : Hid (divE (topL r) (botL r) = 0) := by unfold Hid topL botL; rw [divE_limbs (fitR_iff.mp hr).1 (fitR_iff.mp hr).2 r.den_nz]
  have HI : Hid (intV (limbs (rQ r)) = (rQ r : Int) ∧ intE (limbs (rQ r)) = 0) := by
    obtain ⟨e1, e2⟩ := intV_limbs hqlt
    exact ⟨by rw [e1]; exact if_pos (by omega), by rw [e2]; exact if_pos (by omega)⟩
  clear hqlt
  have HQB := Lib.hid hq
  have HREM := Lib.hid hrem
  have HS := Lib.hid hs
  have HF : Hid (rW true (negR r) (topL r) (botL r) = rndV r true ∧ opH (fun r => rndE r true) (negR r) (topL r) (botL r) = rndE r true) := ⟨rW_form hr, rE_form hr⟩
  have HR := Lib.hid hr
  have HN1 := Lib.hid (form_val hr).1
  have BR := Lib.hid (fitR_iff.mp hr)
  clear hr
  clear hrem hs
  obtain ⟨vp, vq, rfl, h1, h2⟩ := hv
  obtain ⟨A1, c1, rfl, h1'⟩ := in_open h1
  obtain ⟨A2, c2, rfl, h2'⟩ := in_open h2
  have H1 := Lib.hid h1'
  have H2 := Lib.hid h2'
  have HV := Lib.hid (show InR w (.agg #[.bool (negR r), .slice A1 (topL r).length c1, .slice A2 (botL r).length c2]) (negR r) (topL r) (botL r) from ⟨_, _, rfl, h1', h2'⟩)
  have HCA := Lib.hid (Cel.new w (.bool (negR r)) (.slice A1 (topL r).length c1) (.slice A2 (botL r).length c2) 46)
  have hb0 : ∀ o1, Below w.heap.size w (w.alloc o1) := fun _ => below_alloc _ _
  have hz0 : ∀ o1, (w.alloc o1).heap.size = w.heap.size + 1 := fun _ => by simp
  have HB0 := Lib.hid hb0
  have HZ0 := Lib.hid hz0
  clear h1 h2 h1' h2' hb0 hz0
  go_enter Try.func44, Try.ntmps44
  go_wp2_with fail
  refine (rat_Valid _ _ _ _ _ (HV.out.on (HB0.out _ ))).mono ?_
  rw [HN1.out]
  rintro e w1 ⟨rfl, hb⟩
  have HZ1 : w.heap.size + 1 ≤ w1.heap.size := by have := hb.size; rw [HZ0.out] at this; exact this
  have HB1 : Hid (Below w.heap.size w w1) := (HB0.out _ ).trans (hb.mono (by rw [HZ0.out]; omega))
  have HCA1 := Lib.hid (HCA.out.on hb)
  clear hb
  obtain ⟨⟨a0, a1, a2⟩, -⟩ : Cel w1 w.heap.size (.bool (negR r)) (.slice A1 (topL r).length c1) (.slice A2 (botL r).length c2) := HCA1.out
  go_wp2_with fail
  refine (nat_DivMod_in _ _ _ _ w1 (H1.out.on HB1.out) (H2.out.on HB1.out)).mono ?_
  rintro e w2 ⟨vq, vr, rfl, hq, hrm, hb⟩
  rw [HD1.out] at hq
  rw [HD2.out] at hrm
  rw [HD3.out]
  have HQ := Lib.hid hq
  obtain ⟨X, x, rfl, hrm'⟩ := in_open hrm
  have HZ2 : w.heap.size + 1 ≤ w2.heap.size := by have := hb.size; omega
  have HB2 : Hid (Below w.heap.size w w2) := HB1.out.trans (hb.mono (by omega))
  have HCA2 := Lib.hid (HCA1.out.on hb)
  clear hb hq hrm hrm' a0 a1 a2
  go_wp2_with fail
  refine (nat_Int _ _ w2 HQ.out).mono ?_
  rw [HI.out.1, HI.out.2]
  rintro e w' ⟨rfl, rfl⟩
  have hl : decide (0 < (limbs (rM r)).length) = false := by rw [HREM.out, limbs_zero]; rfl
  have HIN : Hid (inRB ((rQ r : Int)) = true) := inRB_iff.mpr ⟨by have := HQB.out; omega, by have := HQB.out; omega⟩
  have hqb : (rQ r : Int) ≤ 1125899906842624 := by have := HQB.out; omega
  have hq0 : (0 : Int) ≤ (rQ r : Int) := by omega
  go_wp2_with fail
  refine (rat_inRange _ _).mono ?_
  rw [HIN.out]
  rintro e w' ⟨rfl, rfl⟩
  obtain ⟨⟨a0, -⟩, -⟩ : Cel w2 w.heap.size (.bool (negR r)) (.slice A1 (topL r).length c1) (.slice A2 (botL r).length c2) := HCA2.out
  rw [HS.out] at a0
  go_wp2_with fail
  go_ret2
  rw [HF.out.1, HF.out.2, (rnd_ok (rmag_exact HREM.out) HQB.out).1, (rnd_ok (rmag_exact HREM.out) HQB.out).2, HS.out]
  exact ⟨rfl, HB2.out⟩

set_option maxHeartbeats 1600000 in
theorem rat_rounded_up_true (r : Rat) (hr : fitR r = true) (v : Value) (w : World) (hv : IsR w v r) (hq : rQ r + 1 ≤ 1125899906842624) (hrem : 0 < rM r) (hs : negR r = true) :
    Calls Try.prog 44 #[v, .bool true] w (fun e w' => e = .returned (.tuple #[.int .i64 (rW true (negR r) (topL r) (botL r)), .int .i64 (opH (fun r => rndE r true) (negR r) (topL r) (botL r))]) ∧ Below w.heap.size w w') := by
  have hqlt := rQ_lt hr
  have HD1 : Hid (limbs (quoN (topL r) (botL r)) = limbs (rQ r)) := by unfold Hid topL botL; rw [quoN_limbs (fitR_iff.mp hr).1 (fitR_iff.mp hr).2 r.den_nz]; rfl
  have HD2 : Hid (limbs (remN (topL r) (botL r)) = limbs (rM r)) := by unfold Hid topL botL; rw [remN_limbs (fitR_iff.mp hr).1 (fitR_iff.mp hr).2 r.den_nz]; rfl
  have HD3 : Hid (divE (topL r) (botL r) = 0) := by unfold Hid topL botL; rw [divE_limbs (fitR_iff.mp hr).1 (fitR_iff.mp hr).2 r.den_nz]
  have HI : Hid (intV (limbs (rQ r)) = (rQ r : Int) ∧ intE (limbs (rQ r)) = 0) := by
    obtain ⟨e1, e2⟩ := intV_limbs hqlt
    exact ⟨by rw [e1]; exact if_pos (by omega), by rw [e2]; exact if_pos (by omega)⟩
  clear hqlt
  have HQB := Lib.hid hq
  have HREM := Lib.hid hrem
  have HS := Lib.hid hs
  have HF : Hid (rW true (negR r) (topL r) (botL r) = rndV r true ∧ opH (fun r => rndE r true) (negR r) (topL r) (botL r) = rndE r true) := ⟨rW_form hr, rE_form hr⟩
  have HR := Lib.hid hr
  have HN1 := Lib.hid (form_val hr).1
  have BR := Lib.hid (fitR_iff.mp hr)
  clear hr
  clear hrem hs
  obtain ⟨vp, vq, rfl, h1, h2⟩ := hv
  obtain ⟨A1, c1, rfl, h1'⟩ := in_open h1
  obtain ⟨A2, c2, rfl, h2'⟩ := in_open h2
  have H1 := Lib.hid h1'
  have H2 := Lib.hid h2'
  have HV := Lib.hid (show InR w (.agg #[.bool (negR r), .slice A1 (topL r).length c1, .slice A2 (botL r).length c2]) (negR r) (topL r) (botL r) from ⟨_, _, rfl, h1', h2'⟩)
  have HCA := Lib.hid (Cel.new w (.bool (negR r)) (.slice A1 (topL r).length c1) (.slice A2 (botL r).length c2) 46)
  have hb0 : ∀ o1, Below w.heap.size w (w.alloc o1) := fun _ => below_alloc _ _
  have hz0 : ∀ o1, (w.alloc o1).heap.size = w.heap.size + 1 := fun _ => by simp
  have HB0 := Lib.hid hb0
  have HZ0 := Lib.hid hz0
  clear h1 h2 h1' h2' hb0 hz0
  go_enter Try.func44, Try.ntmps44
  go_wp2_with fail
  refine (rat_Valid _ _ _ _ _ (HV.out.on (HB0.out _ ))).mono ?_
  rw [HN1.out]
  rintro e w1 ⟨rfl, hb⟩
  have HZ1 : w.heap.size + 1 ≤ w1.heap.size := by have := hb.size; rw [HZ0.out] at this; exact this
  have HB1 : Hid (Below w.heap.size w w1) := (HB0.out _ ).trans (hb.mono (by rw [HZ0.out]; omega))
  have HCA1 := Lib.hid (HCA.out.on hb)
  clear hb
  obtain ⟨⟨a0, a1, a2⟩, -⟩ : Cel w1 w.heap.size (.bool (negR r)) (.slice A1 (topL r).length c1) (.slice A2 (botL r).length c2) := HCA1.out
  go_wp2_with fail
  refine (nat_DivMod_in _ _ _ _ w1 (H1.out.on HB1.out) (H2.out.on HB1.out)).mono ?_
  rintro e w2 ⟨vq, vr, rfl, hq, hrm, hb⟩
  rw [HD1.out] at hq
  rw [HD2.out] at hrm
  rw [HD3.out]
  have HQ := Lib.hid hq
  obtain ⟨X, x, rfl, hrm'⟩ := in_open hrm
  have HZ2 : w.heap.size + 1 ≤ w2.heap.size := by have := hb.size; omega
  have HB2 : Hid (Below w.heap.size w w2) := HB1.out.trans (hb.mono (by omega))
  have HCA2 := Lib.hid (HCA1.out.on hb)
  clear hb hq hrm hrm' a0 a1 a2
  go_wp2_with fail
  refine (nat_Int _ _ w2 HQ.out).mono ?_
  rw [HI.out.1, HI.out.2]
  rintro e w' ⟨rfl, rfl⟩
  have hl : 0 < (limbs (rM r)).length := limbs_len_pos.mpr (Nat.ne_of_gt HREM.out)
  have HIN : Hid (inRB ((rQ r : Int) + 1) = true) := inRB_iff.mpr ⟨by have := HQB.out; omega, by have := HQB.out; omega⟩
  have hqb : (rQ r : Int) ≤ 1125899906842624 := by have := HQB.out; omega
  have hq0 : (0 : Int) ≤ (rQ r : Int) := by omega
  go_wp2_with fail
  refine (rat_inRange _ _).mono ?_
  rw [HIN.out]
  rintro e w' ⟨rfl, rfl⟩
  obtain ⟨⟨a0, -⟩, -⟩ : Cel w2 w.heap.size (.bool (negR r)) (.slice A1 (topL r).length c1) (.slice A2 (botL r).length c2) := HCA2.out
  rw [HS.out] at a0
  go_wp2_with fail
  go_ret2
  rw [HF.out.1, HF.out.2, (rnd_ok (rmag_away HREM.out) HQB.out).1, (rnd_ok (rmag_away HREM.out) HQB.out).2, HS.out]
  exact ⟨rfl, HB2.out⟩

set_option maxHeartbeats 1600000 in
theorem rat_rounded_up_false (r : Rat) (hr : fitR r = true) (v : Value) (w : World) (hv : IsR w v r) (hq : rQ r + 1 ≤ 1125899906842624) (hrem : 0 < rM r) (hs : negR r = false) :
    Calls Try.prog 44 #[v, .bool true] w (fun e w' => e = .returned (.tuple #[.int .i64 (rW true (negR r) (topL r) (botL r)), .int .i64 (opH (fun r => rndE r true) (negR r) (topL r) (botL r))]) ∧ Below w.heap.size w w') := by
  have hqlt := rQ_lt hr
  have HD1 : Hid (limbs (quoN (topL r) (botL r)) = limbs (rQ r)) := by unfold Hid topL botL; rw [quoN_limbs (fitR_iff.mp hr).1 (fitR_iff.mp hr).2 r.den_nz]; rfl
  have HD2 : Hid (limbs (remN (topL r) (botL r)) = limbs (rM r)) := by unfold Hid topL botL; rw [remN_limbs (fitR_iff.mp hr).1 (fitR_iff.mp hr).2 r.den_nz]; rfl
  have HD3 : Hid (divE (topL r) (botL r) = 0) := by unfold Hid topL botL; rw [divE_limbs (fitR_iff.mp hr).1 (fitR_iff.mp hr).2 r.den_nz]
  have HI : Hid (intV (limbs (rQ r)) = (rQ r : Int) ∧ intE (limbs (rQ r)) = 0) := by
    obtain ⟨e1, e2⟩ := intV_limbs hqlt
    exact ⟨by rw [e1]; exact if_pos (by omega), by rw [e2]; exact if_pos (by omega)⟩
  clear hqlt
  have HQB := Lib.hid hq
  have HREM := Lib.hid hrem
  have HS := Lib.hid hs
  have HF : Hid (rW true (negR r) (topL r) (botL r) = rndV r true ∧ opH (fun r => rndE r true) (negR r) (topL r) (botL r) = rndE r true) := ⟨rW_form hr, rE_form hr⟩
  have HR := Lib.hid hr
  have HN1 := Lib.hid (form_val hr).1
  have BR := Lib.hid (fitR_iff.mp hr)
  clear hr
  clear hrem hs
  obtain ⟨vp, vq, rfl, h1, h2⟩ := hv
  obtain ⟨A1, c1, rfl, h1'⟩ := in_open h1
  obtain ⟨A2, c2, rfl, h2'⟩ := in_open h2
  have H1 := Lib.hid h1'
  have H2 := Lib.hid h2'
  have HV := Lib.hid (show InR w (.agg #[.bool (negR r), .slice A1 (topL r).length c1, .slice A2 (botL r).length c2]) (negR r) (topL r) (botL r) from ⟨_, _, rfl, h1', h2'⟩)
  have HCA := Lib.hid (Cel.new w (.bool (negR r)) (.slice A1 (topL r).length c1) (.slice A2 (botL r).length c2) 46)
  have hb0 : ∀ o1, Below w.heap.size w (w.alloc o1) := fun _ => below_alloc _ _
  have hz0 : ∀ o1, (w.alloc o1).heap.size = w.heap.size + 1 := fun _ => by simp
  have HB0 := Lib.hid hb0
  have HZ0 := Lib.hid hz0
  clear h1 h2 h1' h2' hb0 hz0
  go_enter Try.func44, Try.ntmps44
  go_wp2_with fail
  refine (rat_Valid _ _ _ _ _ (HV.out.on (HB0.out _ ))).mono ?_
  rw [HN1.out]
  rintro e w1 ⟨rfl, hb⟩
  have HZ1 : w.heap.size + 1 ≤ w1.heap.size := by have := hb.size; rw [HZ0.out] at this; exact this
  have HB1 : Hid (Below w.heap.size w w1) := (HB0.out _ ).trans (hb.mono (by rw [HZ0.out]; omega))
  have HCA1 := Lib.hid (HCA.out.on hb)
  clear hb
  obtain ⟨⟨a0, a1, a2⟩, -⟩ : Cel w1 w.heap.size (.bool (negR r)) (.slice A1 (topL r).length c1) (.slice A2 (botL r).length c2) := HCA1.out
  go_wp2_with fail
  refine (nat_DivMod_in _ _ _ _ w1 (H1.out.on HB1.out) (H2.out.on HB1.out)).mono ?_
  rintro e w2 ⟨vq, vr, rfl, hq, hrm, hb⟩
  rw [HD1.out] at hq
  rw [HD2.out] at hrm
  rw [HD3.out]
  have HQ := Lib.hid hq
  obtain ⟨X, x, rfl, hrm'⟩ := in_open hrm
  have HZ2 : w.heap.size + 1 ≤ w2.heap.size := by have := hb.size; omega
  have HB2 : Hid (Below w.heap.size w w2) := HB1.out.trans (hb.mono (by omega))
  have HCA2 := Lib.hid (HCA1.out.on hb)
  clear hb hq hrm hrm' a0 a1 a2
  go_wp2_with fail
  refine (nat_Int _ _ w2 HQ.out).mono ?_
  rw [HI.out.1, HI.out.2]
  rintro e w' ⟨rfl, rfl⟩
  have hl : 0 < (limbs (rM r)).length := limbs_len_pos.mpr (Nat.ne_of_gt HREM.out)
  have HIN : Hid (inRB ((rQ r : Int) + 1) = true) := inRB_iff.mpr ⟨by have := HQB.out; omega, by have := HQB.out; omega⟩
  have hqb : (rQ r : Int) ≤ 1125899906842624 := by have := HQB.out; omega
  have hq0 : (0 : Int) ≤ (rQ r : Int) := by omega
  go_wp2_with fail
  refine (rat_inRange _ _).mono ?_
  rw [HIN.out]
  rintro e w' ⟨rfl, rfl⟩
  obtain ⟨⟨a0, -⟩, -⟩ : Cel w2 w.heap.size (.bool (negR r)) (.slice A1 (topL r).length c1) (.slice A2 (botL r).length c2) := HCA2.out
  rw [HS.out] at a0
  go_wp2_with fail
  go_ret2
  rw [HF.out.1, HF.out.2, (rnd_ok (rmag_away HREM.out) HQB.out).1, (rnd_ok (rmag_away HREM.out) HQB.out).2, HS.out]
  exact ⟨rfl, HB2.out⟩

set_option maxHeartbeats 1600000 in
theorem rat_rounded_over (r : Rat) (hr : fitR r = true) (v : Value) (w : World) (hv : IsR w v r) (hq : rQ r = 1125899906842624) (hrem : 0 < rM r) :
    Calls Try.prog 44 #[v, .bool true] w (fun e w' => e = .returned (.tuple #[.int .i64 (rW true (negR r) (topL r) (botL r)), .int .i64 (opH (fun r => rndE r true) (negR r) (topL r) (botL r))]) ∧ Below w.heap.size w w') := by
  have hqlt := rQ_lt hr
  have HD1 : Hid (limbs (quoN (topL r) (botL r)) = limbs (rQ r)) := by unfold Hid topL botL; rw [quoN_limbs (fitR_iff.mp hr).1 (fitR_iff.mp hr).2 r.den_nz]; rfl
  have HD2 : Hid (limbs (remN (topL r) (botL r)) = limbs (rM r)) := by unfold Hid topL botL; rw [remN_limbs (fitR_iff.mp hr).1 (fitR_iff.mp hr).2 r.den_nz]; rfl
  have HD3 : Hid (divE (topL r) (botL r) = 0) := by unfold Hid topL botL; rw [divE_limbs (fitR_iff.mp hr).1 (fitR_iff.mp hr).2 r.den_nz]
  have HI : Hid (intV (limbs (rQ r)) = (rQ r : Int) ∧ intE (limbs (rQ r)) = 0) := by
    obtain ⟨e1, e2⟩ := intV_limbs hqlt
    exact ⟨by rw [e1]; exact if_pos (by omega), by rw [e2]; exact if_pos (by omega)⟩
  clear hqlt
  have HQB := Lib.hid hq
  have HREM := Lib.hid hrem
  have HF : Hid (rW true (negR r) (topL r) (botL r) = rndV r true ∧ opH (fun r => rndE r true) (negR r) (topL r) (botL r) = rndE r true) := ⟨rW_form hr, rE_form hr⟩
  have HR := Lib.hid hr
  have HN1 := Lib.hid (form_val hr).1
  have BR := Lib.hid (fitR_iff.mp hr)
  clear hr
  clear hrem
  obtain ⟨vp, vq, rfl, h1, h2⟩ := hv
  obtain ⟨A1, c1, rfl, h1'⟩ := in_open h1
  obtain ⟨A2, c2, rfl, h2'⟩ := in_open h2
  have H1 := Lib.hid h1'
  have H2 := Lib.hid h2'
  have HV := Lib.hid (show InR w (.agg #[.bool (negR r), .slice A1 (topL r).length c1, .slice A2 (botL r).length c2]) (negR r) (topL r) (botL r) from ⟨_, _, rfl, h1', h2'⟩)
  have HCA := Lib.hid (Cel.new w (.bool (negR r)) (.slice A1 (topL r).length c1) (.slice A2 (botL r).length c2) 46)
  have hb0 : ∀ o1, Below w.heap.size w (w.alloc o1) := fun _ => below_alloc _ _
  have hz0 : ∀ o1, (w.alloc o1).heap.size = w.heap.size + 1 := fun _ => by simp
  have HB0 := Lib.hid hb0
  have HZ0 := Lib.hid hz0
  clear h1 h2 h1' h2' hb0 hz0
  go_enter Try.func44, Try.ntmps44
  go_wp2_with fail
  refine (rat_Valid _ _ _ _ _ (HV.out.on (HB0.out _ ))).mono ?_
  rw [HN1.out]
  rintro e w1 ⟨rfl, hb⟩
  have HZ1 : w.heap.size + 1 ≤ w1.heap.size := by have := hb.size; rw [HZ0.out] at this; exact this
  have HB1 : Hid (Below w.heap.size w w1) := (HB0.out _ ).trans (hb.mono (by rw [HZ0.out]; omega))
  have HCA1 := Lib.hid (HCA.out.on hb)
  clear hb
  obtain ⟨⟨a0, a1, a2⟩, -⟩ : Cel w1 w.heap.size (.bool (negR r)) (.slice A1 (topL r).length c1) (.slice A2 (botL r).length c2) := HCA1.out
  go_wp2_with fail
  refine (nat_DivMod_in _ _ _ _ w1 (H1.out.on HB1.out) (H2.out.on HB1.out)).mono ?_
  rintro e w2 ⟨vq, vr, rfl, hq, hrm, hb⟩
  rw [HD1.out] at hq
  rw [HD2.out] at hrm
  rw [HD3.out]
  have HQ := Lib.hid hq
  obtain ⟨X, x, rfl, hrm'⟩ := in_open hrm
  have HZ2 : w.heap.size + 1 ≤ w2.heap.size := by have := hb.size; omega
  have HB2 : Hid (Below w.heap.size w w2) := HB1.out.trans (hb.mono (by omega))
  have HCA2 := Lib.hid (HCA1.out.on hb)
  clear hb hq hrm hrm' a0 a1 a2
  go_wp2_with fail
  refine (nat_Int _ _ w2 HQ.out).mono ?_
  rw [HI.out.1, HI.out.2]
  rintro e w' ⟨rfl, rfl⟩
  have hl : 0 < (limbs (rM r)).length := limbs_len_pos.mpr (Nat.ne_of_gt HREM.out)
  have hqe : (rQ r : Int) = 1125899906842624 := by have := HQB.out; omega
  have HIN : Hid (inRB 1125899906842625 = false) := rfl
  rw [hqe]
  clear hqe
  go_wp2_with fail
  refine (rat_inRange _ _).mono ?_
  rw [HIN.out]
  rintro e w' ⟨rfl, rfl⟩
  go_wp2_with fail
  go_ret2
  rw [HF.out.1, HF.out.2, (rnd_big (by rw [rmag_away HREM.out, HQB.out]; decide)).1, (rnd_big (by rw [rmag_away HREM.out, HQB.out]; decide)).2]
  exact ⟨rfl, HB2.out⟩

theorem rat_rounded (b : Bool) (xs ys : List Int) (v : Value) (w : World) (hv : InR w v b xs ys) (away : Bool) :
    Calls Try.prog 44 #[v, .bool away] w (fun e w' => e = .returned (.tuple #[.int .i64 (rW away b xs ys), .int .i64 (opH (fun r => rndE r away) b xs ys)]) ∧ Below w.heap.size w w') := by
  rcases bcase (valR b xs ys) with h | h
  · obtain ⟨r, hr, rfl, rfl, rfl⟩ := val_form h
    rcases Nat.lt_or_ge 1125899906842624 (rQ r) with hq | hq
    · exact rat_rounded_big away r hr v w hv hq
    · rcases bcase away with ha | ha
      · subst ha
        rcases Nat.eq_zero_or_pos (rM r) with hm | hm
        · rcases bcase (negR r) with hs | hs
          · exact rat_rounded_exact_true r hr v w hv hq hm hs
          · exact rat_rounded_exact_false r hr v w hv hq hm hs
        · rcases Nat.eq_or_lt_of_le hq with he | hl
          · exact rat_rounded_over r hr v w hv he hm
          · rcases bcase (negR r) with hs | hs
            · exact rat_rounded_up_true r hr v w hv hl hm hs
            · exact rat_rounded_up_false r hr v w hv hl hm hs
      · subst ha
        rcases bcase (negR r) with hs | hs
        · exact rat_rounded_down_true r hr v w hv hq hs
        · exact rat_rounded_down_false r hr v w hv hq hs
  · exact rat_rounded_no b xs ys v w hv away h

end Go.Proofs.Ytagjimdplmimoaa
/- Contracts of Floor, Ceil of rat and of its reference. -/
namespace Go.Proofs.Ytagjimdplmimoaa
open Go.ChangeShapes Go.WideShapes Go.RowKit
set_option linter.unusedVariables false
set_option maxRecDepth 100000

def floorV (b : Bool) (xs ys : List Int) : Int := rW b b xs ys
def floorE (b : Bool) (xs ys : List Int) : Int := opH (fun r => rndE r b) b xs ys
def ceilV (b : Bool) (xs ys : List Int) : Int := rW (!b) b xs ys
def ceilE (b : Bool) (xs ys : List Int) : Int := opH (fun r => rndE r (!b)) b xs ys
theorem rmag_neg (r : Rat) (away : Bool) : rmag (-r) away = rmag r away := by
  unfold rmag rQ rM; rw [(neg_parts r).1, (neg_parts r).2, Int.natAbs_neg]
theorem rmag_zero {r : Rat} (h : r.num = 0) (away : Bool) : rmag r away = 0 := by unfold rmag rQ rM; rw [h]; cases away <;> simp
theorem negR_neg_zero {r : Rat} (h : r.num = 0) : negR (-r) = false ∧ negR r = false := by
  unfold negR; rw [(neg_parts r).1, h]; exact ⟨rfl, rfl⟩
theorem negR_neg {r : Rat} (h : r.num ≠ 0) : negR (-r) = !negR r := by
  rw [(neg_form r).1, decide_eq_true (show 0 < r.num.natAbs by omega), Bool.and_true]
/-- The least integer above is the negative of the greatest one below the negative. -/
theorem ceil_neg (r : Rat) : -(rndV (-r) (negR (-r))) = rndV r (!negR r) ∧ rndE (-r) (negR (-r)) = rndE r (!negR r) := by
  unfold rndV rndE
  rw [rmag_neg]
  by_cases h : r.num = 0
  · rw [rmag_zero h, rmag_zero h, (negR_neg_zero h).1, (negR_neg_zero h).2]; exact ⟨by decide, rfl⟩
  · rw [negR_neg h]
    refine ⟨?_, rfl⟩
    split
    · cases negR r <;> simp [sgI]
    · rfl
theorem rndV_bd (r : Rat) (away : Bool) : -1125899906842624 ≤ rndV r away ∧ rndV r away ≤ 1125899906842624 := by
  unfold rndV
  split
  · unfold sgI; split <;> omega
  · omega

set_option maxHeartbeats 1600000 in
theorem rat_Floor (b : Bool) (xs ys : List Int) (v : Value) (w : World) (hv : InR w v b xs ys) :
    Calls Try.prog 29 #[v] w (fun e w' => e = .returned (.tuple #[.int .i64 (floorV b xs ys), .int .i64 (floorE b xs ys)]) ∧ Below w.heap.size w w') := by
  obtain ⟨vp, vq, rfl, h1, h2⟩ := hv
  obtain ⟨A1, c1, rfl, h1'⟩ := in_open h1
  obtain ⟨A2, c2, rfl, h2'⟩ := in_open h2
  have H1 := Lib.hid h1'
  have H2 := Lib.hid h2'
  have HV := Lib.hid (show InR w (.agg #[.bool b, .slice A1 xs.length c1, .slice A2 ys.length c2]) b xs ys from ⟨_, _, rfl, h1', h2'⟩)
  have HCA := Lib.hid (Cel.new w (.bool b) (.slice A1 xs.length c1) (.slice A2 ys.length c2) 46)
  have hb0 : ∀ o1, Below w.heap.size w (w.alloc o1) := fun _ => below_alloc _ _
  have hz0 : ∀ o1, (w.alloc o1).heap.size = w.heap.size + 1 := fun _ => by simp
  have HB0 := Lib.hid hb0
  have HZ0 := Lib.hid hz0
  clear h1 h2 h1' h2' hb0 hz0
  obtain ⟨⟨a0, a1, a2⟩, -⟩ := HCA.out
  go_enter Try.func29, Try.ntmps29
  go_wp2_with fail
  refine (rat_rounded b xs ys _ _ (HV.out.on (HB0.out _)) b).mono ?_
  rintro e w1 ⟨rfl, hb⟩
  have HB1 : Hid (Below w.heap.size w w1) := (HB0.out _).trans (hb.mono (by rw [HZ0.out]; omega))
  clear hb
  go_wp2_with fail
  go_ret2
  exact ⟨rfl, HB1.out⟩

set_option maxHeartbeats 1600000 in
theorem rat_Ceil (b : Bool) (xs ys : List Int) (v : Value) (w : World) (hv : InR w v b xs ys) :
    Calls Try.prog 30 #[v] w (fun e w' => e = .returned (.tuple #[.int .i64 (ceilV b xs ys), .int .i64 (ceilE b xs ys)]) ∧ Below w.heap.size w w') := by
  obtain ⟨vp, vq, rfl, h1, h2⟩ := hv
  obtain ⟨A1, c1, rfl, h1'⟩ := in_open h1
  obtain ⟨A2, c2, rfl, h2'⟩ := in_open h2
  have H1 := Lib.hid h1'
  have H2 := Lib.hid h2'
  have HV := Lib.hid (show InR w (.agg #[.bool b, .slice A1 xs.length c1, .slice A2 ys.length c2]) b xs ys from ⟨_, _, rfl, h1', h2'⟩)
  have HCA := Lib.hid (Cel.new w (.bool b) (.slice A1 xs.length c1) (.slice A2 ys.length c2) 46)
  have hb0 : ∀ o1, Below w.heap.size w (w.alloc o1) := fun _ => below_alloc _ _
  have hz0 : ∀ o1, (w.alloc o1).heap.size = w.heap.size + 1 := fun _ => by simp
  have HB0 := Lib.hid hb0
  have HZ0 := Lib.hid hz0
  clear h1 h2 h1' h2' hb0 hz0
  obtain ⟨⟨a0, a1, a2⟩, -⟩ := HCA.out
  go_enter Try.func30, Try.ntmps30
  go_wp2_with fail
  refine (rat_rounded b xs ys _ _ (HV.out.on (HB0.out _)) (!b)).mono ?_
  rintro e w1 ⟨rfl, hb⟩
  have HB1 : Hid (Below w.heap.size w w1) := (HB0.out _).trans (hb.mono (by rw [HZ0.out]; omega))
  clear hb
  go_wp2_with fail
  go_ret2
  exact ⟨rfl, HB1.out⟩

end Go.Proofs.Ytagjimdplmimoaa
/- Contracts of Text of rat and of its reference. -/
namespace Go.Proofs.Ytagjimdplmimoaa
open Go.ChangeShapes Go.WideShapes Go.RowKit
set_option linter.unusedVariables false
set_option maxRecDepth 100000

/-- The text of a number. -/
def txtL (r : Rat) : List UInt8 := (if negR r then [45] else []) ++ (Lib.decDigits r.num.natAbs ++ (if r.den = 1 then [] else 47 :: Lib.decDigits r.den))
def txtS (r : Rat) : ByteArray := ⟨(txtL r).toArray⟩
def txtW (b : Bool) (xs ys : List Int) : ByteArray := if valR b xs ys then txtS (ratV b xs ys) else ⟨#[]⟩
theorem txtW_no {b : Bool} {xs ys : List Int} (h : valR b xs ys = false) : txtW b xs ys = ⟨#[]⟩ := by unfold txtW; rw [h]; rfl
theorem txtW_form {r : Rat} (hr : fitR r = true) : txtW (negR r) (topL r) (botL r) = txtS r := by unfold txtW; rw [(form_val hr).1, (form_val hr).2]; rfl
theorem textV_limbs {n : Nat} (h : n < big48) : (textV (limbs n)).data.toList = Lib.decDigits n := by rw [textV, valid48 h, nvt]; rfl
theorem oneE_limbs {n : Nat} (h : n < big48) : oneE (limbs n) = 0 := by rw [oneE, valid48 h]; rfl
theorem text_short {n : Nat} (h : n < big48) : (textV (limbs n)).size ≤ 432 := by
  have hlt : n < 10 ^ (431 + 1) := by unfold big48 at h; rw [pow9, show 9 * 48 = 431 + 1 from rfl] at h; exact h
  have hlen := dec_len (k := 431) hlt
  rw [← textV_limbs h, str_len] at hlen
  omega
theorem txt_ff {r : Rat} (hr : fitR r = true) (h1 : negR r = false) (h2 : r.den = 1) : textV (topL r) = txtS r := by
  refine bytes_inj ?_
  unfold topL txtS txtL
  rw [textV_limbs (fitR_iff.mp hr).1, h1, h2]; simp
theorem txt_tf {r : Rat} (hr : fitR r = true) (h1 : negR r = true) (h2 : r.den = 1) : (⟨#[45]⟩ : ByteArray) ++ textV (topL r) = txtS r := by
  refine bytes_inj ?_
  unfold topL txtS txtL
  rw [ByteArray.data_append, Array.toList_append, textV_limbs (fitR_iff.mp hr).1, h1, h2]; simp
theorem txt_ft {r : Rat} (hr : fitR r = true) (h1 : negR r = false) (h2 : r.den ≠ 1) : textV (topL r) ++ ((⟨#[47]⟩ : ByteArray) ++ textV (botL r)) = txtS r := by
  refine bytes_inj ?_
  unfold topL botL txtS txtL
  rw [ByteArray.data_append, ByteArray.data_append, Array.toList_append, Array.toList_append, textV_limbs (fitR_iff.mp hr).1, textV_limbs (fitR_iff.mp hr).2, h1, if_neg h2]; simp
theorem txt_tt {r : Rat} (hr : fitR r = true) (h1 : negR r = true) (h2 : r.den ≠ 1) : ((⟨#[45]⟩ : ByteArray) ++ textV (topL r)) ++ ((⟨#[47]⟩ : ByteArray) ++ textV (botL r)) = txtS r := by
  refine bytes_inj ?_
  unfold topL botL txtS txtL
  rw [ByteArray.data_append, ByteArray.data_append, ByteArray.data_append, Array.toList_append, Array.toList_append, Array.toList_append, textV_limbs (fitR_iff.mp hr).1, textV_limbs (fitR_iff.mp hr).2, h1, if_neg h2]; simp
theorem bot_one (r : Rat) : decide (botL r = [1]) = decide (r.den = 1) := limbs_is_one r.den

end Go.Proofs.Ytagjimdplmimoaa
/- Lists of rational numbers in memory; their sums. The contract of rat.Sum. -/
namespace Go.Proofs.Ytagjimdplmimoaa
open Go.ChangeShapes Go.WideShapes Go.RowKit
set_option linter.unusedVariables false
set_option maxRecDepth 100000

/-- A sign and two lists of limbs. -/
abbrev Trip := Bool × List Int × List Int
def vT (t : Trip) : Bool := valR t.1 t.2.1 t.2.2
def rT (t : Trip) : Rat := ratV t.1 t.2.1 t.2.2
/-- At the address lie the numbers L. -/
def Rats (w : World) (A : Option Addr) (L : List Trip) : Prop :=
  ∀ (k : Nat) (t : Trip), L[k]? = some t → ∃ b off A1 c1 A2 c2, A = some ⟨b, off, none⟩ ∧ b < w.heap.size ∧
    (w.cell? ⟨b, off + k * 3, none⟩ = some (.bool t.1) ∧ w.cell? ⟨b, off + k * 3 + 1, none⟩ = some (.slice A1 t.2.1.length c1) ∧ w.cell? ⟨b, off + k * 3 + 2, none⟩ = some (.slice A2 t.2.2.length c2)) ∧
    In w (.slice A1 t.2.1.length c1) t.2.1 ∧ In w (.slice A2 t.2.2.length c2) t.2.2
theorem Rats.on {w w' : World} {A : Option Addr} {L : List Trip} (h : Rats w A L) (hb : Below w.heap.size w w') : Rats w' A L := by
  intro k t hk
  obtain ⟨b, off, A1, c1, A2, c2, e, hlt, ⟨h0, h1, h2⟩, i1, i2⟩ := h k t hk
  exact ⟨b, off, A1, c1, A2, c2, e, Nat.lt_of_lt_of_le hlt hb.size, ⟨(hb.cell (p := ⟨b, off + k * 3, none⟩) hlt).trans h0, (hb.cell (p := ⟨b, off + k * 3 + 1, none⟩) hlt).trans h1, (hb.cell (p := ⟨b, off + k * 3 + 2, none⟩) hlt).trans h2⟩, i1.on hb, i2.on hb⟩

/-- The sum from s on, element by element; none where an addition does not fit. -/
def tot : List Rat → Rat → Option Rat
  | [], s => some s
  | a :: l, s => if sumOk s a then tot l (s + a) else none
def sumE (L : List Trip) : Int := if 4096 < L.length then 8 else if L.all vT then (if (tot (L.map rT) 0).isSome then 0 else 2) else 3
def sumV (L : List Trip) : Rat := (tot (L.map rT) 0).getD 0
theorem sumE_full {L : List Trip} (h : 4096 < L.length) : sumE L = 8 := if_pos h
theorem sumE_form {L : List Trip} (h : ¬ 4096 < L.length) (h2 : L.all vT = false) : sumE L = 3 := by unfold sumE; rw [if_neg h, h2]; rfl
theorem sumE_over {L : List Trip} (h : ¬ 4096 < L.length) (h2 : L.all vT = true) (h3 : tot (L.map rT) 0 = none) : sumE L = 2 := by unfold sumE; rw [if_neg h, h2, h3]; rfl
theorem sumE_ok {L : List Trip} {r : Rat} (h : ¬ 4096 < L.length) (h2 : L.all vT = true) (h3 : tot (L.map rT) 0 = some r) : sumE L = 0 ∧ sumV L = r := by unfold sumE sumV; rw [if_neg h, h2, h3]; exact ⟨rfl, rfl⟩
theorem all_false {L : List Trip} {k : Nat} {t : Trip} (h : L[k]? = some t) (hv : vT t = false) : L.all vT = false := by
  rw [List.all_eq_false]; exact ⟨t, List.mem_of_getElem? h, by simpa using hv⟩
theorem all_true {L : List Trip} (h : ∀ (k : Nat) (t : Trip), L[k]? = some t → vT t = true) : L.all vT = true := by
  rw [List.all_eq_true]
  intro t ht
  obtain ⟨k, hk⟩ := List.mem_iff_getElem?.mp ht
  exact h k t hk
theorem all_at {L : List Trip} (h : L.all vT = true) {k : Nat} {t : Trip} (hk : L[k]? = some t) : vT t = true := by
  rw [List.all_eq_true] at h; exact h t (List.mem_of_getElem? hk)
theorem tot_step {L : List Trip} {k : Nat} {t : Trip} {s : Rat} (hk : L[k]? = some t) : tot ((L.drop k).map rT) s = if sumOk s (rT t) then tot ((L.drop (k + 1)).map rT) (s + rT t) else none := by
  have hlt : k < L.length := by
    rcases Nat.lt_or_ge k L.length with h | h
    · exact h
    · rw [List.getElem?_eq_none h] at hk; cases hk
  have e : L[k] = t := by rw [List.getElem?_eq_getElem hlt] at hk; exact Option.some.inj hk
  rw [List.drop_eq_getElem_cons hlt, e]; rfl
theorem tot_end {L : List Trip} {s : Rat} : tot ((L.drop L.length).map rT) s = some s := by rw [List.drop_length]; rfl
theorem fit_sum {r s : Rat} (hr : fitR r = true) (hs : fitR s = true) (h : sumOk r s = true) : fitR (r + s) = true := by
  rw [sumOk_eq, Bool.and_eq_true, Bool.and_eq_true] at h
  obtain ⟨h1, h2, h3⟩ := h
  rw [← add_form]
  exact mk_fit (sMag_lt (prOk_parts h1).1 (prOk_parts h1).2 h3) (of_decide_eq_true h2) (Nat.mul_ne_zero r.den_nz s.den_nz)
theorem fit_zero : fitR 0 = true := by rw [fitR_iff]; exact ⟨big48_pos, small48 (by decide)⟩
theorem mkV_zero : mkV 0 1 = 0 := by decide +kernel
theorem mkE_zero : mkE 0 1 = 0 := by decide
/-- A valid number is the form of its value. -/
theorem trip_form {t : Trip} (h : vT t = true) : fitR (rT t) = true ∧ t.1 = negR (rT t) ∧ t.2.1 = topL (rT t) ∧ t.2.2 = botL (rT t) := by
  obtain ⟨b, xs, ys⟩ := t
  obtain ⟨r, hr, h1, h2, h3⟩ := val_form h
  have e : rT (b, xs, ys) = r := by unfold rT; rw [h1, h2, h3]; exact (form_val hr).2
  rw [e]; exact ⟨hr, h1, h2, h3⟩
theorem trip_is {w : World} {v : Value} {t : Trip} (h : vT t = true) (hi : InR w v t.1 t.2.1 t.2.2) : IsR w v (rT t) := by
  obtain ⟨_, h1, h2, h3⟩ := trip_form h
  unfold IsR; rw [← h1, ← h2, ← h3]; exact hi

/-- What holds at the head of the loop that adds. -/
def SumInv (w wr : World) (g gs : Nat) (r : Rat) : Prop :=
  (Below w.heap.size w wr ∧ w.heap.size ≤ gs ∧ g ≠ gs) ∧ Cel wr g (.bool false) (.slice none 0 0) (.slice none 0 0) ∧
  ∃ b A1 n1 d1 A2 n2 d2, Cel wr gs (.bool b) (.slice A1 n1 d1) (.slice A2 n2 d2) ∧ IsR wr (.agg #[.bool b, .slice A1 n1 d1, .slice A2 n2 d2]) r
theorem OutR.zero {w : World} {v : Value} {err : Int} {r : Rat} (h : err = 0) (ho : OutR w v err r) : IsR w v r := by unfold OutR at ho; rw [if_pos h] at ho; exact ho

end Go.Proofs.Ytagjimdplmimoaa
/- The contract of Sum of the reference. -/
namespace Go.Proofs.Ytagjimdplmimoaa
open Go.ChangeShapes Go.WideShapes Go.RowKit
set_option linter.unusedVariables false
set_option maxRecDepth 100000

theorem below_of_drew {w w' : World} (h : Below w.drew.heap.size w.drew w') : Below w.heap.size w w' := (Below.refl w.heap.size w).drew.trans h

end Go.Proofs.Ytagjimdplmimoaa
