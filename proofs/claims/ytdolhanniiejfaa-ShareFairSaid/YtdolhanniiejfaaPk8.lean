/- Several texts in one: RatV, RatW, ShareQ, ShareS, ShareT. -/
import Derived.Test.YtdolhanniiejfaaPk7
import Derived.Test.YtdolhanniiejfaaPk4
/- Contracts of rounded, Floor, Ceil of rat; Floor, Ceil of the reference. -/
namespace Go.Proofs.Ytdolhanniiejfaa
open Go.ChangeShapes Go.WideShapes Go.RowKit
set_option linter.unusedVariables false
set_option maxRecDepth 100000

def rQ (r : Rat) : Nat := r.num.natAbs / r.den
def rM (r : Rat) : Nat := r.num.natAbs % r.den
def rmag (r : Rat) (away : Bool) : Nat := if away && decide (0 < rM r) then rQ r + 1 else rQ r
def rndV (r : Rat) (away : Bool) : Int := if rmag r away ≤ 1125899906842624 then sgI (negR r) (rmag r away) else 0
def rndE (r : Rat) (away : Bool) : Int := if rmag r away ≤ 1125899906842624 then 0 else 2
def rW (away : Bool) (b : Bool) (xs ys : List Int) : Int := if valR b xs ys then rndV (ratV b xs ys) away else 0
theorem rW_no {away b : Bool} {xs ys : List Int} (h : valR b xs ys = false) : rW away b xs ys = 0 := by unfold rW; rw [h]; rfl
theorem rW_form {away : Bool} {r : Rat} (hr : fitR r = true) : rW away (negR r) (topL r) (botL r) = rndV r away := by unfold rW; rw [(form_val hr).1, (form_val hr).2]; rfl
theorem rE_form {away : Bool} {r : Rat} (hr : fitR r = true) : opH (fun r => rndE r away) (negR r) (topL r) (botL r) = rndE r away := (opH_form (f := negOp) hr).1
theorem rnd_big {r : Rat} {away : Bool} (h : 1125899906842624 < rmag r away) : rndV r away = 0 ∧ rndE r away = 2 := ⟨if_neg (by omega), if_neg (by omega)⟩
theorem rnd_ok {r : Rat} {away : Bool} {n : Nat} (e : rmag r away = n) (h : n ≤ 1125899906842624) : rndV r away = sgI (negR r) n ∧ rndE r away = 0 := by
  subst e; exact ⟨if_pos h, if_pos h⟩
theorem rmag_away {r : Rat} (h : 0 < rM r) : rmag r true = rQ r + 1 := by unfold rmag; rw [decide_eq_true h]; rfl
theorem rmag_exact {r : Rat} {away : Bool} (h : rM r = 0) : rmag r away = rQ r := by unfold rmag; rw [h]; cases away <;> rfl
theorem rmag_down (r : Rat) : rmag r false = rQ r := rfl
theorem rmag_ge (r : Rat) (away : Bool) : rQ r ≤ rmag r away := by unfold rmag; split <;> omega
theorem intV_limbs {n : Nat} (h : n < big48) : intV (limbs n) = (if (n : Int) ≤ 1125899906842624 then (n : Int) else 0) ∧ intE (limbs n) = (if (n : Int) ≤ 1125899906842624 then 0 else 2) := by
  unfold intV intE; rw [valid48 h, if_pos rfl, if_pos rfl, nval_limbs]; exact ⟨rfl, rfl⟩
theorem rQ_lt {r : Rat} (hr : fitR r = true) : rQ r < big48 := Nat.lt_of_le_of_lt (Nat.div_le_self _ _) (fitR_iff.mp hr).1
theorem len_pos_dec (n : Nat) : decide (0 < (limbs n).length) = decide (0 < n) := by
  by_cases h : n = 0
  · subst h; rw [limbs_zero]; rfl
  · rw [decide_eq_true (limbs_len_pos.mpr h), decide_eq_true (Nat.pos_of_ne_zero h)]

set_option maxHeartbeats 1600000 in
theorem rat_rounded_no (b : Bool) (xs ys : List Int) (v : Value) (w : World) (hv : InR w v b xs ys) (away : Bool) (hn1 : valR b xs ys = false) :
    Calls Try.prog 34 #[v, .bool away] w (fun e w' => e = .returned (.tuple #[.int .i64 (rW away b xs ys), .int .i64 (opH (fun r => rndE r away) b xs ys)]) ∧ Below w.heap.size w w') := by
  have HN1 := Lib.hid hn1
  clear hn1
  obtain ⟨vp, vq, rfl, h1, h2⟩ := hv
  obtain ⟨A1, c1, rfl, h1'⟩ := in_open h1
  obtain ⟨A2, c2, rfl, h2'⟩ := in_open h2
  have H1 := Lib.hid h1'
  have H2 := Lib.hid h2'
  have HV := Lib.hid (show InR w (.agg #[.bool b, .slice A1 xs.length c1, .slice A2 ys.length c2]) b xs ys from ⟨_, _, rfl, h1', h2'⟩)
  have HCA := Lib.hid (Cel.new w (.bool b) (.slice A1 xs.length c1) (.slice A2 ys.length c2) 35)
  have hb0 : ∀ o1, Below w.heap.size w (w.alloc o1) := fun _ => below_alloc _ _
  have hz0 : ∀ o1, (w.alloc o1).heap.size = w.heap.size + 1 := fun _ => by simp
  have HB0 := Lib.hid hb0
  have HZ0 := Lib.hid hz0
  clear h1 h2 h1' h2' hb0 hz0
  go_enter Try.func34, Try.ntmps34
  go_wp2_with fail
  refine (rat_Valid _ _ _ _ _ (HV.out.on (HB0.out _ ))).mono ?_
  rw [HN1.out]
  rintro e w1 ⟨rfl, hb⟩
  have HZ1 : w.heap.size + 1 ≤ w1.heap.size := by have := hb.size; rw [HZ0.out] at this; exact this
  have HB1 : Hid (Below w.heap.size w w1) := (HB0.out _ ).trans (hb.mono (by rw [HZ0.out]; omega))
  have HCA1 := Lib.hid (HCA.out.on hb)
  clear hb
  go_wp2_with fail
  go_ret2
  rw [rW_no HN1.out, opH_no HN1.out]
  exact ⟨rfl, HB1.out⟩

set_option maxHeartbeats 1600000 in
theorem rat_rounded_big (away : Bool) (r : Rat) (hr : fitR r = true) (v : Value) (w : World) (hv : IsR w v r) (hq : 1125899906842624 < rQ r) :
    Calls Try.prog 34 #[v, .bool away] w (fun e w' => e = .returned (.tuple #[.int .i64 (rW away (negR r) (topL r) (botL r)), .int .i64 (opH (fun r => rndE r away) (negR r) (topL r) (botL r))]) ∧ Below w.heap.size w w') := by
  have hqlt := rQ_lt hr
  have HD1 : Hid (limbs (quoN (topL r) (botL r)) = limbs (rQ r)) := by unfold Hid topL botL; rw [quoN_limbs (fitR_iff.mp hr).1 (fitR_iff.mp hr).2 r.den_nz]; rfl
  have HD2 : Hid (limbs (remN (topL r) (botL r)) = limbs (rM r)) := by unfold Hid topL botL; rw [remN_limbs (fitR_iff.mp hr).1 (fitR_iff.mp hr).2 r.den_nz]; rfl
  have HD3 : Hid (divE (topL r) (botL r) = 0) := by unfold Hid topL botL; rw [divE_limbs (fitR_iff.mp hr).1 (fitR_iff.mp hr).2 r.den_nz]
  have HI : Hid (intV (limbs (rQ r)) = 0 ∧ intE (limbs (rQ r)) = 2) := by
    obtain ⟨e1, e2⟩ := intV_limbs hqlt
    exact ⟨by rw [e1]; exact if_neg (by omega), by rw [e2]; exact if_neg (by omega)⟩
  clear hqlt
  have HQB := Lib.hid hq
  have HF : Hid (rW away (negR r) (topL r) (botL r) = rndV r away ∧ opH (fun r => rndE r away) (negR r) (topL r) (botL r) = rndE r away) := ⟨rW_form hr, rE_form hr⟩
  have HR := Lib.hid hr
  have HN1 := Lib.hid (form_val hr).1
  have BR := Lib.hid (fitR_iff.mp hr)
  clear hr
  obtain ⟨vp, vq, rfl, h1, h2⟩ := hv
  obtain ⟨A1, c1, rfl, h1'⟩ := in_open h1
  obtain ⟨A2, c2, rfl, h2'⟩ := in_open h2
  have H1 := Lib.hid h1'
  have H2 := Lib.hid h2'
  have HV := Lib.hid (show InR w (.agg #[.bool (negR r), .slice A1 (topL r).length c1, .slice A2 (botL r).length c2]) (negR r) (topL r) (botL r) from ⟨_, _, rfl, h1', h2'⟩)
  have HCA := Lib.hid (Cel.new w (.bool (negR r)) (.slice A1 (topL r).length c1) (.slice A2 (botL r).length c2) 35)
  have hb0 : ∀ o1, Below w.heap.size w (w.alloc o1) := fun _ => below_alloc _ _
  have hz0 : ∀ o1, (w.alloc o1).heap.size = w.heap.size + 1 := fun _ => by simp
  have HB0 := Lib.hid hb0
  have HZ0 := Lib.hid hz0
  clear h1 h2 h1' h2' hb0 hz0
  go_enter Try.func34, Try.ntmps34
  go_wp2_with fail
  refine (rat_Valid _ _ _ _ _ (HV.out.on (HB0.out _ ))).mono ?_
  rw [HN1.out]
  rintro e w1 ⟨rfl, hb⟩
  have HZ1 : w.heap.size + 1 ≤ w1.heap.size := by have := hb.size; rw [HZ0.out] at this; exact this
  have HB1 : Hid (Below w.heap.size w w1) := (HB0.out _ ).trans (hb.mono (by rw [HZ0.out]; omega))
  have HCA1 := Lib.hid (HCA.out.on hb)
  clear hb
  obtain ⟨⟨a0, a1, a2⟩, -⟩ : Cel w1 w.heap.size (.bool (negR r)) (.slice A1 (topL r).length c1) (.slice A2 (botL r).length c2) := HCA1.out
  go_wp2_with fail
  refine (nat_DivMod_in _ _ _ _ w1 (H1.out.on HB1.out) (H2.out.on HB1.out)).mono ?_
  rintro e w2 ⟨vq, vr, rfl, hq, hrm, hb⟩
  rw [HD1.out] at hq
  rw [HD2.out] at hrm
  rw [HD3.out]
  have HQ := Lib.hid hq
  obtain ⟨X, x, rfl, hrm'⟩ := in_open hrm
  have HZ2 : w.heap.size + 1 ≤ w2.heap.size := by have := hb.size; omega
  have HB2 : Hid (Below w.heap.size w w2) := HB1.out.trans (hb.mono (by omega))
  have HCA2 := Lib.hid (HCA1.out.on hb)
  clear hb hq hrm hrm' a0 a1 a2
  go_wp2_with fail
  refine (nat_Int _ _ w2 HQ.out).mono ?_
  rw [HI.out.1, HI.out.2]
  rintro e w' ⟨rfl, rfl⟩
  go_wp2_with fail
  go_ret2
  rw [HF.out.1, HF.out.2, (rnd_big (Nat.lt_of_lt_of_le HQB.out (rmag_ge r away))).1, (rnd_big (Nat.lt_of_lt_of_le HQB.out (rmag_ge r away))).2]
  exact ⟨rfl, HB2.out⟩

set_option maxHeartbeats 1600000 in
theorem rat_rounded_down_true (r : Rat) (hr : fitR r = true) (v : Value) (w : World) (hv : IsR w v r) (hq : rQ r ≤ 1125899906842624) (hs : negR r = true) :
    Calls Try.prog 34 #[v, .bool false] w (fun e w' => e = .returned (.tuple #[.int .i64 (rW false (negR r) (topL r) (botL r)), .int .i64 (opH (fun r => rndE r false) (negR r) (topL r) (botL r))]) ∧ Below w.heap.size w w') := by
  have hqlt := rQ_lt hr
  have HD1 : Hid (limbs (quoN (topL r) (botL r)) = limbs (rQ r)) := by unfold Hid topL botL; rw [quoN_limbs (fitR_iff.mp hr).1 (fitR_iff.mp hr).2 r.den_nz]; rfl
  have HD2 : Hid (limbs (remN (topL r) (botL r)) = limbs (rM r)) := by unfold Hid topL botL; rw [remN_limbs (fitR_iff.mp hr).1 (fitR_iff.mp hr).2 r.den_nz]; rfl
  have HD3 : Hid (divE (topL r) (botL r) = 0) := by unfold Hid topL botL; rw [divE_limbs (fitR_iff.mp hr).1 (fitR_iff.mp hr).2 r.den_nz]
  have HI : Hid (intV (limbs (rQ r)) = (rQ r : Int) ∧ intE (limbs (rQ r)) = 0) := by
    obtain ⟨e1, e2⟩ := intV_limbs hqlt
    exact ⟨by rw [e1]; exact if_pos (by omega), by rw [e2]; exact if_pos (by omega)⟩
  clear hqlt
  have HQB := Lib.hid hq
  have HS := Lib.hid hs
  have HF : Hid (rW false (negR r) (topL r) (botL r) = rndV r false ∧ opH (fun r => rndE r false) (negR r) (topL r) (botL r) = rndE r false) := ⟨rW_form hr, rE_form hr⟩
  have HR := Lib.hid hr
  have HN1 := Lib.hid (form_val hr).1
  have BR := Lib.hid (fitR_iff.mp hr)
  clear hr
  clear hs
  obtain ⟨vp, vq, rfl, h1, h2⟩ := hv
  obtain ⟨A1, c1, rfl, h1'⟩ := in_open h1
  obtain ⟨A2, c2, rfl, h2'⟩ := in_open h2
  have H1 := Lib.hid h1'
  have H2 := Lib.hid h2'
  have HV := Lib.hid (show InR w (.agg #[.bool (negR r), .slice A1 (topL r).length c1, .slice A2 (botL r).length c2]) (negR r) (topL r) (botL r) from ⟨_, _, rfl, h1', h2'⟩)
  have HCA := Lib.hid (Cel.new w (.bool (negR r)) (.slice A1 (topL r).length c1) (.slice A2 (botL r).length c2) 35)
  have hb0 : ∀ o1, Below w.heap.size w (w.alloc o1) := fun _ => below_alloc _ _
  have hz0 : ∀ o1, (w.alloc o1).heap.size = w.heap.size + 1 := fun _ => by simp
  have HB0 := Lib.hid hb0
  have HZ0 := Lib.hid hz0
  clear h1 h2 h1' h2' hb0 hz0
  go_enter Try.func34, Try.ntmps34
  go_wp2_with fail
  refine (rat_Valid _ _ _ _ _ (HV.out.on (HB0.out _ ))).mono ?_
  rw [HN1.out]
  rintro e w1 ⟨rfl, hb⟩
  have HZ1 : w.heap.size + 1 ≤ w1.heap.size := by have := hb.size; rw [HZ0.out] at this; exact this
  have HB1 : Hid (Below w.heap.size w w1) := (HB0.out _ ).trans (hb.mono (by rw [HZ0.out]; omega))
  have HCA1 := Lib.hid (HCA.out.on hb)
  clear hb
  obtain ⟨⟨a0, a1, a2⟩, -⟩ : Cel w1 w.heap.size (.bool (negR r)) (.slice A1 (topL r).length c1) (.slice A2 (botL r).length c2) := HCA1.out
  go_wp2_with fail
  refine (nat_DivMod_in _ _ _ _ w1 (H1.out.on HB1.out) (H2.out.on HB1.out)).mono ?_
  rintro e w2 ⟨vq, vr, rfl, hq, hrm, hb⟩
  rw [HD1.out] at hq
  rw [HD2.out] at hrm
  rw [HD3.out]
  have HQ := Lib.hid hq
  obtain ⟨X, x, rfl, hrm'⟩ := in_open hrm
  have HZ2 : w.heap.size + 1 ≤ w2.heap.size := by have := hb.size; omega
  have HB2 : Hid (Below w.heap.size w w2) := HB1.out.trans (hb.mono (by omega))
  have HCA2 := Lib.hid (HCA1.out.on hb)
  clear hb hq hrm hrm' a0 a1 a2
  go_wp2_with fail
  refine (nat_Int _ _ w2 HQ.out).mono ?_
  rw [HI.out.1, HI.out.2]
  rintro e w' ⟨rfl, rfl⟩
  have HIN : Hid (inRB ((rQ r : Int)) = true) := inRB_iff.mpr ⟨by have := HQB.out; omega, by have := HQB.out; omega⟩
  have hqb : (rQ r : Int) ≤ 1125899906842624 := by have := HQB.out; omega
  have hq0 : (0 : Int) ≤ (rQ r : Int) := by omega
  go_wp2_with fail
  refine (rat_inRange _ _).mono ?_
  rw [HIN.out]
  rintro e w' ⟨rfl, rfl⟩
  obtain ⟨⟨a0, -⟩, -⟩ : Cel w2 w.heap.size (.bool (negR r)) (.slice A1 (topL r).length c1) (.slice A2 (botL r).length c2) := HCA2.out
  rw [HS.out] at a0
  go_wp2_with fail
  go_ret2
  rw [HF.out.1, HF.out.2, (rnd_ok (rmag_down r) HQB.out).1, (rnd_ok (rmag_down r) HQB.out).2, HS.out]
  exact ⟨rfl, HB2.out⟩

set_option maxHeartbeats 1600000 in
theorem rat_rounded_down_false (r : Rat) (hr : fitR r = true) (v : Value) (w : World) (hv : IsR w v r) (hq : rQ r ≤ 1125899906842624) (hs : negR r = false) :
    Calls Try.prog 34 #[v, .bool false] w (fun e w' => e = .returned (.tuple #[.int .i64 (rW false (negR r) (topL r) (botL r)), .int .i64 (opH (fun r => rndE r false) (negR r) (topL r) (botL r))]) ∧ Below w.heap.size w w') := by
  have hqlt := rQ_lt hr
  have HD1 : Hid (limbs (quoN (topL r) (botL r)) = limbs (rQ r)) := by unfold Hid topL botL; rw [quoN_limbs (fitR_iff.mp hr).1 (fitR_iff.mp hr).2 r.den_nz]; rfl
  have HD2 : Hid (limbs (remN (topL r) (botL r)) = limbs (rM r)) := by unfold Hid topL botL; rw [remN_limbs (fitR_iff.mp hr).1 (fitR_iff.mp hr).2 r.den_nz]; rfl
  have HD3 : Hid (divE (topL r) (botL r) = 0) := by unfold Hid topL botL; rw [divE_limbs (fitR_iff.mp hr).1 (fitR_iff.mp hr).2 r.den_nz]
  have HI : Hid (intV (limbs (rQ r)) = (rQ r : Int) ∧ intE (limbs (rQ r)) = 0) := by
    obtain ⟨e1, e2⟩ := intV_limbs hqlt
    exact ⟨by rw [e1]; exact if_pos (by omega), by rw [e2]; exact if_pos (by omega)⟩
  clear hqlt
  have HQB := Lib.hid hq
  have HS := Lib.hid hs
  have HF : Hid (rW false (negR r) (topL r) (botL r) = rndV r false ∧ opH (fun r => rndE r false) (negR r) (topL r) (botL r) = rndE r false) := ⟨rW_form hr, rE_form hr⟩
  have HR := Lib.hid hr
  have HN1 := Lib.hid (form_val hr).1
  have BR := Lib.hid (fitR_iff.mp hr)
  clear hr
  clear hs
  obtain ⟨vp, vq, rfl, h1, h2⟩ := hv
  obtain ⟨A1, c1, rfl, h1'⟩ := in_open h1
  obtain ⟨A2, c2, rfl, h2'⟩ := in_open h2
  have H1 := Lib.hid h1'
  have H2 := Lib.hid h2'
  have HV := Lib.hid (show InR w (.agg #[.bool (negR r), .slice A1 (topL r).length c1, .slice A2 (botL r).length c2]) (negR r) (topL r) (botL r) from ⟨_, _, rfl, h1', h2'⟩)
  have HCA := Lib.hid (Cel.new w (.bool (negR r)) (.slice A1 (topL r).length c1) (.slice A2 (botL r).length c2) 35)
  have hb0 : ∀ o1, Below w.heap.size w (w.alloc o1) := fun _ => below_alloc _ _
  have hz0 : ∀ o1, (w.alloc o1).heap.size = w.heap.size + 1 := fun _ => by simp
  have HB0 := Lib.hid hb0
  have HZ0 := Lib.hid hz0
  clear h1 h2 h1' h2' hb0 hz0
  go_enter Try.func34, Try.ntmps34
  go_wp2_with fail
  refine (rat_Valid _ _ _ _ _ (HV.out.on (HB0.out _ ))).mono ?_
  rw [HN1.out]
  rintro e w1 ⟨rfl, hb⟩
  have HZ1 : w.heap.size + 1 ≤ w1.heap.size := by have := hb.size; rw [HZ0.out] at this; exact this
  have HB1 : Hid (Below w.heap.size w w1) := (HB0.out _ ).trans (hb.mono (by rw [HZ0.out]; omega))
  have HCA1 := Lib.hid (HCA.out.on hb)
  clear hb
  obtain ⟨⟨a0, a1, a2⟩, -⟩ : Cel w1 w.heap.size (.bool (negR r)) (.slice A1 (topL r).length c1) (.slice A2 (botL r).length c2) := HCA1.out
  go_wp2_with fail
  refine (nat_DivMod_in _ _ _ _ w1 (H1.out.on HB1.out) (H2.out.on HB1.out)).mono ?_
  rintro e w2 ⟨vq, vr, rfl, hq, hrm, hb⟩
  rw [HD1.out] at hq
  rw [HD2.out] at hrm
  rw [HD3.out]
  have HQ := Lib.hid hq
  obtain ⟨X, x, rfl, hrm'⟩ := in_open hrm
  have HZ2 : w.heap.size + 1 ≤ w2.heap.size := by have := hb.size; omega
  have HB2 : Hid (Below w.heap.size w w2) := HB1.out.trans (hb.mono (by omega))
  have HCA2 := Lib.hid (HCA1.out.on hb)
  clear hb hq hrm hrm' a0 a1 a2
  go_wp2_with fail
  refine (nat_Int _ _ w2 HQ.out).mono ?_
  rw [HI.out.1, HI.out.2]
  rintro e w' ⟨rfl, rfl⟩
  have HIN : Hid (inRB ((rQ r : Int)) = true) := inRB_iff.mpr ⟨by have := HQB.out; omega, by have := HQB.out; omega⟩
  have hqb : (rQ r : Int) ≤ 1125899906842624 := by have := HQB.out; omega
  have hq0 : (0 : Int) ≤ (rQ r : Int) := by omega
  go_wp2_with fail
  refine (rat_inRange _ _).mono ?_
  rw [HIN.out]
  rintro e w' ⟨rfl, rfl⟩
  obtain ⟨⟨a0, -⟩, -⟩ : Cel w2 w.heap.size (.bool (negR r)) (.slice A1 (topL r).length c1) (.slice A2 (botL r).length c2) := HCA2.out
  rw [HS.out] at a0
  go_wp2_with fail
  go_ret2
  rw [HF.out.1, HF.out.2, (rnd_ok (rmag_down r) HQB.out).1, (rnd_ok (rmag_down r) HQB.out).2, HS.out]
  exact ⟨rfl, HB2.out⟩

set_option maxHeartbeats 1600000 in
theorem rat_rounded_exact_true (r : Rat) (hr : fitR r = true) (v : Value) (w : World) (hv : IsR w v r) (hq : rQ r ≤ 1125899906842624) (hrem : rM r = 0) (hs : negR r = true) :
    Calls Try.prog 34 #[v, .bool true] w (fun e w' => e = .returned (.tuple #[.int .i64 (rW true (negR r) (topL r) (botL r)), .int .i64 (opH (fun r => rndE r true) (negR r) (topL r) (botL r))]) ∧ Below w.heap.size w w') := by
  have hqlt := rQ_lt hr
  have HD1 : Hid (limbs (quoN (topL r) (botL r)) = limbs (rQ r)) := by unfold Hid topL botL; rw [quoN_limbs (fitR_iff.mp hr).1 (fitR_iff.mp hr).2 r.den_nz]; rfl
  have HD2 : Hid (limbs (remN (topL r) (botL r)) = limbs (rM r)) := by unfold Hid topL botL; rw [remN_limbs (fitR_iff.mp hr).1 (fitR_iff.mp hr).2 r.den_nz]; rfl
  have HD3 : Hid (divE (topL r) (botL r) = 0) := by unfold Hid topL botL; rw [divE_limbs (fitR_iff.mp hr).1 (fitR_iff.mp hr).2 r.den_nz]
  have HI : Hid (intV (limbs (rQ r)) = (rQ r : Int) ∧ intE (limbs (rQ r)) = 0) := by
    obtain ⟨e1, e2⟩ := intV_limbs hqlt
    exact ⟨by rw [e1]; exact if_pos (by omega), by rw [e2]; exact if_pos (by omega)⟩
  clear hqlt
  have HQB := Lib.hid hq
  have HREM := Lib.hid hrem
  have HS := Lib.hid hs
  have HF : Hid (rW true (negR r) (topL r) (botL r) = rndV r true ∧ opH (fun r => rndE r true) (negR r) (topL r) (botL r) = rndE r true) := ⟨rW_form hr, rE_form hr⟩
  have HR := Lib.hid hr
  have HN1 := Lib.hid (form_val hr).1
  have BR := Lib.hid (fitR_iff.mp hr)
  clear hr
  clear hrem hs
  obtain ⟨vp, vq, rfl, h1, h2⟩ := hv
  obtain ⟨A1, c1, rfl, h1'⟩ := in_open h1
  obtain ⟨A2, c2, rfl, h2'⟩ := in_open h2
  have H1 := Lib.hid h1'
  have H2 := Lib.hid h2'
  have HV := Lib.hid (show InR w (.agg #[.bool (negR r), .slice A1 (topL r).length c1, .slice A2 (botL r).length c2]) (negR r) (topL r) (botL r) from ⟨_, _, rfl, h1', h2'⟩)
  have HCA := Lib.hid (Cel.new w (.bool (negR r)) (.slice A1 (topL r).length c1) (.slice A2 (botL r).length c2) 35)
  have hb0 : ∀ o1, Below w.heap.size w (w.alloc o1) := fun _ => below_alloc _ _
  have hz0 : ∀ o1, (w.alloc o1).heap.size = w.heap.size + 1 := fun _ => by simp
  have HB0 := Lib.hid hb0
  have HZ0 := Lib.hid hz0
  clear h1 h2 h1' h2' hb0 hz0
  go_enter Try.func34, Try.ntmps34
  go_wp2_with fail
  refine (rat_Valid _ _ _ _ _ (HV.out.on (HB0.out _ ))).mono ?_
  rw [HN1.out]
  rintro e w1 ⟨rfl, hb⟩
  have HZ1 : w.heap.size + 1 ≤ w1.heap.size := by have := hb.size; rw [HZ0.out] at this; exact this
  have HB1 : Hid (Below w.heap.size w w1) := (HB0.out _ ).trans (hb.mono (by rw [HZ0.out]; omega))
  have HCA1 := Lib.hid (HCA.out.on hb)
  clear hb
  obtain ⟨⟨a0, a1, a2⟩, -⟩ : Cel w1 w.heap.size (.bool (negR r)) (.slice A1 (topL r).length c1) (.slice A2 (botL r).length c2) := HCA1.out
  go_wp2_with fail
  refine (nat_DivMod_in _ _ _ _ w1 (H1.out.on HB1.out) (H2.out.on HB1.out)).mono ?_
  rintro e w2 ⟨vq, vr, rfl, hq, hrm, hb⟩
  rw [HD1.out] at hq
  rw [HD2.out] at hrm
  rw [HD3.out]
  have HQ := Lib.hid hq
  obtain ⟨X, x, rfl, hrm'⟩ := in_open hrm
  have HZ2 : w.heap.size + 1 ≤ w2.heap.size := by have := hb.size; omega
  have HB2 : Hid (Below w.heap.size w w2) := HB1.out.trans (hb.mono (by omega))
  have HCA2 := Lib.hid (HCA1.out.on hb)
  clear hb hq hrm hrm' a0 a1 a2
  go_wp2_with fail
  refine (nat_Int _ _ w2 HQ.out).mono ?_
  rw [HI.out.1, HI.out.2]
  rintro e w' ⟨rfl, rfl⟩
  have hl : decide (0 < (limbs (rM r)).length) = false := by rw [HREM.out, limbs_zero]; rfl
  have HIN : Hid (inRB ((rQ r : Int)) = true) := inRB_iff.mpr ⟨by have := HQB.out; omega, by have := HQB.out; omega⟩
  have hqb : (rQ r : Int) ≤ 1125899906842624 := by have := HQB.out; omega
  have hq0 : (0 : Int) ≤ (rQ r : Int) := by omega
  go_wp2_with fail
  refine (rat_inRange _ _).mono ?_
  rw [HIN.out]
  rintro e w' ⟨rfl, rfl⟩
  obtain ⟨⟨a0, -⟩, -⟩ : Cel w2 w.heap.size (.bool (negR r)) (.slice A1 (topL r).length c1) (.slice A2 (botL r).length c2) := HCA2.out
  rw [HS.out] at a0
  go_wp2_with fail
  go_ret2
  rw [HF.out.1, HF.out.2, (rnd_ok (rmag_exact HREM.out) HQB.out).1, (rnd_ok (rmag_exact HREM.out) HQB.out).2, HS.out]
  exact ⟨rfl, HB2.out⟩

set_option maxHeartbeats 1600000 in
theorem rat_rounded_exact_false (r : Rat) (hr : fitR r = true) (v : Value) (w : World) (hv : IsR w v r) (hq : rQ r ≤ 1125899906842624) (hrem : rM r = 0) (hs : negR r = false) :
    Calls Try.prog 34 #[v, .bool true] w (fun e w' => e = .returned (.tuple #[.int .i64 (rW true (negR r) (topL r) (botL r)), .int .i64 (opH (fun r => rndE r true) (negR r) (topL r) (botL r))]) ∧ Below w.heap.size w w') := by
  have hqlt := rQ_lt hr
  have HD1 : Hid (limbs (quoN (topL r) (botL r)) = limbs (rQ r)) := by unfold Hid topL botL; rw [quoN_limbs (fitR_iff.mp hr).1 (fitR_iff.mp hr).2 r.den_nz]; rfl
  have HD2 : Hid (limbs (remN (topL r) (botL r)) = limbs (rM r)) := by unfold Hid topL botL; rw [remN_limbs (fitR_iff.mp hr).1 (fitR_iff.mp hr).2 r.den_nz]; rfl
  have HD3 : Hid (divE (topL r) (botL r) = 0) := by unfold Hid topL botL; rw [divE_limbs (fitR_iff.mp hr).1 (fitR_iff.mp hr).2 r.den_nz]
  have HI : Hid (intV (limbs (rQ r)) = (rQ r : Int) ∧ intE (limbs (rQ r)) = 0) := by
    obtain ⟨e1, e2⟩ := intV_limbs hqlt
    exact ⟨by rw [e1]; exact if_pos (by omega), by rw [e2]; exact if_pos (by omega)⟩
  clear hqlt
  have HQB := Lib.hid hq
  have HREM := Lib.hid hrem
  have HS := Lib.hid hs
  have HF : Hid (rW true (negR r) (topL r) (botL r) = rndV r true ∧ opH (fun r => rndE r true) (negR r) (topL r) (botL r) = rndE r true) := ⟨rW_form hr, rE_form hr⟩
  have HR := Lib.hid hr
  have HN1 := Lib.hid (form_val hr).1
  have BR := Lib.hid (fitR_iff.mp hr)
  clear hr
  clear hrem hs
  obtain ⟨vp, vq, rfl, h1, h2⟩ := hv
  obtain ⟨A1, c1, rfl, h1'⟩ := in_open h1
  obtain ⟨A2, c2, rfl, h2'⟩ := in_open h2
  have H1 := Lib.hid h1'
  have H2 := Lib.hid h2'
  have HV := Lib.hid (show InR w (.agg #[.bool (negR r), .slice A1 (topL r).length c1, .slice A2 (botL r).length c2]) (negR r) (topL r) (botL r) from ⟨_, _, rfl, h1', h2'⟩)
  have HCA := Lib.hid (Cel.new w (.bool (negR r)) (.slice A1 (topL r).length c1) (.slice A2 (botL r).length c2) 35)
  have hb0 : ∀ o1, Below w.heap.size w (w.alloc o1) := fun _ => below_alloc _ _
  have hz0 : ∀ o1, (w.alloc o1).heap.size = w.heap.size + 1 := fun _ => by simp
  have HB0 := Lib.hid hb0
  have HZ0 := Lib.hid hz0
  clear h1 h2 h1' h2' hb0 hz0
  go_enter Try.func34, Try.ntmps34
  go_wp2_with fail
  refine (rat_Valid _ _ _ _ _ (HV.out.on (HB0.out _ ))).mono ?_
  rw [HN1.out]
  rintro e w1 ⟨rfl, hb⟩
  have HZ1 : w.heap.size + 1 ≤ w1.heap.size := by have := hb.size; rw [HZ0.out] at this; exact this
  have HB1 : Hid (Below w.heap.size w w1) := (HB0.out _ ).trans (hb.mono (by rw [HZ0.out]; omega))
  have HCA1 := Lib.hid (HCA.out.on hb)
  clear hb
  obtain ⟨⟨a0, a1, a2⟩, -⟩ : Cel w1 w.heap.size (.bool (negR r)) (.slice A1 (topL r).length c1) (.slice A2 (botL r).length c2) := HCA1.out
  go_wp2_with fail
  refine (nat_DivMod_in _ _ _ _ w1 (H1.out.on HB1.out) (H2.out.on HB1.out)).mono ?_
  rintro e w2 ⟨vq, vr, rfl, hq, hrm, hb⟩
  rw [HD1.out] at hq
  rw [HD2.out] at hrm
  rw [HD3.out]
  have HQ := Lib.hid hq
  obtain ⟨X, x, rfl, hrm'⟩ := in_open hrm
  have HZ2 : w.heap.size + 1 ≤ w2.heap.size := by have := hb.size; omega
  have HB2 : Hid (Below w.heap.size w w2) := HB1.out.trans (hb.mono (by omega))
  have HCA2 := Lib.hid (HCA1.out.on hb)
  clear hb hq hrm hrm' a0 a1 a2
  go_wp2_with fail
  refine (nat_Int _ _ w2 HQ.out).mono ?_
  rw [HI.out.1, HI.out.2]
  rintro e w' ⟨rfl, rfl⟩
  have hl : decide (0 < (limbs (rM r)).length) = false := by rw [HREM.out, limbs_zero]; rfl
  have HIN : Hid (inRB ((rQ r : Int)) = true) := inRB_iff.mpr ⟨by have := HQB.out; omega, by have := HQB.out; omega⟩
  have hqb : (rQ r : Int) ≤ 1125899906842624 := by have := HQB.out; omega
  have hq0 : (0 : Int) ≤ (rQ r : Int) := by omega
  go_wp2_with fail
  refine (rat_inRange _ _).mono ?_
  rw [HIN.out]
  rintro e w' ⟨rfl, rfl⟩
  obtain ⟨⟨a0, -⟩, -⟩ : Cel w2 w.heap.size (.bool (negR r)) (.slice A1 (topL r).length c1) (.slice A2 (botL r).length c2) := HCA2.out
  rw [HS.out] at a0
  go_wp2_with fail
  go_ret2
  rw [HF.out.1, HF.out.2, (rnd_ok (rmag_exact HREM.out) HQB.out).1, (rnd_ok (rmag_exact HREM.out) HQB.out).2, HS.out]
  exact ⟨rfl, HB2.out⟩

set_option maxHeartbeats 1600000 in
theorem rat_rounded_up_true (r : Rat) (hr : fitR r = true) (v : Value) (w : World) (hv : IsR w v r) (hq : rQ r + 1 ≤ 1125899906842624) (hrem : 0 < rM r) (hs : negR r = true) :
    Calls Try.prog 34 #[v, .bool true] w (fun e w' => e = .returned (.tuple #[.int .i64 (rW true (negR r) (topL r) (botL r)), .int .i64 (opH (fun r => rndE r true) (negR r) (topL r) (botL r))]) ∧ Below w.heap.size w w') := by
  have hqlt := rQ_lt hr
  have HD1 : Hid (limbs (quoN (topL r) (botL r)) = limbs (rQ r)) := by unfold Hid topL botL; rw [quoN_limbs (fitR_iff.mp hr).1 (fitR_iff.mp hr).2 r.den_nz]; rfl
  have HD2 : Hid (limbs (remN (topL r) (botL r)) = limbs (rM r)) := by unfold Hid topL botL; rw [remN_limbs (fitR_iff.mp hr).1 (fitR_iff.mp hr).2 r.den_nz]; rfl
  have HD3 : Hid (divE (topL r) (botL r) = 0) := by unfold Hid topL botL; rw [divE_limbs (fitR_iff.mp hr).1 (fitR_iff.mp hr).2 r.den_nz]
  have HI : Hid (intV (limbs (rQ r)) = (rQ r : Int) ∧ intE (limbs (rQ r)) = 0) := by
    obtain ⟨e1, e2⟩ := intV_limbs hqlt
    exact ⟨by rw [e1]; exact if_pos (by omega), by rw [e2]; exact if_pos (by omega)⟩
  clear hqlt
  have HQB := Lib.hid hq
  have HREM := Lib.hid hrem
  have HS := Lib.hid hs
  have HF : Hid (rW true (negR r) (topL r) (botL r) = rndV r true ∧ opH (fun r => rndE r true) (negR r) (topL r) (botL r) = rndE r true) := ⟨rW_form hr, rE_form hr⟩
  have HR := Lib.hid hr
  have HN1 := Lib.hid (form_val hr).1
  have BR := Lib.hid (fitR_iff.mp hr)
  clear hr
  clear hrem hs
  obtain ⟨vp, vq, rfl, h1, h2⟩ := hv
  obtain ⟨A1, c1, rfl, h1'⟩ := in_open h1
  obtain ⟨A2, c2, rfl, h2'⟩ := in_open h2
  have H1 := Lib.hid h1'
  have H2 := Lib.hid h2'
  have HV := Lib.hid (show InR w (.agg #[.bool (negR r), .slice A1 (topL r).length c1, .slice A2 (botL r).length c2]) (negR r) (topL r) (botL r) from ⟨_, _, rfl, h1', h2'⟩)
  have HCA := Lib.hid (Cel.new w (.bool (negR r)) (.slice A1 (topL r).length c1) (.slice A2 (botL r).length c2) 35)
  have hb0 : ∀ o1, Below w.heap.size w (w.alloc o1) := fun _ => below_alloc _ _
  have hz0 : ∀ o1, (w.alloc o1).heap.size = w.heap.size + 1 := fun _ => by simp
  have HB0 := Lib.hid hb0
  have HZ0 := Lib.hid hz0
  clear h1 h2 h1' h2' hb0 hz0
  go_enter Try.func34, Try.ntmps34
  go_wp2_with fail
  refine (rat_Valid _ _ _ _ _ (HV.out.on (HB0.out _ ))).mono ?_
  rw [HN1.out]
  rintro e w1 ⟨rfl, hb⟩
  have HZ1 : w.heap.size + 1 ≤ w1.heap.size := by have := hb.size; rw [HZ0.out] at this; exact this
  have HB1 : Hid (Below w.heap.size w w1) := (HB0.out _ ).trans (hb.mono (by rw [HZ0.out]; omega))
  have HCA1 := Lib.hid (HCA.out.on hb)
  clear hb
  obtain ⟨⟨a0, a1, a2⟩, -⟩ : Cel w1 w.heap.size (.bool (negR r)) (.slice A1 (topL r).length c1) (.slice A2 (botL r).length c2) := HCA1.out
  go_wp2_with fail
  refine (nat_DivMod_in _ _ _ _ w1 (H1.out.on HB1.out) (H2.out.on HB1.out)).mono ?_
  rintro e w2 ⟨vq, vr, rfl, hq, hrm, hb⟩
  rw [HD1.out] at hq
  rw [HD2.out] at hrm
  rw [HD3.out]
  have HQ := Lib.hid hq
  obtain ⟨X, x, rfl, hrm'⟩ := in_open hrm
  have HZ2 : w.heap.size + 1 ≤ w2.heap.size := by have := hb.size; omega
  have HB2 : Hid (Below w.heap.size w w2) := HB1.out.trans (hb.mono (by omega))
  have HCA2 := Lib.hid (HCA1.out.on hb)
  clear hb hq hrm hrm' a0 a1 a2
  go_wp2_with fail
  refine (nat_Int _ _ w2 HQ.out).mono ?_
  rw [HI.out.1, HI.out.2]
  rintro e w' ⟨rfl, rfl⟩
  have hl : 0 < (limbs (rM r)).length := limbs_len_pos.mpr (Nat.ne_of_gt HREM.out)
  have HIN : Hid (inRB ((rQ r : Int) + 1) = true) := inRB_iff.mpr ⟨by have := HQB.out; omega, by have := HQB.out; omega⟩
  have hqb : (rQ r : Int) ≤ 1125899906842624 := by have := HQB.out; omega
  have hq0 : (0 : Int) ≤ (rQ r : Int) := by omega
  go_wp2_with fail
  refine (rat_inRange _ _).mono ?_
  rw [HIN.out]
  rintro e w' ⟨rfl, rfl⟩
  obtain ⟨⟨a0, -⟩, -⟩ : Cel w2 w.heap.size (.bool (negR r)) (.slice A1 (topL r).length c1) (.slice A2 (botL r).length c2) := HCA2.out
  rw [HS.out] at a0
  go_wp2_with fail
  go_ret2
  rw [HF.out.1, HF.out.2, (rnd_ok (rmag_away HREM.out) HQB.out).1, (rnd_ok (rmag_away HREM.out) HQB.out).2, HS.out]
  exact ⟨rfl, HB2.out⟩

set_option maxHeartbeats 1600000 in
theorem rat_rounded_up_false (r : Rat) (hr : fitR r = true) (v : Value) (w : World) (hv : IsR w v r) (hq : rQ r + 1 ≤ 1125899906842624) (hrem : 0 < rM r) (hs : negR r = false) :
    Calls Try.prog 34 #[v, .bool true] w (fun e w' => e = .returned (.tuple #[.int .i64 (rW true (negR r) (topL r) (botL r)), .int .i64 (opH (fun r => rndE r true) (negR r) (topL r) (botL r))]) ∧ Below w.heap.size w w') := by
  have hqlt := rQ_lt hr
  have HD1 : Hid (limbs (quoN (topL r) (botL r)) = limbs (rQ r)) := by unfold Hid topL botL; rw [quoN_limbs (fitR_iff.mp hr).1 (fitR_iff.mp hr).2 r.den_nz]; rfl
  have HD2 : Hid (limbs (remN (topL r) (botL r)) = limbs (rM r)) := by unfold Hid topL botL; rw [remN_limbs (fitR_iff.mp hr).1 (fitR_iff.mp hr).2 r.den_nz]; rfl
  have HD3 : Hid (divE (topL r) (botL r) = 0) := by unfold Hid topL botL; rw [divE_limbs (fitR_iff.mp hr).1 (fitR_iff.mp hr).2 r.den_nz]
  have HI : Hid (intV (limbs (rQ r)) = (rQ r : Int) ∧ intE (limbs (rQ r)) = 0) := by
    obtain ⟨e1, e2⟩ := intV_limbs hqlt
    exact ⟨by rw [e1]; exact if_pos (by omega), by rw [e2]; exact if_pos (by omega)⟩
  clear hqlt
  have HQB := Lib.hid hq
  have HREM := Lib.hid hrem
  have HS := Lib.hid hs
  have HF : Hid (rW true (negR r) (topL r) (botL r) = rndV r true ∧ opH (fun r => rndE r true) (negR r) (topL r) (botL r) = rndE r true) := ⟨rW_form hr, rE_form hr⟩
  have HR := Lib.hid hr
  have HN1 := Lib.hid (form_val hr).1
  have BR := Lib.hid (fitR_iff.mp hr)
  clear hr
  clear hrem hs
  obtain ⟨vp, vq, rfl, h1, h2⟩ := hv
  obtain ⟨A1, c1, rfl, h1'⟩ := in_open h1
  obtain ⟨A2, c2, rfl, h2'⟩ := in_open h2
  have H1 := Lib.hid h1'
  have H2 := Lib.hid h2'
  have HV := Lib.hid (show InR w (.agg #[.bool (negR r), .slice A1 (topL r).length c1, .slice A2 (botL r).length c2]) (negR r) (topL r) (botL r) from ⟨_, _, rfl, h1', h2'⟩)
  have HCA := Lib.hid (Cel.new w (.bool (negR r)) (.slice A1 (topL r).length c1) (.slice A2 (botL r).length c2) 35)
  have hb0 : ∀ o1, Below w.heap.size w (w.alloc o1) := fun _ => below_alloc _ _
  have hz0 : ∀ o1, (w.alloc o1).heap.size = w.heap.size + 1 := fun _ => by simp
  have HB0 := Lib.hid hb0
  have HZ0 := Lib.hid hz0
  clear h1 h2 h1' h2' hb0 hz0
  go_enter Try.func34, Try.ntmps34
  go_wp2_with fail
  refine (rat_Valid _ _ _ _ _ (HV.out.on (HB0.out _ ))).mono ?_
  rw [HN1.out]
  rintro e w1 ⟨rfl, hb⟩
  have HZ1 : w.heap.size + 1 ≤ w1.heap.size := by have := hb.size; rw [HZ0.out] at this; exact this
  have HB1 : Hid (Below w.heap.size w w1) := (HB0.out _ ).trans (hb.mono (by rw [HZ0.out]; omega))
  have HCA1 := Lib.hid (HCA.out.on hb)
  clear hb
  obtain ⟨⟨a0, a1, a2⟩, -⟩ : Cel w1 w.heap.size (.bool (negR r)) (.slice A1 (topL r).length c1) (.slice A2 (botL r).length c2) := HCA1.out
  go_wp2_with fail
  refine (nat_DivMod_in _ _ _ _ w1 (H1.out.on HB1.out) (H2.out.on HB1.out)).mono ?_
  rintro e w2 ⟨vq, vr, rfl, hq, hrm, hb⟩
  rw [HD1.out] at hq
  rw [HD2.out] at hrm
  rw [HD3.out]
  have HQ := Lib.hid hq
  obtain ⟨X, x, rfl, hrm'⟩ := in_open hrm
  have HZ2 : w.heap.size + 1 ≤ w2.heap.size := by have := hb.size; omega
  have HB2 : Hid (Below w.heap.size w w2) := HB1.out.trans (hb.mono (by omega))
  have HCA2 := Lib.hid (HCA1.out.on hb)
  clear hb hq hrm hrm' a0 a1 a2
  go_wp2_with fail
  refine (nat_Int _ _ w2 HQ.out).mono ?_
  rw [HI.out.1, HI.out.2]
  rintro e w' ⟨rfl, rfl⟩
  have hl : 0 < (limbs (rM r)).length := limbs_len_pos.mpr (Nat.ne_of_gt HREM.out)
  have HIN : Hid (inRB ((rQ r : Int) + 1) = true) := inRB_iff.mpr ⟨by have := HQB.out; omega, by have := HQB.out; omega⟩
  have hqb : (rQ r : Int) ≤ 1125899906842624 := by have := HQB.out; omega
  have hq0 : (0 : Int) ≤ (rQ r : Int) := by omega
  go_wp2_with fail
  refine (rat_inRange _ _).mono ?_
  rw [HIN.out]
  rintro e w' ⟨rfl, rfl⟩
  obtain ⟨⟨a0, -⟩, -⟩ : Cel w2 w.heap.size (.bool (negR r)) (.slice A1 (topL r).length c1) (.slice A2 (botL r).length c2) := HCA2.out
  rw [HS.out] at a0
  go_wp2_with fail
  go_ret2
  rw [HF.out.1, HF.out.2, (rnd_ok (rmag_away HREM.out) HQB.out).1, (rnd_ok (rmag_away HREM.out) HQB.out).2, HS.out]
  exact ⟨rfl, HB2.out⟩

set_option maxHeartbeats 1600000 in
theorem rat_rounded_over (r : Rat) (hr : fitR r = true) (v : Value) (w : World) (hv : IsR w v r) (hq : rQ r = 1125899906842624) (hrem : 0 < rM r) :
    Calls Try.prog 34 #[v, .bool true] w (fun e w' => e = .returned (.tuple #[.int .i64 (rW true (negR r) (topL r) (botL r)), .int .i64 (opH (fun r => rndE r true) (negR r) (topL r) (botL r))]) ∧ Below w.heap.size w w') := by
  have hqlt := rQ_lt hr
  have HD1 : Hid (limbs (quoN (topL r) (botL r)) = limbs (rQ r)) := by unfold Hid topL botL; rw [quoN_limbs (fitR_iff.mp hr).1 (fitR_iff.mp hr).2 r.den_nz]; rfl
  have HD2 : Hid (limbs (remN (topL r) (botL r)) = limbs (rM r)) := by unfold Hid topL botL; rw [remN_limbs (fitR_iff.mp hr).1 (fitR_iff.mp hr).2 r.den_nz]; rfl
  have HD3 : Hid (divE (topL r) (botL r) = 0) := by unfold Hid topL botL; rw [divE_limbs (fitR_iff.mp hr).1 (fitR_iff.mp hr).2 r.den_nz]
  have HI : Hid (intV (limbs (rQ r)) = (rQ r : Int) ∧ intE (limbs (rQ r)) = 0) := by
    obtain ⟨e1, e2⟩ := intV_limbs hqlt
    exact ⟨by rw [e1]; exact if_pos (by omega), by rw [e2]; exact if_pos (by omega)⟩
  clear hqlt
  have HQB := Lib.hid hq
  have HREM := Lib.hid hrem
  have HF : Hid (rW true (negR r) (topL r) (botL r) = rndV r true ∧ opH (fun r => rndE r true) (negR r) (topL r) (botL r) = rndE r true) := ⟨rW_form hr, rE_form hr⟩
  have HR := Lib.hid hr
  have HN1 := Lib.hid (form_val hr).1
  have BR := Lib.hid (fitR_iff.mp hr)
  clear hr
  clear hrem
  obtain ⟨vp, vq, rfl, h1, h2⟩ := hv
  obtain ⟨A1, c1, rfl, h1'⟩ := in_open h1
  obtain ⟨A2, c2, rfl, h2'⟩ := in_open h2
  have H1 := Lib.hid h1'
  have H2 := Lib.hid h2'
  have HV := Lib.hid (show InR w (.agg #[.bool (negR r), .slice A1 (topL r).length c1, .slice A2 (botL r).length c2]) (negR r) (topL r) (botL r) from ⟨_, _, rfl, h1', h2'⟩)
  have HCA := Lib.hid (Cel.new w (.bool (negR r)) (.slice A1 (topL r).length c1) (.slice A2 (botL r).length c2) 35)
  have hb0 : ∀ o1, Below w.heap.size w (w.alloc o1) := fun _ => below_alloc _ _
  have hz0 : ∀ o1, (w.alloc o1).heap.size = w.heap.size + 1 := fun _ => by simp
  have HB0 := Lib.hid hb0
  have HZ0 := Lib.hid hz0
  clear h1 h2 h1' h2' hb0 hz0
  go_enter Try.func34, Try.ntmps34
  go_wp2_with fail
  refine (rat_Valid _ _ _ _ _ (HV.out.on (HB0.out _ ))).mono ?_
  rw [HN1.out]
  rintro e w1 ⟨rfl, hb⟩
  have HZ1 : w.heap.size + 1 ≤ w1.heap.size := by have := hb.size; rw [HZ0.out] at this; exact this
  have HB1 : Hid (Below w.heap.size w w1) := (HB0.out _ ).trans (hb.mono (by rw [HZ0.out]; omega))
  have HCA1 := Lib.hid (HCA.out.on hb)
  clear hb
  obtain ⟨⟨a0, a1, a2⟩, -⟩ : Cel w1 w.heap.size (.bool (negR r)) (.slice A1 (topL r).length c1) (.slice A2 (botL r).length c2) := HCA1.out
  go_wp2_with fail
  refine (nat_DivMod_in _ _ _ _ w1 (H1.out.on HB1.out) (H2.out.on HB1.out)).mono ?_
  rintro e w2 ⟨vq, vr, rfl, hq, hrm, hb⟩
  rw [HD1.out] at hq
  rw [HD2.out] at hrm
  rw [HD3.out]
  have HQ := Lib.hid hq
  obtain ⟨X, x, rfl, hrm'⟩ := in_open hrm
  have HZ2 : w.heap.size + 1 ≤ w2.heap.size := by have := hb.size; omega
  have HB2 : Hid (Below w.heap.size w w2) := HB1.out.trans (hb.mono (by omega))
  have HCA2 := Lib.hid (HCA1.out.on hb)
  clear hb hq hrm hrm' a0 a1 a2
  go_wp2_with fail
  refine (nat_Int _ _ w2 HQ.out).mono ?_
  rw [HI.out.1, HI.out.2]
  rintro e w' ⟨rfl, rfl⟩
  have hl : 0 < (limbs (rM r)).length := limbs_len_pos.mpr (Nat.ne_of_gt HREM.out)
  have hqe : (rQ r : Int) = 1125899906842624 := by have := HQB.out; omega
  have HIN : Hid (inRB 1125899906842625 = false) := rfl
  rw [hqe]
  clear hqe
  go_wp2_with fail
  refine (rat_inRange _ _).mono ?_
  rw [HIN.out]
  rintro e w' ⟨rfl, rfl⟩
  go_wp2_with fail
  go_ret2
  rw [HF.out.1, HF.out.2, (rnd_big (by rw [rmag_away HREM.out, HQB.out]; decide)).1, (rnd_big (by rw [rmag_away HREM.out, HQB.out]; decide)).2]
  exact ⟨rfl, HB2.out⟩

theorem rat_rounded (b : Bool) (xs ys : List Int) (v : Value) (w : World) (hv : InR w v b xs ys) (away : Bool) :
    Calls Try.prog 34 #[v, .bool away] w (fun e w' => e = .returned (.tuple #[.int .i64 (rW away b xs ys), .int .i64 (opH (fun r => rndE r away) b xs ys)]) ∧ Below w.heap.size w w') := by
  rcases bcase (valR b xs ys) with h | h
  · obtain ⟨r, hr, rfl, rfl, rfl⟩ := val_form h
    rcases Nat.lt_or_ge 1125899906842624 (rQ r) with hq | hq
    · exact rat_rounded_big away r hr v w hv hq
    · rcases bcase away with ha | ha
      · subst ha
        rcases Nat.eq_zero_or_pos (rM r) with hm | hm
        · rcases bcase (negR r) with hs | hs
          · exact rat_rounded_exact_true r hr v w hv hq hm hs
          · exact rat_rounded_exact_false r hr v w hv hq hm hs
        · rcases Nat.eq_or_lt_of_le hq with he | hl
          · exact rat_rounded_over r hr v w hv he hm
          · rcases bcase (negR r) with hs | hs
            · exact rat_rounded_up_true r hr v w hv hl hm hs
            · exact rat_rounded_up_false r hr v w hv hl hm hs
      · subst ha
        rcases bcase (negR r) with hs | hs
        · exact rat_rounded_down_true r hr v w hv hq hs
        · exact rat_rounded_down_false r hr v w hv hq hs
  · exact rat_rounded_no b xs ys v w hv away h

end Go.Proofs.Ytdolhanniiejfaa
/- Contracts of Floor, Ceil of rat and of its reference. -/
namespace Go.Proofs.Ytdolhanniiejfaa
open Go.ChangeShapes Go.WideShapes Go.RowKit
set_option linter.unusedVariables false
set_option maxRecDepth 100000

def floorV (b : Bool) (xs ys : List Int) : Int := rW b b xs ys
def floorE (b : Bool) (xs ys : List Int) : Int := opH (fun r => rndE r b) b xs ys
def ceilV (b : Bool) (xs ys : List Int) : Int := rW (!b) b xs ys
def ceilE (b : Bool) (xs ys : List Int) : Int := opH (fun r => rndE r (!b)) b xs ys
theorem rmag_neg (r : Rat) (away : Bool) : rmag (-r) away = rmag r away := by
  unfold rmag rQ rM; rw [(neg_parts r).1, (neg_parts r).2, Int.natAbs_neg]
theorem rmag_zero {r : Rat} (h : r.num = 0) (away : Bool) : rmag r away = 0 := by unfold rmag rQ rM; rw [h]; cases away <;> simp
theorem negR_neg_zero {r : Rat} (h : r.num = 0) : negR (-r) = false ∧ negR r = false := by
  unfold negR; rw [(neg_parts r).1, h]; exact ⟨rfl, rfl⟩
theorem negR_neg {r : Rat} (h : r.num ≠ 0) : negR (-r) = !negR r := by
  rw [(neg_form r).1, decide_eq_true (show 0 < r.num.natAbs by omega), Bool.and_true]
/-- The least integer above is the negative of the greatest one below the negative. -/
theorem ceil_neg (r : Rat) : -(rndV (-r) (negR (-r))) = rndV r (!negR r) ∧ rndE (-r) (negR (-r)) = rndE r (!negR r) := by
  unfold rndV rndE
  rw [rmag_neg]
  by_cases h : r.num = 0
  · rw [rmag_zero h, rmag_zero h, (negR_neg_zero h).1, (negR_neg_zero h).2]; exact ⟨by decide, rfl⟩
  · rw [negR_neg h]
    refine ⟨?_, rfl⟩
    split
    · cases negR r <;> simp [sgI]
    · rfl
theorem rndV_bd (r : Rat) (away : Bool) : -1125899906842624 ≤ rndV r away ∧ rndV r away ≤ 1125899906842624 := by
  unfold rndV
  split
  · unfold sgI; split <;> omega
  · omega

set_option maxHeartbeats 1600000 in
theorem rat_Floor (b : Bool) (xs ys : List Int) (v : Value) (w : World) (hv : InR w v b xs ys) :
    Calls Try.prog 21 #[v] w (fun e w' => e = .returned (.tuple #[.int .i64 (floorV b xs ys), .int .i64 (floorE b xs ys)]) ∧ Below w.heap.size w w') := by
  obtain ⟨vp, vq, rfl, h1, h2⟩ := hv
  obtain ⟨A1, c1, rfl, h1'⟩ := in_open h1
  obtain ⟨A2, c2, rfl, h2'⟩ := in_open h2
  have H1 := Lib.hid h1'
  have H2 := Lib.hid h2'
  have HV := Lib.hid (show InR w (.agg #[.bool b, .slice A1 xs.length c1, .slice A2 ys.length c2]) b xs ys from ⟨_, _, rfl, h1', h2'⟩)
  have HCA := Lib.hid (Cel.new w (.bool b) (.slice A1 xs.length c1) (.slice A2 ys.length c2) 35)
  have hb0 : ∀ o1, Below w.heap.size w (w.alloc o1) := fun _ => below_alloc _ _
  have hz0 : ∀ o1, (w.alloc o1).heap.size = w.heap.size + 1 := fun _ => by simp
  have HB0 := Lib.hid hb0
  have HZ0 := Lib.hid hz0
  clear h1 h2 h1' h2' hb0 hz0
  obtain ⟨⟨a0, a1, a2⟩, -⟩ := HCA.out
  go_enter Try.func21, Try.ntmps21
  go_wp2_with fail
  refine (rat_rounded b xs ys _ _ (HV.out.on (HB0.out _)) b).mono ?_
  rintro e w1 ⟨rfl, hb⟩
  have HB1 : Hid (Below w.heap.size w w1) := (HB0.out _).trans (hb.mono (by rw [HZ0.out]; omega))
  clear hb
  go_wp2_with fail
  go_ret2
  exact ⟨rfl, HB1.out⟩

set_option maxHeartbeats 1600000 in
theorem rat_Ceil (b : Bool) (xs ys : List Int) (v : Value) (w : World) (hv : InR w v b xs ys) :
    Calls Try.prog 22 #[v] w (fun e w' => e = .returned (.tuple #[.int .i64 (ceilV b xs ys), .int .i64 (ceilE b xs ys)]) ∧ Below w.heap.size w w') := by
  obtain ⟨vp, vq, rfl, h1, h2⟩ := hv
  obtain ⟨A1, c1, rfl, h1'⟩ := in_open h1
  obtain ⟨A2, c2, rfl, h2'⟩ := in_open h2
  have H1 := Lib.hid h1'
  have H2 := Lib.hid h2'
  have HV := Lib.hid (show InR w (.agg #[.bool b, .slice A1 xs.length c1, .slice A2 ys.length c2]) b xs ys from ⟨_, _, rfl, h1', h2'⟩)
  have HCA := Lib.hid (Cel.new w (.bool b) (.slice A1 xs.length c1) (.slice A2 ys.length c2) 35)
  have hb0 : ∀ o1, Below w.heap.size w (w.alloc o1) := fun _ => below_alloc _ _
  have hz0 : ∀ o1, (w.alloc o1).heap.size = w.heap.size + 1 := fun _ => by simp
  have HB0 := Lib.hid hb0
  have HZ0 := Lib.hid hz0
  clear h1 h2 h1' h2' hb0 hz0
  obtain ⟨⟨a0, a1, a2⟩, -⟩ := HCA.out
  go_enter Try.func22, Try.ntmps22
  go_wp2_with fail
  refine (rat_rounded b xs ys _ _ (HV.out.on (HB0.out _)) (!b)).mono ?_
  rintro e w1 ⟨rfl, hb⟩
  have HB1 : Hid (Below w.heap.size w w1) := (HB0.out _).trans (hb.mono (by rw [HZ0.out]; omega))
  clear hb
  go_wp2_with fail
  go_ret2
  exact ⟨rfl, HB1.out⟩

end Go.Proofs.Ytdolhanniiejfaa
/- Exact shares as rational numbers; exact of the laws. -/
namespace Go.Proofs.Ytdolhanniiejfaa.Share
open Go.ChangeShapes Go.WideShapes Go.RowKit Go.Lib
set_option linter.unusedVariables false
set_option maxRecDepth 100000

/-! ### Pure -/
theorem mk_parts (n d : Nat) (hd : 0 < d) : ∃ g, 0 < g ∧ n = (mkRat (n : Int) d).num.natAbs * g ∧ d = (mkRat (n : Int) d).den * g ∧ 0 ≤ (mkRat (n : Int) d).num := by
  obtain ⟨r, hr⟩ : ∃ r, r = mkRat (n : Int) d := ⟨_, rfl⟩
  obtain ⟨m, hm, h1, h2⟩ := Rat.mkRat_num_den (d := d) (n := (n : Int)) (n' := r.num) (d' := r.den) (z' := r.den_nz) (c := r.reduced) (by omega) (by rw [hr])
  rw [← hr]
  have h0 : 0 ≤ r.num := by
    rcases Int.lt_or_le r.num 0 with h | h
    · have : r.num * (m : Int) < 0 := Int.mul_neg_of_neg_of_pos h (by omega)
      omega
    · exact h
  refine ⟨m, by omega, ?_, h2, h0⟩
  obtain ⟨k, hk⟩ := Int.eq_ofNat_of_zero_le h0
  rw [hk] at h1 ⊢
  have : (n : Int) = ((k * m : Nat) : Int) := by rw [h1]; simp
  simp only [Int.natAbs_natCast]
  omega
theorem big_100 {a b : Nat} (ha : a ≤ 1125899906842624) (hb : b ≤ 1125899906842624) : a * b < big48 := by
  have h1 : a * b ≤ 1125899906842624 * 1125899906842624 := Nat.mul_le_mul ha hb
  have h2 : 1000000000 ^ 4 ≤ big48 := Nat.pow_le_pow_right (by decide) (by decide)
  have h3 : (1000000000 : Nat) ^ 4 = 1000000000000000000000000000000000000 := by decide
  omega
/-- The exact share. -/
def exR (T x W : Nat) : Rat := mkRat ((T * x : Nat) : Int) W
section
variable {T x W : Nat}
theorem mkV_nat (n d : Nat) : mkV (n : Int) (d : Int) = mkRat (n : Int) d := by
  unfold mkV mkNeg sgI
  rw [decide_eq_false (by omega), decide_eq_false (by omega)]
  simp
theorem exR_is : mkV (T : Int) 1 * mkV (x : Int) (W : Int) = exR T x W := by
  have h1 : mkV (T : Int) 1 = mkRat (T : Int) 1 := mkV_nat T 1
  rw [h1, mkV_nat, Rat.mkRat_mul_mkRat]
  unfold exR
  simp
theorem fit_small {n d : Nat} (hd : 0 < d) (hn : n ≤ 1125899906842624) (hd2 : d ≤ 1125899906842624) : (mkRat (n : Int) d).num.natAbs ≤ 1125899906842624 ∧ (mkRat (n : Int) d).den ≤ 1125899906842624 := by
  obtain ⟨g, hg, h1, h2, _⟩ := mk_parts n d hd
  have e1 : (mkRat (n : Int) d).num.natAbs ≤ (mkRat (n : Int) d).num.natAbs * g := Nat.le_mul_of_pos_right _ hg
  have e2 : (mkRat (n : Int) d).den ≤ (mkRat (n : Int) d).den * g := Nat.le_mul_of_pos_right _ hg
  omega
theorem exR_mulOk (hW : 0 < W) (hT : T ≤ 1125899906842624) (hx : x ≤ W) (hW2 : W ≤ 1125899906842624) : mulOk (mkV (T : Int) 1) (mkV (x : Int) (W : Int)) = true ∧ fitR (mkV (T : Int) 1) = true ∧ fitR (mkV (x : Int) (W : Int)) = true := by
  have a := fit_small (n := T) (d := 1) (by omega) hT (by omega)
  have b := fit_small (n := x) (d := W) hW (by omega) hW2
  have h1 : mkV (T : Int) 1 = mkRat (T : Int) 1 := mkV_nat T 1
  rw [h1, mkV_nat]
  refine ⟨?_, ?_, ?_⟩
  · unfold mulOk
    rw [decide_eq_true (big_100 a.1 b.1), decide_eq_true (big_100 a.2 b.2)]; rfl
  · rw [fitR_iff]; exact ⟨small48 a.1, small48 a.2⟩
  · rw [fitR_iff]; exact ⟨small48 b.1, small48 b.2⟩
theorem exR_round (hW : 0 < W) (hT : T ≤ 1125899906842624) (hx : x ≤ W) (hW2 : W ≤ 1125899906842624) : fitR (exR T x W) = true ∧ rndV (exR T x W) (negR (exR T x W)) = ((T * x / W : Nat) : Int) ∧ rndE (exR T x W) (negR (exR T x W)) = 0 ∧
    rndV (exR T x W) (!negR (exR T x W)) = ((T * x / W + (if T * x % W = 0 then 0 else 1) : Nat) : Int) ∧ rndE (exR T x W) (!negR (exR T x W)) = 0 := by
  obtain ⟨g, hg, h1, h2, h0⟩ := mk_parts (T * x) W hW
  obtain ⟨r, hr⟩ : ∃ r, r = exR T x W := ⟨_, rfl⟩
  have hr' : mkRat ((T * x : Nat) : Int) W = r := hr.symm
  rw [hr'] at h1 h2 h0
  rw [← hr]
  have hn : negR r = false := by unfold negR; exact decide_eq_false (by omega)
  have hq : rQ r = T * x / W := by
    unfold rQ
    rw [h1]
    conv => rhs; rw [h2]
    rw [Nat.mul_div_mul_right _ _ hg]
  have hm : T * x % W = rM r * g := by
    unfold rM
    rw [h1]
    conv => lhs; rw [h2]
    rw [Nat.mul_mod_mul_right]
  have hqT : T * x / W ≤ T := Nat.div_le_of_le_mul (by rw [Nat.mul_comm W T]; exact Nat.mul_le_mul_left _ hx)
  have e1 : r.num.natAbs ≤ r.num.natAbs * g := Nat.le_mul_of_pos_right _ hg
  have e2 : r.den ≤ r.den * g := Nat.le_mul_of_pos_right _ hg
  have hfit : fitR r = true := by
    rw [fitR_iff]
    refine ⟨Nat.lt_of_le_of_lt e1 ?_, Nat.lt_of_le_of_lt e2 ?_⟩
    · rw [← h1]; exact big_100 hT (by omega)
    · rw [← h2]; exact small48 hW2
  have hfl := rnd_ok (r := r) (away := negR r) (n := T * x / W) (by rw [hn, rmag_down, hq]) (by omega)
  have hce := rnd_ok (r := r) (away := !negR r) (n := T * x / W + (if T * x % W = 0 then 0 else 1)) (by
    rw [hn]
    by_cases hz : T * x % W = 0
    · rw [if_pos hz]
      have : rM r = 0 := by
        rcases Nat.eq_zero_or_pos (rM r) with h | h
        · exact h
        · have := Nat.mul_pos h hg; omega
      rw [rmag_exact this, hq]; rfl
    · rw [if_neg hz]
      have : 0 < rM r := by
        rcases Nat.eq_zero_or_pos (rM r) with h | h
        · rw [h, Nat.zero_mul] at hm; exact absurd hm hz
        · exact h
      show rmag r true = _
      rw [rmag_away this, hq]) (by
    by_cases hz : T * x % W = 0
    · rw [if_pos hz]; omega
    · rw [if_neg hz]
      have : T * x / W < T := by
        have hxW : x < W := by
          rcases Nat.lt_or_ge x W with h | h
          · exact h
          · obtain rfl : x = W := by omega
            rw [Nat.mul_mod_left] at hz; exact absurd rfl hz
        have hT0 : 0 < T := by
          rcases Nat.eq_zero_or_pos T with h | h
          · rw [h, Nat.zero_mul, Nat.zero_mod] at hz; exact absurd rfl hz
          · exact h
        rw [Nat.div_lt_iff_lt_mul hW]
        exact Nat.mul_lt_mul_of_pos_left hxW hT0
      omega)
  have hsg : ∀ n : Nat, sgI (negR r) n = (n : Int) := fun n => by rw [hn]; rfl
  exact ⟨hfit, hfl.1.trans (hsg _), hfl.2, hce.1.trans (hsg _), hce.2⟩
end

/-! ### The calls -/
theorem OutR.is {w : World} {v : Value} {r : Rat} (ho : OutR w v 0 r) : IsR w v r := by unfold OutR at ho; rw [if_pos rfl] at ho; exact ho
theorem of_run {T : Nat} (hT : T ≤ 1125899906842624) (w : World) : Calls Try.prog 31 #[.int .i64 (T : Int)] w (RRes w 0 (mkV (T : Int) 1)) := by
  have k := rat_Of (T : Int) w (by omega) (by omega)
  rw [mkE_4 (inRB_iff.mpr (by omega)) (by decide) (by decide)] at k; exact k
theorem make_run {x W : Nat} (hW : 0 < W) (hx : x ≤ W) (hW2 : W ≤ 1125899906842624) (w : World) : Calls Try.prog 32 #[.int .i64 (x : Int), .int .i64 (W : Int)] w (RRes w 0 (mkV (x : Int) (W : Int))) := by
  have k := rat_Make (x : Int) (W : Int) w (by omega) (by omega) (by omega) (by omega)
  rw [mkE_4 (inRB_iff.mpr (by omega)) (inRB_iff.mpr (by omega)) (by omega)] at k; exact k
theorem mul_run {T x W : Nat} (hW : 0 < W) (hT : T ≤ 1125899906842624) (hx : x ≤ W) (hW2 : W ≤ 1125899906842624) (v u : Value) (w : World) (hv : IsR w v (mkV (T : Int) 1)) (hu : IsR w u (mkV (x : Int) (W : Int))) :
    Calls Try.prog 33 #[v, u] w (RRes w 0 (exR T x W)) := by
  have h := rat_Mul _ _ _ _ _ _ v u w hv hu
  obtain ⟨h1, h2, h3⟩ := exR_mulOk (T := T) hW hT hx hW2
  rw [(op_form (ok := mulOk) (f := mulOp) h2 h3).1, (op_form (ok := mulOk) (f := mulOp) h2 h3).2, h1, show mulOp (mkV (T : Int) 1) (mkV (x : Int) (W : Int)) = exR T x W from exR_is] at h
  exact h
theorem floor_run {T x W : Nat} (hW : 0 < W) (hT : T ≤ 1125899906842624) (hx : x ≤ W) (hW2 : W ≤ 1125899906842624) (v : Value) (w : World) (hv : IsR w v (exR T x W)) :
    Calls Try.prog 21 #[v] w fun e w' => e = .returned (.tuple #[.int .i64 ((T * x / W : Nat) : Int), .int .i64 0]) ∧ Below w.heap.size w w' := by
  obtain ⟨h1, h2, h3, _⟩ := exR_round (T := T) hW hT hx hW2
  have h := rat_Floor _ _ _ v w hv
  rw [floorV, floorE, rW_form h1, rE_form h1, h2, h3] at h
  exact h
theorem ceil_run {T x W : Nat} (hW : 0 < W) (hT : T ≤ 1125899906842624) (hx : x ≤ W) (hW2 : W ≤ 1125899906842624) (v : Value) (w : World) (hv : IsR w v (exR T x W)) :
    Calls Try.prog 22 #[v] w fun e w' => e = .returned (.tuple #[.int .i64 ((T * x / W + (if T * x % W = 0 then 0 else 1) : Nat) : Int), .int .i64 0]) ∧ Below w.heap.size w w' := by
  obtain ⟨h1, _, _, h2, h3⟩ := exR_round (T := T) hW hT hx hW2
  have h := rat_Ceil _ _ _ v w hv
  rw [ceilV, ceilE, rW_form h1, rE_form h1, h2, h3] at h
  exact h
end Go.Proofs.Ytdolhanniiejfaa.Share
/- exact of the laws; the walk of ShareFair. -/
namespace Go.Proofs.Ytdolhanniiejfaa.Share
open Go.ChangeShapes Go.WideShapes Go.RowKit Go.Lib Go.Proofs.Ytdolhanniiejfaa.Mem
set_option linter.unusedVariables false
set_option maxRecDepth 100000

abbrev TR : TypeId := 35
set_option maxHeartbeats 3200000 in
theorem exact_run {T x W : Nat} (hW : 0 < W) (hT : T ≤ 1125899906842624) (hx : x ≤ W) (hW2 : W ≤ 1125899906842624) (w : World) :
    Calls Try.prog 20 #[.int .i64 (T : Int), .int .i64 (x : Int), .int .i64 (W : Int)] w fun e w' => ∃ b A n c B m d, e = .returned (.tuple #[.agg #[.bool b, .slice A n c, .slice B m d], .bool true]) ∧ IsR w' (.agg #[.bool b, .slice A n c, .slice B m d]) (exR T x W) ∧ Below w.heap.size w w' := by
  have HOF := Lib.hid (fun W' => of_run hT W')
  have HMK := Lib.hid (fun W' => make_run hW hx hW2 W')
  have HMU := Lib.hid (fun v u W' => mul_run hW hT hx hW2 v u W')
  obtain ⟨rT, hrT⟩ : ∃ r, r = mkV (T : Int) 1 := ⟨_, rfl⟩
  obtain ⟨rX, hrX⟩ : ∃ r, r = mkV (x : Int) (W : Int) := ⟨_, rfl⟩
  obtain ⟨rR, hrR⟩ : ∃ r, r = exR T x W := ⟨_, rfl⟩
  rw [← hrT] at HOF HMU
  rw [← hrX] at HMK HMU
  rw [← hrR] at HMU ⊢
  clear hW hT hx hW2 hrT hrX hrR
  go_enter Try.func20, Try.ntmps20
  go_upto_region 1 with fail
  have HC0 := Lib.hid (Cel.new w (.bool false) (.slice none 0 0) (.slice none 0 0) TR)
  have HB0 := Lib.hid (below_alloc w (.cells #[.bool false, .slice none 0 0, .slice none 0 0] TR))
  obtain ⟨w0, hw0⟩ : ∃ W, w.alloc (.cells #[.bool false, .slice none 0 0, .slice none 0 0] TR) = W := ⟨_, rfl⟩
  obtain ⟨g0, hg0⟩ : ∃ g, w.heap.size = g := ⟨_, rfl⟩
  rw [hw0] at HC0 HB0 ⊢
  rw [hg0] at HC0 HB0 ⊢
  have HG0 := Lib.hid hg0
  clear hw0 hg0
  go_wp2_with fail
  refine (HOF.out w0).mono ?_
  intro e w1 h1
  obtain ⟨b1, A1, n1, c1, B1, m1, d1, rfl, ho1, hb1⟩ := h1.open_
  have HV1 := Lib.hid (OutR.is ho1)
  have HB1 : Hid (Below g0 w w1) := HB0.out.trans (hb1.mono (by have := HC0.out.lt; omega))
  have HC01 := Lib.hid (HC0.out.on hb1)
  clear h1 ho1 hb1
  go_upto_region 2 with fail
  have HC1 := Lib.hid (Cel.new w1 (.bool b1) (.slice A1 n1 c1) (.slice B1 m1 d1) TR)
  have HBA := Lib.hid (below_alloc w1 (.cells #[.bool b1, .slice A1 n1 c1, .slice B1 m1 d1] TR))
  obtain ⟨w2, hw2⟩ : ∃ W, w1.alloc (.cells #[.bool b1, .slice A1 n1 c1, .slice B1 m1 d1] TR) = W := ⟨_, rfl⟩
  obtain ⟨g1, hg1⟩ : ∃ g, w1.heap.size = g := ⟨_, rfl⟩
  rw [hw2] at HC1 HBA ⊢
  rw [hg1] at HC1 ⊢
  have HV2 := Lib.hid (HV1.out.on HBA.out)
  have HC02 := Lib.hid (HC01.out.on HBA.out)
  have HB2 : Hid (Below g0 w w2) := HB1.out.trans (HBA.out.mono (by have := HC01.out.lt; omega))
  clear hw2 hg1 HV1 HC01 HBA
  go_wp2_with fail
  refine (HMK.out w2).mono ?_
  intro e w3 h3
  obtain ⟨b3, A3, n3, c3, B3, m3, d3, rfl, ho3, hb3⟩ := h3.open_
  have HU3 := Lib.hid (OutR.is ho3)
  have HV3 := Lib.hid (HV2.out.on hb3)
  have HC03 := Lib.hid (HC02.out.on hb3)
  have HC13 := Lib.hid (HC1.out.on hb3)
  have HB3 : Hid (Below g0 w w3) := HB2.out.trans (hb3.mono (by have := HC02.out.lt; omega))
  clear h3 ho3 hb3
  go_upto_region 3 with fail
  have HC3 := Lib.hid (Cel.new w3 (.bool b3) (.slice A3 n3 c3) (.slice B3 m3 d3) TR)
  have HBB := Lib.hid (below_alloc w3 (.cells #[.bool b3, .slice A3 n3 c3, .slice B3 m3 d3] TR))
  obtain ⟨w4, hw4⟩ : ∃ W, w3.alloc (.cells #[.bool b3, .slice A3 n3 c3, .slice B3 m3 d3] TR) = W := ⟨_, rfl⟩
  obtain ⟨g3, hg3⟩ : ∃ g, w3.heap.size = g := ⟨_, rfl⟩
  rw [hw4] at HC3 HBB ⊢
  rw [hg3] at HC3 ⊢
  have HV4 := Lib.hid (HV3.out.on HBB.out)
  have HU4 := Lib.hid (HU3.out.on HBB.out)
  have HC04 := Lib.hid (HC03.out.on HBB.out)
  have HC14 := Lib.hid (HC13.out.on HBB.out)
  have HB4 : Hid (Below g0 w w4) := HB3.out.trans (HBB.out.mono (by have := HC03.out.lt; omega))
  clear hw4 hg3 HV3 HU3 HC03 HC13 HBB
  obtain ⟨⟨x0, x1, x2⟩, -⟩ := HC14.out
  obtain ⟨⟨y0, y1, y2⟩, -⟩ := HC3.out
  have HMM := Lib.hid (HMU.out _ _ w4 HV4.out HU4.out)
  go_wp2_with fail
  refine HMM.out.mono ?_
  intro e w5 h5
  obtain ⟨b5, A5, n5, c5, B5, m5, d5, rfl, ho5, hb5⟩ := h5.open_
  have HO5 := Lib.hid ho5
  have HC05 := Lib.hid (HC04.out.on hb5)
  have HB5 : Hid (Below g0 w w5) := HB4.out.trans (hb5.mono (by have := HC04.out.lt; omega))
  clear h5 ho5 hb5 x0 x1 x2 y0 y1 y2
  go_upto_region 4 with fail
  have HC5 := Lib.hid (Cel.new w5 (.bool b5) (.slice A5 n5 c5) (.slice B5 m5 d5) TR)
  have HBC := Lib.hid (below_alloc w5 (.cells #[.bool b5, .slice A5 n5 c5, .slice B5 m5 d5] TR))
  obtain ⟨w6, hw6⟩ : ∃ W, w5.alloc (.cells #[.bool b5, .slice A5 n5 c5, .slice B5 m5 d5] TR) = W := ⟨_, rfl⟩
  obtain ⟨g5, hg5⟩ : ∃ g, w5.heap.size = g := ⟨_, rfl⟩
  rw [hw6] at HC5 HBC ⊢
  rw [hg5] at HC5 ⊢
  have HO6 := Lib.hid (show OutR w6 (.agg #[.bool b5, .slice A5 n5 c5, .slice B5 m5 d5]) 0 rR from OutR.ok ((OutR.is HO5.out).on HBC.out))
  have HC06 := Lib.hid (HC05.out.on HBC.out)
  have HB6 : Hid (Below g0 w w6) := HB5.out.trans (HBC.out.mono (by have := HC05.out.lt; omega))
  clear hw6 hg5 HO5 HC05 HBC
  have HRR := Lib.hid (HC06.out.put3 (.bool b5) (.slice A5 n5 c5) (.slice B5 m5 d5))
  obtain ⟨⟨z0, z1, z2⟩, -⟩ := HC5.out
  obtain ⟨⟨k0, k1, k2⟩, f0, f1, f2⟩ := HC06.out
  go_wp2_with fail
  obtain ⟨⟨r0, r1, r2⟩, -⟩ := HRR.out
  refine bodyPost_ret (v := .tuple #[.agg #[.bool b5, .slice A5 n5 c5, .slice B5 m5 d5], .bool true]) (by simp only [put3] at r0 r1 r2; simp [results, Try.results20, go_sem, r0, r1, r2]) rfl ?_
  exact ⟨_, _, _, _, _, _, _, rfl, OutR.is (HO6.out.put3 HC06.out _ _ _), by rw [HG0.out]; exact below_put3 HB6.out (Nat.le_refl _) _ _ _⟩
end Go.Proofs.Ytdolhanniiejfaa.Share
/- The walk of ShareFair. -/
namespace Go.Proofs.Ytdolhanniiejfaa.Share
open Go.ChangeShapes Go.WideShapes Go.RowKit Go.Lib Go.Proofs.Ytdolhanniiejfaa.Mem
set_option linter.unusedVariables false
set_option maxRecDepth 100000

theorem splL_at {t : Int} {ws : List Int} (h : errS t ws = 0) {i : Nat} {p : Int} (hp : (splL t ws)[i]? = some p) : p = (part t.toNat (wf ws) ws.length i : Int) := by
  have e : splL t ws = lst (fun i => (part t.toNat (wf ws) ws.length i : Int)) ws.length := by unfold splL; rw [if_pos h]; rfl
  rw [e] at hp
  have hi : i < ws.length := by have := lt_of_get hp; rwa [lst_len] at this
  rw [lst_at _ hi] at hp
  exact (Option.some.inj hp).symm

set_option maxHeartbeats 6400000 in
theorem walk_ShareFair (w : World) (t : Int) (B : Option Addr) (m d : Nat) (ws : List Int) (k : InInts .i64 w B m d ws) :
    Calls Try.prog 6 #[.int .i64 t, .slice B m d] w fun e w' => e = .returned (.bool true) ∧ Below w.heap.size w w' := by
  obtain ⟨kcl, km, kl⟩ := in_cl k
  clear k
  rcases Nat.lt_or_ge 40 m with hbig | hle
  · have i1 : (40 : Int) < (m : Int) := by omega
    have i2 : 40 < m := hbig
    clear kcl km hbig
    go_enter Try.func6, Try.ntmps6
    go_wp2_with fail
    refine (share_awake _).mono ?_
    rintro e w1 ⟨rfl, hb⟩
    have HB := Lib.hid hb
    clear hb
    go_wp2_with fail
    go_ret
    exact ⟨rfl, HB.out⟩
  · have HA := Lib.hid kcl
    have HM := Lib.hid km
    have i1 : ¬ (40 : Int) < (m : Int) := by omega
    have i2 : ¬ 40 < m := by omega
    have HSP := Lib.hid (split_n t ws m km B d w kcl kl)
    clear kcl km
    by_cases hE : errS t ws = 0
    · rw [hE] at HSP
      have ok := Ok.of hE
      have HOK := Lib.hid ok
      have hz0 : ((0 : Nat) : Int) = 0 := rfl
      obtain ⟨T, hT⟩ : ∃ T : Nat, T = t.toNat := ⟨_, rfl⟩
      have ht : t = (T : Int) := by have := ok.t0; omega
      have HTM : Hid (T ≤ 1125899906842624) := (by have h1 := ok.t1; have hm : mx = 1125899906842624 := rfl; omega : T ≤ 1125899906842624)
      obtain ⟨W, hW⟩ : ∃ W, W = Share.tw (wf ws) ws.length := ⟨_, rfl⟩
      obtain ⟨y, hy⟩ : ∃ y, y = wf ws := ⟨_, rfl⟩
      obtain ⟨f, hf⟩ : ∃ f, f = part t.toNat (wf ws) ws.length := ⟨_, rfl⟩
      have HWM : Hid (W ≤ 1125899906842624 ∧ sumK ws ws.length = (W : Int)) := by
        have h1 := ok.sum; have h2 := ok.twI; have hm : mx = 1125899906842624 := rfl
        exact ⟨by omega, by rw [hW]; exact h2.symm⟩
      obtain ⟨L, hL⟩ : ∃ L, L = splL t ws := ⟨_, rfl⟩
      have HLL := Lib.hid (show L.length = m by rw [hL, splL_len hE, ← HM.out])
      have HWS := Lib.hid (show ∀ (i : Nat) (z : Int), ws[i]? = some z → z = (y i : Int) ∧ y i ≤ W from fun i z hz => ⟨by rw [hy]; exact (wf_at hz (ok.all z (List.mem_of_getElem? hz)).1).symm, by rw [hy, hW]; exact ok.w_le (lt_of_get hz)⟩)
      have HLS := Lib.hid (show ∀ (i : Nat) (p : Int), L[i]? = some p → p = (f i : Int) ∧ f i ≤ T from fun i p hp => by
        have h1 := splL_at hE (i := i) (p := p) (by rw [← hL]; exact hp)
        have h2 : i < ws.length := by have := lt_of_get hp; rw [hL, splL_len hE] at this; exact this
        have h3 := ok.part_le h2
        rw [← hf] at h1 h3
        exact ⟨h1, by omega⟩)
      have HSL : Hid (sumK L L.length = (T : Int)) := (by rw [hL, splL_sum hE]; exact ht : sumK L L.length = (T : Int))
      have HNEAR := Lib.hid (show 0 < W → ∀ i, i < m → T * y i / W ≤ f i ∧ f i ≤ T * y i / W + (if T * y i % W = 0 then 0 else 1) from fun h i hi => by
        have h1 := part_near (T := t.toNat) (w := wf ws) (n := ws.length) (by omega) i
        unfold quo rst at h1
        rw [← hW, ← hT, ← hy] at h1
        rw [hf, ← hT, ← hy]; exact h1)
      rw [← hL] at HSP
      rw [ht] at HSP ⊢
      have hne : ((m : Int) != (m : Int)) = false := by simp
      have hne2 : (m != m) = false := by simp
      clear hE hL ok hT ht hW hy hf
      go_enter Try.func6, Try.ntmps6
      go_wp2_with fail
      refine HSP.out.mono ?_
      intro e w3 hr
      obtain ⟨A3, n3, c3, rfl, hn3, hl3, -, hc3, hb3⟩ := hr.open_
      obtain rfl : m = n3 := HLL.out.symm.trans hn3
      have HC3 := Lib.hid hc3
      have HA3 := Lib.hid (HA.out.on hb3)
      have HB3 := Lib.hid hb3
      clear hr hn3 hl3 hc3 hb3
      rw [hz0]
      clear hz0
      go_wp2_with fail
      go_loopw [7, 8, 9] (fun a b x wr => ∃ (i : Nat) (u v : Int), a = .int .i64 u ∧ b = .int .i64 v ∧ x = .int .i64 (i : Int) ∧ i ≤ m ∧ u = sumK ws i ∧ v = sumK L i ∧ 0 ≤ u ∧ u ≤ 1125899906842624 * (i : Int) ∧ 0 ≤ v ∧ v ≤ 1125899906842624 * (i : Int) ∧ Below w3.heap.size w3 wr) (fun _ _ x _ => m - (RowKit.intOf x).toNat)
      case atStart => exact ⟨0, 0, 0, rfl, rfl, rfl, Nat.zero_le _, rfl, rfl, by omega, by omega, by omega, by omega, Below.refl _ _⟩
      case round =>
        obtain ⟨i, u, v, rfl, rfl, rfl, hi, hu, hv, u0, u1, v0, v1, hbel⟩ := hrel
        have HB4 := Lib.hid hbel
        have HU := Lib.hid hu
        have HV := Lib.hid hv
        clear hbel hu hv
        rcases Nat.lt_or_ge i m with hlt | hge
        · have HLT := Lib.hid hlt
          obtain ⟨z, hz⟩ := get_lt (L := ws) (k := i) (by rw [HM.out]; exact hlt)
          obtain ⟨p, hp⟩ := get_lt (L := L) (k := i) (by rw [HLL.out]; exact hlt)
          obtain ⟨b1, o1, e1, g1, c1⟩ := (HA3.out.on HB4.out) i z hz
          obtain ⟨b2, o2, e2, g2, c2⟩ := (HC3.out.on HB4.out) i p hp
          obtain rfl := e1
          obtain rfl := e2
          have hzb := HWS.out i z hz
          have hpb := HLS.out i p hp
          have hwm := HWM.out.1
          have htm := HTM.out
          obtain ⟨u', hu'⟩ : ∃ x, x = u + z := ⟨_, rfl⟩
          obtain ⟨v', hv'⟩ : ∃ x, x = v + p := ⟨_, rfl⟩
          have hw1 : IntKind.i64.wrap (u + z) = u' := by rw [Mem.wrap_id (by omega)]; omega
          have hw2 : IntKind.i64.wrap (v + p) = v' := by rw [Mem.wrap_id (by omega)]; omega
          have j1 : (i : Int) < (m : Int) := by omega
          have j2 : (0 : Int) ≤ (i : Int) := by omega
          have j3 : i < m := hlt
          have hk1 : IntKind.i64.wrap ((i : Int) + 1) = ((i + 1 : Nat) : Int) := Mem.wrap_id (by omega)
          have HX := Lib.hid (show 0 ≤ u' ∧ u' ≤ 1125899906842624 * ((i + 1 : Nat) : Int) ∧ 0 ≤ v' ∧ v' ≤ 1125899906842624 * ((i + 1 : Nat) : Int) ∧ u' = u + z ∧ v' = v + p by omega)
          have HZ := Lib.hid hz
          have HP := Lib.hid hp
          clear hi hlt hz hp hzb hpb hwm htm hu' hv' u0 u1 v0 v1 g1 g2
          go_wp2_with fail
          go_quiet (fail)
          go_wp2_with fail
          go_roundw
          case rel => exact ⟨i + 1, u', v', rfl, rfl, rfl, HLT.out, by rw [sumK_succ HZ.out, ← HU.out]; exact HX.out.2.2.2.2.1, by rw [sumK_succ HP.out, ← HV.out]; exact HX.out.2.2.2.2.2, HX.out.1, HX.out.2.1, HX.out.2.2.1, HX.out.2.2.2.1, below_drewN HB4.out _⟩
          case measure =>
            have := HLT.out
            simp [RowKit.intOf]; omega
        · obtain rfl : m = i := by omega
          have huW : u = (W : Int) := by rw [HU.out, ← HWM.out.2, HM.out]
          have hvT : v = (T : Int) := by rw [HV.out, ← HSL.out, HLL.out]
          subst huW
          subst hvT
          have hte : ((T : Int) != (T : Int)) = false := by simp
          have hte2 : (T != T) = false := by simp
          clear hi hge u0 u1 v0 v1
          go_wp2_with fail
          go_loopw [10] (fun x wr2 => ∃ i : Nat, x = .int .i64 (i : Int) ∧ i ≤ m ∧ Below w3.heap.size w3 wr2) (fun x _ => m - (RowKit.intOf x).toNat)
          case atStart => exact ⟨0, rfl, Nat.zero_le _, HB4.out⟩
          case round =>
            obtain ⟨i, rfl, hi, hbel⟩ := hrel
            have HB5 := Lib.hid hbel
            clear hbel
            by_cases hlt : i < m ∧ 0 < W
            · have HLT := Lib.hid hlt.1
              have HW0 := Lib.hid hlt.2
              obtain ⟨z, hz⟩ := get_lt (L := ws) (k := i) (by rw [HM.out]; exact hlt.1)
              obtain ⟨p, hp⟩ := get_lt (L := L) (k := i) (by rw [HLL.out]; exact hlt.1)
              obtain ⟨b1, o1, e1, g1, c1⟩ := (HA3.out.on HB5.out) i z hz
              obtain ⟨hzy, hyW⟩ := HWS.out i z hz
              obtain ⟨hpf, hfT⟩ := HLS.out i p hp
              have hnear := HNEAR.out hlt.2 i hlt.1
              obtain ⟨X, hX⟩ : ∃ X, X = y i := ⟨_, rfl⟩
              rw [← hX] at hzy hyW hnear
              have HEX := Lib.hid (fun W' => exact_run (T := T) (x := X) (W := W) hlt.2 HTM.out hyW HWM.out.1 W')
              have HFL := Lib.hid (fun v W' => floor_run (T := T) (x := X) (W := W) hlt.2 HTM.out hyW HWM.out.1 v W')
              have HCE := Lib.hid (fun v W' => ceil_run (T := T) (x := X) (W := W) hlt.2 HTM.out hyW HWM.out.1 v W')
              obtain ⟨lo, hlo⟩ : ∃ x, x = T * X / W := ⟨_, rfl⟩
              obtain ⟨hi2, hhi⟩ : ∃ x, x = T * X / W + (if T * X % W = 0 then 0 else 1) := ⟨_, rfl⟩
              obtain ⟨R, hR⟩ : ∃ r, r = exR T X W := ⟨_, rfl⟩
              rw [← hR] at HEX HFL HCE
              rw [← hhi] at HCE
              rw [← hhi, ← hlo] at hnear
              rw [← hlo] at HFL
              subst hzy
              have q1 : ¬ p < (lo : Int) := by omega
              have q2 : ¬ (hi2 : Int) < p := by omega
              have HPC := Lib.hid (fun W' (hW' : Below w3.heap.size w3 W') => HC3.out.on hW' i p hp)
              obtain rfl := e1
              have j1 : (i : Int) < (m : Int) := by omega
              have j2 : (0 : Int) ≤ (i : Int) := by omega
              have j3 : i < m := hlt.1
              have j4 : 0 < W := hlt.2
              have hk1 : IntKind.i64.wrap ((i : Int) + 1) = ((i + 1 : Nat) : Int) := Mem.wrap_id (by omega)
              clear hi hlt hz hp hpf hfT hyW hnear hX hlo hhi hR g1
              go_wp2_with fail
              refine (HEX.out wr).mono ?_
              rintro e w5 ⟨b5, A5, n5, c5, B5, m5, d5, rfl, hv5, hb5⟩
              have HV5 := Lib.hid hv5
              have HB6 : Hid (Below w3.heap.size w3 w5) := HB5.out.trans (hb5.mono HB5.out.size)
              clear hv5 hb5 c1
              go_upto_region 19 with fail
              have HC5 := Lib.hid (Cel.new w5 (.bool b5) (.slice A5 n5 c5) (.slice B5 m5 d5) TR)
              have HBA := Lib.hid (below_alloc w5 (.cells #[.bool b5, .slice A5 n5 c5, .slice B5 m5 d5] TR))
              obtain ⟨w6, hw6⟩ : ∃ W, w5.alloc (.cells #[.bool b5, .slice A5 n5 c5, .slice B5 m5 d5] TR) = W := ⟨_, rfl⟩
              obtain ⟨g5, hg5⟩ : ∃ g, w5.heap.size = g := ⟨_, rfl⟩
              rw [hw6] at HC5 HBA ⊢
              rw [hg5] at HC5 ⊢
              have HV6 := Lib.hid (HV5.out.on HBA.out)
              have HB7 : Hid (Below w3.heap.size w3 w6) := HB6.out.trans (HBA.out.mono HB6.out.size)
              clear hw6 hg5 HV5 HBA
              obtain ⟨⟨x0, x1, x2⟩, -⟩ := HC5.out
              have HF6 := Lib.hid (HFL.out _ w6 HV6.out)
              go_wp2_with fail
              refine HF6.out.mono ?_
              rintro e w7 ⟨rfl, hb7⟩
              have HV7 := Lib.hid (HV6.out.on hb7)
              have HC7 := Lib.hid (HC5.out.on hb7)
              have HB8 : Hid (Below w3.heap.size w3 w7) := HB7.out.trans (hb7.mono HB7.out.size)
              clear hb7 x0 x1 x2
              obtain ⟨⟨x0, x1, x2⟩, -⟩ := HC7.out
              have HF7 := Lib.hid (HCE.out _ w7 HV7.out)
              go_wp2_with fail
              refine HF7.out.mono ?_
              rintro e w8 ⟨rfl, hb8⟩
              have HB9 : Hid (Below w3.heap.size w3 w8) := HB8.out.trans (hb8.mono HB8.out.size)
              clear hb8 x0 x1 x2
              obtain ⟨b2, o2, e2, g2, c2⟩ := HPC.out w8 HB9.out
              obtain rfl := e2
              clear g2
              go_wp2_with fail
              go_roundw
              case rel => exact ⟨i + 1, rfl, HLT.out, HB9.out⟩
              case measure =>
                have := HLT.out
                simp [RowKit.intOf]; omega
            · have hor : m ≤ i ∨ W = 0 := by omega
              clear hlt
              rcases Nat.lt_or_ge i m with hlt | hge
              · obtain rfl : W = 0 := by omega
                have j3 : i < m := hlt
                have j1 : (i : Int) < (m : Int) := by omega
                clear hi hor hlt
                go_wp2_with fail
                refine (share_awake _).mono ?_
                rintro e w9 ⟨rfl, hb9⟩
                have HB9 := Lib.hid hb9
                clear hb9
                go_wp2_with fail
                go_ret
                exact ⟨rfl, bstep HB3.out (bstep HB5.out HB9.out)⟩
              · obtain rfl : m = i := by omega
                clear hi hor hge
                go_wp2_with fail
                refine (share_awake _).mono ?_
                rintro e w9 ⟨rfl, hb9⟩
                have HB9 := Lib.hid hb9
                clear hb9
                go_wp2_with fail
                go_ret
                exact ⟨rfl, bstep HB3.out (bstep HB5.out HB9.out)⟩
    · obtain ⟨E, hEE⟩ : ∃ E, E = errS t ws := ⟨_, rfl⟩
      have hnil : splL t ws = [] := if_neg hE
      have hE1 : ((E : Int) != 0) = true := by simp; omega
      have hE3 : ¬ (E : Int) = 0 := by omega
      rw [← hEE, hnil] at HSP
      clear hE hEE hnil
      go_enter Try.func6, Try.ntmps6
      go_wp2_with fail
      refine HSP.out.mono ?_
      intro e w3 hr
      obtain ⟨A3, n3, c3, rfl, hn3, hl3, -, -, hb3⟩ := hr.open_
      obtain rfl : n3 = 0 := hn3.symm
      have HB3 := Lib.hid hb3
      clear hr hn3 hl3 hb3
      go_wp2_with fail
      refine (share_awake _).mono ?_
      rintro e w8 ⟨rfl, hb8⟩
      have HB8 := Lib.hid hb8
      clear hb8
      go_wp2_with fail
      go_ret
      exact ⟨rfl, bstep HB3.out HB8.out⟩
end Go.Proofs.Ytdolhanniiejfaa.Share
