/- Several texts in one: RatA, RatB, NatZ5, RatC, RatD, RatE, RatF, RatG. -/
import Derived.Test.YtagjimdplmimoaaGreatPk12
import Derived.Test.YtagjimdplmimoaaGreatPk10
import Derived.Deep.RegionWith
import Derived.Deep.RegionHeld3
/- Exact rational numbers: what a sign and two lists of limbs stand for; the one form of each number; what fits. No walk. -/
namespace Go.Proofs.YtagjimdplmimoaaGreat
open Go.ChangeShapes Go.WideShapes Go.RowKit
set_option linter.unusedVariables false
set_option maxRecDepth 100000

/-- The first number that has too many limbs. -/
def big48 : Nat := 1000000000 ^ 48
theorem big48_pos : 0 < big48 := Nat.pow_pos (by decide)

def gcd1 (n : Nat) : Bool := decide (n = 1)
/-- A valid form: a sign, and two lists of limbs. -/
def valR (b : Bool) (xs ys : List Int) : Bool := (validB xs && validB ys) && (!ys.isEmpty && (gcd1 (Nat.gcd (nval xs).toNat (nval ys).toNat) && !(b && xs.isEmpty)))
def sgI (b : Bool) (n : Nat) : Int := if b then -(n : Int) else (n : Int)
theorem sgI_abs (b : Bool) (n : Nat) : (sgI b n).natAbs = n := by cases b <;> simp [sgI]
/-- What it stands for. -/
def ratV (b : Bool) (xs ys : List Int) : Rat := mkRat (sgI b (nval xs).toNat) (nval ys).toNat
/-- The one form of a number. -/
def negR (r : Rat) : Bool := decide (r.num < 0)
def topL (r : Rat) : List Int := limbs r.num.natAbs
def botL (r : Rat) : List Int := limbs r.den
def fitR (r : Rat) : Bool := decide (r.num.natAbs < big48) && decide (r.den < big48)
theorem fitR_iff {r : Rat} : fitR r = true ↔ r.num.natAbs < big48 ∧ r.den < big48 := by simp [fitR]

theorem sgI_neg {r : Rat} : sgI (negR r) r.num.natAbs = r.num := by
  unfold sgI negR
  by_cases h : r.num < 0
  · simp [h]; omega
  · simp [h]; omega
theorem mk_back (r : Rat) : mkRat (sgI (negR r) r.num.natAbs) r.den = r := by rw [sgI_neg, Rat.mkRat_self]
theorem limbs_ne {n : Nat} (h : n ≠ 0) : (limbs n).isEmpty = false := by rw [limbs_pos h]; rfl
theorem limbs_emp (n : Nat) : (limbs n).isEmpty = decide (n = 0) := by
  by_cases h : n = 0
  · subst h; rw [limbs_zero]; rfl
  · rw [limbs_ne h]; simp [h]
theorem limbs_len_pos {n : Nat} : 0 < (limbs n).length ↔ n ≠ 0 := by
  constructor
  · intro h e; subst e; rw [limbs_zero] at h; simp at h
  · intro h; rw [limbs_pos h]; simp
theorem nvt (n : Nat) : (nval (limbs n)).toNat = n := by rw [nval_limbs]; exact Int.toNat_natCast n
theorem valid48 {n : Nat} (h : n < big48) : validB (limbs n) = true := validB_iff.mpr ⟨limbs_len_le.mpr h, nrm_of_limbs _⟩
theorem lt48 {xs : List Int} (h : validB xs = true) : (nval xs).toNat < big48 := limbs_len_le.mp (by rw [← nrm_limbs (valid_nrm h)]; exact valid_len h)
theorem form_val {r : Rat} (h : fitR r = true) : valR (negR r) (topL r) (botL r) = true ∧ ratV (negR r) (topL r) (botL r) = r := by
  rw [fitR_iff] at h
  refine ⟨?_, ?_⟩
  · unfold valR topL botL
    rw [valid48 h.1, valid48 h.2, nvt, nvt, limbs_ne r.den_nz, limbs_emp]
    have hc : gcd1 (Nat.gcd r.num.natAbs r.den) = true := decide_eq_true r.reduced
    rw [hc]
    by_cases h0 : r.num < 0
    · have : r.num.natAbs ≠ 0 := by omega
      simp [negR, this]
    · simp [negR, h0]
  · unfold ratV topL botL
    rw [nvt, nvt, mk_back]
theorem val_parts {b : Bool} {xs ys : List Int} (h : valR b xs ys = true) : validB xs = true ∧ validB ys = true ∧ ys.isEmpty = false ∧ Nat.gcd (nval xs).toNat (nval ys).toNat = 1 ∧ (b && xs.isEmpty) = false := by
  simp only [valR, gcd1, Bool.and_eq_true, decide_eq_true_eq, Bool.not_eq_true'] at h
  exact ⟨h.1.1, h.1.2, h.2.1, h.2.2.1, h.2.2.2⟩
theorem val_pos {ys : List Int} (h : validB ys = true) (he : ys.isEmpty = false) : (nval ys).toNat ≠ 0 := by
  intro e
  have h1 := valid_back h
  rw [e, limbs_zero] at h1
  rw [← h1] at he; cases he
theorem val_form {b : Bool} {xs ys : List Int} (h : valR b xs ys = true) : ∃ r, fitR r = true ∧ b = negR r ∧ xs = topL r ∧ ys = botL r := by
  obtain ⟨h1, h2, h3, h4, h5⟩ := val_parts h
  have hq := val_pos h2 h3
  have h4' : Nat.gcd (nval ys).toNat (nval xs).toNat = 1 := by rw [Nat.gcd_comm]; exact h4
  refine ⟨ratV b xs ys, ?_⟩
  have hn : (ratV b xs ys).num = sgI b (nval xs).toNat := by unfold ratV; rw [Rat.num_mkRat, if_neg hq, sgI_abs, h4']; simp
  have hd : (ratV b xs ys).den = (nval ys).toNat := by unfold ratV; rw [Rat.den_mkRat, if_neg hq, sgI_abs, h4']; simp
  have ha : (ratV b xs ys).num.natAbs = (nval xs).toNat := by rw [hn, sgI_abs]
  refine ⟨?_, ?_, ?_, ?_⟩
  · rw [fitR_iff, ha, hd]; exact ⟨lt48 h1, lt48 h2⟩
  · unfold negR
    rw [hn]
    cases b with
    | false => simp [sgI]; omega
    | true =>
      have hx : (nval xs).toNat ≠ 0 := val_pos h1 (by simpa using h5)
      simp [sgI]; omega
  · unfold topL; rw [ha]; exact (valid_back h1).symm
  · unfold botL; rw [hd]; exact (valid_back h2).symm
/-- Two numbers with one form are one. -/
theorem form_inj {r s : Rat} (h1 : negR r = negR s) (h2 : topL r = topL s) (h3 : botL r = botL s) : r = s := by
  have e2 := limbs_inj h2
  have e3 := limbs_inj h3
  rw [← mk_back r, ← mk_back s, h1, e2, e3]

/-- A reduced quotient fits where its parts do. -/
theorem mk_fit {b : Bool} {p q : Nat} (hp : p < big48) (hq : q < big48) (h0 : q ≠ 0) : fitR (mkRat (sgI b p) q) = true := by
  rw [fitR_iff, Rat.num_mkRat, Rat.den_mkRat, if_neg h0, if_neg h0, sgI_abs]
  have hg : 0 < Nat.gcd q p := Nat.gcd_pos_of_pos_left _ (by omega)
  refine ⟨?_, Nat.lt_of_le_of_lt (Nat.div_le_self _ _) hq⟩
  have : (sgI b p / (Nat.gcd q p : Int)).natAbs ≤ p := by
    have hd : (Nat.gcd q p : Int) ∣ sgI b p := by
      have h1 : (Nat.gcd q p : Int) ∣ (p : Int) := Int.natCast_dvd_natCast.mpr (Nat.gcd_dvd_right _ _)
      cases b with
      | false => exact h1
      | true => exact Int.dvd_neg.mpr h1
    rw [Int.natAbs_ediv_of_dvd hd, sgI_abs]
    exact Nat.div_le_self _ _
  exact Nat.lt_of_le_of_lt this hp
/-- The parts of a reduced quotient. -/
theorem mk_parts {b : Bool} {p q : Nat} (h0 : q ≠ 0) : (mkRat (sgI b p) q).num = sgI b (p / Nat.gcd p q) ∧ (mkRat (sgI b p) q).den = q / Nat.gcd p q := by
  rw [Rat.num_mkRat, Rat.den_mkRat, if_neg h0, if_neg h0, sgI_abs, Nat.gcd_comm q p]
  refine ⟨?_, rfl⟩
  cases b with
  | false => simp [sgI]
  | true =>
    have h1 : (Nat.gcd p q : Int) ∣ (p : Int) := Int.natCast_dvd_natCast.mpr (Nat.gcd_dvd_left _ _)
    simp only [sgI, if_true]
    rw [Int.neg_ediv_of_dvd h1, Int.natCast_ediv]
theorem negR_sg {r : Rat} {b : Bool} {p : Nat} (h : r.num = sgI b p) : negR r = (b && decide (0 < p)) := by
  unfold negR; rw [h]
  cases b with
  | false => simp [sgI]
  | true => simp [sgI]

/-- A rational number in memory: a sign, and two slices that hold limbs. -/
def InR (w : World) (v : Value) (b : Bool) (xs ys : List Int) : Prop := ∃ vp vq, v = .agg #[.bool b, vp, vq] ∧ In w vp xs ∧ In w vq ys
theorem InR.on {w w' : World} {v : Value} {b : Bool} {xs ys : List Int} (h : InR w v b xs ys) (hb : Below w.heap.size w w') : InR w' v b xs ys := by
  obtain ⟨vp, vq, e, h1, h2⟩ := h; exact ⟨vp, vq, e, h1.on hb, h2.on hb⟩
def IsR (w : World) (v : Value) (r : Rat) : Prop := InR w v (negR r) (topL r) (botL r)
theorem IsR.on {w w' : World} {v : Value} {r : Rat} (h : IsR w v r) (hb : Below w.heap.size w w') : IsR w' v r := InR.on h hb
/-- What is returned beside an error: the zero value. -/
def OutR (w : World) (v : Value) (err : Int) (r : Rat) : Prop := if err = 0 then IsR w v r else InR w v false [] []
def RRes (w : World) (err : Int) (r : Rat) (e : Ending) (w' : World) : Prop := ∃ v, e = .returned (.tuple #[v, .int .i64 err]) ∧ OutR w' v err r ∧ Below w.heap.size w w'
theorem OutR.ok {w : World} {v : Value} {r : Rat} (h : IsR w v r) : OutR w v 0 r := by unfold OutR; rw [if_pos rfl]; exact h
theorem OutR.no {w : World} {err : Int} {r : Rat} (h : err ≠ 0) : OutR w (.agg #[.bool false, .slice none 0 0, .slice none 0 0]) err r := by
  unfold OutR; rw [if_neg h]; exact ⟨_, _, rfl, In.nil _, In.nil _⟩

/-- What fits. -/
def sumOk (r s : Rat) : Bool :=
  decide (r.num.natAbs * s.den < big48) && (decide (s.num.natAbs * r.den < big48) && (decide (r.den * s.den < big48) && ((negR r != negR s) || decide (r.num.natAbs * s.den + s.num.natAbs * r.den < big48))))
def mulOk (r s : Rat) : Bool := decide (r.num.natAbs * s.num.natAbs < big48) && decide (r.den * s.den < big48)
def crossOk (r s : Rat) : Bool := decide (r.num.natAbs * s.den < big48) && decide (s.num.natAbs * r.den < big48)
/-- The magnitude and the sign of a sum with signs. -/
def sMag (m : Bool) (x : Nat) (n : Bool) (y : Nat) : Nat := if m = n then x + y else if x < y then y - x else x - y
def sNeg (m : Bool) (x : Nat) (n : Bool) (y : Nat) : Bool := if m = n then m else if x < y then n else m
theorem sMag_val (m n : Bool) (x y : Nat) : sgI (sNeg m x n y) (sMag m x n y) = sgI m x + sgI n y := by
  unfold sgI sNeg sMag
  by_cases h : x < y
  · cases m <;> cases n <;> simp [h] <;> omega
  · cases m <;> cases n <;> simp [h] <;> omega
theorem sgI_mul (a b : Bool) (p q : Nat) : sgI (a != b) (p * q) = sgI a p * sgI b q := by
  cases a <;> cases b <;> simp [sgI, Int.neg_mul, Int.mul_neg]
theorem sgI_mulN (a : Bool) (p q : Nat) : sgI a (p * q) = sgI a p * (q : Int) := by
  cases a <;> simp [sgI, Int.neg_mul]
theorem add_form (r s : Rat) : mkRat (sgI (sNeg (negR r) (r.num.natAbs * s.den) (negR s) (s.num.natAbs * r.den)) (sMag (negR r) (r.num.natAbs * s.den) (negR s) (s.num.natAbs * r.den))) (r.den * s.den) = r + s := by
  rw [sMag_val, sgI_mulN, sgI_mulN, sgI_neg, sgI_neg]
  conv => rhs; rw [← Rat.mkRat_self r, ← Rat.mkRat_self s, Rat.mkRat_add_mkRat _ _ r.den_nz s.den_nz]
theorem mul_form (r s : Rat) : mkRat (sgI (negR r != negR s) (r.num.natAbs * s.num.natAbs)) (r.den * s.den) = r * s := by
  rw [sgI_mul, sgI_neg, sgI_neg]
  conv => rhs; rw [← Rat.mkRat_self r, ← Rat.mkRat_self s, Rat.mkRat_mul_mkRat]
theorem neg_parts (r : Rat) : (-r).num = -r.num ∧ (-r).den = r.den := ⟨rfl, rfl⟩
theorem neg_form (r : Rat) : negR (-r) = (!negR r && decide (0 < r.num.natAbs)) ∧ topL (-r) = topL r ∧ botL (-r) = botL r := by
  refine ⟨?_, ?_, rfl⟩
  · unfold negR
    rw [(neg_parts r).1]
    rcases Int.lt_trichotomy r.num 0 with h | h | h
    · rw [decide_eq_true h, decide_eq_false (show ¬ -r.num < 0 by omega)]; rfl
    · rw [h]; rfl
    · rw [decide_eq_true (show -r.num < 0 by omega), decide_eq_false (show ¬ r.num < 0 by omega), decide_eq_true (show 0 < r.num.natAbs by omega)]; rfl
  · unfold topL
    rw [(neg_parts r).1, Int.natAbs_neg]
theorem fit_neg {r : Rat} (h : fitR r = true) : fitR (-r) = true := by
  rw [fitR_iff] at h ⊢; rw [(neg_parts r).1, (neg_parts r).2, Int.natAbs_neg]; exact h
theorem inv_form {r : Rat} (h : r.num ≠ 0) : negR r⁻¹ = negR r ∧ topL r⁻¹ = botL r ∧ botL r⁻¹ = topL r ∧ (fitR r = true → fitR r⁻¹ = true) := by
  have h1 : (r⁻¹).num = r.num.sign * r.den := Rat.num_inv r
  have h2 : (r⁻¹).den = r.num.natAbs := by rw [Rat.den_inv, if_neg h]
  have hd := r.den_nz
  have h3 : (r⁻¹).num.natAbs = r.den := by
    rw [h1, Int.natAbs_mul, Int.natAbs_sign_of_ne_zero h]; simp
  refine ⟨?_, by unfold topL botL; rw [h3], by unfold topL botL; rw [h2], fun hf => ?_⟩
  · unfold negR
    rw [h1]
    rcases Int.lt_or_gt_of_ne h with h4 | h4
    · rw [Int.sign_eq_neg_one_of_neg h4]; simp [h4]; omega
    · rw [Int.sign_eq_one_of_pos h4]; simp; omega
  · rw [fitR_iff] at hf ⊢; rw [h3, h2]; exact ⟨hf.2, hf.1⟩
end Go.Proofs.YtagjimdplmimoaaGreat
/- Small functions of rat and of its reference: isOne, isZero, inRange, limbs, Same, signed, negated. -/
namespace Go.Proofs.YtagjimdplmimoaaGreat
open Go.ChangeShapes Go.WideShapes Go.RowKit
set_option linter.unusedVariables false
set_option maxRecDepth 100000

theorem bcell {W w1 : World} (hb : Below W.heap.size W w1) : (∀ b o, b < W.heap.size → w1.cell? ⟨b, o, none⟩ = W.cell? ⟨b, o, none⟩) ∧ (∀ b o, b < W.heap.size → w1.frozen? ⟨b, o, none⟩ = W.frozen? ⟨b, o, none⟩) :=
  ⟨fun b o h => hb.cell (p := ⟨b, o, none⟩) h, fun b o h => hb.frozen (p := ⟨b, o, none⟩) h⟩

theorem rat_isOne (xs : List Int) (va : Value) (w : World) (ha : In w va xs) :
    Calls Tryz.prog 73 #[va] w fun e w' => e = .returned (.bool (decide (xs = [1]))) ∧ Below w.heap.size w w' := by
  obtain ⟨A, c, rfl, hc, hm, hA⟩ := ha
  have HA := Lib.hid hA
  have hm1 : xs.length ≤ 9223372036854775807 := Nat.le_trans hc hm
  clear hA hc hm
  by_cases h1 : xs.length = 1
  · obtain ⟨z, rfl⟩ := List.length_eq_one_iff.mp h1
    obtain ⟨b, off, rfl, _, _, hcell⟩ := HA.out 0 z rfl
    rw [Nat.add_zero] at hcell
    clear h1 hm1
    go_enter Tryz.func73, Tryz.ntmps73
    go_wp2_with fail
    go_ret
    exact ⟨by by_cases h : z = 1 <;> simp [h], Below.refl _ _⟩
  · have hv : ¬ xs = [1] := by rintro rfl; exact h1 rfl
    have HV := Lib.hid hv
    have hne : ((xs.length : Int) == 1) = false := by simpa using fun h => h1 (by omega)
    clear hv h1
    go_enter Tryz.func73, Tryz.ntmps73
    go_wp2_with fail
    go_ret
    rw [decide_eq_false HV.out]; exact ⟨rfl, Below.refl _ _⟩

theorem rat_isZero (v : Value) (b : Bool) (xs ys : List Int) (w : World) (ha : InR w v b xs ys) :
    Calls Tryz.prog 71 #[v] w fun e w' => e = .returned (.bool xs.isEmpty) ∧ Below w.heap.size w w' := by
  obtain ⟨vp, vq, rfl, ⟨A, c, rfl, hc, hm, hA⟩, ⟨B, d, rfl, hd, hn, hB⟩⟩ := ha
  have hm1 : xs.length ≤ 9223372036854775807 := Nat.le_trans hc hm
  clear hA hB hc hm hd hn
  cases xs with
  | nil =>
    go_enter Tryz.func71, Tryz.ntmps71
    go_wp2_with fail
    go_ret
    exact ⟨rfl, below_alloc _ _⟩
  | cons x xs =>
    have hne : (((x :: xs).length : Int) == 0) = false := by simp; omega
    obtain ⟨n, hnn⟩ : ∃ n, n = (x :: xs).length := ⟨_, rfl⟩
    rw [← hnn] at hne hm1 ⊢
    clear hnn
    go_enter Tryz.func71, Tryz.ntmps71
    go_wp2_with fail
    go_ret
    exact ⟨rfl, below_alloc _ _⟩

def inRB (n : Int) : Bool := decide (-1125899906842624 ≤ n) && decide (n ≤ 1125899906842624)
theorem rat_inRange (n : Int) (w : World) :
    Calls Tryz.prog 54 #[.int .i64 n] w fun e w' => e = .returned (.bool (inRB n)) ∧ w = w' := by
  by_cases h1 : -1125899906842624 ≤ n
  · go_enter Tryz.func54, Tryz.ntmps54
    go_wp2_with fail
    go_ret
    exact ⟨by simp [inRB, h1], rfl⟩
  · have h2 : decide (-1125899906842624 ≤ n) = false := decide_eq_false h1
    go_enter Tryz.func54, Tryz.ntmps54
    go_wp2_with fail
    go_ret
    exact ⟨by unfold inRB; rw [h2]; rfl, rfl⟩

/-- A struct that a function leaves. -/
def StR (w : World) (b : Bool) (xs ys : List Int) (e : Ending) (w' : World) : Prop := ∃ v, e = .returned v ∧ InR w' v b xs ys ∧ Below w.heap.size w w'

theorem rat_signed (n : Bool) (xs ys : List Int) (va vb : Value) (w : World) (ha : In w va xs) (hb : In w vb ys) :
    Calls Tryz.prog 50 #[.bool n, va, vb] w (StR w (n && !xs.isEmpty) xs ys) := by
  have HIA := Lib.hid ha
  have HIB := Lib.hid hb
  obtain ⟨A, c, rfl, hc, hm, hA⟩ := ha
  obtain ⟨B, d, rfl, hd, hn, hB⟩ := hb
  have hm1 : xs.length ≤ 9223372036854775807 := Nat.le_trans hc hm
  have hm2 : ys.length ≤ 9223372036854775807 := Nat.le_trans hd hn
  have he : xs.isEmpty = !decide (0 < xs.length) := by cases xs <;> simp
  rw [he, Bool.not_not]
  clear hA hB hc hm hd hn he
  cases n with
  | false =>
    go_enter Tryz.func50, Tryz.ntmps50
    go_wp2_with fail
    exact bodyPost_ret (v := .agg #[.bool false, .slice A xs.length c, .slice B ys.length d]) (by simp [results, Tryz.results50, go_sem]) rfl ⟨_, rfl, ⟨_, _, rfl, HIA.out.alloc _, HIB.out.alloc _⟩, below_alloc _ _⟩
  | true =>
    go_enter Tryz.func50, Tryz.ntmps50
    go_wp2_with fail
    exact bodyPost_ret (v := .agg #[.bool (decide (0 < xs.length)), .slice A xs.length c, .slice B ys.length d]) (by simp [results, Tryz.results50, go_sem]) rfl ⟨_, rfl, ⟨_, _, rfl, HIA.out.alloc _, HIB.out.alloc _⟩, below_alloc _ _⟩

end Go.Proofs.YtagjimdplmimoaaGreat
/- The contract of nat.shortened. -/
namespace Go.Proofs.YtagjimdplmimoaaGreat
open Go.ChangeShapes Go.WideShapes Go.RowKit
set_option linter.unusedVariables false
set_option maxRecDepth 100000

set_option maxHeartbeats 6400000 in
theorem nat_shortened (xs ys : List Int) (va vb : Value) (w : World) (ha : In w va xs) (hb : In w vb ys) (hx : nrm xs = true) (hy : nrm ys = true) (hly : 2 < ys.length) (hlx : xs.length ≤ 1000) (hly2 : ys.length ≤ 1000) :
    Calls Tryz.prog 108 #[va, vb] w (ShortRes w xs ys) := by
  have HIA := Lib.hid ha
  have HIB := Lib.hid hb
  obtain ⟨A, ca, rfl, hc, hm, hA⟩ := ha
  obtain ⟨B, cb, rfl, hd, hn, hB⟩ := hb
  have hfs := nat_foreseen xs ys A B ca cb w hA hB (nrm_lok hx) (nrm_lok hy) hly hc hd hlx hly2
  have HFS := Lib.hid hfs
  have HA := Lib.hid hA
  have HB := Lib.hid hB
  have HX := Lib.hid hx
  have HY := Lib.hid hy
  clear hA hB hx hy hfs hm hn
  go_enter Tryz.func108, Tryz.ntmps108
  go_wp2_with (go_at_call 112; refine HFS.out.mono ?_; rintro e w1 ⟨a, b, c, d, u, v, u0, v0, rfl, hinv, hle, hb1⟩; refine Hid.out ?_)
  refine Lib.hid ?_
  have HI := Lib.hid hinv
  have HLE := Lib.hid hle
  have HB1 := Lib.hid hb1
  have bd := hinv.bd
  clear hinv hle hb1
  by_cases hb0 : b = 0
  · subst hb0
    have HB2 := Lib.hid (balloc HB1.out (.cells #[.int .i64 a, .int .i64 0, .int .i64 c, .int .i64 d] 132))
    go_wp2_with fail
    refine (nat_divide xs ys _ _ _ (HIA.out.on HB2.out) (HIB.out.on HB2.out) HX.out HY.out hlx (by omega)).mono ?_
    rintro e w3 ⟨vq, vr, rfl, -, hr, hb3⟩
    have HR := Lib.hid hr.toIn
    have HB3 := Lib.hid (bstep HB2.out hb3)
    clear hr hb3
    go_wp2_with fail
    go_ret2
    have y0 := nval_pos HY.out (by omega)
    have x0 := nval_nonneg (nrm_lok HX.out)
    have hlt : (nval xs).toNat % (nval ys).toNat < (nval ys).toNat := Nat.mod_lt _ (by omega)
    refine ⟨_, _, ys, limbs ((nval xs).toNat % (nval ys).toNat), rfl, HIB.out.on HB3.out, HR.out, HY.out, nrm_of_limbs _, Nat.le_refl _, len_le_of HY.out (by omega), ?_, ?_, HB3.out⟩
    · rw [nval_limbs, Int.toNat_natCast]; exact gcd_step _ _
    · rw [nval_limbs]; omega
  · have hbn : (b == 0) = false := beq_false_of_ne hb0
    have hfc := short_facts HI.out hb0 HX.out HY.out
    have hlen := HLE.out hb0
    obtain ⟨f1, f2, f3, f4, f5⟩ := hfc
    have hc1 : ∀ W, Below w.heap.size w W → Calls Tryz.prog 113 #[.slice A xs.length ca, .int .i64 a, .slice B ys.length cb, .int .i64 b] W (GcdRes W (a * nval xs + b * nval ys).toNat) :=
      fun W hW => nat_combined xs ys A B ca cb a b W ((HA.out.below hW (Nat.le_refl _)).more (Nat.le_refl _) hW.size) ((HB.out.below hW (Nat.le_refl _)).more (Nat.le_refl _) hW.size) (nrm_lok HX.out) (nrm_lok HY.out) hlen hlx (by omega) (by omega) (by omega) (by omega) f1 f2
    have hc2 : ∀ W, Below w.heap.size w W → Calls Tryz.prog 113 #[.slice A xs.length ca, .int .i64 c, .slice B ys.length cb, .int .i64 d] W (GcdRes W (c * nval xs + d * nval ys).toNat) :=
      fun W hW => nat_combined xs ys A B ca cb c d W ((HA.out.below hW (Nat.le_refl _)).more (Nat.le_refl _) hW.size) ((HB.out.below hW (Nat.le_refl _)).more (Nat.le_refl _) hW.size) (nrm_lok HX.out) (nrm_lok HY.out) hlen hlx (by omega) (by omega) (by omega) (by omega) f3 (by omega)
    have HC1 := Lib.hid hc1
    have HC2 := Lib.hid hc2
    have F2 := Lib.hid f2
    have F4 := Lib.hid f4
    have F5 := Lib.hid f5
    have F1 := Lib.hid f1
    have F3 := Lib.hid f3
    obtain ⟨W2, hW2⟩ : ∃ W2, W2 = w1.alloc (.cells #[.int .i64 a, .int .i64 b, .int .i64 c, .int .i64 d] 132) := ⟨_, rfl⟩
    have hfour : Four W2 w1.heap.size a b c d := by rw [hW2]; exact Four.new _ _ _ _ _ _
    have hbw : Below w.heap.size w W2 := by rw [hW2]; exact balloc HB1.out _
    have four_on : ∀ (W W' : World), Four W w1.heap.size a b c d → Below W.heap.size W W' → W'.cell? ⟨w1.heap.size, 0, none⟩ = some (.int .i64 a) ∧ W'.cell? ⟨w1.heap.size, 1, none⟩ = some (.int .i64 b) ∧ W'.cell? ⟨w1.heap.size, 2, none⟩ = some (.int .i64 c) ∧ W'.cell? ⟨w1.heap.size, 3, none⟩ = some (.int .i64 d) := by
      intro W W' h hb
      have h' := (h.keep (hb.block _ h.lt)).row
      exact ⟨h'.cell (i := 0) rfl, h'.cell (i := 1) rfl, h'.cell (i := 2) rfl, h'.cell (i := 3) rfl⟩
    have FO := Lib.hid four_on
    have HF := Lib.hid hfour
    have HBW := Lib.hid hbw
    clear hc1 hc2 f1 f2 f3 f4 f5 four_on hfour hbw hlen
    go_wp2_with fail
    rw [← hW2]
    obtain ⟨g0, g1, g2, g3⟩ := FO.out W2 W2 HF.out (Below.refl _ _)
    clear hW2
    go_region_held3 (fun W' => W'.cell? ⟨w1.heap.size, 0, none⟩ = some (.int .i64 a) ∧ W'.cell? ⟨w1.heap.size, 1, none⟩ = some (.int .i64 b) ∧ W'.cell? ⟨w1.heap.size, 2, none⟩ = some (.int .i64 c) ∧ W'.cell? ⟨w1.heap.size, 3, none⟩ = some (.int .i64 d))
      (first | exact ⟨g0, g1, g2, g3⟩ | exact FO.out W2.drew _ (HF.out.keep rfl) (by assumption) | exact FO.out W2.drew _ (HF.out.keep rfl) (bstep hb3 (by assumption)))
      (first | (go_at_call 113; (with_reducible refine (HC1.out _ HBW.out.drew).mono ?_); rintro e w3 ⟨v1, rfl, hs1, hb3⟩) | (go_at_call 113; (with_reducible refine (HC2.out _ (bstep HBW.out.drew hb3)).mono ?_); rintro e w4 ⟨v2, rfl, hs2, hb4⟩))
    all_goals go_wp2_with fail
    all_goals go_ret2
    all_goals have hb34 := bstep (bstep HBW.out.drew hb3) hb4
    all_goals exact ⟨v1, v2, limbs (a * nval xs + b * nval ys).toNat, limbs (c * nval xs + d * nval ys).toNat, rfl, hs1.toIn.on hb4, hs2.toIn, nrm_of_limbs _, nrm_of_limbs _, len_le_of HY.out (by have := F2.out; omega), len_le_of HY.out (by have := F4.out; omega), (by rw [nval_limbs, nval_limbs, Int.toNat_natCast, Int.toNat_natCast]; exact F5.out), (by rw [nval_limbs]; have := F3.out; have := F4.out; omega), hb34⟩
end Go.Proofs.YtagjimdplmimoaaGreat
/- Contracts of rat.reduced and of Reduce of the reference; the calls of nat that they make. -/
namespace Go.Proofs.YtagjimdplmimoaaGreat
open Go.ChangeShapes Go.WideShapes Go.RowKit
set_option linter.unusedVariables false
set_option maxRecDepth 100000

theorem in_open {w : World} {v : Value} {zs : List Int} (h : In w v zs) : ∃ A c, v = .slice A zs.length c ∧ In w (.slice A zs.length c) zs := by
  obtain ⟨A, c, rfl, k⟩ := h; exact ⟨A, c, rfl, A, c, rfl, k⟩
/-- A store into a cell that holds no integer leaves the limbs alone. -/
theorem In.set {w : World} {v : Value} {zs : List Int} {p : Addr} {u : Value} (h : In w v zs) (hx : w.cell? p = some u) (hu : ∀ z, u ≠ .int .i64 z) (x : Value) : In (w.setCell p x) v zs := by
  obtain ⟨A, c, rfl, h1, h2, h3⟩ := h
  refine ⟨A, c, rfl, h1, h2, fun k z hz => ?_⟩
  obtain ⟨b, off, hA, hlo, hlt, hc⟩ := h3 k z hz
  refine ⟨b, off, hA, ⟨Nat.zero_le _, Or.inl rfl⟩, by simpa using hlt, ?_⟩
  rw [World.cell?_setCell_other w p _ x (fun e => by subst e; rw [hx] at hc; cases hc; exact hu z rfl)]
  exact hc

/-- A number in a block: three cells, none frozen. -/
def Cel (w : World) (g : Nat) (u0 u1 u2 : Value) : Prop :=
  (w.cell? ⟨g, 0, none⟩ = some u0 ∧ w.cell? ⟨g, 1, none⟩ = some u1 ∧ w.cell? ⟨g, 2, none⟩ = some u2) ∧ (w.frozen? ⟨g, 0, none⟩ = false ∧ w.frozen? ⟨g, 1, none⟩ = false ∧ w.frozen? ⟨g, 2, none⟩ = false)
theorem Cel.lt {w : World} {g : Nat} {u0 u1 u2 : Value} (h : Cel w g u0 u1 u2) : g < w.heap.size := World.block_lt_of_cell? w _ h.1.1
theorem Cel.below {w w' : World} {B g : Nat} {u0 u1 u2 : Value} (h : Cel w g u0 u1 u2) (hb : Below B w w') (hg : g < B) : Cel w' g u0 u1 u2 := by
  obtain ⟨⟨h0, h1, h2⟩, f0, f1, f2⟩ := h
  exact ⟨⟨(hb.cell (p := ⟨g, 0, none⟩) hg).trans h0, (hb.cell (p := ⟨g, 1, none⟩) hg).trans h1, (hb.cell (p := ⟨g, 2, none⟩) hg).trans h2⟩,
    (hb.frozen (p := ⟨g, 0, none⟩) hg).trans f0, (hb.frozen (p := ⟨g, 1, none⟩) hg).trans f1, (hb.frozen (p := ⟨g, 2, none⟩) hg).trans f2⟩
theorem Cel.on {w w' : World} {g : Nat} {u0 u1 u2 : Value} (h : Cel w g u0 u1 u2) (hb : Below w.heap.size w w') : Cel w' g u0 u1 u2 := h.below hb h.lt
theorem Cel.alloc {w : World} {g : Nat} {u0 u1 u2 : Value} (h : Cel w g u0 u1 u2) (o : Obj) : Cel (w.alloc o) g u0 u1 u2 := h.on (below_alloc w o)
theorem set_same {w : World} {a : Addr} {u : Value} (h : w.cell? a = some u) (v : Value) : (w.setCell a v).cell? a = some v := World.cell?_setCell_same w a v h
theorem frozen_of {W : World} {g : Nat} {cs : Array Value} {t : TypeId} (h : W.heap[g]? = some (.cells cs t (0, 0))) (i : Nat) : W.frozen? ⟨g, i, none⟩ = false := by simp [World.frozen?, h]
theorem Cel.new (w : World) (u0 u1 u2 : Value) (t : TypeId) : Cel (w.alloc (.cells #[u0, u1, u2] t)) w.heap.size u0 u1 u2 := by
  have hb := heap_alloc_new w (.cells #[u0, u1, u2] t)
  refine ⟨⟨?_, ?_, ?_⟩, ?_, ?_, ?_⟩
  · rw [cell_of_row _ _ _ _ _ _ hb]; rfl
  · rw [cell_of_row _ _ _ _ _ _ hb]; rfl
  · rw [cell_of_row _ _ _ _ _ _ hb]; rfl
  · exact frozen_of hb _
  · exact frozen_of hb _
  · exact frozen_of hb _
/-- A number stored into such a block. -/
def put3 (w : World) (g : Nat) (u0 u1 u2 : Value) : World := ((w.setCell ⟨g, 0, none⟩ u0).setCell ⟨g, 1, none⟩ u1).setCell ⟨g, 2, none⟩ u2
theorem put3_size (w : World) (g : Nat) (u0 u1 u2 : Value) : (put3 w g u0 u1 u2).heap.size = w.heap.size := by simp [put3]
theorem Cel.put3 {w : World} {g : Nat} {u0 u1 u2 : Value} (h : Cel w g u0 u1 u2) (x0 x1 x2 : Value) : Cel (put3 w g x0 x1 x2) g x0 x1 x2 := by
  obtain ⟨⟨h0, h1, h2⟩, f0, f1, f2⟩ := h
  have ne : ∀ (i j : Nat), i ≠ j → ((⟨g, i, none⟩ : Addr) ≠ ⟨g, j, none⟩) := fun i j hij e => by cases e; exact hij rfl
  have a0 : ∀ (W : World) (x : Value) (i : Nat), i ≠ 0 → (W.setCell ⟨g, 0, none⟩ x).cell? ⟨g, i, none⟩ = W.cell? ⟨g, i, none⟩ := fun W x i hi => World.cell?_setCell_other W _ _ x (ne _ _ hi.symm)
  have a1 : ∀ (W : World) (x : Value) (i : Nat), i ≠ 1 → (W.setCell ⟨g, 1, none⟩ x).cell? ⟨g, i, none⟩ = W.cell? ⟨g, i, none⟩ := fun W x i hi => World.cell?_setCell_other W _ _ x (ne _ _ hi.symm)
  have a2 : ∀ (W : World) (x : Value) (i : Nat), i ≠ 2 → (W.setCell ⟨g, 2, none⟩ x).cell? ⟨g, i, none⟩ = W.cell? ⟨g, i, none⟩ := fun W x i hi => World.cell?_setCell_other W _ _ x (ne _ _ hi.symm)
  unfold Go.Proofs.YtagjimdplmimoaaGreat.put3
  refine ⟨⟨?_, ?_, ?_⟩, ?_, ?_, ?_⟩
  · rw [a2 _ _ _ (by decide), a1 _ _ _ (by decide)]; exact set_same h0 _
  · rw [a2 _ _ _ (by decide)]; exact set_same ((a0 _ _ _ (by decide)).trans h1) _
  · exact set_same (((a1 _ _ _ (by decide)).trans (a0 _ _ _ (by decide))).trans h2) _
  · simpa using f0
  · simpa using f1
  · simpa using f2
theorem In.put3 {w : World} {v : Value} {zs : List Int} {g : Nat} {b : Bool} {A B : Option Addr} {n c m d : Nat} (h : In w v zs) (hc : Cel w g (.bool b) (.slice A n c) (.slice B m d)) (x0 x1 x2 : Value) : In (put3 w g x0 x1 x2) v zs := by
  have ne : ∀ (i j : Nat), i ≠ j → ((⟨g, i, none⟩ : Addr) ≠ ⟨g, j, none⟩) := fun i j hij e => by cases e; exact hij rfl
  obtain ⟨⟨h0, h1, h2⟩, -⟩ := hc
  refine ((h.set h0 (fun _ e => by cases e) x0).set (p := ⟨g, 1, none⟩) (u := .slice A n c) ?_ (fun _ e => by cases e) x1).set (p := ⟨g, 2, none⟩) (u := .slice B m d) ?_ (fun _ e => by cases e) x2
  · exact (World.cell?_setCell_other _ _ _ _ (ne _ _ (by decide))).trans h1
  · exact (World.cell?_setCell_other _ _ _ _ (ne _ _ (by decide))).trans ((World.cell?_setCell_other _ _ _ _ (ne _ _ (by decide))).trans h2)
theorem below_put3 {B : Nat} {w w' : World} (h : Below B w w') {g : Nat} (hg : B ≤ g) (x0 x1 x2 : Value) : Below B w (put3 w' g x0 x1 x2) :=
  ((h.setCell (p := ⟨g, 0, none⟩) hg _).setCell (p := ⟨g, 1, none⟩) hg _).setCell (p := ⟨g, 2, none⟩) hg _

theorem nat_Gcd_in (xs ys : List Int) (va vb : Value) (w : World) (ha : In w va xs) (hb : In w vb ys) :
    Calls Tryz.prog 72 #[va, vb] w (ResIn w (gcdN xs ys) (formE xs ys)) := by
  refine (Gcd_of xs ys va vb w ha hb fun h1 h2 => gcd_of_short (fun xs ys va vb W ha hb hx hy h1 h2 h3 => nat_shortened xs ys va vb W ha hb hx hy h1 h2 h3) xs ys va vb w ha hb (valid_nrm h1) (valid_nrm h2) (by have := valid_len h1; omega) (by have := valid_len h2; omega)).mono ?_
  rintro e w' ⟨v, h1, h2, h3⟩
  exact ⟨v, h1, h2.toIn, h3⟩
theorem nat_DivMod_in (xs ys : List Int) (va vb : Value) (w : World) (ha : In w va xs) (hb : In w vb ys) :
    Calls Tryz.prog 68 #[va, vb] w (DmIn w xs ys) := by
  refine (nat_DivMod xs ys va vb w ha hb).mono ?_
  rintro e w' ⟨vq, vr, h1, h2, h3, h4⟩
  exact ⟨vq, vr, h1, h2.toIn, h3.toIn, h4⟩

theorem both48 {p q : Nat} (hp : p < big48) (hq : q < big48) : both (limbs p) (limbs q) = true := by rw [both, valid48 hp, valid48 hq]; rfl
theorem gcdN_limbs {p q : Nat} (hp : p < big48) (hq : q < big48) : gcdN (limbs p) (limbs q) = Nat.gcd p q := by rw [gcdN, both48 hp hq, if_pos rfl, nvt, nvt]
theorem formE_limbs {p q : Nat} (hp : p < big48) (hq : q < big48) : formE (limbs p) (limbs q) = 0 := by rw [formE, both48 hp hq, if_pos rfl]
theorem divOk_limbs {p q : Nat} (hp : p < big48) (hq : q < big48) (h0 : q ≠ 0) : divOk (limbs p) (limbs q) = true := by rw [divOk, both48 hp hq, limbs_ne h0]; rfl
theorem quoN_limbs {p q : Nat} (hp : p < big48) (hq : q < big48) (h0 : q ≠ 0) : quoN (limbs p) (limbs q) = p / q := by rw [quoN, divOk_limbs hp hq h0, if_pos rfl, nvt, nvt]
theorem remN_limbs {p q : Nat} (hp : p < big48) (hq : q < big48) (h0 : q ≠ 0) : remN (limbs p) (limbs q) = p % q := by rw [remN, divOk_limbs hp hq h0, if_pos rfl, nvt, nvt]
theorem divE_limbs {p q : Nat} (hp : p < big48) (hq : q < big48) (h0 : q ≠ 0) : divE (limbs p) (limbs q) = 0 := by rw [divE, both48 hp hq, if_pos rfl, limbs_ne h0]; rfl
theorem red_form {b : Bool} {p q : Nat} (h0 : q ≠ 0) :
    negR (mkRat (sgI b p) q) = (b && !(limbs (p / Nat.gcd p q)).isEmpty) ∧ topL (mkRat (sgI b p) q) = limbs (p / Nat.gcd p q) ∧ botL (mkRat (sgI b p) q) = limbs (q / Nat.gcd p q) := by
  obtain ⟨h1, h2⟩ := mk_parts (b := b) (p := p) h0
  refine ⟨?_, ?_, ?_⟩
  · rw [negR_sg h1, limbs_emp]
    congr 1; by_cases h : p / Nat.gcd p q = 0
    · rw [h]; rfl
    · rw [decide_eq_true (Nat.pos_of_ne_zero h), decide_eq_false h]; rfl
  · unfold topL; rw [h1, sgI_abs]
  · unfold botL; rw [h2]

set_option maxHeartbeats 800000 in
theorem rat_reduced (b : Bool) (p q : Nat) (va vb : Value) (w : World) (ha : In w va (limbs p)) (hb : In w vb (limbs q)) (hp : p < big48) (hq : q < big48) (h0 : q ≠ 0) :
    Calls Tryz.prog 56 #[.bool b, va, vb] w (fun e w' => ∃ v, e = .returned v ∧ IsR w' v (mkRat (sgI b p) q) ∧ Below w.heap.size w w') := by
  have hg : Nat.gcd p q < big48 ∧ Nat.gcd p q ≠ 0 := ⟨Nat.lt_of_le_of_lt (Nat.gcd_le_right _ (by omega)) hq, fun h => h0 (Nat.eq_zero_of_gcd_eq_zero_right h)⟩
  have FF := Lib.hid (red_form (b := b) (p := p) h0)
  have G := Lib.hid (gcdN_limbs hp hq)
  have D1 := Lib.hid (quoN_limbs hp hg.1 hg.2)
  have D2 := Lib.hid (quoN_limbs hq hg.1 hg.2)
  have HC := Lib.hid (Cel.new w (.bool false) (.slice none 0 0) (.slice none 0 0) 46)
  obtain ⟨A, c, rfl, ha'⟩ := in_open ha
  obtain ⟨B, d, rfl, hb'⟩ := in_open hb
  have HA := Lib.hid ha'
  have HB := Lib.hid hb'
  clear ha hb ha' hb' hp hq h0 hg
  go_enter Tryz.func56, Tryz.ntmps56
  go_wp2_with fail
  refine (nat_Gcd_in _ _ _ _ _ (HA.out.alloc _) (HB.out.alloc _)).mono ?_
  rintro e w1 ⟨v1, rfl, h1, hb1⟩
  rw [G.out] at h1
  have HG := Lib.hid h1
  have HB1 := Lib.hid hb1
  have HC1 := Lib.hid (HC.out.on hb1)
  clear h1 hb1
  go_wp2_with fail
  refine (nat_DivMod_in _ _ _ _ _ ((HA.out.alloc _).on HB1.out) HG.out).mono ?_
  rintro e w2 ⟨v2, v2r, rfl, h2, _, hb2⟩
  rw [D1.out] at h2
  obtain ⟨X, x, rfl, h2'⟩ := in_open h2
  have HX := Lib.hid h2'
  have HB2 := Lib.hid hb2
  have HC2 := Lib.hid (HC1.out.on hb2)
  clear h2 h2' hb2
  go_wp2_with fail
  refine (nat_DivMod_in _ _ _ _ _ (((HB.out.alloc _).on HB1.out).on HB2.out) (HG.out.on HB2.out)).mono ?_
  rintro e w3 ⟨v3, v3r, rfl, h3, _, hb3⟩
  rw [D2.out] at h3
  obtain ⟨Y, y, rfl, h3'⟩ := in_open h3
  have HY := Lib.hid h3'
  have HB3 := Lib.hid hb3
  have HC3 := Lib.hid (HC2.out.on hb3)
  clear h3 h3' hb3
  go_wp2_with fail
  refine (rat_signed b _ _ _ _ _ (HX.out.on HB3.out) HY.out).mono ?_
  rintro e w4 ⟨v4, rfl, h4, hb4⟩
  obtain ⟨vp, vq, rfl, h4p, h4q⟩ := h4
  obtain ⟨P, x4, rfl, h4p'⟩ := in_open h4p
  obtain ⟨Q, y4, rfl, h4q'⟩ := in_open h4q
  have HP := Lib.hid h4p'
  have HQ := Lib.hid h4q'
  have HB4 := Lib.hid hb4
  have HC4 := HC3.out.on hb4
  have HC4' := Lib.hid HC4
  have HR := Lib.hid (HC4.put3 (.bool (b && !(limbs (p / Nat.gcd p q)).isEmpty)) (.slice P (limbs (p / Nat.gcd p q)).length x4) (.slice Q (limbs (q / Nat.gcd p q)).length y4))
  obtain ⟨⟨c0, c1, c2⟩, f0, f1, f2⟩ := HC4
  clear h4p h4q h4p' h4q' hb4
  go_wp2_with fail
  obtain ⟨⟨r0, r1, r2⟩, -⟩ := HR.out
  refine bodyPost_ret (v := .agg #[.bool (b && !(limbs (p / Nat.gcd p q)).isEmpty), .slice P (limbs (p / Nat.gcd p q)).length x4, .slice Q (limbs (q / Nat.gcd p q)).length y4]) (by simp only [put3] at r0 r1 r2; simp [results, Tryz.results56, go_sem, r0, r1, r2]) rfl ?_
  refine ⟨_, rfl, ⟨_, _, by rw [FF.out.1], ?_, ?_⟩, ?_⟩
  · rw [FF.out.2.1]; exact HP.out.put3 HC4'.out _ _ _
  · rw [FF.out.2.2]; exact HQ.out.put3 HC4'.out _ _ _
  · exact below_put3 (bstep (bstep (bstep ((below_alloc _ _).trans (HB1.out.mono (by simp))) HB2.out) HB3.out) HB4.out) (Nat.le_refl _) _ _ _
end Go.Proofs.YtagjimdplmimoaaGreat
/- Contracts of Reduce of the reference, products, signedSum, plus. -/
namespace Go.Proofs.YtagjimdplmimoaaGreat
open Go.ChangeShapes Go.WideShapes Go.RowKit
set_option linter.unusedVariables false
set_option maxRecDepth 100000

def okE (b : Bool) : Int := if b then 0 else 2
def okL (b : Bool) (n : Nat) : List Int := if b then limbs n else []
theorem mulE_limbs {p q : Nat} (hp : p < big48) (hq : q < big48) : mulE (limbs p) (limbs q) = okE (decide (p * q < big48)) ∧ limbs (mulV (limbs p) (limbs q)) = okL (decide (p * q < big48)) (p * q) := by
  have e : (nval (limbs p) * nval (limbs q)).toNat = p * q := by rw [nval_limbs, nval_limbs, ← Int.natCast_mul]; exact Int.toNat_natCast _
  rw [mulE, mulV, both48 hp hq, if_pos rfl, if_pos rfl, e]
  by_cases h : p * q < big48
  · rw [decide_eq_true h]; exact ⟨if_pos h, by rw [show fitN (p * q) = p * q from if_pos h]; rfl⟩
  · rw [decide_eq_false h]; exact ⟨if_neg h, by rw [show fitN (p * q) = 0 from if_neg h, limbs_zero]; rfl⟩
theorem addE_limbs {p q : Nat} (hp : p < big48) (hq : q < big48) : addE (limbs p) (limbs q) = okE (decide (p + q < big48)) ∧ limbs (addV (limbs p) (limbs q)) = okL (decide (p + q < big48)) (p + q) := by
  have e : (nval (limbs p) + nval (limbs q)).toNat = p + q := by rw [nval_limbs, nval_limbs]; omega
  rw [addE, addV, both48 hp hq, if_pos rfl, if_pos rfl, e]
  by_cases h : p + q < big48
  · rw [decide_eq_true h]; exact ⟨if_pos h, by rw [show fitN (p + q) = p + q from if_pos h]; rfl⟩
  · rw [decide_eq_false h]; exact ⟨if_neg h, by rw [show fitN (p + q) = 0 from if_neg h, limbs_zero]; rfl⟩
theorem subE_limbs {p q : Nat} (hp : p < big48) (hq : q < big48) (h : q ≤ p) : subE (limbs p) (limbs q) = 0 ∧ limbs (subV (limbs p) (limbs q)) = limbs (p - q) := by
  have e : (nval (limbs p) - nval (limbs q)).toNat = p - q := by rw [nval_limbs, nval_limbs]; omega
  have e2 : ¬ nval (limbs p) < nval (limbs q) := by rw [nval_limbs, nval_limbs]; omega
  have h3 : p - q < 1000000000 ^ 48 := Nat.lt_of_le_of_lt (Nat.sub_le _ _) hp
  rw [subE, subV, both48 hp hq, if_pos rfl, if_pos rfl, if_neg e2, if_neg e2, e]
  exact ⟨if_pos h3, by rw [show fitN (p - q) = p - q from if_pos h3]⟩
theorem cmpV_limbs {p q : Nat} (hp : p < big48) (hq : q < big48) : cmpV (limbs p) (limbs q) = cmpI p q := by rw [cmpV, both48 hp hq, if_pos rfl, nval_limbs, nval_limbs]

theorem nat_Mul_in (p q : Nat) (va vb : Value) (w : World) (ha : In w va (limbs p)) (hb : In w vb (limbs q)) (hp : p < big48) (hq : q < big48) :
    Calls Tryz.prog 76 #[va, vb] w (fun e w' => ∃ v, e = .returned (.tuple #[v, .int .i64 (okE (decide (p * q < big48)))]) ∧ Sl w' w.heap.size w'.heap.size v (okL (decide (p * q < big48)) (p * q)) ∧ Below w.heap.size w w') := by
  refine (nat_Mul _ _ _ _ w ha hb).mono ?_
  rintro e w' ⟨v, rfl, h2, h3⟩
  obtain ⟨e1, e2⟩ := mulE_limbs hp hq
  exact ⟨v, by rw [e1], by rw [← e2]; exact h2, h3⟩
theorem nat_Add_in (p q : Nat) (va vb : Value) (w : World) (ha : In w va (limbs p)) (hb : In w vb (limbs q)) (hp : p < big48) (hq : q < big48) :
    Calls Tryz.prog 97 #[va, vb] w (fun e w' => ∃ v, e = .returned (.tuple #[v, .int .i64 (okE (decide (p + q < big48)))]) ∧ Sl w' w.heap.size w'.heap.size v (okL (decide (p + q < big48)) (p + q)) ∧ Below w.heap.size w w') := by
  refine (nat_Add _ _ _ _ w ha hb).mono ?_
  rintro e w' ⟨v, rfl, h2, h3⟩
  obtain ⟨e1, e2⟩ := addE_limbs hp hq
  exact ⟨v, by rw [e1], by rw [← e2]; exact h2, h3⟩
theorem nat_Sub_in (p q : Nat) (va vb : Value) (w : World) (ha : In w va (limbs p)) (hb : In w vb (limbs q)) (hp : p < big48) (hq : q < big48) (h : q ≤ p) :
    Calls Tryz.prog 98 #[va, vb] w (fun e w' => ∃ v, e = .returned (.tuple #[v, .int .i64 0]) ∧ Sl w' w.heap.size w'.heap.size v (limbs (p - q)) ∧ Below w.heap.size w w') := by
  refine (nat_Sub _ _ _ _ w ha hb).mono ?_
  rintro e w' ⟨v, rfl, h2, h3⟩
  obtain ⟨e1, e2⟩ := subE_limbs hp hq h
  exact ⟨v, by rw [e1], by rw [← e2]; exact h2, h3⟩
theorem nat_Cmp_in (p q : Nat) (va vb : Value) (w : World) (ha : In w va (limbs p)) (hb : In w vb (limbs q)) (hp : p < big48) (hq : q < big48) :
    Calls Tryz.prog 53 #[va, vb] w fun e w' => e = .returned (.tuple #[.int .i64 (cmpI p q), .int .i64 0]) ∧ Below w.heap.size w w' := by
  refine (nat_Cmp _ _ _ _ w ha hb).mono ?_
  rintro e w' ⟨rfl, h⟩
  exact ⟨by rw [cmpV_limbs hp hq, formE_limbs hp hq], h⟩
def prOk (a b c d : Nat) : Bool := decide (a * b < big48) && decide (c * d < big48)
set_option maxHeartbeats 800000 in
theorem rat_products (a b c d : Nat) (va vb vc vd : Value) (w : World) (ha : In w va (limbs a)) (hb : In w vb (limbs b)) (hc : In w vc (limbs c)) (hd : In w vd (limbs d)) (h1 : a < big48) (h2 : b < big48) (h3 : c < big48) (h4 : d < big48) :
    Calls Tryz.prog 52 #[va, vb, vc, vd] w (fun e w' => ∃ vp vq, e = .returned (.tuple #[vp, vq, .int .i64 (okE (prOk a b c d))]) ∧ Sl w' w.heap.size w'.heap.size vp (okL (prOk a b c d) (a * b)) ∧ Sl w' w.heap.size w'.heap.size vq (okL (prOk a b c d) (c * d)) ∧ Below w.heap.size w w') := by
  have HA := Lib.hid ha
  have HB := Lib.hid hb
  have HC := Lib.hid hc
  have HD := Lib.hid hd
  have M1 := Lib.hid (fun W h k => nat_Mul_in a b va vb W h k h1 h2)
  have M2 := Lib.hid (fun W h k => nat_Mul_in c d vc vd W h k h3 h4)
  clear ha hb hc hd h1 h2 h3 h4
  unfold prOk
  cases hab : decide (a * b < big48) with
  | false =>
    rw [hab] at M1
    go_enter Tryz.func52, Tryz.ntmps52
    go_wp2_with fail
    refine (M1.out w HA.out HB.out).mono ?_
    rintro e w1 ⟨v1, rfl, _, hb1⟩
    have HB1 := Lib.hid hb1
    clear hb1
    unfold okE
    go_wp2_with fail
    go_ret3
    exact ⟨_, _, rfl, Sl.nil _ _ _, Sl.nil _ _ _, HB1.out⟩
  | true =>
    rw [hab] at M1
    cases hcd : decide (c * d < big48) with
    | false =>
      rw [hcd] at M2
      go_enter Tryz.func52, Tryz.ntmps52
      go_wp2_with fail
      refine (M1.out w HA.out HB.out).mono ?_
      rintro e w1 ⟨v1, rfl, _, hb1⟩
      have HB1 := Lib.hid hb1
      clear hb1
      unfold okE
      go_wp2_with fail
      refine (M2.out w1 (HC.out.on HB1.out) (HD.out.on HB1.out)).mono ?_
      rintro e w2 ⟨v2, rfl, _, hb2⟩
      have HB2 := Lib.hid hb2
      clear hb2
      unfold okE
      go_wp2_with fail
      go_ret3
      exact ⟨_, _, rfl, Sl.nil _ _ _, Sl.nil _ _ _, bstep HB1.out HB2.out⟩
    | true =>
      rw [hcd] at M2
      go_enter Tryz.func52, Tryz.ntmps52
      go_wp2_with fail
      refine (M1.out w HA.out HB.out).mono ?_
      rintro e w1 ⟨v1, rfl, hv1, hb1⟩
      have HV1 := Lib.hid hv1
      have HB1 := Lib.hid hb1
      clear hb1 hv1
      unfold okE
      go_wp2_with fail
      refine (M2.out w1 (HC.out.on HB1.out) (HD.out.on HB1.out)).mono ?_
      rintro e w2 ⟨v2, rfl, hv2, hb2⟩
      have HV2 := Lib.hid hv2
      have HB2 := Lib.hid hb2
      clear hb2 hv2
      unfold okE
      go_wp2_with fail
      go_ret3
      exact ⟨_, _, rfl, (HV1.out.below HB2.out (Nat.le_refl _)).more (Nat.le_refl _) HB2.out.size, HV2.out.more HB1.out.size (Nat.le_refl _), bstep HB1.out HB2.out⟩
end Go.Proofs.YtagjimdplmimoaaGreat
/- Contracts of signedSum, plus (of the reference), Valid of both, times. -/
namespace Go.Proofs.YtagjimdplmimoaaGreat
open Go.ChangeShapes Go.WideShapes Go.RowKit
set_option linter.unusedVariables false
set_option maxRecDepth 100000

/-- A sum with signs fits. -/
def ssOk (m : Bool) (x : Nat) (n : Bool) (y : Nat) : Bool := (m != n) || decide (x + y < big48)
def SsRes (w : World) (m : Bool) (x : Nat) (n : Bool) (y : Nat) (e : Ending) (w' : World) : Prop :=
  ∃ v, e = .returned (.tuple #[.bool (sNeg m x n y), v, .int .i64 (okE (ssOk m x n y))]) ∧ Sl w' w.heap.size w'.heap.size v (okL (ssOk m x n y) (sMag m x n y)) ∧ Below w.heap.size w w'
theorem beq_of_ne {m n : Bool} (h : m ≠ n) : (m == n) = false := by cases m <;> cases n <;> simp at h ⊢

set_option maxHeartbeats 800000 in
theorem rat_signedSum (m n : Bool) (x y : Nat) (vx vy : Value) (w : World) (ha : In w vx (limbs x)) (hb : In w vy (limbs y)) (hx : x < big48) (hy : y < big48) :
    Calls Tryz.prog 78 #[.bool m, vx, .bool n, vy] w (SsRes w m x n y) := by
  have HA := Lib.hid ha
  have HB := Lib.hid hb
  have PA := Lib.hid (fun W h k => nat_Add_in x y vx vy W h k hx hy)
  have PC := Lib.hid (fun W h k => nat_Cmp_in x y vx vy W h k hx hy)
  have HX := Lib.hid hx
  have HY := Lib.hid hy
  clear ha hb hx hy
  by_cases hmn : m = n
  · subst hmn
    have hmm : (m == m) = true := by cases m <;> rfl
    have H1 : Hid (ssOk m x m y = decide (x + y < big48) ∧ sNeg m x m y = m ∧ sMag m x m y = x + y) := ⟨by unfold ssOk; cases m <;> rfl, if_pos rfl, if_pos rfl⟩
    go_enter Tryz.func78, Tryz.ntmps78
    go_wp2_with fail
    refine (PA.out w HA.out HB.out).mono ?_
    rintro e w1 ⟨v, rfl, hv, hb1⟩
    have HV := Lib.hid hv
    have HB1 := Lib.hid hb1
    clear hv hb1
    go_wp2_with fail
    go_ret3
    exact ⟨v, by rw [H1.out.1, H1.out.2.1]; rfl, by rw [H1.out.1, H1.out.2.2]; exact HV.out, HB1.out⟩
  · have hne := beq_of_ne hmn
    have hok : ssOk m x n y = true := by unfold ssOk; cases m <;> cases n <;> simp at hmn ⊢
    by_cases hxy : x < y
    · have H1 : Hid (ssOk m x n y = true ∧ sNeg m x n y = n ∧ sMag m x n y = y - x) := ⟨hok, by unfold sNeg; rw [if_neg hmn, if_pos hxy], by unfold sMag; rw [if_neg hmn, if_pos hxy]⟩
      have hc : cmpI (x : Int) (y : Int) = -1 := cmpI_lt (by omega)
      rw [hc] at PC
      have PS := Lib.hid (fun W h k => nat_Sub_in y x vy vx W h k HY.out HX.out (by omega))
      clear hok hxy hmn hc
      go_enter Tryz.func78, Tryz.ntmps78
      go_wp2_with fail
      refine (PC.out w HA.out HB.out).mono ?_
      rintro e w1 ⟨rfl, hb1⟩
      have HB1 := Lib.hid hb1
      clear hb1
      go_wp2_with fail
      refine (PS.out w1 (HB.out.on HB1.out) (HA.out.on HB1.out)).mono ?_
      rintro e w2 ⟨v, rfl, hv, hb2⟩
      have HV := Lib.hid hv
      have HB2 := Lib.hid hb2
      clear hv hb2
      go_wp2_with fail
      go_ret3
      exact ⟨_, by rw [H1.out.1, H1.out.2.1]; rfl, by rw [H1.out.1, H1.out.2.2]; exact HV.out.more HB1.out.size (Nat.le_refl _), bstep HB1.out HB2.out⟩
    · have H1 : Hid (ssOk m x n y = true ∧ sNeg m x n y = m ∧ sMag m x n y = x - y) := ⟨hok, by unfold sNeg; rw [if_neg hmn, if_neg hxy], by unfold sMag; rw [if_neg hmn, if_neg hxy]⟩
      have hc : decide (cmpI (x : Int) (y : Int) < 0) = false := by
        refine decide_eq_false ?_
        rcases Nat.lt_or_eq_of_le (Nat.le_of_not_lt hxy) with h | h
        · rw [cmpI_gt (by omega)]; decide
        · rw [h, cmpI_eq]; decide
      have PS := Lib.hid (fun W h k => nat_Sub_in x y vx vy W h k HX.out HY.out (by omega))
      clear hok hxy hmn
      go_enter Tryz.func78, Tryz.ntmps78
      go_wp2_with fail
      refine (PC.out w HA.out HB.out).mono ?_
      rintro e w1 ⟨rfl, hb1⟩
      have HB1 := Lib.hid hb1
      clear hb1
      go_wp2_with fail
      refine (PS.out w1 (HA.out.on HB1.out) (HB.out.on HB1.out)).mono ?_
      rintro e w2 ⟨v, rfl, hv, hb2⟩
      have HV := Lib.hid hv
      have HB2 := Lib.hid hb2
      clear hv hb2
      go_wp2_with fail
      go_ret3
      exact ⟨_, by rw [H1.out.1, H1.out.2.1]; rfl, by rw [H1.out.1, H1.out.2.2]; exact HV.out.more HB1.out.size (Nat.le_refl _), bstep HB1.out HB2.out⟩

end Go.Proofs.YtagjimdplmimoaaGreat
/- Contracts of Valid, of rat and of its reference. -/
namespace Go.Proofs.YtagjimdplmimoaaGreat
open Go.ChangeShapes Go.WideShapes Go.RowKit
set_option linter.unusedVariables false
set_option maxRecDepth 100000

theorem limbs_one : limbs 1 = [1] := by rw [limbs_pos (by decide), limbs]; rfl
theorem limbs_is_one (n : Nat) : decide (limbs n = [1]) = gcd1 n := by
  unfold gcd1
  by_cases h : n = 1
  · subst h; rw [limbs_one]; rfl
  · rw [decide_eq_false h, decide_eq_false]; intro e; rw [← limbs_one] at e; exact h (limbs_inj e)
theorem valR_no {b : Bool} {xs ys : List Int} (h : both xs ys = false) : valR b xs ys = false := by unfold valR; rw [show (validB xs && validB ys) = both xs ys from rfl, h]; rfl
theorem valR_yes {b : Bool} {xs ys : List Int} (h : both xs ys = true) : valR b xs ys = (!ys.isEmpty && (gcd1 (Nat.gcd (nval xs).toNat (nval ys).toNat) && !(b && xs.isEmpty))) := by unfold valR; rw [show (validB xs && validB ys) = both xs ys from rfl, h]; rfl
theorem emp_len (xs : List Int) : xs.isEmpty = decide (xs.length = 0) := by cases xs <;> simp

set_option maxHeartbeats 1600000 in
theorem rat_Valid (v : Value) (b : Bool) (xs ys : List Int) (w : World) (ha : InR w v b xs ys) :
    Calls Tryz.prog 48 #[v] w fun e w' => e = .returned (.bool (valR b xs ys)) ∧ Below w.heap.size w w' := by
  obtain ⟨vp, vq, rfl, ha, hb⟩ := ha
  obtain ⟨A, c, rfl, ha'⟩ := in_open ha
  obtain ⟨B, d, rfl, hb'⟩ := in_open hb
  have HA := Lib.hid ha'
  have HB := Lib.hid hb'
  have HC := Lib.hid (Cel.new w (.bool b) (.slice A xs.length c) (.slice B ys.length d) 46)
  have hm2 : ys.length ≤ 9223372036854775807 := by obtain ⟨_, _, e, h1, h2, _⟩ := hb'; cases e; exact Nat.le_trans h1 h2
  have PG := Lib.hid (fun W h k => nat_Gcd_in xs ys (.slice A xs.length c) (.slice B ys.length d) W h k)
  clear ha hb ha' hb'
  cases hbo : both xs ys with
  | false =>
    have HV := Lib.hid (valR_no (b := b) hbo)
    have e1 : formE xs ys = 3 := by rw [formE, hbo]; rfl
    rw [e1] at PG
    clear hbo e1
    go_enter Tryz.func48, Tryz.ntmps48
    go_wp2_with fail
    refine (PG.out _ (HA.out.alloc _) (HB.out.alloc _)).mono ?_
    rintro e w1 ⟨v1, rfl, _, hb1⟩
    have HB1 := Lib.hid hb1
    clear hb1
    go_wp2_with fail
    go_ret
    exact ⟨by rw [HV.out]; rfl, (below_alloc _ _).trans (HB1.out.mono (by simp))⟩
  | true =>
    have HV := Lib.hid (valR_yes (b := b) hbo)
    have e1 : formE xs ys = 0 := by rw [formE, hbo]; rfl
    have e2 : gcdN xs ys = Nat.gcd (nval xs).toNat (nval ys).toNat := by rw [gcdN, hbo]; rfl
    rw [e1, e2] at PG
    obtain ⟨G, hG⟩ : ∃ G, G = Nat.gcd (nval xs).toNat (nval ys).toNat := ⟨_, rfl⟩
    rw [← hG] at PG HV
    clear hbo e1 e2 hG
    cases hg1 : gcd1 G with
    | false =>
      have HV2 : Hid (valR b xs ys = false) := by rw [Hid, HV.out, hg1]; cases ys.isEmpty <;> rfl
      have HG1 := Lib.hid hg1
      clear hg1
      go_enter Tryz.func48, Tryz.ntmps48
      go_wp2_with fail
      refine (PG.out _ (HA.out.alloc _) (HB.out.alloc _)).mono ?_
      rintro e w1 ⟨v1, rfl, h1, hb1⟩
      have HI := Lib.hid h1
      have HB1 := Lib.hid hb1
      clear hb1 h1
      go_wp2_with fail
      refine (rat_isOne _ _ _ HI.out).mono ?_
      rw [limbs_is_one, HG1.out]
      rintro e w2 ⟨rfl, hb2⟩
      have HB2 := Lib.hid hb2
      clear hb2
      go_wp2_with fail
      go_ret
      exact ⟨by rw [HV2.out]; rfl, bstep ((below_alloc _ _).trans (HB1.out.mono (by simp))) HB2.out⟩
    | true =>
      rw [hg1] at HV
      have HG1 := Lib.hid hg1
      clear hg1
      rcases Nat.eq_zero_or_pos ys.length with h0 | hp
      · have HV2 : Hid (valR b xs ys = false) := by rw [Hid, HV.out, emp_len, h0]; rfl
        have hn : ys = [] := List.eq_nil_of_length_eq_zero h0
        subst hn
        clear h0
        go_enter Tryz.func48, Tryz.ntmps48
        go_wp2_with fail
        refine (PG.out _ (HA.out.alloc _) (HB.out.alloc _)).mono ?_
        rintro e w1 ⟨v1, rfl, h1, hb1⟩
        have HI := Lib.hid h1
        have HC1 := Lib.hid (HC.out.on hb1)
        have HB1 := Lib.hid hb1
        clear hb1 h1
        go_wp2_with fail
        refine (rat_isOne _ _ _ HI.out).mono ?_
        rw [limbs_is_one, HG1.out]
        rintro e w2 ⟨rfl, hb2⟩
        obtain ⟨⟨c0, c1, c2⟩, -⟩ := HC1.out.on hb2
        have HB2 := Lib.hid hb2
        clear hb2
        go_wp2_with fail
        go_ret
        exact ⟨by rw [HV2.out]; rfl, bstep ((below_alloc _ _).trans (HB1.out.mono (by simp))) HB2.out⟩
      · have hpi : (0 : Int) < ys.length := by omega
        have hye : ys.isEmpty = false := by rw [emp_len]; exact decide_eq_false (by omega)
        have HV2 : Hid (valR b xs ys = !(b && xs.isEmpty)) := by rw [Hid, HV.out, hye]; rfl
        clear hye
        cases b with
        | false =>
          go_enter Tryz.func48, Tryz.ntmps48
          go_wp2_with fail
          refine (PG.out _ (HA.out.alloc _) (HB.out.alloc _)).mono ?_
          rintro e w1 ⟨v1, rfl, h1, hb1⟩
          have HI := Lib.hid h1
          have HC1 := Lib.hid (HC.out.on hb1)
          have HB1 := Lib.hid hb1
          clear hb1 h1
          go_wp2_with fail
          refine (rat_isOne _ _ _ HI.out).mono ?_
          rw [limbs_is_one, HG1.out]
          rintro e w2 ⟨rfl, hb2⟩
          obtain ⟨⟨c0, c1, c2⟩, -⟩ := HC1.out.on hb2
          have HB2 := Lib.hid hb2
          clear hb2
          go_wp2_with fail
          go_ret
          exact ⟨by rw [HV2.out]; rfl, bstep ((below_alloc _ _).trans (HB1.out.mono (by simp))) HB2.out⟩
        | true =>
          go_enter Tryz.func48, Tryz.ntmps48
          go_wp2_with fail
          refine (PG.out _ (HA.out.alloc _) (HB.out.alloc _)).mono ?_
          rintro e w1 ⟨v1, rfl, h1, hb1⟩
          have HI := Lib.hid h1
          have HC1 := Lib.hid (HC.out.on hb1)
          have HB1 := Lib.hid hb1
          clear hb1 h1
          go_wp2_with fail
          refine (rat_isOne _ _ _ HI.out).mono ?_
          rw [limbs_is_one, HG1.out]
          rintro e w2 ⟨rfl, hb2⟩
          obtain ⟨⟨c0, c1, c2⟩, -⟩ := HC1.out.on hb2
          have HB2 := Lib.hid hb2
          clear hb2
          go_wp2_with fail
          refine (rat_isZero _ true xs ys _ ⟨_, _, rfl, ((HA.out.alloc _).on HB1.out).on HB2.out, ((HB.out.alloc _).on HB1.out).on HB2.out⟩).mono ?_
          rintro e w3 ⟨rfl, hb3⟩
          have HB3 := Lib.hid hb3
          clear hb3
          go_wp2_with fail
          go_ret
          exact ⟨by rw [HV2.out]; rfl, bstep (bstep ((below_alloc _ _).trans (HB1.out.mono (by simp))) HB2.out) HB3.out⟩
end Go.Proofs.YtagjimdplmimoaaGreat
/- The contract of Valid of the reference. -/
namespace Go.Proofs.YtagjimdplmimoaaGreat
open Go.ChangeShapes Go.WideShapes Go.RowKit
set_option linter.unusedVariables false
set_option maxRecDepth 100000

end Go.Proofs.YtagjimdplmimoaaGreat
