/- Several texts in one: RatA, RatB, NatZ5, RatC, RatD, RatE, RatF, RatG, RatH, RatI, RatJ, RatK, RatL, RatM, RatN, RatO, RatP, RatQ, RatR, RatS, RatT, RatU, RatV, RatW, RatX. -/
import Derived.Test.YtihklpkpcnahkaaPk14
import Derived.Test.YtihklpkpcnahkaaPk13
import Derived.Deep.RegionWith
import Derived.Deep.RegionHeld3
import Derived.LoopN
import Derived.StillTailTactics
import Derived.Lib.SliceRun
/- Exact rational numbers: what a sign and two lists of limbs stand for; the one form of each number; what fits. No walk. -/
namespace Go.Proofs.Ytihklpkpcnahkaa
open Go.ChangeShapes Go.WideShapes Go.RowKit
set_option linter.unusedVariables false
set_option maxRecDepth 100000

/-- The first number that has too many limbs. -/
def big48 : Nat := 1000000000 ^ 48
theorem big48_pos : 0 < big48 := Nat.pow_pos (by decide)

def gcd1 (n : Nat) : Bool := decide (n = 1)
/-- A valid form: a sign, and two lists of limbs. -/
def valR (b : Bool) (xs ys : List Int) : Bool := (validB xs && validB ys) && (!ys.isEmpty && (gcd1 (Nat.gcd (nval xs).toNat (nval ys).toNat) && !(b && xs.isEmpty)))
def sgI (b : Bool) (n : Nat) : Int := if b then -(n : Int) else (n : Int)
theorem sgI_abs (b : Bool) (n : Nat) : (sgI b n).natAbs = n := by cases b <;> simp [sgI]
/-- What it stands for. -/
def ratV (b : Bool) (xs ys : List Int) : Rat := mkRat (sgI b (nval xs).toNat) (nval ys).toNat
/-- The one form of a number. -/
def negR (r : Rat) : Bool := decide (r.num < 0)
def topL (r : Rat) : List Int := limbs r.num.natAbs
def botL (r : Rat) : List Int := limbs r.den
def fitR (r : Rat) : Bool := decide (r.num.natAbs < big48) && decide (r.den < big48)
theorem fitR_iff {r : Rat} : fitR r = true ↔ r.num.natAbs < big48 ∧ r.den < big48 := by simp [fitR]

theorem sgI_neg {r : Rat} : sgI (negR r) r.num.natAbs = r.num := by
  unfold sgI negR
  by_cases h : r.num < 0
  · simp [h]; omega
  · simp [h]; omega
theorem mk_back (r : Rat) : mkRat (sgI (negR r) r.num.natAbs) r.den = r := by rw [sgI_neg, Rat.mkRat_self]
theorem limbs_ne {n : Nat} (h : n ≠ 0) : (limbs n).isEmpty = false := by rw [limbs_pos h]; rfl
theorem limbs_emp (n : Nat) : (limbs n).isEmpty = decide (n = 0) := by
  by_cases h : n = 0
  · subst h; rw [limbs_zero]; rfl
  · rw [limbs_ne h]; simp [h]
theorem limbs_len_pos {n : Nat} : 0 < (limbs n).length ↔ n ≠ 0 := by
  constructor
  · intro h e; subst e; rw [limbs_zero] at h; simp at h
  · intro h; rw [limbs_pos h]; simp
theorem nvt (n : Nat) : (nval (limbs n)).toNat = n := by rw [nval_limbs]; exact Int.toNat_natCast n
theorem valid48 {n : Nat} (h : n < big48) : validB (limbs n) = true := validB_iff.mpr ⟨limbs_len_le.mpr h, nrm_of_limbs _⟩
theorem lt48 {xs : List Int} (h : validB xs = true) : (nval xs).toNat < big48 := limbs_len_le.mp (by rw [← nrm_limbs (valid_nrm h)]; exact valid_len h)
theorem form_val {r : Rat} (h : fitR r = true) : valR (negR r) (topL r) (botL r) = true ∧ ratV (negR r) (topL r) (botL r) = r := by
  rw [fitR_iff] at h
  refine ⟨?_, ?_⟩
  · unfold valR topL botL
    rw [valid48 h.1, valid48 h.2, nvt, nvt, limbs_ne r.den_nz, limbs_emp]
    have hc : gcd1 (Nat.gcd r.num.natAbs r.den) = true := decide_eq_true r.reduced
    rw [hc]
    by_cases h0 : r.num < 0
    · have : r.num.natAbs ≠ 0 := by omega
      simp [negR, this]
    · simp [negR, h0]
  · unfold ratV topL botL
    rw [nvt, nvt, mk_back]
theorem val_parts {b : Bool} {xs ys : List Int} (h : valR b xs ys = true) : validB xs = true ∧ validB ys = true ∧ ys.isEmpty = false ∧ Nat.gcd (nval xs).toNat (nval ys).toNat = 1 ∧ (b && xs.isEmpty) = false := by
  simp only [valR, gcd1, Bool.and_eq_true, decide_eq_true_eq, Bool.not_eq_true'] at h
  exact ⟨h.1.1, h.1.2, h.2.1, h.2.2.1, h.2.2.2⟩
theorem val_pos {ys : List Int} (h : validB ys = true) (he : ys.isEmpty = false) : (nval ys).toNat ≠ 0 := by
  intro e
  have h1 := valid_back h
  rw [e, limbs_zero] at h1
  rw [← h1] at he; cases he
theorem val_form {b : Bool} {xs ys : List Int} (h : valR b xs ys = true) : ∃ r, fitR r = true ∧ b = negR r ∧ xs = topL r ∧ ys = botL r := by
  obtain ⟨h1, h2, h3, h4, h5⟩ := val_parts h
  have hq := val_pos h2 h3
  have h4' : Nat.gcd (nval ys).toNat (nval xs).toNat = 1 := by rw [Nat.gcd_comm]; exact h4
  refine ⟨ratV b xs ys, ?_⟩
  have hn : (ratV b xs ys).num = sgI b (nval xs).toNat := by unfold ratV; rw [Rat.num_mkRat, if_neg hq, sgI_abs, h4']; simp
  have hd : (ratV b xs ys).den = (nval ys).toNat := by unfold ratV; rw [Rat.den_mkRat, if_neg hq, sgI_abs, h4']; simp
  have ha : (ratV b xs ys).num.natAbs = (nval xs).toNat := by rw [hn, sgI_abs]
  refine ⟨?_, ?_, ?_, ?_⟩
  · rw [fitR_iff, ha, hd]; exact ⟨lt48 h1, lt48 h2⟩
  · unfold negR
    rw [hn]
    cases b with
    | false => simp [sgI]; omega
    | true =>
      have hx : (nval xs).toNat ≠ 0 := val_pos h1 (by simpa using h5)
      simp [sgI]; omega
  · unfold topL; rw [ha]; exact (valid_back h1).symm
  · unfold botL; rw [hd]; exact (valid_back h2).symm
/-- Two numbers with one form are one. -/
theorem form_inj {r s : Rat} (h1 : negR r = negR s) (h2 : topL r = topL s) (h3 : botL r = botL s) : r = s := by
  have e2 := limbs_inj h2
  have e3 := limbs_inj h3
  rw [← mk_back r, ← mk_back s, h1, e2, e3]

/-- A reduced quotient fits where its parts do. -/
theorem mk_fit {b : Bool} {p q : Nat} (hp : p < big48) (hq : q < big48) (h0 : q ≠ 0) : fitR (mkRat (sgI b p) q) = true := by
  rw [fitR_iff, Rat.num_mkRat, Rat.den_mkRat, if_neg h0, if_neg h0, sgI_abs]
  have hg : 0 < Nat.gcd q p := Nat.gcd_pos_of_pos_left _ (by omega)
  refine ⟨?_, Nat.lt_of_le_of_lt (Nat.div_le_self _ _) hq⟩
  have : (sgI b p / (Nat.gcd q p : Int)).natAbs ≤ p := by
    have hd : (Nat.gcd q p : Int) ∣ sgI b p := by
      have h1 : (Nat.gcd q p : Int) ∣ (p : Int) := Int.natCast_dvd_natCast.mpr (Nat.gcd_dvd_right _ _)
      cases b with
      | false => exact h1
      | true => exact Int.dvd_neg.mpr h1
    rw [Int.natAbs_ediv_of_dvd hd, sgI_abs]
    exact Nat.div_le_self _ _
  exact Nat.lt_of_le_of_lt this hp
/-- The parts of a reduced quotient. -/
theorem mk_parts {b : Bool} {p q : Nat} (h0 : q ≠ 0) : (mkRat (sgI b p) q).num = sgI b (p / Nat.gcd p q) ∧ (mkRat (sgI b p) q).den = q / Nat.gcd p q := by
  rw [Rat.num_mkRat, Rat.den_mkRat, if_neg h0, if_neg h0, sgI_abs, Nat.gcd_comm q p]
  refine ⟨?_, rfl⟩
  cases b with
  | false => simp [sgI]
  | true =>
    have h1 : (Nat.gcd p q : Int) ∣ (p : Int) := Int.natCast_dvd_natCast.mpr (Nat.gcd_dvd_left _ _)
    simp only [sgI, if_true]
    rw [Int.neg_ediv_of_dvd h1, Int.natCast_ediv]
theorem negR_sg {r : Rat} {b : Bool} {p : Nat} (h : r.num = sgI b p) : negR r = (b && decide (0 < p)) := by
  unfold negR; rw [h]
  cases b with
  | false => simp [sgI]
  | true => simp [sgI]

/-- A rational number in memory: a sign, and two slices that hold limbs. -/
def InR (w : World) (v : Value) (b : Bool) (xs ys : List Int) : Prop := ∃ vp vq, v = .agg #[.bool b, vp, vq] ∧ In w vp xs ∧ In w vq ys
theorem InR.on {w w' : World} {v : Value} {b : Bool} {xs ys : List Int} (h : InR w v b xs ys) (hb : Below w.heap.size w w') : InR w' v b xs ys := by
  obtain ⟨vp, vq, e, h1, h2⟩ := h; exact ⟨vp, vq, e, h1.on hb, h2.on hb⟩
def IsR (w : World) (v : Value) (r : Rat) : Prop := InR w v (negR r) (topL r) (botL r)
theorem IsR.on {w w' : World} {v : Value} {r : Rat} (h : IsR w v r) (hb : Below w.heap.size w w') : IsR w' v r := InR.on h hb
/-- What is returned beside an error: the zero value. -/
def OutR (w : World) (v : Value) (err : Int) (r : Rat) : Prop := if err = 0 then IsR w v r else InR w v false [] []
def RRes (w : World) (err : Int) (r : Rat) (e : Ending) (w' : World) : Prop := ∃ v, e = .returned (.tuple #[v, .int .i64 err]) ∧ OutR w' v err r ∧ Below w.heap.size w w'
theorem OutR.ok {w : World} {v : Value} {r : Rat} (h : IsR w v r) : OutR w v 0 r := by unfold OutR; rw [if_pos rfl]; exact h
theorem OutR.no {w : World} {err : Int} {r : Rat} (h : err ≠ 0) : OutR w (.agg #[.bool false, .slice none 0 0, .slice none 0 0]) err r := by
  unfold OutR; rw [if_neg h]; exact ⟨_, _, rfl, In.nil _, In.nil _⟩

/-- What fits. -/
def sumOk (r s : Rat) : Bool :=
  decide (r.num.natAbs * s.den < big48) && (decide (s.num.natAbs * r.den < big48) && (decide (r.den * s.den < big48) && ((negR r != negR s) || decide (r.num.natAbs * s.den + s.num.natAbs * r.den < big48))))
def mulOk (r s : Rat) : Bool := decide (r.num.natAbs * s.num.natAbs < big48) && decide (r.den * s.den < big48)
def crossOk (r s : Rat) : Bool := decide (r.num.natAbs * s.den < big48) && decide (s.num.natAbs * r.den < big48)
/-- The magnitude and the sign of a sum with signs. -/
def sMag (m : Bool) (x : Nat) (n : Bool) (y : Nat) : Nat := if m = n then x + y else if x < y then y - x else x - y
def sNeg (m : Bool) (x : Nat) (n : Bool) (y : Nat) : Bool := if m = n then m else if x < y then n else m
theorem sMag_val (m n : Bool) (x y : Nat) : sgI (sNeg m x n y) (sMag m x n y) = sgI m x + sgI n y := by
  unfold sgI sNeg sMag
  by_cases h : x < y
  · cases m <;> cases n <;> simp [h] <;> omega
  · cases m <;> cases n <;> simp [h] <;> omega
theorem sgI_mul (a b : Bool) (p q : Nat) : sgI (a != b) (p * q) = sgI a p * sgI b q := by
  cases a <;> cases b <;> simp [sgI, Int.neg_mul, Int.mul_neg]
theorem sgI_mulN (a : Bool) (p q : Nat) : sgI a (p * q) = sgI a p * (q : Int) := by
  cases a <;> simp [sgI, Int.neg_mul]
theorem add_form (r s : Rat) : mkRat (sgI (sNeg (negR r) (r.num.natAbs * s.den) (negR s) (s.num.natAbs * r.den)) (sMag (negR r) (r.num.natAbs * s.den) (negR s) (s.num.natAbs * r.den))) (r.den * s.den) = r + s := by
  rw [sMag_val, sgI_mulN, sgI_mulN, sgI_neg, sgI_neg]
  conv => rhs; rw [← Rat.mkRat_self r, ← Rat.mkRat_self s, Rat.mkRat_add_mkRat _ _ r.den_nz s.den_nz]
theorem mul_form (r s : Rat) : mkRat (sgI (negR r != negR s) (r.num.natAbs * s.num.natAbs)) (r.den * s.den) = r * s := by
  rw [sgI_mul, sgI_neg, sgI_neg]
  conv => rhs; rw [← Rat.mkRat_self r, ← Rat.mkRat_self s, Rat.mkRat_mul_mkRat]
theorem neg_parts (r : Rat) : (-r).num = -r.num ∧ (-r).den = r.den := ⟨rfl, rfl⟩
theorem neg_form (r : Rat) : negR (-r) = (!negR r && decide (0 < r.num.natAbs)) ∧ topL (-r) = topL r ∧ botL (-r) = botL r := by
  refine ⟨?_, ?_, rfl⟩
  · unfold negR
    rw [(neg_parts r).1]
    rcases Int.lt_trichotomy r.num 0 with h | h | h
    · rw [decide_eq_true h, decide_eq_false (show ¬ -r.num < 0 by omega)]; rfl
    · rw [h]; rfl
    · rw [decide_eq_true (show -r.num < 0 by omega), decide_eq_false (show ¬ r.num < 0 by omega), decide_eq_true (show 0 < r.num.natAbs by omega)]; rfl
  · unfold topL
    rw [(neg_parts r).1, Int.natAbs_neg]
theorem fit_neg {r : Rat} (h : fitR r = true) : fitR (-r) = true := by
  rw [fitR_iff] at h ⊢; rw [(neg_parts r).1, (neg_parts r).2, Int.natAbs_neg]; exact h
theorem inv_form {r : Rat} (h : r.num ≠ 0) : negR r⁻¹ = negR r ∧ topL r⁻¹ = botL r ∧ botL r⁻¹ = topL r ∧ (fitR r = true → fitR r⁻¹ = true) := by
  have h1 : (r⁻¹).num = r.num.sign * r.den := Rat.num_inv r
  have h2 : (r⁻¹).den = r.num.natAbs := by rw [Rat.den_inv, if_neg h]
  have hd := r.den_nz
  have h3 : (r⁻¹).num.natAbs = r.den := by
    rw [h1, Int.natAbs_mul, Int.natAbs_sign_of_ne_zero h]; simp
  refine ⟨?_, by unfold topL botL; rw [h3], by unfold topL botL; rw [h2], fun hf => ?_⟩
  · unfold negR
    rw [h1]
    rcases Int.lt_or_gt_of_ne h with h4 | h4
    · rw [Int.sign_eq_neg_one_of_neg h4]; simp [h4]; omega
    · rw [Int.sign_eq_one_of_pos h4]; simp; omega
  · rw [fitR_iff] at hf ⊢; rw [h3, h2]; exact ⟨hf.2, hf.1⟩
end Go.Proofs.Ytihklpkpcnahkaa
/- Small functions of rat and of its reference: isOne, isZero, inRange, limbs, Same, signed, negated. -/
namespace Go.Proofs.Ytihklpkpcnahkaa
open Go.ChangeShapes Go.WideShapes Go.RowKit
set_option linter.unusedVariables false
set_option maxRecDepth 100000

theorem bcell {W w1 : World} (hb : Below W.heap.size W w1) : (∀ b o, b < W.heap.size → w1.cell? ⟨b, o, none⟩ = W.cell? ⟨b, o, none⟩) ∧ (∀ b o, b < W.heap.size → w1.frozen? ⟨b, o, none⟩ = W.frozen? ⟨b, o, none⟩) :=
  ⟨fun b o h => hb.cell (p := ⟨b, o, none⟩) h, fun b o h => hb.frozen (p := ⟨b, o, none⟩) h⟩

def inRB (n : Int) : Bool := decide (-1125899906842624 ≤ n) && decide (n ≤ 1125899906842624)
/-- A struct that a function leaves. -/
def StR (w : World) (b : Bool) (xs ys : List Int) (e : Ending) (w' : World) : Prop := ∃ v, e = .returned v ∧ InR w' v b xs ys ∧ Below w.heap.size w w'

end Go.Proofs.Ytihklpkpcnahkaa
/- The contract of nat.shortened. -/
namespace Go.Proofs.Ytihklpkpcnahkaa
open Go.ChangeShapes Go.WideShapes Go.RowKit
set_option linter.unusedVariables false
set_option maxRecDepth 100000

end Go.Proofs.Ytihklpkpcnahkaa
/- Contracts of rat.reduced and of Reduce of the reference; the calls of nat that they make. -/
namespace Go.Proofs.Ytihklpkpcnahkaa
open Go.ChangeShapes Go.WideShapes Go.RowKit
set_option linter.unusedVariables false
set_option maxRecDepth 100000

theorem in_open {w : World} {v : Value} {zs : List Int} (h : In w v zs) : ∃ A c, v = .slice A zs.length c ∧ In w (.slice A zs.length c) zs := by
  obtain ⟨A, c, rfl, k⟩ := h; exact ⟨A, c, rfl, A, c, rfl, k⟩
/-- A store into a cell that holds no integer leaves the limbs alone. -/
theorem In.set {w : World} {v : Value} {zs : List Int} {p : Addr} {u : Value} (h : In w v zs) (hx : w.cell? p = some u) (hu : ∀ z, u ≠ .int .i64 z) (x : Value) : In (w.setCell p x) v zs := by
  obtain ⟨A, c, rfl, h1, h2, h3⟩ := h
  refine ⟨A, c, rfl, h1, h2, fun k z hz => ?_⟩
  obtain ⟨b, off, hA, hlo, hlt, hc⟩ := h3 k z hz
  refine ⟨b, off, hA, ⟨Nat.zero_le _, Or.inl rfl⟩, by simpa using hlt, ?_⟩
  rw [World.cell?_setCell_other w p _ x (fun e => by subst e; rw [hx] at hc; cases hc; exact hu z rfl)]
  exact hc

/-- A number in a block: three cells, none frozen. -/
def Cel (w : World) (g : Nat) (u0 u1 u2 : Value) : Prop :=
  (w.cell? ⟨g, 0, none⟩ = some u0 ∧ w.cell? ⟨g, 1, none⟩ = some u1 ∧ w.cell? ⟨g, 2, none⟩ = some u2) ∧ (w.frozen? ⟨g, 0, none⟩ = false ∧ w.frozen? ⟨g, 1, none⟩ = false ∧ w.frozen? ⟨g, 2, none⟩ = false)
theorem Cel.lt {w : World} {g : Nat} {u0 u1 u2 : Value} (h : Cel w g u0 u1 u2) : g < w.heap.size := World.block_lt_of_cell? w _ h.1.1
theorem Cel.below {w w' : World} {B g : Nat} {u0 u1 u2 : Value} (h : Cel w g u0 u1 u2) (hb : Below B w w') (hg : g < B) : Cel w' g u0 u1 u2 := by
  obtain ⟨⟨h0, h1, h2⟩, f0, f1, f2⟩ := h
  exact ⟨⟨(hb.cell (p := ⟨g, 0, none⟩) hg).trans h0, (hb.cell (p := ⟨g, 1, none⟩) hg).trans h1, (hb.cell (p := ⟨g, 2, none⟩) hg).trans h2⟩,
    (hb.frozen (p := ⟨g, 0, none⟩) hg).trans f0, (hb.frozen (p := ⟨g, 1, none⟩) hg).trans f1, (hb.frozen (p := ⟨g, 2, none⟩) hg).trans f2⟩
theorem Cel.on {w w' : World} {g : Nat} {u0 u1 u2 : Value} (h : Cel w g u0 u1 u2) (hb : Below w.heap.size w w') : Cel w' g u0 u1 u2 := h.below hb h.lt
theorem Cel.alloc {w : World} {g : Nat} {u0 u1 u2 : Value} (h : Cel w g u0 u1 u2) (o : Obj) : Cel (w.alloc o) g u0 u1 u2 := h.on (below_alloc w o)
theorem set_same {w : World} {a : Addr} {u : Value} (h : w.cell? a = some u) (v : Value) : (w.setCell a v).cell? a = some v := World.cell?_setCell_same w a v h
theorem frozen_of {W : World} {g : Nat} {cs : Array Value} {t : TypeId} (h : W.heap[g]? = some (.cells cs t (0, 0))) (i : Nat) : W.frozen? ⟨g, i, none⟩ = false := by simp [World.frozen?, h]
theorem Cel.new (w : World) (u0 u1 u2 : Value) (t : TypeId) : Cel (w.alloc (.cells #[u0, u1, u2] t)) w.heap.size u0 u1 u2 := by
  have hb := heap_alloc_new w (.cells #[u0, u1, u2] t)
  refine ⟨⟨?_, ?_, ?_⟩, ?_, ?_, ?_⟩
  · rw [cell_of_row _ _ _ _ _ _ hb]; rfl
  · rw [cell_of_row _ _ _ _ _ _ hb]; rfl
  · rw [cell_of_row _ _ _ _ _ _ hb]; rfl
  · exact frozen_of hb _
  · exact frozen_of hb _
  · exact frozen_of hb _
/-- A number stored into such a block. -/
def put3 (w : World) (g : Nat) (u0 u1 u2 : Value) : World := ((w.setCell ⟨g, 0, none⟩ u0).setCell ⟨g, 1, none⟩ u1).setCell ⟨g, 2, none⟩ u2
theorem put3_size (w : World) (g : Nat) (u0 u1 u2 : Value) : (put3 w g u0 u1 u2).heap.size = w.heap.size := by simp [put3]
theorem Cel.put3 {w : World} {g : Nat} {u0 u1 u2 : Value} (h : Cel w g u0 u1 u2) (x0 x1 x2 : Value) : Cel (put3 w g x0 x1 x2) g x0 x1 x2 := by
  obtain ⟨⟨h0, h1, h2⟩, f0, f1, f2⟩ := h
  have ne : ∀ (i j : Nat), i ≠ j → ((⟨g, i, none⟩ : Addr) ≠ ⟨g, j, none⟩) := fun i j hij e => by cases e; exact hij rfl
  have a0 : ∀ (W : World) (x : Value) (i : Nat), i ≠ 0 → (W.setCell ⟨g, 0, none⟩ x).cell? ⟨g, i, none⟩ = W.cell? ⟨g, i, none⟩ := fun W x i hi => World.cell?_setCell_other W _ _ x (ne _ _ hi.symm)
  have a1 : ∀ (W : World) (x : Value) (i : Nat), i ≠ 1 → (W.setCell ⟨g, 1, none⟩ x).cell? ⟨g, i, none⟩ = W.cell? ⟨g, i, none⟩ := fun W x i hi => World.cell?_setCell_other W _ _ x (ne _ _ hi.symm)
  have a2 : ∀ (W : World) (x : Value) (i : Nat), i ≠ 2 → (W.setCell ⟨g, 2, none⟩ x).cell? ⟨g, i, none⟩ = W.cell? ⟨g, i, none⟩ := fun W x i hi => World.cell?_setCell_other W _ _ x (ne _ _ hi.symm)
  unfold Go.Proofs.Ytihklpkpcnahkaa.put3
  refine ⟨⟨?_, ?_, ?_⟩, ?_, ?_, ?_⟩
  · rw [a2 _ _ _ (by decide), a1 _ _ _ (by decide)]; exact set_same h0 _
  · rw [a2 _ _ _ (by decide)]; exact set_same ((a0 _ _ _ (by decide)).trans h1) _
  · exact set_same (((a1 _ _ _ (by decide)).trans (a0 _ _ _ (by decide))).trans h2) _
  · simpa using f0
  · simpa using f1
  · simpa using f2
theorem In.put3 {w : World} {v : Value} {zs : List Int} {g : Nat} {b : Bool} {A B : Option Addr} {n c m d : Nat} (h : In w v zs) (hc : Cel w g (.bool b) (.slice A n c) (.slice B m d)) (x0 x1 x2 : Value) : In (put3 w g x0 x1 x2) v zs := by
  have ne : ∀ (i j : Nat), i ≠ j → ((⟨g, i, none⟩ : Addr) ≠ ⟨g, j, none⟩) := fun i j hij e => by cases e; exact hij rfl
  obtain ⟨⟨h0, h1, h2⟩, -⟩ := hc
  refine ((h.set h0 (fun _ e => by cases e) x0).set (p := ⟨g, 1, none⟩) (u := .slice A n c) ?_ (fun _ e => by cases e) x1).set (p := ⟨g, 2, none⟩) (u := .slice B m d) ?_ (fun _ e => by cases e) x2
  · exact (World.cell?_setCell_other _ _ _ _ (ne _ _ (by decide))).trans h1
  · exact (World.cell?_setCell_other _ _ _ _ (ne _ _ (by decide))).trans ((World.cell?_setCell_other _ _ _ _ (ne _ _ (by decide))).trans h2)
theorem below_put3 {B : Nat} {w w' : World} (h : Below B w w') {g : Nat} (hg : B ≤ g) (x0 x1 x2 : Value) : Below B w (put3 w' g x0 x1 x2) :=
  ((h.setCell (p := ⟨g, 0, none⟩) hg _).setCell (p := ⟨g, 1, none⟩) hg _).setCell (p := ⟨g, 2, none⟩) hg _

theorem both48 {p q : Nat} (hp : p < big48) (hq : q < big48) : both (limbs p) (limbs q) = true := by rw [both, valid48 hp, valid48 hq]; rfl
theorem gcdN_limbs {p q : Nat} (hp : p < big48) (hq : q < big48) : gcdN (limbs p) (limbs q) = Nat.gcd p q := by rw [gcdN, both48 hp hq, if_pos rfl, nvt, nvt]
theorem formE_limbs {p q : Nat} (hp : p < big48) (hq : q < big48) : formE (limbs p) (limbs q) = 0 := by rw [formE, both48 hp hq, if_pos rfl]
theorem divOk_limbs {p q : Nat} (hp : p < big48) (hq : q < big48) (h0 : q ≠ 0) : divOk (limbs p) (limbs q) = true := by rw [divOk, both48 hp hq, limbs_ne h0]; rfl
theorem quoN_limbs {p q : Nat} (hp : p < big48) (hq : q < big48) (h0 : q ≠ 0) : quoN (limbs p) (limbs q) = p / q := by rw [quoN, divOk_limbs hp hq h0, if_pos rfl, nvt, nvt]
theorem remN_limbs {p q : Nat} (hp : p < big48) (hq : q < big48) (h0 : q ≠ 0) : remN (limbs p) (limbs q) = p % q := by rw [remN, divOk_limbs hp hq h0, if_pos rfl, nvt, nvt]
theorem divE_limbs {p q : Nat} (hp : p < big48) (hq : q < big48) (h0 : q ≠ 0) : divE (limbs p) (limbs q) = 0 := by rw [divE, both48 hp hq, if_pos rfl, limbs_ne h0]; rfl
theorem red_form {b : Bool} {p q : Nat} (h0 : q ≠ 0) :
    negR (mkRat (sgI b p) q) = (b && !(limbs (p / Nat.gcd p q)).isEmpty) ∧ topL (mkRat (sgI b p) q) = limbs (p / Nat.gcd p q) ∧ botL (mkRat (sgI b p) q) = limbs (q / Nat.gcd p q) := by
  obtain ⟨h1, h2⟩ := mk_parts (b := b) (p := p) h0
  refine ⟨?_, ?_, ?_⟩
  · rw [negR_sg h1, limbs_emp]
    congr 1; by_cases h : p / Nat.gcd p q = 0
    · rw [h]; rfl
    · rw [decide_eq_true (Nat.pos_of_ne_zero h), decide_eq_false h]; rfl
  · unfold topL; rw [h1, sgI_abs]
  · unfold botL; rw [h2]

end Go.Proofs.Ytihklpkpcnahkaa
/- Contracts of Reduce of the reference, products, signedSum, plus. -/
namespace Go.Proofs.Ytihklpkpcnahkaa
open Go.ChangeShapes Go.WideShapes Go.RowKit
set_option linter.unusedVariables false
set_option maxRecDepth 100000

def okE (b : Bool) : Int := if b then 0 else 2
def okL (b : Bool) (n : Nat) : List Int := if b then limbs n else []
theorem mulE_limbs {p q : Nat} (hp : p < big48) (hq : q < big48) : mulE (limbs p) (limbs q) = okE (decide (p * q < big48)) ∧ limbs (mulV (limbs p) (limbs q)) = okL (decide (p * q < big48)) (p * q) := by
  have e : (nval (limbs p) * nval (limbs q)).toNat = p * q := by rw [nval_limbs, nval_limbs, ← Int.natCast_mul]; exact Int.toNat_natCast _
  rw [mulE, mulV, both48 hp hq, if_pos rfl, if_pos rfl, e]
  by_cases h : p * q < big48
  · rw [decide_eq_true h]; exact ⟨if_pos h, by rw [show fitN (p * q) = p * q from if_pos h]; rfl⟩
  · rw [decide_eq_false h]; exact ⟨if_neg h, by rw [show fitN (p * q) = 0 from if_neg h, limbs_zero]; rfl⟩
theorem addE_limbs {p q : Nat} (hp : p < big48) (hq : q < big48) : addE (limbs p) (limbs q) = okE (decide (p + q < big48)) ∧ limbs (addV (limbs p) (limbs q)) = okL (decide (p + q < big48)) (p + q) := by
  have e : (nval (limbs p) + nval (limbs q)).toNat = p + q := by rw [nval_limbs, nval_limbs]; omega
  rw [addE, addV, both48 hp hq, if_pos rfl, if_pos rfl, e]
  by_cases h : p + q < big48
  · rw [decide_eq_true h]; exact ⟨if_pos h, by rw [show fitN (p + q) = p + q from if_pos h]; rfl⟩
  · rw [decide_eq_false h]; exact ⟨if_neg h, by rw [show fitN (p + q) = 0 from if_neg h, limbs_zero]; rfl⟩
theorem subE_limbs {p q : Nat} (hp : p < big48) (hq : q < big48) (h : q ≤ p) : subE (limbs p) (limbs q) = 0 ∧ limbs (subV (limbs p) (limbs q)) = limbs (p - q) := by
  have e : (nval (limbs p) - nval (limbs q)).toNat = p - q := by rw [nval_limbs, nval_limbs]; omega
  have e2 : ¬ nval (limbs p) < nval (limbs q) := by rw [nval_limbs, nval_limbs]; omega
  have h3 : p - q < 1000000000 ^ 48 := Nat.lt_of_le_of_lt (Nat.sub_le _ _) hp
  rw [subE, subV, both48 hp hq, if_pos rfl, if_pos rfl, if_neg e2, if_neg e2, e]
  exact ⟨if_pos h3, by rw [show fitN (p - q) = p - q from if_pos h3]⟩
theorem cmpV_limbs {p q : Nat} (hp : p < big48) (hq : q < big48) : cmpV (limbs p) (limbs q) = cmpI p q := by rw [cmpV, both48 hp hq, if_pos rfl, nval_limbs, nval_limbs]

def prOk (a b c d : Nat) : Bool := decide (a * b < big48) && decide (c * d < big48)
end Go.Proofs.Ytihklpkpcnahkaa
/- Contracts of signedSum, plus (of the reference), Valid of both, times. -/
namespace Go.Proofs.Ytihklpkpcnahkaa
open Go.ChangeShapes Go.WideShapes Go.RowKit
set_option linter.unusedVariables false
set_option maxRecDepth 100000

/-- A sum with signs fits. -/
def ssOk (m : Bool) (x : Nat) (n : Bool) (y : Nat) : Bool := (m != n) || decide (x + y < big48)
def SsRes (w : World) (m : Bool) (x : Nat) (n : Bool) (y : Nat) (e : Ending) (w' : World) : Prop :=
  ∃ v, e = .returned (.tuple #[.bool (sNeg m x n y), v, .int .i64 (okE (ssOk m x n y))]) ∧ Sl w' w.heap.size w'.heap.size v (okL (ssOk m x n y) (sMag m x n y)) ∧ Below w.heap.size w w'
theorem beq_of_ne {m n : Bool} (h : m ≠ n) : (m == n) = false := by cases m <;> cases n <;> simp at h ⊢

end Go.Proofs.Ytihklpkpcnahkaa
/- Contracts of Valid, of rat and of its reference. -/
namespace Go.Proofs.Ytihklpkpcnahkaa
open Go.ChangeShapes Go.WideShapes Go.RowKit
set_option linter.unusedVariables false
set_option maxRecDepth 100000

theorem limbs_one : limbs 1 = [1] := by rw [limbs_pos (by decide), limbs]; rfl
theorem limbs_is_one (n : Nat) : decide (limbs n = [1]) = gcd1 n := by
  unfold gcd1
  by_cases h : n = 1
  · subst h; rw [limbs_one]; rfl
  · rw [decide_eq_false h, decide_eq_false]; intro e; rw [← limbs_one] at e; exact h (limbs_inj e)
theorem valR_no {b : Bool} {xs ys : List Int} (h : both xs ys = false) : valR b xs ys = false := by unfold valR; rw [show (validB xs && validB ys) = both xs ys from rfl, h]; rfl
theorem valR_yes {b : Bool} {xs ys : List Int} (h : both xs ys = true) : valR b xs ys = (!ys.isEmpty && (gcd1 (Nat.gcd (nval xs).toNat (nval ys).toNat) && !(b && xs.isEmpty))) := by unfold valR; rw [show (validB xs && validB ys) = both xs ys from rfl, h]; rfl
theorem emp_len (xs : List Int) : xs.isEmpty = decide (xs.length = 0) := by cases xs <;> simp

end Go.Proofs.Ytihklpkpcnahkaa
/- The contract of Valid of the reference. -/
namespace Go.Proofs.Ytihklpkpcnahkaa
open Go.ChangeShapes Go.WideShapes Go.RowKit
set_option linter.unusedVariables false
set_option maxRecDepth 100000

end Go.Proofs.Ytihklpkpcnahkaa
/- The three steps of rat.sum: closures over its variables. -/
namespace Go.Proofs.Ytihklpkpcnahkaa
open Go.ChangeShapes Go.WideShapes Go.RowKit
set_option linter.unusedVariables false
set_option maxRecDepth 100000

/-- A variable in a block of its own. -/
def One (w : World) (g : Nat) (u : Value) : Prop := w.cell? ⟨g, 0, none⟩ = some u ∧ w.frozen? ⟨g, 0, none⟩ = false
theorem One.lt {w : World} {g : Nat} {u : Value} (h : One w g u) : g < w.heap.size := World.block_lt_of_cell? w _ h.1
theorem One.below {w w' : World} {B g : Nat} {u : Value} (h : One w g u) (hb : Below B w w') (hg : g < B) : One w' g u :=
  ⟨(hb.cell (p := ⟨g, 0, none⟩) hg).trans h.1, (hb.frozen (p := ⟨g, 0, none⟩) hg).trans h.2⟩
theorem One.on {w w' : World} {g : Nat} {u : Value} (h : One w g u) (hb : Below w.heap.size w w') : One w' g u := h.below hb h.lt
theorem One.alloc {w : World} {g : Nat} {u : Value} (h : One w g u) (o : Obj) : One (w.alloc o) g u := h.on (below_alloc w o)
theorem One.new (w : World) (u : Value) (t : TypeId) : One (w.alloc (.cells #[u] t)) w.heap.size u := by
  have hb := heap_alloc_new w (.cells #[u] t)
  exact ⟨by rw [cell_of_row _ _ _ _ _ _ hb]; rfl, frozen_of hb _⟩
theorem One.set {w : World} {g : Nat} {u : Value} (h : One w g u) (v : Value) : One (w.setCell ⟨g, 0, none⟩ v) g v := ⟨set_same h.1 v, by simpa using h.2⟩
theorem One.other {w : World} {g : Nat} {u : Value} (h : One w g u) {p : Addr} (hp : p.block ≠ g) (v : Value) : One (w.setCell p v) g u :=
  ⟨(World.cell?_setCell_other w p _ v (fun e => hp (by rw [e]))).trans h.1, by simpa using h.2⟩
theorem Cel.other {w : World} {g : Nat} {u0 u1 u2 : Value} (h : Cel w g u0 u1 u2) {p : Addr} (hp : p.block ≠ g) (v : Value) : Cel (w.setCell p v) g u0 u1 u2 := by
  obtain ⟨⟨h0, h1, h2⟩, f0, f1, f2⟩ := h
  have k : ∀ i, (w.setCell p v).cell? ⟨g, i, none⟩ = w.cell? ⟨g, i, none⟩ := fun i => World.cell?_setCell_other w p _ v (fun e => hp (by rw [e]))
  exact ⟨⟨(k 0).trans h0, (k 1).trans h1, (k 2).trans h2⟩, by simpa using f0, by simpa using f1, by simpa using f2⟩
theorem Sl.set {w : World} {lo hi : Nat} {v : Value} {zs : List Int} (h : Sl w lo hi v zs) {p : Addr} (hp : p.block < lo ∨ hi ≤ p.block) (x : Value) : Sl (w.setCell p x) lo hi v zs := by
  obtain ⟨A, c, rfl, h1, h2, h3⟩ := h
  exact ⟨A, c, rfl, h1, h2, h3.keep fun k hk1 hk2 => Below.heap_setCell w p x k (fun e => by omega)⟩
def ptr (g : Nat) : Value := .pointer (some ⟨g, 0, none⟩)

end Go.Proofs.Ytihklpkpcnahkaa
/- The contract of rat.sum. -/
namespace Go.Proofs.Ytihklpkpcnahkaa
open Go.ChangeShapes Go.WideShapes Go.RowKit
set_option linter.unusedVariables false
set_option maxRecDepth 100000

theorem sumOk_eq (r s : Rat) : sumOk r s = (prOk r.num.natAbs s.den s.num.natAbs r.den && (decide (r.den * s.den < big48) && ssOk (negR r) (r.num.natAbs * s.den) (negR s) (s.num.natAbs * r.den))) := by
  unfold sumOk prOk ssOk; rw [Bool.and_assoc]

/-- The variables of rat.sum: ten blocks from B on. -/
def Fr (W : World) (B : Nat) (a0 a1 a2 b0 b1 b2 x y p q n e f1 f2 f3 : Value) : Prop :=
  (Cel W B a0 a1 a2 ∧ Cel W (B + 1) b0 b1 b2 ∧ Cel W (B + 2) (.bool false) (.slice none 0 0) (.slice none 0 0)) ∧ (One W (B + 3) x ∧ One W (B + 4) y ∧ One W (B + 5) p ∧ One W (B + 6) q ∧ One W (B + 7) n ∧ One W (B + 8) e) ∧ Cel W (B + 9) f1 f2 f3
section
variable {w W w' : World} {B : Nat} {a0 a1 a2 b0 b1 b2 x y p q n e f1 f2 f3 : Value}
theorem Fr.on (h : Fr W B a0 a1 a2 b0 b1 b2 x y p q n e f1 f2 f3) (hb : Below W.heap.size W w') : Fr w' B a0 a1 a2 b0 b1 b2 x y p q n e f1 f2 f3 := by
  obtain ⟨⟨h1, h2, h3⟩, ⟨g1, g2, g3, g4, g5, g6⟩, h4⟩ := h
  exact ⟨⟨h1.on hb, h2.on hb, h3.on hb⟩, ⟨g1.on hb, g2.on hb, g3.on hb, g4.on hb, g5.on hb, g6.on hb⟩, h4.on hb⟩
theorem Fr.set_x (h : Fr W B a0 a1 a2 b0 b1 b2 x y p q n e f1 f2 f3) (v : Value) : Fr (W.setCell ⟨B + 3, 0, none⟩ v) B a0 a1 a2 b0 b1 b2 v y p q n e f1 f2 f3 := by
  obtain ⟨⟨h1, h2, h3⟩, ⟨g1, g2, g3, g4, g5, g6⟩, h4⟩ := h
  exact ⟨⟨h1.other (by show B + 3 ≠ B; omega) v, h2.other (by show B + 3 ≠ B + 1; omega) v, h3.other (by show B + 3 ≠ B + 2; omega) v⟩, ⟨g1.set v, g2.other (by show B + 3 ≠ B + 4; omega) v, g3.other (by show B + 3 ≠ B + 5; omega) v, g4.other (by show B + 3 ≠ B + 6; omega) v, g5.other (by show B + 3 ≠ B + 7; omega) v, g6.other (by show B + 3 ≠ B + 8; omega) v⟩, h4.other (by show B + 3 ≠ B + 9; omega) v⟩
theorem Fr.set_y (h : Fr W B a0 a1 a2 b0 b1 b2 x y p q n e f1 f2 f3) (v : Value) : Fr (W.setCell ⟨B + 4, 0, none⟩ v) B a0 a1 a2 b0 b1 b2 x v p q n e f1 f2 f3 := by
  obtain ⟨⟨h1, h2, h3⟩, ⟨g1, g2, g3, g4, g5, g6⟩, h4⟩ := h
  exact ⟨⟨h1.other (by show B + 4 ≠ B; omega) v, h2.other (by show B + 4 ≠ B + 1; omega) v, h3.other (by show B + 4 ≠ B + 2; omega) v⟩, ⟨g1.other (by show B + 4 ≠ B + 3; omega) v, g2.set v, g3.other (by show B + 4 ≠ B + 5; omega) v, g4.other (by show B + 4 ≠ B + 6; omega) v, g5.other (by show B + 4 ≠ B + 7; omega) v, g6.other (by show B + 4 ≠ B + 8; omega) v⟩, h4.other (by show B + 4 ≠ B + 9; omega) v⟩
theorem Fr.set_p (h : Fr W B a0 a1 a2 b0 b1 b2 x y p q n e f1 f2 f3) (v : Value) : Fr (W.setCell ⟨B + 5, 0, none⟩ v) B a0 a1 a2 b0 b1 b2 x y v q n e f1 f2 f3 := by
  obtain ⟨⟨h1, h2, h3⟩, ⟨g1, g2, g3, g4, g5, g6⟩, h4⟩ := h
  exact ⟨⟨h1.other (by show B + 5 ≠ B; omega) v, h2.other (by show B + 5 ≠ B + 1; omega) v, h3.other (by show B + 5 ≠ B + 2; omega) v⟩, ⟨g1.other (by show B + 5 ≠ B + 3; omega) v, g2.other (by show B + 5 ≠ B + 4; omega) v, g3.set v, g4.other (by show B + 5 ≠ B + 6; omega) v, g5.other (by show B + 5 ≠ B + 7; omega) v, g6.other (by show B + 5 ≠ B + 8; omega) v⟩, h4.other (by show B + 5 ≠ B + 9; omega) v⟩
theorem Fr.set_q (h : Fr W B a0 a1 a2 b0 b1 b2 x y p q n e f1 f2 f3) (v : Value) : Fr (W.setCell ⟨B + 6, 0, none⟩ v) B a0 a1 a2 b0 b1 b2 x y p v n e f1 f2 f3 := by
  obtain ⟨⟨h1, h2, h3⟩, ⟨g1, g2, g3, g4, g5, g6⟩, h4⟩ := h
  exact ⟨⟨h1.other (by show B + 6 ≠ B; omega) v, h2.other (by show B + 6 ≠ B + 1; omega) v, h3.other (by show B + 6 ≠ B + 2; omega) v⟩, ⟨g1.other (by show B + 6 ≠ B + 3; omega) v, g2.other (by show B + 6 ≠ B + 4; omega) v, g3.other (by show B + 6 ≠ B + 5; omega) v, g4.set v, g5.other (by show B + 6 ≠ B + 7; omega) v, g6.other (by show B + 6 ≠ B + 8; omega) v⟩, h4.other (by show B + 6 ≠ B + 9; omega) v⟩
theorem Fr.set_n (h : Fr W B a0 a1 a2 b0 b1 b2 x y p q n e f1 f2 f3) (v : Value) : Fr (W.setCell ⟨B + 7, 0, none⟩ v) B a0 a1 a2 b0 b1 b2 x y p q v e f1 f2 f3 := by
  obtain ⟨⟨h1, h2, h3⟩, ⟨g1, g2, g3, g4, g5, g6⟩, h4⟩ := h
  exact ⟨⟨h1.other (by show B + 7 ≠ B; omega) v, h2.other (by show B + 7 ≠ B + 1; omega) v, h3.other (by show B + 7 ≠ B + 2; omega) v⟩, ⟨g1.other (by show B + 7 ≠ B + 3; omega) v, g2.other (by show B + 7 ≠ B + 4; omega) v, g3.other (by show B + 7 ≠ B + 5; omega) v, g4.other (by show B + 7 ≠ B + 6; omega) v, g5.set v, g6.other (by show B + 7 ≠ B + 8; omega) v⟩, h4.other (by show B + 7 ≠ B + 9; omega) v⟩
theorem Fr.set_e (h : Fr W B a0 a1 a2 b0 b1 b2 x y p q n e f1 f2 f3) (v : Value) : Fr (W.setCell ⟨B + 8, 0, none⟩ v) B a0 a1 a2 b0 b1 b2 x y p q n v f1 f2 f3 := by
  obtain ⟨⟨h1, h2, h3⟩, ⟨g1, g2, g3, g4, g5, g6⟩, h4⟩ := h
  exact ⟨⟨h1.other (by show B + 8 ≠ B; omega) v, h2.other (by show B + 8 ≠ B + 1; omega) v, h3.other (by show B + 8 ≠ B + 2; omega) v⟩, ⟨g1.other (by show B + 8 ≠ B + 3; omega) v, g2.other (by show B + 8 ≠ B + 4; omega) v, g3.other (by show B + 8 ≠ B + 5; omega) v, g4.other (by show B + 8 ≠ B + 6; omega) v, g5.other (by show B + 8 ≠ B + 7; omega) v, g6.set v⟩, h4.other (by show B + 8 ≠ B + 9; omega) v⟩
/-- What lies behind the variables stays. -/
def Keep (W w' : World) (lo : Nat) : Prop := W.heap.size ≤ w'.heap.size ∧ ∀ v zs, Sl W lo W.heap.size v zs → Sl w' lo w'.heap.size v zs
theorem Keep.below {lo : Nat} (hb : Below W.heap.size W w') : Keep W w' lo := ⟨hb.size, fun v zs h => (h.below hb (Nat.le_refl _)).more (Nat.le_refl _) hb.size⟩
theorem Keep.set {lo : Nat} (h : Keep W w' lo) {a : Addr} (ha : a.block < lo) (v : Value) : Keep W (w'.setCell a v) lo :=
  ⟨by simpa using h.1, fun u zs hu => by simpa using (h.2 u zs hu).set (Or.inl ha) v⟩
theorem sl_size {lo : Nat} {v : Value} {zs : List Int} {a : Addr} {u : Value} (h : Sl W lo W.heap.size v zs) (ha : a.block < lo) : Sl (W.setCell a u) lo (W.setCell a u).heap.size v zs := by
  simpa using h.set (Or.inl ha) u
theorem below_set {a : Addr} (h : Below B w W) (ha : B ≤ a.block) (v : Value) : Below B w (W.setCell a v) := h.setCell ha v
end

/-- The world in which the steps begin. -/
theorem sum_start (w : World) (a0 a1 a2 b0 b1 b2 f1 f2 f3 : Value) (t1 t2 t3 t4 t5 : TypeId) :
    Fr ((((((((((w.alloc (.cells #[a0, a1, a2] t1)).alloc (.cells #[b0, b1, b2] t1)).alloc (.cells #[.bool false, .slice none 0 0, .slice none 0 0] t1)).alloc (.cells #[.slice none 0 0] t2)).alloc (.cells #[.slice none 0 0] t2)).alloc (.cells #[.slice none 0 0] t2)).alloc (.cells #[.slice none 0 0] t2)).alloc (.cells #[.bool false] t3)).alloc (.cells #[.int .i64 0] t4)).alloc (.cells #[f1, f2, f3] t5))
      w.heap.size a0 a1 a2 b0 b1 b2 (.slice none 0 0) (.slice none 0 0) (.slice none 0 0) (.slice none 0 0) (.bool false) (.int .i64 0) f1 f2 f3 := by
  have cn : ∀ (W : World) (u0 u1 u2 : Value) (t : TypeId) (g : Nat), g = W.heap.size → Cel (W.alloc (.cells #[u0, u1, u2] t)) g u0 u1 u2 := fun W u0 u1 u2 t g h => h ▸ Cel.new W u0 u1 u2 t
  have on : ∀ (W : World) (u : Value) (t : TypeId) (g : Nat), g = W.heap.size → One (W.alloc (.cells #[u] t)) g u := fun W u t g h => h ▸ One.new W u t
  refine ⟨⟨?_, ?_, ?_⟩, ⟨?_, ?_, ?_, ?_, ?_, ?_⟩, ?_⟩
  · exact (((((((((cn _ _ _ _ _ _ rfl).alloc _).alloc _).alloc _).alloc _).alloc _).alloc _).alloc _).alloc _).alloc _
  · exact ((((((((cn _ _ _ _ _ _ (by simp)).alloc _).alloc _).alloc _).alloc _).alloc _).alloc _).alloc _).alloc _
  · exact (((((((cn _ _ _ _ _ _ (by simp)).alloc _).alloc _).alloc _).alloc _).alloc _).alloc _).alloc _
  · exact ((((((on _ _ _ _ (by simp)).alloc _).alloc _).alloc _).alloc _).alloc _).alloc _
  · exact (((((on _ _ _ _ (by simp)).alloc _).alloc _).alloc _).alloc _).alloc _
  · exact ((((on _ _ _ _ (by simp)).alloc _).alloc _).alloc _).alloc _
  · exact (((on _ _ _ _ (by simp)).alloc _).alloc _).alloc _
  · exact ((on _ _ _ _ (by simp)).alloc _).alloc _
  · exact (on _ _ _ _ (by simp)).alloc _
  · exact cn _ _ _ _ _ _ (by simp)

section
variable {w W : World} {B : Nat} {r s : Rat} {va0 va1 va2 vb0 vb1 vb2 x y p q n e f1 f2 f3 : Value}
end
end Go.Proofs.Ytihklpkpcnahkaa
/- The contract of rat.sum. -/
namespace Go.Proofs.Ytihklpkpcnahkaa
open Go.ChangeShapes Go.WideShapes Go.RowKit
set_option linter.unusedVariables false
set_option maxRecDepth 100000

theorem sMag_lt {m n : Bool} {x y : Nat} (hx : x < big48) (hy : y < big48) (h : ssOk m x n y = true) : sMag m x n y < big48 := by
  unfold sMag ssOk at *
  by_cases hmn : m = n
  · subst hmn
    rw [if_pos rfl]
    have : (m != m) = false := by cases m <;> rfl
    rw [this, Bool.false_or] at h
    exact of_decide_eq_true h
  · rw [if_neg hmn]
    split <;> omega
theorem prOk_parts {a b c d : Nat} (h : prOk a b c d = true) : a * b < big48 ∧ c * d < big48 := by
  unfold prOk at h; simpa using h

end Go.Proofs.Ytihklpkpcnahkaa
/- Contracts of rat.times, Add, Mul of rat; Add, Mul of the reference. -/
namespace Go.Proofs.Ytihklpkpcnahkaa
open Go.ChangeShapes Go.WideShapes Go.RowKit
set_option linter.unusedVariables false
set_option maxRecDepth 100000

theorem mulOk_eq (r s : Rat) : mulOk r s = prOk r.num.natAbs s.num.natAbs r.den s.den := rfl
theorem bne_dec (m n : Bool) : (m != n) = !(m == n) := rfl

end Go.Proofs.Ytihklpkpcnahkaa
/- Contracts of Add and Mul of rat. -/
namespace Go.Proofs.Ytihklpkpcnahkaa
open Go.ChangeShapes Go.WideShapes Go.RowKit
set_option linter.unusedVariables false
set_option maxRecDepth 100000

/-- Both arguments valid. -/
def two (b : Bool) (xs ys : List Int) (c : Bool) (zs ts : List Int) : Bool := valR b xs ys && valR c zs ts
theorem two_cases (b : Bool) (xs ys : List Int) (c : Bool) (zs ts : List Int) :
    (valR b xs ys = false ∧ two b xs ys c zs ts = false) ∨ (valR b xs ys = true ∧ valR c zs ts = false ∧ two b xs ys c zs ts = false) ∨
    (two b xs ys c zs ts = true ∧ ∃ r s, (fitR r = true ∧ b = negR r ∧ xs = topL r ∧ ys = botL r) ∧ (fitR s = true ∧ c = negR s ∧ zs = topL s ∧ ts = botL s)) := by
  unfold two
  cases h1 : valR b xs ys with
  | false => exact Or.inl ⟨rfl, rfl⟩
  | true =>
    cases h2 : valR c zs ts with
    | false => exact Or.inr (Or.inl ⟨rfl, rfl, rfl⟩)
    | true =>
      obtain ⟨r, hr⟩ := val_form h1
      obtain ⟨s, hs⟩ := val_form h2
      exact Or.inr (Or.inr ⟨rfl, r, s, hr, hs⟩)
theorem two_form {r s : Rat} (hr : fitR r = true) (hs : fitR s = true) : two (negR r) (topL r) (botL r) (negR s) (topL s) (botL s) = true := by
  unfold two; rw [(form_val hr).1, (form_val hs).1]; rfl
def opE (ok : Rat → Rat → Bool) (b : Bool) (xs ys : List Int) (c : Bool) (zs ts : List Int) : Int := if two b xs ys c zs ts then okE (ok (ratV b xs ys) (ratV c zs ts)) else 3
def opV (f : Rat → Rat → Rat) (b : Bool) (xs ys : List Int) (c : Bool) (zs ts : List Int) : Rat := f (ratV b xs ys) (ratV c zs ts)
theorem opE_no {ok : Rat → Rat → Bool} {b : Bool} {xs ys : List Int} {c : Bool} {zs ts : List Int} (h : two b xs ys c zs ts = false) : opE ok b xs ys c zs ts = 3 := by unfold opE; rw [h]; rfl
theorem op_form {ok : Rat → Rat → Bool} {f : Rat → Rat → Rat} {r s : Rat} (hr : fitR r = true) (hs : fitR s = true) :
    opE ok (negR r) (topL r) (botL r) (negR s) (topL s) (botL s) = okE (ok r s) ∧ opV f (negR r) (topL r) (botL r) (negR s) (topL s) (botL s) = f r s := by
  unfold opE opV; rw [two_form hr hs, (form_val hr).2, (form_val hs).2]; exact ⟨rfl, rfl⟩
def addOp (r s : Rat) : Rat := r + s
def mulOp (r s : Rat) : Rat := r * s
/-- The result from a call below. -/
theorem RRes.open_ {w : World} {err : Int} {r : Rat} {e : Ending} {w' : World} (h : RRes w err r e w') :
    ∃ b A n c B m d, e = .returned (.tuple #[.agg #[.bool b, .slice A n c, .slice B m d], .int .i64 err]) ∧ OutR w' (.agg #[.bool b, .slice A n c, .slice B m d]) err r ∧ Below w.heap.size w w' := by
  obtain ⟨v, rfl, ho, hb⟩ := h
  have k : ∃ b xs ys, InR w' v b xs ys := by
    unfold OutR at ho; split at ho
    · exact ⟨_, _, _, ho⟩
    · exact ⟨_, _, _, ho⟩
  obtain ⟨b, xs, ys, vp, vq, rfl, h1, h2⟩ := k
  obtain ⟨A, c, rfl, -⟩ := in_open h1
  obtain ⟨B, d, rfl, -⟩ := in_open h2
  exact ⟨b, A, _, c, B, _, d, rfl, ho, hb⟩
theorem InR.put3 {w : World} {v : Value} {b b' : Bool} {xs ys : List Int} {g : Nat} {A B : Option Addr} {n c m d : Nat} (h : InR w v b xs ys) (hc : Cel w g (.bool b') (.slice A n c) (.slice B m d)) (x0 x1 x2 : Value) : InR (put3 w g x0 x1 x2) v b xs ys := by
  obtain ⟨vp, vq, e, h1, h2⟩ := h; exact ⟨vp, vq, e, h1.put3 hc _ _ _, h2.put3 hc _ _ _⟩
theorem OutR.on {w w' : World} {v : Value} {err : Int} {r : Rat} (h : OutR w v err r) (hb : Below w.heap.size w w') : OutR w' v err r := by
  unfold OutR at *
  split
  · rename_i e; rw [if_pos e] at h; exact InR.on h hb
  · rename_i e; rw [if_neg e] at h; exact InR.on h hb
theorem OutR.put3 {w : World} {v : Value} {err : Int} {r : Rat} {b' : Bool} {g : Nat} {A B : Option Addr} {n c m d : Nat} (h : OutR w v err r) (hc : Cel w g (.bool b') (.slice A n c) (.slice B m d)) (x0 x1 x2 : Value) : OutR (put3 w g x0 x1 x2) v err r := by
  unfold OutR at *
  split
  · rename_i e; rw [if_pos e] at h; exact InR.put3 h hc _ _ _
  · rename_i e; rw [if_neg e] at h; exact InR.put3 h hc _ _ _

end Go.Proofs.Ytihklpkpcnahkaa
/- Contracts of Add and Mul of the reference. -/
namespace Go.Proofs.Ytihklpkpcnahkaa
open Go.ChangeShapes Go.WideShapes Go.RowKit
set_option linter.unusedVariables false
set_option maxRecDepth 100000

end Go.Proofs.Ytihklpkpcnahkaa
/- The contract of Add of the reference. -/
namespace Go.Proofs.Ytihklpkpcnahkaa
open Go.ChangeShapes Go.WideShapes Go.RowKit
set_option linter.unusedVariables false
set_option maxRecDepth 100000

end Go.Proofs.Ytihklpkpcnahkaa
/- Contracts of Sub of rat and of its reference. -/
namespace Go.Proofs.Ytihklpkpcnahkaa
open Go.ChangeShapes Go.WideShapes Go.RowKit
set_option linter.unusedVariables false
set_option maxRecDepth 100000

def subOk (r s : Rat) : Bool := sumOk r (-s)
def subOp (r s : Rat) : Rat := r + -s
theorem len_emp (n : Nat) : (limbs n).isEmpty = !decide (0 < n) := by rw [limbs_emp]; by_cases h : n = 0 <;> simp [h]; omega
theorem signed_neg {w : World} {v : Value} {s : Rat} (h : InR w v (!negR s && !(topL s).isEmpty) (topL s) (botL s)) : IsR w v (-s) := by
  obtain ⟨e1, e2, e3⟩ := neg_form s
  have e : (!negR s && !(topL s).isEmpty) = negR (-s) := by rw [e1, topL, len_emp, Bool.not_not]
  unfold IsR
  rw [e2, e3, ← e]; exact h
theorem In.drew {w : World} {v : Value} {zs : List Int} (h : In w v zs) : In w.drew v zs := h
theorem InR.drew {w : World} {v : Value} {b : Bool} {xs ys : List Int} (h : InR w v b xs ys) : InR w.drew v b xs ys := h
theorem Cel.put3o {w : World} {g g' : Nat} {u0 u1 u2 : Value} (h : Cel w g u0 u1 u2) (hg : g' ≠ g) (x0 x1 x2 : Value) : Cel (Go.Proofs.Ytihklpkpcnahkaa.put3 w g' x0 x1 x2) g u0 u1 u2 :=
  ((h.other (p := ⟨g', 0, none⟩) hg x0).other (p := ⟨g', 1, none⟩) hg x1).other (p := ⟨g', 2, none⟩) hg x2
theorem Cel.drew {w : World} {g : Nat} {u0 u1 u2 : Value} (h : Cel w g u0 u1 u2) : Cel w.drew g u0 u1 u2 := h

end Go.Proofs.Ytihklpkpcnahkaa
/- Contracts of Sub of the reference; Div of rat and of its reference. -/
namespace Go.Proofs.Ytihklpkpcnahkaa
open Go.ChangeShapes Go.WideShapes Go.RowKit
set_option linter.unusedVariables false
set_option maxRecDepth 100000

/-- Div: its error and its value. -/
def divEr (r s : Rat) : Int := if s.num = 0 then 16 else okE (mulOk r s⁻¹)
def divOp (r s : Rat) : Rat := r * s⁻¹
def opG (er : Rat → Rat → Int) (b : Bool) (xs ys : List Int) (c : Bool) (zs ts : List Int) : Int := if two b xs ys c zs ts then er (ratV b xs ys) (ratV c zs ts) else 3
theorem opG_no {er : Rat → Rat → Int} {b : Bool} {xs ys : List Int} {c : Bool} {zs ts : List Int} (h : two b xs ys c zs ts = false) : opG er b xs ys c zs ts = 3 := by unfold opG; rw [h]; rfl
theorem opG_form {er : Rat → Rat → Int} {f : Rat → Rat → Rat} {r s : Rat} (hr : fitR r = true) (hs : fitR s = true) :
    opG er (negR r) (topL r) (botL r) (negR s) (topL s) (botL s) = er r s ∧ opV f (negR r) (topL r) (botL r) (negR s) (topL s) (botL s) = f r s := by
  unfold opG opV; rw [two_form hr hs, (form_val hr).2, (form_val hs).2]; exact ⟨rfl, rfl⟩
theorem top_emp (s : Rat) : (topL s).isEmpty = decide (s.num = 0) := by
  unfold topL; rw [limbs_emp]
  by_cases h : s.num = 0
  · rw [h]; rfl
  · rw [decide_eq_false h, decide_eq_false]; omega
theorem bot_emp (s : Rat) : (botL s).isEmpty = false := by unfold botL; rw [limbs_emp]; exact decide_eq_false s.den_nz
theorem inv_is {w : World} {v : Value} {s : Rat} (h0 : s.num ≠ 0) (h : InR w v (negR s) (botL s) (topL s)) : IsR w v s⁻¹ := by
  obtain ⟨e1, e2, e3, _⟩ := inv_form h0
  unfold IsR; rw [e1, e2, e3]; exact h
theorem signed_inv {w : World} {v : Value} {s : Rat} (h0 : s.num ≠ 0) (h : InR w v (negR s && !(botL s).isEmpty) (botL s) (topL s)) : IsR w v s⁻¹ := by
  rw [bot_emp, Bool.not_false, Bool.and_true] at h; exact inv_is h0 h
theorem divEr_zero {r s : Rat} (h : s.num = 0) : divEr r s = 16 := if_pos h
theorem divEr_inv {r s : Rat} (h : s.num ≠ 0) : divEr r s = okE (mulOk r s⁻¹) := if_neg h

end Go.Proofs.Ytihklpkpcnahkaa
/- Contracts of Div of rat and of its reference. -/
namespace Go.Proofs.Ytihklpkpcnahkaa
open Go.ChangeShapes Go.WideShapes Go.RowKit
set_option linter.unusedVariables false
set_option maxRecDepth 100000

end Go.Proofs.Ytihklpkpcnahkaa
/- Contracts of Cmp of rat and of its reference. -/
namespace Go.Proofs.Ytihklpkpcnahkaa
open Go.ChangeShapes Go.WideShapes Go.RowKit
set_option linter.unusedVariables false
set_option maxRecDepth 100000

theorem bcase (b : Bool) : b = true ∨ b = false := by cases b <;> simp
theorem crossOk_eq (r s : Rat) : crossOk r s = prOk r.num.natAbs s.den s.num.natAbs r.den := rfl
theorem cmpI_swap (x y : Int) : cmpI y x = -cmpI x y := by
  rcases Int.lt_trichotomy x y with h | h | h
  · rw [cmpI_lt h, cmpI_gt h]; rfl
  · subst h; rw [cmpI_eq]; rfl
  · rw [cmpI_gt h, cmpI_lt h]
def cmpQ (r s : Rat) : Int :=
  if negR r = true then (if negR s = true then -cmpI (r.num.natAbs * s.den : Nat) (s.num.natAbs * r.den : Nat) else -1) else if negR s = true then 1 else cmpI (r.num.natAbs * s.den : Nat) (s.num.natAbs * r.den : Nat)
def cmpG (r s : Rat) : Int := if crossOk r s then cmpQ r s else 0
def cmpW (b : Bool) (xs ys : List Int) (c : Bool) (zs ts : List Int) : Int := if two b xs ys c zs ts then cmpG (ratV b xs ys) (ratV c zs ts) else 0
theorem cmpW_no {b : Bool} {xs ys : List Int} {c : Bool} {zs ts : List Int} (h : two b xs ys c zs ts = false) : cmpW b xs ys c zs ts = 0 := by unfold cmpW; rw [h]; rfl
theorem cmpW_form {r s : Rat} (hr : fitR r = true) (hs : fitR s = true) : cmpW (negR r) (topL r) (botL r) (negR s) (topL s) (botL s) = cmpG r s := by
  unfold cmpW; rw [two_form hr hs, (form_val hr).2, (form_val hs).2]; rfl
theorem cmpG_no {r s : Rat} (h : crossOk r s = false) : cmpG r s = 0 := by unfold cmpG; rw [h]; rfl
theorem cmpG_nn {r s : Rat} (h : crossOk r s = true) (h1 : negR r = true) (h2 : negR s = true) : cmpG r s = -cmpI (r.num.natAbs * s.den : Nat) (s.num.natAbs * r.den : Nat) := by
  unfold cmpG cmpQ; rw [h, h1, h2]; rfl
theorem cmpG_np {r s : Rat} (h : crossOk r s = true) (h1 : negR r = true) (h2 : negR s = false) : cmpG r s = -1 := by
  unfold cmpG cmpQ; rw [h, h1, h2]; rfl
theorem cmpG_pn {r s : Rat} (h : crossOk r s = true) (h1 : negR r = false) (h2 : negR s = true) : cmpG r s = 1 := by
  unfold cmpG cmpQ; rw [h, h1, h2]; rfl
theorem cmpG_pp {r s : Rat} (h : crossOk r s = true) (h1 : negR r = false) (h2 : negR s = false) : cmpG r s = cmpI (r.num.natAbs * s.den : Nat) (s.num.natAbs * r.den : Nat) := by
  unfold cmpG cmpQ; rw [h, h1, h2]; rfl

end Go.Proofs.Ytihklpkpcnahkaa
/- The contract of Cmp of the reference. -/
namespace Go.Proofs.Ytihklpkpcnahkaa
open Go.ChangeShapes Go.WideShapes Go.RowKit
set_option linter.unusedVariables false
set_option maxRecDepth 100000

theorem cmpI_bd (x y : Int) : -1 ≤ cmpI x y ∧ cmpI x y ≤ 1 := by
  rcases Int.lt_trichotomy x y with h | h | h
  · rw [cmpI_lt h]; decide
  · subst h; rw [cmpI_eq]; decide
  · rw [cmpI_gt h]; decide

end Go.Proofs.Ytihklpkpcnahkaa
/- Contracts of Make and Of, of rat and of its reference. -/
namespace Go.Proofs.Ytihklpkpcnahkaa
open Go.ChangeShapes Go.WideShapes Go.RowKit
set_option linter.unusedVariables false
set_option maxRecDepth 100000

def mkNeg (p q : Int) : Bool := decide (p < 0) != decide (q < 0)
def mkV (p q : Int) : Rat := mkRat (sgI (mkNeg p q) p.natAbs) q.natAbs
def mkE (p q : Int) : Int := if inRB p && inRB q then (if q = 0 then 16 else 0) else 1
theorem inRB_iff {n : Int} : inRB n = true ↔ -1125899906842624 ≤ n ∧ n ≤ 1125899906842624 := by simp [inRB]
theorem mkE_1 {p q : Int} (h : inRB p = false) : mkE p q = 1 := by unfold mkE; rw [h]; rfl
theorem mkE_2 {p q : Int} (h : inRB p = true) (h2 : inRB q = false) : mkE p q = 1 := by unfold mkE; rw [h, h2]; rfl
theorem mkE_3 {p : Int} (h : inRB p = true) : mkE p 0 = 16 := by unfold mkE; rw [h]; rfl
theorem mkE_4 {p q : Int} (h : inRB p = true) (h2 : inRB q = true) (h3 : q ≠ 0) : mkE p q = 0 := by unfold mkE; rw [h, h2]; simp [h3]
theorem small48 {n : Nat} (h : n ≤ 1125899906842624) : n < big48 := by
  have : 1000000000 ^ 2 ≤ big48 := Nat.pow_le_pow_right (by decide) (by decide)
  have e : (1000000000 : Nat) ^ 2 = 1000000000000000000 := by decide
  omega

end Go.Proofs.Ytihklpkpcnahkaa
/- Contracts of slices.Clone at api.Nat; Neg of rat and of its reference. -/
namespace Go.Proofs.Ytihklpkpcnahkaa
open Go.ChangeShapes Go.WideShapes Go.RowKit
set_option linter.unusedVariables false
set_option maxRecDepth 100000

theorem own_nothing (w : World) : (w.alloc (.cells #[] 3)).ownsRow w.heap.size 3 1 (.slice (some ⟨w.heap.size, 0, none⟩) 0 0) ([] : List Int).length (([] : List Int).map (Value.int .i64)) := own_empty w
/-- A function of one number. -/
def opH (er : Rat → Int) (b : Bool) (xs ys : List Int) : Int := if valR b xs ys then er (ratV b xs ys) else 3
def opU (f : Rat → Rat) (b : Bool) (xs ys : List Int) : Rat := f (ratV b xs ys)
theorem opH_no {er : Rat → Int} {b : Bool} {xs ys : List Int} (h : valR b xs ys = false) : opH er b xs ys = 3 := by unfold opH; rw [h]; rfl
theorem opH_form {er : Rat → Int} {f : Rat → Rat} {r : Rat} (hr : fitR r = true) : opH er (negR r) (topL r) (botL r) = er r ∧ opU f (negR r) (topL r) (botL r) = f r := by
  unfold opH opU; rw [(form_val hr).1, (form_val hr).2]; exact ⟨rfl, rfl⟩
def noE (r : Rat) : Int := 0
def negOp (r : Rat) : Rat := -r

end Go.Proofs.Ytihklpkpcnahkaa
/- Contracts of rounded, Floor, Ceil of rat; Floor, Ceil of the reference. -/
namespace Go.Proofs.Ytihklpkpcnahkaa
open Go.ChangeShapes Go.WideShapes Go.RowKit
set_option linter.unusedVariables false
set_option maxRecDepth 100000

def rQ (r : Rat) : Nat := r.num.natAbs / r.den
def rM (r : Rat) : Nat := r.num.natAbs % r.den
def rmag (r : Rat) (away : Bool) : Nat := if away && decide (0 < rM r) then rQ r + 1 else rQ r
def rndV (r : Rat) (away : Bool) : Int := if rmag r away ≤ 1125899906842624 then sgI (negR r) (rmag r away) else 0
def rndE (r : Rat) (away : Bool) : Int := if rmag r away ≤ 1125899906842624 then 0 else 2
def rW (away : Bool) (b : Bool) (xs ys : List Int) : Int := if valR b xs ys then rndV (ratV b xs ys) away else 0
theorem rW_no {away b : Bool} {xs ys : List Int} (h : valR b xs ys = false) : rW away b xs ys = 0 := by unfold rW; rw [h]; rfl
theorem rW_form {away : Bool} {r : Rat} (hr : fitR r = true) : rW away (negR r) (topL r) (botL r) = rndV r away := by unfold rW; rw [(form_val hr).1, (form_val hr).2]; rfl
theorem rE_form {away : Bool} {r : Rat} (hr : fitR r = true) : opH (fun r => rndE r away) (negR r) (topL r) (botL r) = rndE r away := (opH_form (f := negOp) hr).1
theorem rnd_big {r : Rat} {away : Bool} (h : 1125899906842624 < rmag r away) : rndV r away = 0 ∧ rndE r away = 2 := ⟨if_neg (by omega), if_neg (by omega)⟩
theorem rnd_ok {r : Rat} {away : Bool} {n : Nat} (e : rmag r away = n) (h : n ≤ 1125899906842624) : rndV r away = sgI (negR r) n ∧ rndE r away = 0 := by
  subst e; exact ⟨if_pos h, if_pos h⟩
theorem rmag_away {r : Rat} (h : 0 < rM r) : rmag r true = rQ r + 1 := by unfold rmag; rw [decide_eq_true h]; rfl
theorem rmag_exact {r : Rat} {away : Bool} (h : rM r = 0) : rmag r away = rQ r := by unfold rmag; rw [h]; cases away <;> rfl
theorem rmag_down (r : Rat) : rmag r false = rQ r := rfl
theorem rmag_ge (r : Rat) (away : Bool) : rQ r ≤ rmag r away := by unfold rmag; split <;> omega
theorem intV_limbs {n : Nat} (h : n < big48) : intV (limbs n) = (if (n : Int) ≤ 1125899906842624 then (n : Int) else 0) ∧ intE (limbs n) = (if (n : Int) ≤ 1125899906842624 then 0 else 2) := by
  unfold intV intE; rw [valid48 h, if_pos rfl, if_pos rfl, nval_limbs]; exact ⟨rfl, rfl⟩
theorem rQ_lt {r : Rat} (hr : fitR r = true) : rQ r < big48 := Nat.lt_of_le_of_lt (Nat.div_le_self _ _) (fitR_iff.mp hr).1
theorem len_pos_dec (n : Nat) : decide (0 < (limbs n).length) = decide (0 < n) := by
  by_cases h : n = 0
  · subst h; rw [limbs_zero]; rfl
  · rw [decide_eq_true (limbs_len_pos.mpr h), decide_eq_true (Nat.pos_of_ne_zero h)]

end Go.Proofs.Ytihklpkpcnahkaa
/- Contracts of Floor, Ceil of rat and of its reference. -/
namespace Go.Proofs.Ytihklpkpcnahkaa
open Go.ChangeShapes Go.WideShapes Go.RowKit
set_option linter.unusedVariables false
set_option maxRecDepth 100000

def floorV (b : Bool) (xs ys : List Int) : Int := rW b b xs ys
def floorE (b : Bool) (xs ys : List Int) : Int := opH (fun r => rndE r b) b xs ys
def ceilV (b : Bool) (xs ys : List Int) : Int := rW (!b) b xs ys
def ceilE (b : Bool) (xs ys : List Int) : Int := opH (fun r => rndE r (!b)) b xs ys
theorem rmag_neg (r : Rat) (away : Bool) : rmag (-r) away = rmag r away := by
  unfold rmag rQ rM; rw [(neg_parts r).1, (neg_parts r).2, Int.natAbs_neg]
theorem rmag_zero {r : Rat} (h : r.num = 0) (away : Bool) : rmag r away = 0 := by unfold rmag rQ rM; rw [h]; cases away <;> simp
theorem negR_neg_zero {r : Rat} (h : r.num = 0) : negR (-r) = false ∧ negR r = false := by
  unfold negR; rw [(neg_parts r).1, h]; exact ⟨rfl, rfl⟩
theorem negR_neg {r : Rat} (h : r.num ≠ 0) : negR (-r) = !negR r := by
  rw [(neg_form r).1, decide_eq_true (show 0 < r.num.natAbs by omega), Bool.and_true]
/-- The least integer above is the negative of the greatest one below the negative. -/
theorem ceil_neg (r : Rat) : -(rndV (-r) (negR (-r))) = rndV r (!negR r) ∧ rndE (-r) (negR (-r)) = rndE r (!negR r) := by
  unfold rndV rndE
  rw [rmag_neg]
  by_cases h : r.num = 0
  · rw [rmag_zero h, rmag_zero h, (negR_neg_zero h).1, (negR_neg_zero h).2]; exact ⟨by decide, rfl⟩
  · rw [negR_neg h]
    refine ⟨?_, rfl⟩
    split
    · cases negR r <;> simp [sgI]
    · rfl
theorem rndV_bd (r : Rat) (away : Bool) : -1125899906842624 ≤ rndV r away ∧ rndV r away ≤ 1125899906842624 := by
  unfold rndV
  split
  · unfold sgI; split <;> omega
  · omega

end Go.Proofs.Ytihklpkpcnahkaa
/- Contracts of Text of rat and of its reference. -/
namespace Go.Proofs.Ytihklpkpcnahkaa
open Go.ChangeShapes Go.WideShapes Go.RowKit
set_option linter.unusedVariables false
set_option maxRecDepth 100000

/-- The text of a number. -/
def txtL (r : Rat) : List UInt8 := (if negR r then [45] else []) ++ (Lib.decDigits r.num.natAbs ++ (if r.den = 1 then [] else 47 :: Lib.decDigits r.den))
def txtS (r : Rat) : ByteArray := ⟨(txtL r).toArray⟩
def txtW (b : Bool) (xs ys : List Int) : ByteArray := if valR b xs ys then txtS (ratV b xs ys) else ⟨#[]⟩
theorem txtW_no {b : Bool} {xs ys : List Int} (h : valR b xs ys = false) : txtW b xs ys = ⟨#[]⟩ := by unfold txtW; rw [h]; rfl
theorem txtW_form {r : Rat} (hr : fitR r = true) : txtW (negR r) (topL r) (botL r) = txtS r := by unfold txtW; rw [(form_val hr).1, (form_val hr).2]; rfl
theorem textV_limbs {n : Nat} (h : n < big48) : (textV (limbs n)).data.toList = Lib.decDigits n := by rw [textV, valid48 h, nvt]; rfl
theorem oneE_limbs {n : Nat} (h : n < big48) : oneE (limbs n) = 0 := by rw [oneE, valid48 h]; rfl
theorem text_short {n : Nat} (h : n < big48) : (textV (limbs n)).size ≤ 432 := by
  have hlt : n < 10 ^ (431 + 1) := by unfold big48 at h; rw [pow9, show 9 * 48 = 431 + 1 from rfl] at h; exact h
  have hlen := dec_len (k := 431) hlt
  rw [← textV_limbs h, str_len] at hlen
  omega
theorem txt_ff {r : Rat} (hr : fitR r = true) (h1 : negR r = false) (h2 : r.den = 1) : textV (topL r) = txtS r := by
  refine bytes_inj ?_
  unfold topL txtS txtL
  rw [textV_limbs (fitR_iff.mp hr).1, h1, h2]; simp
theorem txt_tf {r : Rat} (hr : fitR r = true) (h1 : negR r = true) (h2 : r.den = 1) : (⟨#[45]⟩ : ByteArray) ++ textV (topL r) = txtS r := by
  refine bytes_inj ?_
  unfold topL txtS txtL
  rw [ByteArray.data_append, Array.toList_append, textV_limbs (fitR_iff.mp hr).1, h1, h2]; simp
theorem txt_ft {r : Rat} (hr : fitR r = true) (h1 : negR r = false) (h2 : r.den ≠ 1) : textV (topL r) ++ ((⟨#[47]⟩ : ByteArray) ++ textV (botL r)) = txtS r := by
  refine bytes_inj ?_
  unfold topL botL txtS txtL
  rw [ByteArray.data_append, ByteArray.data_append, Array.toList_append, Array.toList_append, textV_limbs (fitR_iff.mp hr).1, textV_limbs (fitR_iff.mp hr).2, h1, if_neg h2]; simp
theorem txt_tt {r : Rat} (hr : fitR r = true) (h1 : negR r = true) (h2 : r.den ≠ 1) : ((⟨#[45]⟩ : ByteArray) ++ textV (topL r)) ++ ((⟨#[47]⟩ : ByteArray) ++ textV (botL r)) = txtS r := by
  refine bytes_inj ?_
  unfold topL botL txtS txtL
  rw [ByteArray.data_append, ByteArray.data_append, ByteArray.data_append, Array.toList_append, Array.toList_append, Array.toList_append, textV_limbs (fitR_iff.mp hr).1, textV_limbs (fitR_iff.mp hr).2, h1, if_neg h2]; simp
theorem bot_one (r : Rat) : decide (botL r = [1]) = decide (r.den = 1) := limbs_is_one r.den

end Go.Proofs.Ytihklpkpcnahkaa
