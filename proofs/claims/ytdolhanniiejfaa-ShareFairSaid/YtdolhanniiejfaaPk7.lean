/- Several texts in one: NatY2, NatY3, RatA, RatB, NatZ5, RatC, RatD, RatE, RatF, RatG, RatH, RatI, RatJ, RatK, RatL, RatM, RatN, RatO, RatP, RatQ, RatR, RatS, RatT, RatU. -/
import Derived.Test.YtdolhanniiejfaaPk6
import Derived.Test.YtdolhanniiejfaaPk5
import Derived.Deep.RegionWith
import Derived.Deep.RegionHeld3
import Derived.LoopN
import Derived.StillTailTactics
import Derived.Lib.SliceRun
/- Contracts of limb and Text of the reference. -/
namespace Go.Proofs.Ytdolhanniiejfaa
open Go.ChangeShapes Go.WideShapes Go.RowKit
set_option linter.unusedVariables false
set_option maxRecDepth 100000

theorem padD_cons (k : Nat) : ∀ n : Nat, padD (k + 1) n = UInt8.ofNat (48 + n / 10 ^ k % 10) :: padD k n := by
  induction k with
  | zero => intro n; simp [padD]
  | succ k ih =>
    intro n
    rw [padD, ih (n / 10), padD, List.cons_append, Nat.div_div_eq_div_mul, Nat.pow_succ, Nat.mul_comm 10]
theorem padD_mod (k : Nat) : ∀ n : Nat, padD k n = padD k (n % 10 ^ k) := by
  induction k with
  | zero => intro n; rfl
  | succ k ih =>
    intro n
    have p : 0 < 10 ^ k := Nat.pow_pos (by decide)
    have e1 : n % 10 ^ (k + 1) / 10 = n / 10 % 10 ^ k := by rw [Nat.pow_succ, Nat.mul_comm, Nat.mod_mul_right_div_self]
    have e2 : n % 10 ^ (k + 1) % 10 = n % 10 := by rw [Nat.pow_succ, Nat.mul_comm, Nat.mod_mul_right_mod]
    rw [padD, padD, e1, e2, ih (n / 10)]
theorem dec_split (k n : Nat) (h : 0 < n / 10 ^ k) : Lib.decDigits n = Lib.decDigits (n / 10 ^ k) ++ padD k n := by
  have p : 0 < 10 ^ k := Nat.pow_pos (by decide)
  have e := dec_pad k (n / 10 ^ k) (n % 10 ^ k) h (Nat.mod_lt _ p)
  rw [Nat.mul_comm, Nat.div_add_mod, ← padD_mod] at e
  exact e
theorem dec_done (k n : Nat) (h0 : 0 < n / 10 ^ k) (h1 : n / 10 ^ (k + 1) = 0) : Lib.decDigits n = padD (k + 1) n := by
  have hd : n / 10 ^ k < 10 := by
    rw [Nat.pow_succ, ← Nat.div_div_eq_div_mul] at h1
    omega
  rw [dec_split k n h0, Lib.decDigits_one hd, padD_cons, Nat.mod_eq_of_lt hd]; rfl
/-- The digits of a limb: nine of them, if full. -/
def limbL (n : Nat) (full : Bool) : List UInt8 := if full then padD 9 n else Lib.decDigits n
theorem digit_str {d : Nat} (h : d < 10) : (ByteArray.extract ⟨#[48, 49, 50, 51, 52, 53, 54, 55, 56, 57]⟩ d (d + 1)) = ⟨#[UInt8.ofNat (48 + d)]⟩ := by
  have : ∀ d : Nat, d < 10 → (ByteArray.extract ⟨#[48, 49, 50, 51, 52, 53, 54, 55, 56, 57]⟩ d (d + 1)).data.toList = [UInt8.ofNat (48 + d)] := by decide +kernel
  exact bytes_inj (this d h)

theorem padD_add (j : Nat) (k : Nat) : ∀ q r : Nat, r < 10 ^ k → padD (j + k) (q * 10 ^ k + r) = padD j q ++ padD k r := by
  induction k with
  | zero => intro q r h; obtain rfl : r = 0 := by simpa using h
            simp [padD]
  | succ k ih =>
    intro q r hr
    have p : 0 < 10 ^ k := Nat.pow_pos (by decide)
    rw [Nat.pow_succ] at hr ⊢
    have e1 : (q * (10 ^ k * 10) + r) / 10 = q * 10 ^ k + r / 10 := by
      rw [← Nat.mul_assoc, Nat.mul_comm (q * 10 ^ k) 10, Nat.mul_add_div (by decide)]
    have e2 : (q * (10 ^ k * 10) + r) % 10 = r % 10 := by
      rw [← Nat.mul_assoc, Nat.mul_comm (q * 10 ^ k) 10, Nat.mul_add_mod]
    rw [← Nat.add_assoc, padD, e1, e2, ih q (r / 10) (by omega), padD, List.append_assoc]
theorem nval_nat_lt {l : List Int} (h : lok l = true) : (nval l).toNat < 10 ^ (9 * l.length) := by
  rw [← pow9]
  have a := nval_lt h
  have b := nval_nonneg h
  have : ((1000000000 ^ l.length : Nat) : Int) = (1000000000 : Int) ^ l.length := by rw [Int.natCast_pow]; rfl
  omega
theorem nval_nat_snoc {l : List Int} {k : Nat} {x : Int} (hx : l[k]? = some x) (hl : lok l = true) : (nval (l.take (k + 1))).toNat = x.toNat * 10 ^ (9 * k) + (nval (l.take k)).toNat := by
  have xb := lok_at hl hx
  have hk : k < l.length := by
    rcases Nat.lt_or_ge k l.length with h1 | h1
    · exact h1
    · rw [List.getElem?_eq_none h1] at hx; cases hx
  rw [trim_step hx, nval_snoc, List.length_take, Nat.min_eq_left (by omega), ← pow9]
  have b := nval_nonneg (lok_take hl k)
  have e : ((1000000000 ^ k : Nat) : Int) = (1000000000 : Int) ^ k := by rw [Int.natCast_pow]; rfl
  have ex : x = (x.toNat : Int) := by omega
  have e2 : (1000000000 : Int) ^ k * x = ((x.toNat * 1000000000 ^ k : Nat) : Int) := by rw [Int.natCast_mul, e, ← ex, Int.mul_comm]
  rw [e2]; omega
theorem take_nat_lt {l : List Int} {k : Nat} (hl : lok l = true) (hk : k ≤ l.length) : (nval (l.take k)).toNat < 10 ^ (9 * k) := by
  have := nval_nat_lt (lok_take hl k)
  rwa [List.length_take, Nat.min_eq_left hk] at this
end Go.Proofs.Ytdolhanniiejfaa
/- The contract of Text of the reference. -/
namespace Go.Proofs.Ytdolhanniiejfaa
open Go.ChangeShapes Go.WideShapes Go.RowKit
set_option linter.unusedVariables false
set_option maxRecDepth 100000

theorem top_pos_last {ys : List Int} {b : Int} (hy : nrm ys = true) (hp : 0 < ys.length) (hb : ys[ys.length - 1]? = some b) : 0 < b := by
  have h := nrm_lok hy
  have b0 := lok_at h hb
  rcases Int.lt_or_eq_of_le b0.1 with h1 | h1
  · exact h1
  · exfalso
    subst h1
    have : ys.getLast? = some 0 := by rw [List.getLast?_eq_getElem?]; exact hb
    simp [nrm, this] at hy
theorem rtext_step {xs : List Int} {k : Nat} {x : Int} {S T : ByteArray} (hl : lok xs = true) (hx : xs[k]? = some x) (hk : k < xs.length) (hT : T.data.toList = limbL x.toNat true) (hS : S.data.toList = padD (9 * k) (nval (xs.take k)).toNat) :
    (T ++ S).data.toList = padD (9 * (k + 1)) (nval (xs.take (k + 1))).toNat := by
  rw [ByteArray.data_append, Array.toList_append, hT, hS, nval_nat_snoc hx hl, show 9 * (k + 1) = 9 + 9 * k by omega, padD_add _ _ _ _ (take_nat_lt hl (by omega))]
  rfl
theorem rtext_last {xs : List Int} {x : Int} {S T : ByteArray} (hv : validB xs = true) (hp : 0 < xs.length) (hx : xs[xs.length - 1]? = some x) (hT : T.data.toList = limbL x.toNat false) (hS : S.data.toList = padD (9 * (xs.length - 1)) (nval (xs.take (xs.length - 1))).toNat) :
    T ++ S = textV xs ∧ 0 < x.toNat := by
  have hl := valid_lok hv
  have xp : 0 < x := by
    have := top_pos_last (valid_nrm hv) hp hx
    exact this
  have h := nval_nat_snoc hx hl
  rw [show xs.length - 1 + 1 = xs.length by omega, List.take_length] at h
  refine ⟨bytes_inj ?_, by omega⟩
  rw [ByteArray.data_append, Array.toList_append, hT, hS, textV, hv]
  show limbL x.toNat false ++ _ = Lib.decDigits (nval xs).toNat
  rw [h, dec_pad _ _ _ (by omega) (take_nat_lt hl (by omega))]
  rfl

theorem fin_text {xs : List Int} {s : ByteArray} {n : Int} {w w' : World} (h1 : s = textV xs) (h2 : n = oneE xs) (h3 : w = w') : Ending.returned (.tuple #[.string s, .int .i64 n]) = Ending.returned (.tuple #[.string (textV xs), .int .i64 (oneE xs)]) ∧ w = w' := by
  subst h1 h2; exact ⟨rfl, h3⟩

end Go.Proofs.Ytdolhanniiejfaa
/- Exact rational numbers: what a sign and two lists of limbs stand for; the one form of each number; what fits. No walk. -/
namespace Go.Proofs.Ytdolhanniiejfaa
open Go.ChangeShapes Go.WideShapes Go.RowKit
set_option linter.unusedVariables false
set_option maxRecDepth 100000

/-- The first number that has too many limbs. -/
def big48 : Nat := 1000000000 ^ 48
theorem big48_pos : 0 < big48 := Nat.pow_pos (by decide)

def gcd1 (n : Nat) : Bool := decide (n = 1)
/-- A valid form: a sign, and two lists of limbs. -/
def valR (b : Bool) (xs ys : List Int) : Bool := (validB xs && validB ys) && (!ys.isEmpty && (gcd1 (Nat.gcd (nval xs).toNat (nval ys).toNat) && !(b && xs.isEmpty)))
def sgI (b : Bool) (n : Nat) : Int := if b then -(n : Int) else (n : Int)
theorem sgI_abs (b : Bool) (n : Nat) : (sgI b n).natAbs = n := by cases b <;> simp [sgI]
/-- What it stands for. -/
def ratV (b : Bool) (xs ys : List Int) : Rat := mkRat (sgI b (nval xs).toNat) (nval ys).toNat
/-- The one form of a number. -/
def negR (r : Rat) : Bool := decide (r.num < 0)
def topL (r : Rat) : List Int := limbs r.num.natAbs
def botL (r : Rat) : List Int := limbs r.den
def fitR (r : Rat) : Bool := decide (r.num.natAbs < big48) && decide (r.den < big48)
theorem fitR_iff {r : Rat} : fitR r = true ↔ r.num.natAbs < big48 ∧ r.den < big48 := by simp [fitR]

theorem sgI_neg {r : Rat} : sgI (negR r) r.num.natAbs = r.num := by
  unfold sgI negR
  by_cases h : r.num < 0
  · simp [h]; omega
  · simp [h]; omega
theorem mk_back (r : Rat) : mkRat (sgI (negR r) r.num.natAbs) r.den = r := by rw [sgI_neg, Rat.mkRat_self]
theorem limbs_ne {n : Nat} (h : n ≠ 0) : (limbs n).isEmpty = false := by rw [limbs_pos h]; rfl
theorem limbs_emp (n : Nat) : (limbs n).isEmpty = decide (n = 0) := by
  by_cases h : n = 0
  · subst h; rw [limbs_zero]; rfl
  · rw [limbs_ne h]; simp [h]
theorem limbs_len_pos {n : Nat} : 0 < (limbs n).length ↔ n ≠ 0 := by
  constructor
  · intro h e; subst e; rw [limbs_zero] at h; simp at h
  · intro h; rw [limbs_pos h]; simp
theorem nvt (n : Nat) : (nval (limbs n)).toNat = n := by rw [nval_limbs]; exact Int.toNat_natCast n
theorem valid48 {n : Nat} (h : n < big48) : validB (limbs n) = true := validB_iff.mpr ⟨limbs_len_le.mpr h, nrm_of_limbs _⟩
theorem lt48 {xs : List Int} (h : validB xs = true) : (nval xs).toNat < big48 := limbs_len_le.mp (by rw [← nrm_limbs (valid_nrm h)]; exact valid_len h)
theorem form_val {r : Rat} (h : fitR r = true) : valR (negR r) (topL r) (botL r) = true ∧ ratV (negR r) (topL r) (botL r) = r := by
  rw [fitR_iff] at h
  refine ⟨?_, ?_⟩
  · unfold valR topL botL
    rw [valid48 h.1, valid48 h.2, nvt, nvt, limbs_ne r.den_nz, limbs_emp]
    have hc : gcd1 (Nat.gcd r.num.natAbs r.den) = true := decide_eq_true r.reduced
    rw [hc]
    by_cases h0 : r.num < 0
    · have : r.num.natAbs ≠ 0 := by omega
      simp [negR, this]
    · simp [negR, h0]
  · unfold ratV topL botL
    rw [nvt, nvt, mk_back]
theorem val_parts {b : Bool} {xs ys : List Int} (h : valR b xs ys = true) : validB xs = true ∧ validB ys = true ∧ ys.isEmpty = false ∧ Nat.gcd (nval xs).toNat (nval ys).toNat = 1 ∧ (b && xs.isEmpty) = false := by
  simp only [valR, gcd1, Bool.and_eq_true, decide_eq_true_eq, Bool.not_eq_true'] at h
  exact ⟨h.1.1, h.1.2, h.2.1, h.2.2.1, h.2.2.2⟩
theorem val_pos {ys : List Int} (h : validB ys = true) (he : ys.isEmpty = false) : (nval ys).toNat ≠ 0 := by
  intro e
  have h1 := valid_back h
  rw [e, limbs_zero] at h1
  rw [← h1] at he; cases he
theorem val_form {b : Bool} {xs ys : List Int} (h : valR b xs ys = true) : ∃ r, fitR r = true ∧ b = negR r ∧ xs = topL r ∧ ys = botL r := by
  obtain ⟨h1, h2, h3, h4, h5⟩ := val_parts h
  have hq := val_pos h2 h3
  have h4' : Nat.gcd (nval ys).toNat (nval xs).toNat = 1 := by rw [Nat.gcd_comm]; exact h4
  refine ⟨ratV b xs ys, ?_⟩
  have hn : (ratV b xs ys).num = sgI b (nval xs).toNat := by unfold ratV; rw [Rat.num_mkRat, if_neg hq, sgI_abs, h4']; simp
  have hd : (ratV b xs ys).den = (nval ys).toNat := by unfold ratV; rw [Rat.den_mkRat, if_neg hq, sgI_abs, h4']; simp
  have ha : (ratV b xs ys).num.natAbs = (nval xs).toNat := by rw [hn, sgI_abs]
  refine ⟨?_, ?_, ?_, ?_⟩
  · rw [fitR_iff, ha, hd]; exact ⟨lt48 h1, lt48 h2⟩
  · unfold negR
    rw [hn]
    cases b with
    | false => simp [sgI]; omega
    | true =>
      have hx : (nval xs).toNat ≠ 0 := val_pos h1 (by simpa using h5)
      simp [sgI]; omega
  · unfold topL; rw [ha]; exact (valid_back h1).symm
  · unfold botL; rw [hd]; exact (valid_back h2).symm
/-- Two numbers with one form are one. -/
theorem form_inj {r s : Rat} (h1 : negR r = negR s) (h2 : topL r = topL s) (h3 : botL r = botL s) : r = s := by
  have e2 := limbs_inj h2
  have e3 := limbs_inj h3
  rw [← mk_back r, ← mk_back s, h1, e2, e3]

/-- A reduced quotient fits where its parts do. -/
theorem mk_fit {b : Bool} {p q : Nat} (hp : p < big48) (hq : q < big48) (h0 : q ≠ 0) : fitR (mkRat (sgI b p) q) = true := by
  rw [fitR_iff, Rat.num_mkRat, Rat.den_mkRat, if_neg h0, if_neg h0, sgI_abs]
  have hg : 0 < Nat.gcd q p := Nat.gcd_pos_of_pos_left _ (by omega)
  refine ⟨?_, Nat.lt_of_le_of_lt (Nat.div_le_self _ _) hq⟩
  have : (sgI b p / (Nat.gcd q p : Int)).natAbs ≤ p := by
    have hd : (Nat.gcd q p : Int) ∣ sgI b p := by
      have h1 : (Nat.gcd q p : Int) ∣ (p : Int) := Int.natCast_dvd_natCast.mpr (Nat.gcd_dvd_right _ _)
      cases b with
      | false => exact h1
      | true => exact Int.dvd_neg.mpr h1
    rw [Int.natAbs_ediv_of_dvd hd, sgI_abs]
    exact Nat.div_le_self _ _
  exact Nat.lt_of_le_of_lt this hp
/-- The parts of a reduced quotient. -/
theorem mk_parts {b : Bool} {p q : Nat} (h0 : q ≠ 0) : (mkRat (sgI b p) q).num = sgI b (p / Nat.gcd p q) ∧ (mkRat (sgI b p) q).den = q / Nat.gcd p q := by
  rw [Rat.num_mkRat, Rat.den_mkRat, if_neg h0, if_neg h0, sgI_abs, Nat.gcd_comm q p]
  refine ⟨?_, rfl⟩
  cases b with
  | false => simp [sgI]
  | true =>
    have h1 : (Nat.gcd p q : Int) ∣ (p : Int) := Int.natCast_dvd_natCast.mpr (Nat.gcd_dvd_left _ _)
    simp only [sgI, if_true]
    rw [Int.neg_ediv_of_dvd h1, Int.natCast_ediv]
theorem negR_sg {r : Rat} {b : Bool} {p : Nat} (h : r.num = sgI b p) : negR r = (b && decide (0 < p)) := by
  unfold negR; rw [h]
  cases b with
  | false => simp [sgI]
  | true => simp [sgI]

/-- A rational number in memory: a sign, and two slices that hold limbs. -/
def InR (w : World) (v : Value) (b : Bool) (xs ys : List Int) : Prop := ∃ vp vq, v = .agg #[.bool b, vp, vq] ∧ In w vp xs ∧ In w vq ys
theorem InR.on {w w' : World} {v : Value} {b : Bool} {xs ys : List Int} (h : InR w v b xs ys) (hb : Below w.heap.size w w') : InR w' v b xs ys := by
  obtain ⟨vp, vq, e, h1, h2⟩ := h; exact ⟨vp, vq, e, h1.on hb, h2.on hb⟩
def IsR (w : World) (v : Value) (r : Rat) : Prop := InR w v (negR r) (topL r) (botL r)
theorem IsR.on {w w' : World} {v : Value} {r : Rat} (h : IsR w v r) (hb : Below w.heap.size w w') : IsR w' v r := InR.on h hb
/-- What is returned beside an error: the zero value. -/
def OutR (w : World) (v : Value) (err : Int) (r : Rat) : Prop := if err = 0 then IsR w v r else InR w v false [] []
def RRes (w : World) (err : Int) (r : Rat) (e : Ending) (w' : World) : Prop := ∃ v, e = .returned (.tuple #[v, .int .i64 err]) ∧ OutR w' v err r ∧ Below w.heap.size w w'
theorem OutR.ok {w : World} {v : Value} {r : Rat} (h : IsR w v r) : OutR w v 0 r := by unfold OutR; rw [if_pos rfl]; exact h
theorem OutR.no {w : World} {err : Int} {r : Rat} (h : err ≠ 0) : OutR w (.agg #[.bool false, .slice none 0 0, .slice none 0 0]) err r := by
  unfold OutR; rw [if_neg h]; exact ⟨_, _, rfl, In.nil _, In.nil _⟩

/-- What fits. -/
def sumOk (r s : Rat) : Bool :=
  decide (r.num.natAbs * s.den < big48) && (decide (s.num.natAbs * r.den < big48) && (decide (r.den * s.den < big48) && ((negR r != negR s) || decide (r.num.natAbs * s.den + s.num.natAbs * r.den < big48))))
def mulOk (r s : Rat) : Bool := decide (r.num.natAbs * s.num.natAbs < big48) && decide (r.den * s.den < big48)
def crossOk (r s : Rat) : Bool := decide (r.num.natAbs * s.den < big48) && decide (s.num.natAbs * r.den < big48)
/-- The magnitude and the sign of a sum with signs. -/
def sMag (m : Bool) (x : Nat) (n : Bool) (y : Nat) : Nat := if m = n then x + y else if x < y then y - x else x - y
def sNeg (m : Bool) (x : Nat) (n : Bool) (y : Nat) : Bool := if m = n then m else if x < y then n else m
theorem sMag_val (m n : Bool) (x y : Nat) : sgI (sNeg m x n y) (sMag m x n y) = sgI m x + sgI n y := by
  unfold sgI sNeg sMag
  by_cases h : x < y
  · cases m <;> cases n <;> simp [h] <;> omega
  · cases m <;> cases n <;> simp [h] <;> omega
theorem sgI_mul (a b : Bool) (p q : Nat) : sgI (a != b) (p * q) = sgI a p * sgI b q := by
  cases a <;> cases b <;> simp [sgI, Int.neg_mul, Int.mul_neg]
theorem sgI_mulN (a : Bool) (p q : Nat) : sgI a (p * q) = sgI a p * (q : Int) := by
  cases a <;> simp [sgI, Int.neg_mul]
theorem add_form (r s : Rat) : mkRat (sgI (sNeg (negR r) (r.num.natAbs * s.den) (negR s) (s.num.natAbs * r.den)) (sMag (negR r) (r.num.natAbs * s.den) (negR s) (s.num.natAbs * r.den))) (r.den * s.den) = r + s := by
  rw [sMag_val, sgI_mulN, sgI_mulN, sgI_neg, sgI_neg]
  conv => rhs; rw [← Rat.mkRat_self r, ← Rat.mkRat_self s, Rat.mkRat_add_mkRat _ _ r.den_nz s.den_nz]
theorem mul_form (r s : Rat) : mkRat (sgI (negR r != negR s) (r.num.natAbs * s.num.natAbs)) (r.den * s.den) = r * s := by
  rw [sgI_mul, sgI_neg, sgI_neg]
  conv => rhs; rw [← Rat.mkRat_self r, ← Rat.mkRat_self s, Rat.mkRat_mul_mkRat]
theorem neg_parts (r : Rat) : (-r).num = -r.num ∧ (-r).den = r.den := ⟨rfl, rfl⟩
theorem neg_form (r : Rat) : negR (-r) = (!negR r && decide (0 < r.num.natAbs)) ∧ topL (-r) = topL r ∧ botL (-r) = botL r := by
  refine ⟨?_, ?_, rfl⟩
  · unfold negR
    rw [(neg_parts r).1]
    rcases Int.lt_trichotomy r.num 0 with h | h | h
    · rw [decide_eq_true h, decide_eq_false (show ¬ -r.num < 0 by omega)]; rfl
    · rw [h]; rfl
    · rw [decide_eq_true (show -r.num < 0 by omega), decide_eq_false (show ¬ r.num < 0 by omega), decide_eq_true (show 0 < r.num.natAbs by omega)]; rfl
  · unfold topL
    rw [(neg_parts r).1, Int.natAbs_neg]
theorem fit_neg {r : Rat} (h : fitR r = true) : fitR (-r) = true := by
  rw [fitR_iff] at h ⊢; rw [(neg_parts r).1, (neg_parts r).2, Int.natAbs_neg]; exact h
theorem inv_form {r : Rat} (h : r.num ≠ 0) : negR r⁻¹ = negR r ∧ topL r⁻¹ = botL r ∧ botL r⁻¹ = topL r ∧ (fitR r = true → fitR r⁻¹ = true) := by
  have h1 : (r⁻¹).num = r.num.sign * r.den := Rat.num_inv r
  have h2 : (r⁻¹).den = r.num.natAbs := by rw [Rat.den_inv, if_neg h]
  have hd := r.den_nz
  have h3 : (r⁻¹).num.natAbs = r.den := by
    rw [h1, Int.natAbs_mul, Int.natAbs_sign_of_ne_zero h]; simp
  refine ⟨?_, by unfold topL botL; rw [h3], by unfold topL botL; rw [h2], fun hf => ?_⟩
  · unfold negR
    rw [h1]
    rcases Int.lt_or_gt_of_ne h with h4 | h4
    · rw [Int.sign_eq_neg_one_of_neg h4]; simp [h4]; omega
    · rw [Int.sign_eq_one_of_pos h4]; simp; omega
  · rw [fitR_iff] at hf ⊢; rw [h3, h2]; exact ⟨hf.2, hf.1⟩
end Go.Proofs.Ytdolhanniiejfaa
/- Small functions of rat and of its reference: isOne, isZero, inRange, limbs, Same, signed, negated. -/
namespace Go.Proofs.Ytdolhanniiejfaa
open Go.ChangeShapes Go.WideShapes Go.RowKit
set_option linter.unusedVariables false
set_option maxRecDepth 100000

theorem bcell {W w1 : World} (hb : Below W.heap.size W w1) : (∀ b o, b < W.heap.size → w1.cell? ⟨b, o, none⟩ = W.cell? ⟨b, o, none⟩) ∧ (∀ b o, b < W.heap.size → w1.frozen? ⟨b, o, none⟩ = W.frozen? ⟨b, o, none⟩) :=
  ⟨fun b o h => hb.cell (p := ⟨b, o, none⟩) h, fun b o h => hb.frozen (p := ⟨b, o, none⟩) h⟩

theorem rat_isOne (xs : List Int) (va : Value) (w : World) (ha : In w va xs) :
    Calls Try.prog 66 #[va] w fun e w' => e = .returned (.bool (decide (xs = [1]))) ∧ Below w.heap.size w w' := by
  obtain ⟨A, c, rfl, hc, hm, hA⟩ := ha
  have HA := Lib.hid hA
  have hm1 : xs.length ≤ 9223372036854775807 := Nat.le_trans hc hm
  clear hA hc hm
  by_cases h1 : xs.length = 1
  · obtain ⟨z, rfl⟩ := List.length_eq_one_iff.mp h1
    obtain ⟨b, off, rfl, _, _, hcell⟩ := HA.out 0 z rfl
    rw [Nat.add_zero] at hcell
    clear h1 hm1
    go_enter Try.func66, Try.ntmps66
    go_wp2_with fail
    go_ret
    exact ⟨by by_cases h : z = 1 <;> simp [h], Below.refl _ _⟩
  · have hv : ¬ xs = [1] := by rintro rfl; exact h1 rfl
    have HV := Lib.hid hv
    have hne : ((xs.length : Int) == 1) = false := by simpa using fun h => h1 (by omega)
    clear hv h1
    go_enter Try.func66, Try.ntmps66
    go_wp2_with fail
    go_ret
    rw [decide_eq_false HV.out]; exact ⟨rfl, Below.refl _ _⟩

theorem rat_isZero (v : Value) (b : Bool) (xs ys : List Int) (w : World) (ha : InR w v b xs ys) :
    Calls Try.prog 67 #[v] w fun e w' => e = .returned (.bool xs.isEmpty) ∧ Below w.heap.size w w' := by
  obtain ⟨vp, vq, rfl, ⟨A, c, rfl, hc, hm, hA⟩, ⟨B, d, rfl, hd, hn, hB⟩⟩ := ha
  have hm1 : xs.length ≤ 9223372036854775807 := Nat.le_trans hc hm
  clear hA hB hc hm hd hn
  cases xs with
  | nil =>
    go_enter Try.func67, Try.ntmps67
    go_wp2_with fail
    go_ret
    exact ⟨rfl, below_alloc _ _⟩
  | cons x xs =>
    have hne : (((x :: xs).length : Int) == 0) = false := by simp; omega
    obtain ⟨n, hnn⟩ : ∃ n, n = (x :: xs).length := ⟨_, rfl⟩
    rw [← hnn] at hne hm1 ⊢
    clear hnn
    go_enter Try.func67, Try.ntmps67
    go_wp2_with fail
    go_ret
    exact ⟨rfl, below_alloc _ _⟩

def inRB (n : Int) : Bool := decide (-1125899906842624 ≤ n) && decide (n ≤ 1125899906842624)
theorem rat_inRange (n : Int) (w : World) :
    Calls Try.prog 44 #[.int .i64 n] w fun e w' => e = .returned (.bool (inRB n)) ∧ w = w' := by
  by_cases h1 : -1125899906842624 ≤ n
  · go_enter Try.func44, Try.ntmps44
    go_wp2_with fail
    go_ret
    exact ⟨by simp [inRB, h1], rfl⟩
  · have h2 : decide (-1125899906842624 ≤ n) = false := decide_eq_false h1
    go_enter Try.func44, Try.ntmps44
    go_wp2_with fail
    go_ret
    exact ⟨by unfold inRB; rw [h2]; rfl, rfl⟩

/-- A struct that a function leaves. -/
def StR (w : World) (b : Bool) (xs ys : List Int) (e : Ending) (w' : World) : Prop := ∃ v, e = .returned v ∧ InR w' v b xs ys ∧ Below w.heap.size w w'

theorem rat_signed (n : Bool) (xs ys : List Int) (va vb : Value) (w : World) (ha : In w va xs) (hb : In w vb ys) :
    Calls Try.prog 65 #[.bool n, va, vb] w (StR w (n && !xs.isEmpty) xs ys) := by
  have HIA := Lib.hid ha
  have HIB := Lib.hid hb
  obtain ⟨A, c, rfl, hc, hm, hA⟩ := ha
  obtain ⟨B, d, rfl, hd, hn, hB⟩ := hb
  have hm1 : xs.length ≤ 9223372036854775807 := Nat.le_trans hc hm
  have hm2 : ys.length ≤ 9223372036854775807 := Nat.le_trans hd hn
  have he : xs.isEmpty = !decide (0 < xs.length) := by cases xs <;> simp
  rw [he, Bool.not_not]
  clear hA hB hc hm hd hn he
  cases n with
  | false =>
    go_enter Try.func65, Try.ntmps65
    go_wp2_with fail
    exact bodyPost_ret (v := .agg #[.bool false, .slice A xs.length c, .slice B ys.length d]) (by simp [results, Try.results65, go_sem]) rfl ⟨_, rfl, ⟨_, _, rfl, HIA.out.alloc _, HIB.out.alloc _⟩, below_alloc _ _⟩
  | true =>
    go_enter Try.func65, Try.ntmps65
    go_wp2_with fail
    exact bodyPost_ret (v := .agg #[.bool (decide (0 < xs.length)), .slice A xs.length c, .slice B ys.length d]) (by simp [results, Try.results65, go_sem]) rfl ⟨_, rfl, ⟨_, _, rfl, HIA.out.alloc _, HIB.out.alloc _⟩, below_alloc _ _⟩

end Go.Proofs.Ytdolhanniiejfaa
/- The contract of nat.shortened. -/
namespace Go.Proofs.Ytdolhanniiejfaa
open Go.ChangeShapes Go.WideShapes Go.RowKit
set_option linter.unusedVariables false
set_option maxRecDepth 100000

set_option maxHeartbeats 6400000 in
theorem nat_shortened (xs ys : List Int) (va vb : Value) (w : World) (ha : In w va xs) (hb : In w vb ys) (hx : nrm xs = true) (hy : nrm ys = true) (hly : 2 < ys.length) (hlx : xs.length ≤ 1000) (hly2 : ys.length ≤ 1000) :
    Calls Try.prog 84 #[va, vb] w (ShortRes w xs ys) := by
  have HIA := Lib.hid ha
  have HIB := Lib.hid hb
  obtain ⟨A, ca, rfl, hc, hm, hA⟩ := ha
  obtain ⟨B, cb, rfl, hd, hn, hB⟩ := hb
  have hfs := nat_foreseen xs ys A B ca cb w hA hB (nrm_lok hx) (nrm_lok hy) hly hc hd hlx hly2
  have HFS := Lib.hid hfs
  have HA := Lib.hid hA
  have HB := Lib.hid hB
  have HX := Lib.hid hx
  have HY := Lib.hid hy
  clear hA hB hx hy hfs hm hn
  go_enter Try.func84, Try.ntmps84
  go_wp2_with (go_at_call 88; refine HFS.out.mono ?_; rintro e w1 ⟨a, b, c, d, u, v, u0, v0, rfl, hinv, hle, hb1⟩; refine Hid.out ?_)
  refine Lib.hid ?_
  have HI := Lib.hid hinv
  have HLE := Lib.hid hle
  have HB1 := Lib.hid hb1
  have bd := hinv.bd
  clear hinv hle hb1
  by_cases hb0 : b = 0
  · subst hb0
    have HB2 := Lib.hid (balloc HB1.out (.cells #[.int .i64 a, .int .i64 0, .int .i64 c, .int .i64 d] 101))
    go_wp2_with fail
    refine (nat_divide xs ys _ _ _ (HIA.out.on HB2.out) (HIB.out.on HB2.out) HX.out HY.out hlx (by omega)).mono ?_
    rintro e w3 ⟨vq, vr, rfl, -, hr, hb3⟩
    have HR := Lib.hid hr.toIn
    have HB3 := Lib.hid (bstep HB2.out hb3)
    clear hr hb3
    go_wp2_with fail
    go_ret2
    have y0 := nval_pos HY.out (by omega)
    have x0 := nval_nonneg (nrm_lok HX.out)
    have hlt : (nval xs).toNat % (nval ys).toNat < (nval ys).toNat := Nat.mod_lt _ (by omega)
    refine ⟨_, _, ys, limbs ((nval xs).toNat % (nval ys).toNat), rfl, HIB.out.on HB3.out, HR.out, HY.out, nrm_of_limbs _, Nat.le_refl _, len_le_of HY.out (by omega), ?_, ?_, HB3.out⟩
    · rw [nval_limbs, Int.toNat_natCast]; exact gcd_step _ _
    · rw [nval_limbs]; omega
  · have hbn : (b == 0) = false := beq_false_of_ne hb0
    have hfc := short_facts HI.out hb0 HX.out HY.out
    have hlen := HLE.out hb0
    obtain ⟨f1, f2, f3, f4, f5⟩ := hfc
    have hc1 : ∀ W, Below w.heap.size w W → Calls Try.prog 89 #[.slice A xs.length ca, .int .i64 a, .slice B ys.length cb, .int .i64 b] W (GcdRes W (a * nval xs + b * nval ys).toNat) :=
      fun W hW => nat_combined xs ys A B ca cb a b W ((HA.out.below hW (Nat.le_refl _)).more (Nat.le_refl _) hW.size) ((HB.out.below hW (Nat.le_refl _)).more (Nat.le_refl _) hW.size) (nrm_lok HX.out) (nrm_lok HY.out) hlen hlx (by omega) (by omega) (by omega) (by omega) f1 f2
    have hc2 : ∀ W, Below w.heap.size w W → Calls Try.prog 89 #[.slice A xs.length ca, .int .i64 c, .slice B ys.length cb, .int .i64 d] W (GcdRes W (c * nval xs + d * nval ys).toNat) :=
      fun W hW => nat_combined xs ys A B ca cb c d W ((HA.out.below hW (Nat.le_refl _)).more (Nat.le_refl _) hW.size) ((HB.out.below hW (Nat.le_refl _)).more (Nat.le_refl _) hW.size) (nrm_lok HX.out) (nrm_lok HY.out) hlen hlx (by omega) (by omega) (by omega) (by omega) f3 (by omega)
    have HC1 := Lib.hid hc1
    have HC2 := Lib.hid hc2
    have F2 := Lib.hid f2
    have F4 := Lib.hid f4
    have F5 := Lib.hid f5
    have F1 := Lib.hid f1
    have F3 := Lib.hid f3
    obtain ⟨W2, hW2⟩ : ∃ W2, W2 = w1.alloc (.cells #[.int .i64 a, .int .i64 b, .int .i64 c, .int .i64 d] 101) := ⟨_, rfl⟩
    have hfour : Four W2 w1.heap.size a b c d := by rw [hW2]; exact Four.new _ _ _ _ _ _
    have hbw : Below w.heap.size w W2 := by rw [hW2]; exact balloc HB1.out _
    have four_on : ∀ (W W' : World), Four W w1.heap.size a b c d → Below W.heap.size W W' → W'.cell? ⟨w1.heap.size, 0, none⟩ = some (.int .i64 a) ∧ W'.cell? ⟨w1.heap.size, 1, none⟩ = some (.int .i64 b) ∧ W'.cell? ⟨w1.heap.size, 2, none⟩ = some (.int .i64 c) ∧ W'.cell? ⟨w1.heap.size, 3, none⟩ = some (.int .i64 d) := by
      intro W W' h hb
      have h' := (h.keep (hb.block _ h.lt)).row
      exact ⟨h'.cell (i := 0) rfl, h'.cell (i := 1) rfl, h'.cell (i := 2) rfl, h'.cell (i := 3) rfl⟩
    have FO := Lib.hid four_on
    have HF := Lib.hid hfour
    have HBW := Lib.hid hbw
    clear hc1 hc2 f1 f2 f3 f4 f5 four_on hfour hbw hlen
    go_wp2_with fail
    rw [← hW2]
    obtain ⟨g0, g1, g2, g3⟩ := FO.out W2 W2 HF.out (Below.refl _ _)
    clear hW2
    go_region_held3 (fun W' => W'.cell? ⟨w1.heap.size, 0, none⟩ = some (.int .i64 a) ∧ W'.cell? ⟨w1.heap.size, 1, none⟩ = some (.int .i64 b) ∧ W'.cell? ⟨w1.heap.size, 2, none⟩ = some (.int .i64 c) ∧ W'.cell? ⟨w1.heap.size, 3, none⟩ = some (.int .i64 d))
      (first | exact ⟨g0, g1, g2, g3⟩ | exact FO.out W2.drew _ (HF.out.keep rfl) (by assumption) | exact FO.out W2.drew _ (HF.out.keep rfl) (bstep hb3 (by assumption)))
      (first | (go_at_call 89; (with_reducible refine (HC1.out _ HBW.out.drew).mono ?_); rintro e w3 ⟨v1, rfl, hs1, hb3⟩) | (go_at_call 89; (with_reducible refine (HC2.out _ (bstep HBW.out.drew hb3)).mono ?_); rintro e w4 ⟨v2, rfl, hs2, hb4⟩))
    all_goals go_wp2_with fail
    all_goals go_ret2
    all_goals have hb34 := bstep (bstep HBW.out.drew hb3) hb4
    all_goals exact ⟨v1, v2, limbs (a * nval xs + b * nval ys).toNat, limbs (c * nval xs + d * nval ys).toNat, rfl, hs1.toIn.on hb4, hs2.toIn, nrm_of_limbs _, nrm_of_limbs _, len_le_of HY.out (by have := F2.out; omega), len_le_of HY.out (by have := F4.out; omega), (by rw [nval_limbs, nval_limbs, Int.toNat_natCast, Int.toNat_natCast]; exact F5.out), (by rw [nval_limbs]; have := F3.out; have := F4.out; omega), hb34⟩
end Go.Proofs.Ytdolhanniiejfaa
/- Contracts of rat.reduced and of Reduce of the reference; the calls of nat that they make. -/
namespace Go.Proofs.Ytdolhanniiejfaa
open Go.ChangeShapes Go.WideShapes Go.RowKit
set_option linter.unusedVariables false
set_option maxRecDepth 100000

theorem in_open {w : World} {v : Value} {zs : List Int} (h : In w v zs) : ∃ A c, v = .slice A zs.length c ∧ In w (.slice A zs.length c) zs := by
  obtain ⟨A, c, rfl, k⟩ := h; exact ⟨A, c, rfl, A, c, rfl, k⟩
/-- A store into a cell that holds no integer leaves the limbs alone. -/
theorem In.set {w : World} {v : Value} {zs : List Int} {p : Addr} {u : Value} (h : In w v zs) (hx : w.cell? p = some u) (hu : ∀ z, u ≠ .int .i64 z) (x : Value) : In (w.setCell p x) v zs := by
  obtain ⟨A, c, rfl, h1, h2, h3⟩ := h
  refine ⟨A, c, rfl, h1, h2, fun k z hz => ?_⟩
  obtain ⟨b, off, hA, hlo, hlt, hc⟩ := h3 k z hz
  refine ⟨b, off, hA, ⟨Nat.zero_le _, Or.inl rfl⟩, by simpa using hlt, ?_⟩
  rw [World.cell?_setCell_other w p _ x (fun e => by subst e; rw [hx] at hc; cases hc; exact hu z rfl)]
  exact hc

/-- A number in a block: three cells, none frozen. -/
def Cel (w : World) (g : Nat) (u0 u1 u2 : Value) : Prop :=
  (w.cell? ⟨g, 0, none⟩ = some u0 ∧ w.cell? ⟨g, 1, none⟩ = some u1 ∧ w.cell? ⟨g, 2, none⟩ = some u2) ∧ (w.frozen? ⟨g, 0, none⟩ = false ∧ w.frozen? ⟨g, 1, none⟩ = false ∧ w.frozen? ⟨g, 2, none⟩ = false)
theorem Cel.lt {w : World} {g : Nat} {u0 u1 u2 : Value} (h : Cel w g u0 u1 u2) : g < w.heap.size := World.block_lt_of_cell? w _ h.1.1
theorem Cel.below {w w' : World} {B g : Nat} {u0 u1 u2 : Value} (h : Cel w g u0 u1 u2) (hb : Below B w w') (hg : g < B) : Cel w' g u0 u1 u2 := by
  obtain ⟨⟨h0, h1, h2⟩, f0, f1, f2⟩ := h
  exact ⟨⟨(hb.cell (p := ⟨g, 0, none⟩) hg).trans h0, (hb.cell (p := ⟨g, 1, none⟩) hg).trans h1, (hb.cell (p := ⟨g, 2, none⟩) hg).trans h2⟩,
    (hb.frozen (p := ⟨g, 0, none⟩) hg).trans f0, (hb.frozen (p := ⟨g, 1, none⟩) hg).trans f1, (hb.frozen (p := ⟨g, 2, none⟩) hg).trans f2⟩
theorem Cel.on {w w' : World} {g : Nat} {u0 u1 u2 : Value} (h : Cel w g u0 u1 u2) (hb : Below w.heap.size w w') : Cel w' g u0 u1 u2 := h.below hb h.lt
theorem Cel.alloc {w : World} {g : Nat} {u0 u1 u2 : Value} (h : Cel w g u0 u1 u2) (o : Obj) : Cel (w.alloc o) g u0 u1 u2 := h.on (below_alloc w o)
theorem set_same {w : World} {a : Addr} {u : Value} (h : w.cell? a = some u) (v : Value) : (w.setCell a v).cell? a = some v := World.cell?_setCell_same w a v h
theorem frozen_of {W : World} {g : Nat} {cs : Array Value} {t : TypeId} (h : W.heap[g]? = some (.cells cs t (0, 0))) (i : Nat) : W.frozen? ⟨g, i, none⟩ = false := by simp [World.frozen?, h]
theorem Cel.new (w : World) (u0 u1 u2 : Value) (t : TypeId) : Cel (w.alloc (.cells #[u0, u1, u2] t)) w.heap.size u0 u1 u2 := by
  have hb := heap_alloc_new w (.cells #[u0, u1, u2] t)
  refine ⟨⟨?_, ?_, ?_⟩, ?_, ?_, ?_⟩
  · rw [cell_of_row _ _ _ _ _ _ hb]; rfl
  · rw [cell_of_row _ _ _ _ _ _ hb]; rfl
  · rw [cell_of_row _ _ _ _ _ _ hb]; rfl
  · exact frozen_of hb _
  · exact frozen_of hb _
  · exact frozen_of hb _
/-- A number stored into such a block. -/
def put3 (w : World) (g : Nat) (u0 u1 u2 : Value) : World := ((w.setCell ⟨g, 0, none⟩ u0).setCell ⟨g, 1, none⟩ u1).setCell ⟨g, 2, none⟩ u2
theorem put3_size (w : World) (g : Nat) (u0 u1 u2 : Value) : (put3 w g u0 u1 u2).heap.size = w.heap.size := by simp [put3]
theorem Cel.put3 {w : World} {g : Nat} {u0 u1 u2 : Value} (h : Cel w g u0 u1 u2) (x0 x1 x2 : Value) : Cel (put3 w g x0 x1 x2) g x0 x1 x2 := by
  obtain ⟨⟨h0, h1, h2⟩, f0, f1, f2⟩ := h
  have ne : ∀ (i j : Nat), i ≠ j → ((⟨g, i, none⟩ : Addr) ≠ ⟨g, j, none⟩) := fun i j hij e => by cases e; exact hij rfl
  have a0 : ∀ (W : World) (x : Value) (i : Nat), i ≠ 0 → (W.setCell ⟨g, 0, none⟩ x).cell? ⟨g, i, none⟩ = W.cell? ⟨g, i, none⟩ := fun W x i hi => World.cell?_setCell_other W _ _ x (ne _ _ hi.symm)
  have a1 : ∀ (W : World) (x : Value) (i : Nat), i ≠ 1 → (W.setCell ⟨g, 1, none⟩ x).cell? ⟨g, i, none⟩ = W.cell? ⟨g, i, none⟩ := fun W x i hi => World.cell?_setCell_other W _ _ x (ne _ _ hi.symm)
  have a2 : ∀ (W : World) (x : Value) (i : Nat), i ≠ 2 → (W.setCell ⟨g, 2, none⟩ x).cell? ⟨g, i, none⟩ = W.cell? ⟨g, i, none⟩ := fun W x i hi => World.cell?_setCell_other W _ _ x (ne _ _ hi.symm)
  unfold Go.Proofs.Ytdolhanniiejfaa.put3
  refine ⟨⟨?_, ?_, ?_⟩, ?_, ?_, ?_⟩
  · rw [a2 _ _ _ (by decide), a1 _ _ _ (by decide)]; exact set_same h0 _
  · rw [a2 _ _ _ (by decide)]; exact set_same ((a0 _ _ _ (by decide)).trans h1) _
  · exact set_same (((a1 _ _ _ (by decide)).trans (a0 _ _ _ (by decide))).trans h2) _
  · simpa using f0
  · simpa using f1
  · simpa using f2
theorem In.put3 {w : World} {v : Value} {zs : List Int} {g : Nat} {b : Bool} {A B : Option Addr} {n c m d : Nat} (h : In w v zs) (hc : Cel w g (.bool b) (.slice A n c) (.slice B m d)) (x0 x1 x2 : Value) : In (put3 w g x0 x1 x2) v zs := by
  have ne : ∀ (i j : Nat), i ≠ j → ((⟨g, i, none⟩ : Addr) ≠ ⟨g, j, none⟩) := fun i j hij e => by cases e; exact hij rfl
  obtain ⟨⟨h0, h1, h2⟩, -⟩ := hc
  refine ((h.set h0 (fun _ e => by cases e) x0).set (p := ⟨g, 1, none⟩) (u := .slice A n c) ?_ (fun _ e => by cases e) x1).set (p := ⟨g, 2, none⟩) (u := .slice B m d) ?_ (fun _ e => by cases e) x2
  · exact (World.cell?_setCell_other _ _ _ _ (ne _ _ (by decide))).trans h1
  · exact (World.cell?_setCell_other _ _ _ _ (ne _ _ (by decide))).trans ((World.cell?_setCell_other _ _ _ _ (ne _ _ (by decide))).trans h2)
theorem below_put3 {B : Nat} {w w' : World} (h : Below B w w') {g : Nat} (hg : B ≤ g) (x0 x1 x2 : Value) : Below B w (put3 w' g x0 x1 x2) :=
  ((h.setCell (p := ⟨g, 0, none⟩) hg _).setCell (p := ⟨g, 1, none⟩) hg _).setCell (p := ⟨g, 2, none⟩) hg _

theorem nat_Gcd_in (xs ys : List Int) (va vb : Value) (w : World) (ha : In w va xs) (hb : In w vb ys) :
    Calls Try.prog 64 #[va, vb] w (ResIn w (gcdN xs ys) (formE xs ys)) := by
  refine (Gcd_of xs ys va vb w ha hb fun h1 h2 => gcd_of_short (fun xs ys va vb W ha hb hx hy h1 h2 h3 => nat_shortened xs ys va vb W ha hb hx hy h1 h2 h3) xs ys va vb w ha hb (valid_nrm h1) (valid_nrm h2) (by have := valid_len h1; omega) (by have := valid_len h2; omega)).mono ?_
  rintro e w' ⟨v, h1, h2, h3⟩
  exact ⟨v, h1, h2.toIn, h3⟩
theorem nat_DivMod_in (xs ys : List Int) (va vb : Value) (w : World) (ha : In w va xs) (hb : In w vb ys) :
    Calls Try.prog 49 #[va, vb] w (DmIn w xs ys) := by
  refine (nat_DivMod xs ys va vb w ha hb).mono ?_
  rintro e w' ⟨vq, vr, h1, h2, h3, h4⟩
  exact ⟨vq, vr, h1, h2.toIn, h3.toIn, h4⟩

theorem both48 {p q : Nat} (hp : p < big48) (hq : q < big48) : both (limbs p) (limbs q) = true := by rw [both, valid48 hp, valid48 hq]; rfl
theorem gcdN_limbs {p q : Nat} (hp : p < big48) (hq : q < big48) : gcdN (limbs p) (limbs q) = Nat.gcd p q := by rw [gcdN, both48 hp hq, if_pos rfl, nvt, nvt]
theorem formE_limbs {p q : Nat} (hp : p < big48) (hq : q < big48) : formE (limbs p) (limbs q) = 0 := by rw [formE, both48 hp hq, if_pos rfl]
theorem divOk_limbs {p q : Nat} (hp : p < big48) (hq : q < big48) (h0 : q ≠ 0) : divOk (limbs p) (limbs q) = true := by rw [divOk, both48 hp hq, limbs_ne h0]; rfl
theorem quoN_limbs {p q : Nat} (hp : p < big48) (hq : q < big48) (h0 : q ≠ 0) : quoN (limbs p) (limbs q) = p / q := by rw [quoN, divOk_limbs hp hq h0, if_pos rfl, nvt, nvt]
theorem remN_limbs {p q : Nat} (hp : p < big48) (hq : q < big48) (h0 : q ≠ 0) : remN (limbs p) (limbs q) = p % q := by rw [remN, divOk_limbs hp hq h0, if_pos rfl, nvt, nvt]
theorem divE_limbs {p q : Nat} (hp : p < big48) (hq : q < big48) (h0 : q ≠ 0) : divE (limbs p) (limbs q) = 0 := by rw [divE, both48 hp hq, if_pos rfl, limbs_ne h0]; rfl
theorem red_form {b : Bool} {p q : Nat} (h0 : q ≠ 0) :
    negR (mkRat (sgI b p) q) = (b && !(limbs (p / Nat.gcd p q)).isEmpty) ∧ topL (mkRat (sgI b p) q) = limbs (p / Nat.gcd p q) ∧ botL (mkRat (sgI b p) q) = limbs (q / Nat.gcd p q) := by
  obtain ⟨h1, h2⟩ := mk_parts (b := b) (p := p) h0
  refine ⟨?_, ?_, ?_⟩
  · rw [negR_sg h1, limbs_emp]
    congr 1; by_cases h : p / Nat.gcd p q = 0
    · rw [h]; rfl
    · rw [decide_eq_true (Nat.pos_of_ne_zero h), decide_eq_false h]; rfl
  · unfold topL; rw [h1, sgI_abs]
  · unfold botL; rw [h2]

set_option maxHeartbeats 800000 in
theorem rat_reduced (b : Bool) (p q : Nat) (va vb : Value) (w : World) (ha : In w va (limbs p)) (hb : In w vb (limbs q)) (hp : p < big48) (hq : q < big48) (h0 : q ≠ 0) :
    Calls Try.prog 46 #[.bool b, va, vb] w (fun e w' => ∃ v, e = .returned v ∧ IsR w' v (mkRat (sgI b p) q) ∧ Below w.heap.size w w') := by
  have hg : Nat.gcd p q < big48 ∧ Nat.gcd p q ≠ 0 := ⟨Nat.lt_of_le_of_lt (Nat.gcd_le_right _ (by omega)) hq, fun h => h0 (Nat.eq_zero_of_gcd_eq_zero_right h)⟩
  have FF := Lib.hid (red_form (b := b) (p := p) h0)
  have G := Lib.hid (gcdN_limbs hp hq)
  have D1 := Lib.hid (quoN_limbs hp hg.1 hg.2)
  have D2 := Lib.hid (quoN_limbs hq hg.1 hg.2)
  have HC := Lib.hid (Cel.new w (.bool false) (.slice none 0 0) (.slice none 0 0) 35)
  obtain ⟨A, c, rfl, ha'⟩ := in_open ha
  obtain ⟨B, d, rfl, hb'⟩ := in_open hb
  have HA := Lib.hid ha'
  have HB := Lib.hid hb'
  clear ha hb ha' hb' hp hq h0 hg
  go_enter Try.func46, Try.ntmps46
  go_wp2_with fail
  refine (nat_Gcd_in _ _ _ _ _ (HA.out.alloc _) (HB.out.alloc _)).mono ?_
  rintro e w1 ⟨v1, rfl, h1, hb1⟩
  rw [G.out] at h1
  have HG := Lib.hid h1
  have HB1 := Lib.hid hb1
  have HC1 := Lib.hid (HC.out.on hb1)
  clear h1 hb1
  go_wp2_with fail
  refine (nat_DivMod_in _ _ _ _ _ ((HA.out.alloc _).on HB1.out) HG.out).mono ?_
  rintro e w2 ⟨v2, v2r, rfl, h2, _, hb2⟩
  rw [D1.out] at h2
  obtain ⟨X, x, rfl, h2'⟩ := in_open h2
  have HX := Lib.hid h2'
  have HB2 := Lib.hid hb2
  have HC2 := Lib.hid (HC1.out.on hb2)
  clear h2 h2' hb2
  go_wp2_with fail
  refine (nat_DivMod_in _ _ _ _ _ (((HB.out.alloc _).on HB1.out).on HB2.out) (HG.out.on HB2.out)).mono ?_
  rintro e w3 ⟨v3, v3r, rfl, h3, _, hb3⟩
  rw [D2.out] at h3
  obtain ⟨Y, y, rfl, h3'⟩ := in_open h3
  have HY := Lib.hid h3'
  have HB3 := Lib.hid hb3
  have HC3 := Lib.hid (HC2.out.on hb3)
  clear h3 h3' hb3
  go_wp2_with fail
  refine (rat_signed b _ _ _ _ _ (HX.out.on HB3.out) HY.out).mono ?_
  rintro e w4 ⟨v4, rfl, h4, hb4⟩
  obtain ⟨vp, vq, rfl, h4p, h4q⟩ := h4
  obtain ⟨P, x4, rfl, h4p'⟩ := in_open h4p
  obtain ⟨Q, y4, rfl, h4q'⟩ := in_open h4q
  have HP := Lib.hid h4p'
  have HQ := Lib.hid h4q'
  have HB4 := Lib.hid hb4
  have HC4 := HC3.out.on hb4
  have HC4' := Lib.hid HC4
  have HR := Lib.hid (HC4.put3 (.bool (b && !(limbs (p / Nat.gcd p q)).isEmpty)) (.slice P (limbs (p / Nat.gcd p q)).length x4) (.slice Q (limbs (q / Nat.gcd p q)).length y4))
  obtain ⟨⟨c0, c1, c2⟩, f0, f1, f2⟩ := HC4
  clear h4p h4q h4p' h4q' hb4
  go_wp2_with fail
  obtain ⟨⟨r0, r1, r2⟩, -⟩ := HR.out
  refine bodyPost_ret (v := .agg #[.bool (b && !(limbs (p / Nat.gcd p q)).isEmpty), .slice P (limbs (p / Nat.gcd p q)).length x4, .slice Q (limbs (q / Nat.gcd p q)).length y4]) (by simp only [put3] at r0 r1 r2; simp [results, Try.results46, go_sem, r0, r1, r2]) rfl ?_
  refine ⟨_, rfl, ⟨_, _, by rw [FF.out.1], ?_, ?_⟩, ?_⟩
  · rw [FF.out.2.1]; exact HP.out.put3 HC4'.out _ _ _
  · rw [FF.out.2.2]; exact HQ.out.put3 HC4'.out _ _ _
  · exact below_put3 (bstep (bstep (bstep ((below_alloc _ _).trans (HB1.out.mono (by simp))) HB2.out) HB3.out) HB4.out) (Nat.le_refl _) _ _ _
end Go.Proofs.Ytdolhanniiejfaa
/- Contracts of Reduce of the reference, products, signedSum, plus. -/
namespace Go.Proofs.Ytdolhanniiejfaa
open Go.ChangeShapes Go.WideShapes Go.RowKit
set_option linter.unusedVariables false
set_option maxRecDepth 100000

def okE (b : Bool) : Int := if b then 0 else 2
def okL (b : Bool) (n : Nat) : List Int := if b then limbs n else []
theorem mulE_limbs {p q : Nat} (hp : p < big48) (hq : q < big48) : mulE (limbs p) (limbs q) = okE (decide (p * q < big48)) ∧ limbs (mulV (limbs p) (limbs q)) = okL (decide (p * q < big48)) (p * q) := by
  have e : (nval (limbs p) * nval (limbs q)).toNat = p * q := by rw [nval_limbs, nval_limbs, ← Int.natCast_mul]; exact Int.toNat_natCast _
  rw [mulE, mulV, both48 hp hq, if_pos rfl, if_pos rfl, e]
  by_cases h : p * q < big48
  · rw [decide_eq_true h]; exact ⟨if_pos h, by rw [show fitN (p * q) = p * q from if_pos h]; rfl⟩
  · rw [decide_eq_false h]; exact ⟨if_neg h, by rw [show fitN (p * q) = 0 from if_neg h, limbs_zero]; rfl⟩
theorem addE_limbs {p q : Nat} (hp : p < big48) (hq : q < big48) : addE (limbs p) (limbs q) = okE (decide (p + q < big48)) ∧ limbs (addV (limbs p) (limbs q)) = okL (decide (p + q < big48)) (p + q) := by
  have e : (nval (limbs p) + nval (limbs q)).toNat = p + q := by rw [nval_limbs, nval_limbs]; omega
  rw [addE, addV, both48 hp hq, if_pos rfl, if_pos rfl, e]
  by_cases h : p + q < big48
  · rw [decide_eq_true h]; exact ⟨if_pos h, by rw [show fitN (p + q) = p + q from if_pos h]; rfl⟩
  · rw [decide_eq_false h]; exact ⟨if_neg h, by rw [show fitN (p + q) = 0 from if_neg h, limbs_zero]; rfl⟩
theorem subE_limbs {p q : Nat} (hp : p < big48) (hq : q < big48) (h : q ≤ p) : subE (limbs p) (limbs q) = 0 ∧ limbs (subV (limbs p) (limbs q)) = limbs (p - q) := by
  have e : (nval (limbs p) - nval (limbs q)).toNat = p - q := by rw [nval_limbs, nval_limbs]; omega
  have e2 : ¬ nval (limbs p) < nval (limbs q) := by rw [nval_limbs, nval_limbs]; omega
  have h3 : p - q < 1000000000 ^ 48 := Nat.lt_of_le_of_lt (Nat.sub_le _ _) hp
  rw [subE, subV, both48 hp hq, if_pos rfl, if_pos rfl, if_neg e2, if_neg e2, e]
  exact ⟨if_pos h3, by rw [show fitN (p - q) = p - q from if_pos h3]⟩
theorem cmpV_limbs {p q : Nat} (hp : p < big48) (hq : q < big48) : cmpV (limbs p) (limbs q) = cmpI p q := by rw [cmpV, both48 hp hq, if_pos rfl, nval_limbs, nval_limbs]

theorem nat_Mul_in (p q : Nat) (va vb : Value) (w : World) (ha : In w va (limbs p)) (hb : In w vb (limbs q)) (hp : p < big48) (hq : q < big48) :
    Calls Try.prog 76 #[va, vb] w (fun e w' => ∃ v, e = .returned (.tuple #[v, .int .i64 (okE (decide (p * q < big48)))]) ∧ Sl w' w.heap.size w'.heap.size v (okL (decide (p * q < big48)) (p * q)) ∧ Below w.heap.size w w') := by
  refine (nat_Mul _ _ _ _ w ha hb).mono ?_
  rintro e w' ⟨v, rfl, h2, h3⟩
  obtain ⟨e1, e2⟩ := mulE_limbs hp hq
  exact ⟨v, by rw [e1], by rw [← e2]; exact h2, h3⟩
def prOk (a b c d : Nat) : Bool := decide (a * b < big48) && decide (c * d < big48)
set_option maxHeartbeats 800000 in
theorem rat_products (a b c d : Nat) (va vb vc vd : Value) (w : World) (ha : In w va (limbs a)) (hb : In w vb (limbs b)) (hc : In w vc (limbs c)) (hd : In w vd (limbs d)) (h1 : a < big48) (h2 : b < big48) (h3 : c < big48) (h4 : d < big48) :
    Calls Try.prog 68 #[va, vb, vc, vd] w (fun e w' => ∃ vp vq, e = .returned (.tuple #[vp, vq, .int .i64 (okE (prOk a b c d))]) ∧ Sl w' w.heap.size w'.heap.size vp (okL (prOk a b c d) (a * b)) ∧ Sl w' w.heap.size w'.heap.size vq (okL (prOk a b c d) (c * d)) ∧ Below w.heap.size w w') := by
  have HA := Lib.hid ha
  have HB := Lib.hid hb
  have HC := Lib.hid hc
  have HD := Lib.hid hd
  have M1 := Lib.hid (fun W h k => nat_Mul_in a b va vb W h k h1 h2)
  have M2 := Lib.hid (fun W h k => nat_Mul_in c d vc vd W h k h3 h4)
  clear ha hb hc hd h1 h2 h3 h4
  unfold prOk
  cases hab : decide (a * b < big48) with
  | false =>
    rw [hab] at M1
    go_enter Try.func68, Try.ntmps68
    go_wp2_with fail
    refine (M1.out w HA.out HB.out).mono ?_
    rintro e w1 ⟨v1, rfl, _, hb1⟩
    have HB1 := Lib.hid hb1
    clear hb1
    unfold okE
    go_wp2_with fail
    go_ret3
    exact ⟨_, _, rfl, Sl.nil _ _ _, Sl.nil _ _ _, HB1.out⟩
  | true =>
    rw [hab] at M1
    cases hcd : decide (c * d < big48) with
    | false =>
      rw [hcd] at M2
      go_enter Try.func68, Try.ntmps68
      go_wp2_with fail
      refine (M1.out w HA.out HB.out).mono ?_
      rintro e w1 ⟨v1, rfl, _, hb1⟩
      have HB1 := Lib.hid hb1
      clear hb1
      unfold okE
      go_wp2_with fail
      refine (M2.out w1 (HC.out.on HB1.out) (HD.out.on HB1.out)).mono ?_
      rintro e w2 ⟨v2, rfl, _, hb2⟩
      have HB2 := Lib.hid hb2
      clear hb2
      unfold okE
      go_wp2_with fail
      go_ret3
      exact ⟨_, _, rfl, Sl.nil _ _ _, Sl.nil _ _ _, bstep HB1.out HB2.out⟩
    | true =>
      rw [hcd] at M2
      go_enter Try.func68, Try.ntmps68
      go_wp2_with fail
      refine (M1.out w HA.out HB.out).mono ?_
      rintro e w1 ⟨v1, rfl, hv1, hb1⟩
      have HV1 := Lib.hid hv1
      have HB1 := Lib.hid hb1
      clear hb1 hv1
      unfold okE
      go_wp2_with fail
      refine (M2.out w1 (HC.out.on HB1.out) (HD.out.on HB1.out)).mono ?_
      rintro e w2 ⟨v2, rfl, hv2, hb2⟩
      have HV2 := Lib.hid hv2
      have HB2 := Lib.hid hb2
      clear hb2 hv2
      unfold okE
      go_wp2_with fail
      go_ret3
      exact ⟨_, _, rfl, (HV1.out.below HB2.out (Nat.le_refl _)).more (Nat.le_refl _) HB2.out.size, HV2.out.more HB1.out.size (Nat.le_refl _), bstep HB1.out HB2.out⟩
end Go.Proofs.Ytdolhanniiejfaa
/- Contracts of signedSum, plus (of the reference), Valid of both, times. -/
namespace Go.Proofs.Ytdolhanniiejfaa
open Go.ChangeShapes Go.WideShapes Go.RowKit
set_option linter.unusedVariables false
set_option maxRecDepth 100000

/-- A sum with signs fits. -/
def ssOk (m : Bool) (x : Nat) (n : Bool) (y : Nat) : Bool := (m != n) || decide (x + y < big48)
def SsRes (w : World) (m : Bool) (x : Nat) (n : Bool) (y : Nat) (e : Ending) (w' : World) : Prop :=
  ∃ v, e = .returned (.tuple #[.bool (sNeg m x n y), v, .int .i64 (okE (ssOk m x n y))]) ∧ Sl w' w.heap.size w'.heap.size v (okL (ssOk m x n y) (sMag m x n y)) ∧ Below w.heap.size w w'
theorem beq_of_ne {m n : Bool} (h : m ≠ n) : (m == n) = false := by cases m <;> cases n <;> simp at h ⊢

end Go.Proofs.Ytdolhanniiejfaa
/- Contracts of Valid, of rat and of its reference. -/
namespace Go.Proofs.Ytdolhanniiejfaa
open Go.ChangeShapes Go.WideShapes Go.RowKit
set_option linter.unusedVariables false
set_option maxRecDepth 100000

theorem limbs_one : limbs 1 = [1] := by rw [limbs_pos (by decide), limbs]; rfl
theorem limbs_is_one (n : Nat) : decide (limbs n = [1]) = gcd1 n := by
  unfold gcd1
  by_cases h : n = 1
  · subst h; rw [limbs_one]; rfl
  · rw [decide_eq_false h, decide_eq_false]; intro e; rw [← limbs_one] at e; exact h (limbs_inj e)
theorem valR_no {b : Bool} {xs ys : List Int} (h : both xs ys = false) : valR b xs ys = false := by unfold valR; rw [show (validB xs && validB ys) = both xs ys from rfl, h]; rfl
theorem valR_yes {b : Bool} {xs ys : List Int} (h : both xs ys = true) : valR b xs ys = (!ys.isEmpty && (gcd1 (Nat.gcd (nval xs).toNat (nval ys).toNat) && !(b && xs.isEmpty))) := by unfold valR; rw [show (validB xs && validB ys) = both xs ys from rfl, h]; rfl
theorem emp_len (xs : List Int) : xs.isEmpty = decide (xs.length = 0) := by cases xs <;> simp

set_option maxHeartbeats 1600000 in
theorem rat_Valid (v : Value) (b : Bool) (xs ys : List Int) (w : World) (ha : InR w v b xs ys) :
    Calls Try.prog 47 #[v] w fun e w' => e = .returned (.bool (valR b xs ys)) ∧ Below w.heap.size w w' := by
  obtain ⟨vp, vq, rfl, ha, hb⟩ := ha
  obtain ⟨A, c, rfl, ha'⟩ := in_open ha
  obtain ⟨B, d, rfl, hb'⟩ := in_open hb
  have HA := Lib.hid ha'
  have HB := Lib.hid hb'
  have HC := Lib.hid (Cel.new w (.bool b) (.slice A xs.length c) (.slice B ys.length d) 35)
  have hm2 : ys.length ≤ 9223372036854775807 := by obtain ⟨_, _, e, h1, h2, _⟩ := hb'; cases e; exact Nat.le_trans h1 h2
  have PG := Lib.hid (fun W h k => nat_Gcd_in xs ys (.slice A xs.length c) (.slice B ys.length d) W h k)
  clear ha hb ha' hb'
  cases hbo : both xs ys with
  | false =>
    have HV := Lib.hid (valR_no (b := b) hbo)
    have e1 : formE xs ys = 3 := by rw [formE, hbo]; rfl
    rw [e1] at PG
    clear hbo e1
    go_enter Try.func47, Try.ntmps47
    go_wp2_with fail
    refine (PG.out _ (HA.out.alloc _) (HB.out.alloc _)).mono ?_
    rintro e w1 ⟨v1, rfl, _, hb1⟩
    have HB1 := Lib.hid hb1
    clear hb1
    go_wp2_with fail
    go_ret
    exact ⟨by rw [HV.out]; rfl, (below_alloc _ _).trans (HB1.out.mono (by simp))⟩
  | true =>
    have HV := Lib.hid (valR_yes (b := b) hbo)
    have e1 : formE xs ys = 0 := by rw [formE, hbo]; rfl
    have e2 : gcdN xs ys = Nat.gcd (nval xs).toNat (nval ys).toNat := by rw [gcdN, hbo]; rfl
    rw [e1, e2] at PG
    obtain ⟨G, hG⟩ : ∃ G, G = Nat.gcd (nval xs).toNat (nval ys).toNat := ⟨_, rfl⟩
    rw [← hG] at PG HV
    clear hbo e1 e2 hG
    cases hg1 : gcd1 G with
    | false =>
      have HV2 : Hid (valR b xs ys = false) := by rw [Hid, HV.out, hg1]; cases ys.isEmpty <;> rfl
      have HG1 := Lib.hid hg1
      clear hg1
      go_enter Try.func47, Try.ntmps47
      go_wp2_with fail
      refine (PG.out _ (HA.out.alloc _) (HB.out.alloc _)).mono ?_
      rintro e w1 ⟨v1, rfl, h1, hb1⟩
      have HI := Lib.hid h1
      have HB1 := Lib.hid hb1
      clear hb1 h1
      go_wp2_with fail
      refine (rat_isOne _ _ _ HI.out).mono ?_
      rw [limbs_is_one, HG1.out]
      rintro e w2 ⟨rfl, hb2⟩
      have HB2 := Lib.hid hb2
      clear hb2
      go_wp2_with fail
      go_ret
      exact ⟨by rw [HV2.out]; rfl, bstep ((below_alloc _ _).trans (HB1.out.mono (by simp))) HB2.out⟩
    | true =>
      rw [hg1] at HV
      have HG1 := Lib.hid hg1
      clear hg1
      rcases Nat.eq_zero_or_pos ys.length with h0 | hp
      · have HV2 : Hid (valR b xs ys = false) := by rw [Hid, HV.out, emp_len, h0]; rfl
        have hn : ys = [] := List.eq_nil_of_length_eq_zero h0
        subst hn
        clear h0
        go_enter Try.func47, Try.ntmps47
        go_wp2_with fail
        refine (PG.out _ (HA.out.alloc _) (HB.out.alloc _)).mono ?_
        rintro e w1 ⟨v1, rfl, h1, hb1⟩
        have HI := Lib.hid h1
        have HC1 := Lib.hid (HC.out.on hb1)
        have HB1 := Lib.hid hb1
        clear hb1 h1
        go_wp2_with fail
        refine (rat_isOne _ _ _ HI.out).mono ?_
        rw [limbs_is_one, HG1.out]
        rintro e w2 ⟨rfl, hb2⟩
        obtain ⟨⟨c0, c1, c2⟩, -⟩ := HC1.out.on hb2
        have HB2 := Lib.hid hb2
        clear hb2
        go_wp2_with fail
        go_ret
        exact ⟨by rw [HV2.out]; rfl, bstep ((below_alloc _ _).trans (HB1.out.mono (by simp))) HB2.out⟩
      · have hpi : (0 : Int) < ys.length := by omega
        have hye : ys.isEmpty = false := by rw [emp_len]; exact decide_eq_false (by omega)
        have HV2 : Hid (valR b xs ys = !(b && xs.isEmpty)) := by rw [Hid, HV.out, hye]; rfl
        clear hye
        cases b with
        | false =>
          go_enter Try.func47, Try.ntmps47
          go_wp2_with fail
          refine (PG.out _ (HA.out.alloc _) (HB.out.alloc _)).mono ?_
          rintro e w1 ⟨v1, rfl, h1, hb1⟩
          have HI := Lib.hid h1
          have HC1 := Lib.hid (HC.out.on hb1)
          have HB1 := Lib.hid hb1
          clear hb1 h1
          go_wp2_with fail
          refine (rat_isOne _ _ _ HI.out).mono ?_
          rw [limbs_is_one, HG1.out]
          rintro e w2 ⟨rfl, hb2⟩
          obtain ⟨⟨c0, c1, c2⟩, -⟩ := HC1.out.on hb2
          have HB2 := Lib.hid hb2
          clear hb2
          go_wp2_with fail
          go_ret
          exact ⟨by rw [HV2.out]; rfl, bstep ((below_alloc _ _).trans (HB1.out.mono (by simp))) HB2.out⟩
        | true =>
          go_enter Try.func47, Try.ntmps47
          go_wp2_with fail
          refine (PG.out _ (HA.out.alloc _) (HB.out.alloc _)).mono ?_
          rintro e w1 ⟨v1, rfl, h1, hb1⟩
          have HI := Lib.hid h1
          have HC1 := Lib.hid (HC.out.on hb1)
          have HB1 := Lib.hid hb1
          clear hb1 h1
          go_wp2_with fail
          refine (rat_isOne _ _ _ HI.out).mono ?_
          rw [limbs_is_one, HG1.out]
          rintro e w2 ⟨rfl, hb2⟩
          obtain ⟨⟨c0, c1, c2⟩, -⟩ := HC1.out.on hb2
          have HB2 := Lib.hid hb2
          clear hb2
          go_wp2_with fail
          refine (rat_isZero _ true xs ys _ ⟨_, _, rfl, ((HA.out.alloc _).on HB1.out).on HB2.out, ((HB.out.alloc _).on HB1.out).on HB2.out⟩).mono ?_
          rintro e w3 ⟨rfl, hb3⟩
          have HB3 := Lib.hid hb3
          clear hb3
          go_wp2_with fail
          go_ret
          exact ⟨by rw [HV2.out]; rfl, bstep (bstep ((below_alloc _ _).trans (HB1.out.mono (by simp))) HB2.out) HB3.out⟩
end Go.Proofs.Ytdolhanniiejfaa
/- The contract of Valid of the reference. -/
namespace Go.Proofs.Ytdolhanniiejfaa
open Go.ChangeShapes Go.WideShapes Go.RowKit
set_option linter.unusedVariables false
set_option maxRecDepth 100000

end Go.Proofs.Ytdolhanniiejfaa
/- The three steps of rat.sum: closures over its variables. -/
namespace Go.Proofs.Ytdolhanniiejfaa
open Go.ChangeShapes Go.WideShapes Go.RowKit
set_option linter.unusedVariables false
set_option maxRecDepth 100000

/-- A variable in a block of its own. -/
def One (w : World) (g : Nat) (u : Value) : Prop := w.cell? ⟨g, 0, none⟩ = some u ∧ w.frozen? ⟨g, 0, none⟩ = false
theorem One.lt {w : World} {g : Nat} {u : Value} (h : One w g u) : g < w.heap.size := World.block_lt_of_cell? w _ h.1
theorem One.below {w w' : World} {B g : Nat} {u : Value} (h : One w g u) (hb : Below B w w') (hg : g < B) : One w' g u :=
  ⟨(hb.cell (p := ⟨g, 0, none⟩) hg).trans h.1, (hb.frozen (p := ⟨g, 0, none⟩) hg).trans h.2⟩
theorem One.on {w w' : World} {g : Nat} {u : Value} (h : One w g u) (hb : Below w.heap.size w w') : One w' g u := h.below hb h.lt
theorem One.alloc {w : World} {g : Nat} {u : Value} (h : One w g u) (o : Obj) : One (w.alloc o) g u := h.on (below_alloc w o)
theorem One.new (w : World) (u : Value) (t : TypeId) : One (w.alloc (.cells #[u] t)) w.heap.size u := by
  have hb := heap_alloc_new w (.cells #[u] t)
  exact ⟨by rw [cell_of_row _ _ _ _ _ _ hb]; rfl, frozen_of hb _⟩
theorem One.set {w : World} {g : Nat} {u : Value} (h : One w g u) (v : Value) : One (w.setCell ⟨g, 0, none⟩ v) g v := ⟨set_same h.1 v, by simpa using h.2⟩
theorem One.other {w : World} {g : Nat} {u : Value} (h : One w g u) {p : Addr} (hp : p.block ≠ g) (v : Value) : One (w.setCell p v) g u :=
  ⟨(World.cell?_setCell_other w p _ v (fun e => hp (by rw [e]))).trans h.1, by simpa using h.2⟩
theorem Cel.other {w : World} {g : Nat} {u0 u1 u2 : Value} (h : Cel w g u0 u1 u2) {p : Addr} (hp : p.block ≠ g) (v : Value) : Cel (w.setCell p v) g u0 u1 u2 := by
  obtain ⟨⟨h0, h1, h2⟩, f0, f1, f2⟩ := h
  have k : ∀ i, (w.setCell p v).cell? ⟨g, i, none⟩ = w.cell? ⟨g, i, none⟩ := fun i => World.cell?_setCell_other w p _ v (fun e => hp (by rw [e]))
  exact ⟨⟨(k 0).trans h0, (k 1).trans h1, (k 2).trans h2⟩, by simpa using f0, by simpa using f1, by simpa using f2⟩
theorem Sl.set {w : World} {lo hi : Nat} {v : Value} {zs : List Int} (h : Sl w lo hi v zs) {p : Addr} (hp : p.block < lo ∨ hi ≤ p.block) (x : Value) : Sl (w.setCell p x) lo hi v zs := by
  obtain ⟨A, c, rfl, h1, h2, h3⟩ := h
  exact ⟨A, c, rfl, h1, h2, h3.keep fun k hk1 hk2 => Below.heap_setCell w p x k (fun e => by omega)⟩
def ptr (g : Nat) : Value := .pointer (some ⟨g, 0, none⟩)

end Go.Proofs.Ytdolhanniiejfaa
/- The contract of rat.sum. -/
namespace Go.Proofs.Ytdolhanniiejfaa
open Go.ChangeShapes Go.WideShapes Go.RowKit
set_option linter.unusedVariables false
set_option maxRecDepth 100000

theorem sumOk_eq (r s : Rat) : sumOk r s = (prOk r.num.natAbs s.den s.num.natAbs r.den && (decide (r.den * s.den < big48) && ssOk (negR r) (r.num.natAbs * s.den) (negR s) (s.num.natAbs * r.den))) := by
  unfold sumOk prOk ssOk; rw [Bool.and_assoc]

/-- The variables of rat.sum: ten blocks from B on. -/
def Fr (W : World) (B : Nat) (a0 a1 a2 b0 b1 b2 x y p q n e f1 f2 f3 : Value) : Prop :=
  (Cel W B a0 a1 a2 ∧ Cel W (B + 1) b0 b1 b2 ∧ Cel W (B + 2) (.bool false) (.slice none 0 0) (.slice none 0 0)) ∧ (One W (B + 3) x ∧ One W (B + 4) y ∧ One W (B + 5) p ∧ One W (B + 6) q ∧ One W (B + 7) n ∧ One W (B + 8) e) ∧ Cel W (B + 9) f1 f2 f3
section
variable {w W w' : World} {B : Nat} {a0 a1 a2 b0 b1 b2 x y p q n e f1 f2 f3 : Value}
theorem Fr.on (h : Fr W B a0 a1 a2 b0 b1 b2 x y p q n e f1 f2 f3) (hb : Below W.heap.size W w') : Fr w' B a0 a1 a2 b0 b1 b2 x y p q n e f1 f2 f3 := by
  obtain ⟨⟨h1, h2, h3⟩, ⟨g1, g2, g3, g4, g5, g6⟩, h4⟩ := h
  exact ⟨⟨h1.on hb, h2.on hb, h3.on hb⟩, ⟨g1.on hb, g2.on hb, g3.on hb, g4.on hb, g5.on hb, g6.on hb⟩, h4.on hb⟩
theorem Fr.set_x (h : Fr W B a0 a1 a2 b0 b1 b2 x y p q n e f1 f2 f3) (v : Value) : Fr (W.setCell ⟨B + 3, 0, none⟩ v) B a0 a1 a2 b0 b1 b2 v y p q n e f1 f2 f3 := by
  obtain ⟨⟨h1, h2, h3⟩, ⟨g1, g2, g3, g4, g5, g6⟩, h4⟩ := h
  exact ⟨⟨h1.other (by show B + 3 ≠ B; omega) v, h2.other (by show B + 3 ≠ B + 1; omega) v, h3.other (by show B + 3 ≠ B + 2; omega) v⟩, ⟨g1.set v, g2.other (by show B + 3 ≠ B + 4; omega) v, g3.other (by show B + 3 ≠ B + 5; omega) v, g4.other (by show B + 3 ≠ B + 6; omega) v, g5.other (by show B + 3 ≠ B + 7; omega) v, g6.other (by show B + 3 ≠ B + 8; omega) v⟩, h4.other (by show B + 3 ≠ B + 9; omega) v⟩
theorem Fr.set_y (h : Fr W B a0 a1 a2 b0 b1 b2 x y p q n e f1 f2 f3) (v : Value) : Fr (W.setCell ⟨B + 4, 0, none⟩ v) B a0 a1 a2 b0 b1 b2 x v p q n e f1 f2 f3 := by
  obtain ⟨⟨h1, h2, h3⟩, ⟨g1, g2, g3, g4, g5, g6⟩, h4⟩ := h
  exact ⟨⟨h1.other (by show B + 4 ≠ B; omega) v, h2.other (by show B + 4 ≠ B + 1; omega) v, h3.other (by show B + 4 ≠ B + 2; omega) v⟩, ⟨g1.other (by show B + 4 ≠ B + 3; omega) v, g2.set v, g3.other (by show B + 4 ≠ B + 5; omega) v, g4.other (by show B + 4 ≠ B + 6; omega) v, g5.other (by show B + 4 ≠ B + 7; omega) v, g6.other (by show B + 4 ≠ B + 8; omega) v⟩, h4.other (by show B + 4 ≠ B + 9; omega) v⟩
theorem Fr.set_p (h : Fr W B a0 a1 a2 b0 b1 b2 x y p q n e f1 f2 f3) (v : Value) : Fr (W.setCell ⟨B + 5, 0, none⟩ v) B a0 a1 a2 b0 b1 b2 x y v q n e f1 f2 f3 := by
  obtain ⟨⟨h1, h2, h3⟩, ⟨g1, g2, g3, g4, g5, g6⟩, h4⟩ := h
  exact ⟨⟨h1.other (by show B + 5 ≠ B; omega) v, h2.other (by show B + 5 ≠ B + 1; omega) v, h3.other (by show B + 5 ≠ B + 2; omega) v⟩, ⟨g1.other (by show B + 5 ≠ B + 3; omega) v, g2.other (by show B + 5 ≠ B + 4; omega) v, g3.set v, g4.other (by show B + 5 ≠ B + 6; omega) v, g5.other (by show B + 5 ≠ B + 7; omega) v, g6.other (by show B + 5 ≠ B + 8; omega) v⟩, h4.other (by show B + 5 ≠ B + 9; omega) v⟩
theorem Fr.set_q (h : Fr W B a0 a1 a2 b0 b1 b2 x y p q n e f1 f2 f3) (v : Value) : Fr (W.setCell ⟨B + 6, 0, none⟩ v) B a0 a1 a2 b0 b1 b2 x y p v n e f1 f2 f3 := by
  obtain ⟨⟨h1, h2, h3⟩, ⟨g1, g2, g3, g4, g5, g6⟩, h4⟩ := h
  exact ⟨⟨h1.other (by show B + 6 ≠ B; omega) v, h2.other (by show B + 6 ≠ B + 1; omega) v, h3.other (by show B + 6 ≠ B + 2; omega) v⟩, ⟨g1.other (by show B + 6 ≠ B + 3; omega) v, g2.other (by show B + 6 ≠ B + 4; omega) v, g3.other (by show B + 6 ≠ B + 5; omega) v, g4.set v, g5.other (by show B + 6 ≠ B + 7; omega) v, g6.other (by show B + 6 ≠ B + 8; omega) v⟩, h4.other (by show B + 6 ≠ B + 9; omega) v⟩
theorem Fr.set_n (h : Fr W B a0 a1 a2 b0 b1 b2 x y p q n e f1 f2 f3) (v : Value) : Fr (W.setCell ⟨B + 7, 0, none⟩ v) B a0 a1 a2 b0 b1 b2 x y p q v e f1 f2 f3 := by
  obtain ⟨⟨h1, h2, h3⟩, ⟨g1, g2, g3, g4, g5, g6⟩, h4⟩ := h
  exact ⟨⟨h1.other (by show B + 7 ≠ B; omega) v, h2.other (by show B + 7 ≠ B + 1; omega) v, h3.other (by show B + 7 ≠ B + 2; omega) v⟩, ⟨g1.other (by show B + 7 ≠ B + 3; omega) v, g2.other (by show B + 7 ≠ B + 4; omega) v, g3.other (by show B + 7 ≠ B + 5; omega) v, g4.other (by show B + 7 ≠ B + 6; omega) v, g5.set v, g6.other (by show B + 7 ≠ B + 8; omega) v⟩, h4.other (by show B + 7 ≠ B + 9; omega) v⟩
theorem Fr.set_e (h : Fr W B a0 a1 a2 b0 b1 b2 x y p q n e f1 f2 f3) (v : Value) : Fr (W.setCell ⟨B + 8, 0, none⟩ v) B a0 a1 a2 b0 b1 b2 x y p q n v f1 f2 f3 := by
  obtain ⟨⟨h1, h2, h3⟩, ⟨g1, g2, g3, g4, g5, g6⟩, h4⟩ := h
  exact ⟨⟨h1.other (by show B + 8 ≠ B; omega) v, h2.other (by show B + 8 ≠ B + 1; omega) v, h3.other (by show B + 8 ≠ B + 2; omega) v⟩, ⟨g1.other (by show B + 8 ≠ B + 3; omega) v, g2.other (by show B + 8 ≠ B + 4; omega) v, g3.other (by show B + 8 ≠ B + 5; omega) v, g4.other (by show B + 8 ≠ B + 6; omega) v, g5.other (by show B + 8 ≠ B + 7; omega) v, g6.set v⟩, h4.other (by show B + 8 ≠ B + 9; omega) v⟩
/-- What lies behind the variables stays. -/
def Keep (W w' : World) (lo : Nat) : Prop := W.heap.size ≤ w'.heap.size ∧ ∀ v zs, Sl W lo W.heap.size v zs → Sl w' lo w'.heap.size v zs
theorem Keep.below {lo : Nat} (hb : Below W.heap.size W w') : Keep W w' lo := ⟨hb.size, fun v zs h => (h.below hb (Nat.le_refl _)).more (Nat.le_refl _) hb.size⟩
theorem Keep.set {lo : Nat} (h : Keep W w' lo) {a : Addr} (ha : a.block < lo) (v : Value) : Keep W (w'.setCell a v) lo :=
  ⟨by simpa using h.1, fun u zs hu => by simpa using (h.2 u zs hu).set (Or.inl ha) v⟩
theorem sl_size {lo : Nat} {v : Value} {zs : List Int} {a : Addr} {u : Value} (h : Sl W lo W.heap.size v zs) (ha : a.block < lo) : Sl (W.setCell a u) lo (W.setCell a u).heap.size v zs := by
  simpa using h.set (Or.inl ha) u
theorem below_set {a : Addr} (h : Below B w W) (ha : B ≤ a.block) (v : Value) : Below B w (W.setCell a v) := h.setCell ha v
end

/-- The world in which the steps begin. -/
theorem sum_start (w : World) (a0 a1 a2 b0 b1 b2 f1 f2 f3 : Value) (t1 t2 t3 t4 t5 : TypeId) :
    Fr ((((((((((w.alloc (.cells #[a0, a1, a2] t1)).alloc (.cells #[b0, b1, b2] t1)).alloc (.cells #[.bool false, .slice none 0 0, .slice none 0 0] t1)).alloc (.cells #[.slice none 0 0] t2)).alloc (.cells #[.slice none 0 0] t2)).alloc (.cells #[.slice none 0 0] t2)).alloc (.cells #[.slice none 0 0] t2)).alloc (.cells #[.bool false] t3)).alloc (.cells #[.int .i64 0] t4)).alloc (.cells #[f1, f2, f3] t5))
      w.heap.size a0 a1 a2 b0 b1 b2 (.slice none 0 0) (.slice none 0 0) (.slice none 0 0) (.slice none 0 0) (.bool false) (.int .i64 0) f1 f2 f3 := by
  have cn : ∀ (W : World) (u0 u1 u2 : Value) (t : TypeId) (g : Nat), g = W.heap.size → Cel (W.alloc (.cells #[u0, u1, u2] t)) g u0 u1 u2 := fun W u0 u1 u2 t g h => h ▸ Cel.new W u0 u1 u2 t
  have on : ∀ (W : World) (u : Value) (t : TypeId) (g : Nat), g = W.heap.size → One (W.alloc (.cells #[u] t)) g u := fun W u t g h => h ▸ One.new W u t
  refine ⟨⟨?_, ?_, ?_⟩, ⟨?_, ?_, ?_, ?_, ?_, ?_⟩, ?_⟩
  · exact (((((((((cn _ _ _ _ _ _ rfl).alloc _).alloc _).alloc _).alloc _).alloc _).alloc _).alloc _).alloc _).alloc _
  · exact ((((((((cn _ _ _ _ _ _ (by simp)).alloc _).alloc _).alloc _).alloc _).alloc _).alloc _).alloc _).alloc _
  · exact (((((((cn _ _ _ _ _ _ (by simp)).alloc _).alloc _).alloc _).alloc _).alloc _).alloc _).alloc _
  · exact ((((((on _ _ _ _ (by simp)).alloc _).alloc _).alloc _).alloc _).alloc _).alloc _
  · exact (((((on _ _ _ _ (by simp)).alloc _).alloc _).alloc _).alloc _).alloc _
  · exact ((((on _ _ _ _ (by simp)).alloc _).alloc _).alloc _).alloc _
  · exact (((on _ _ _ _ (by simp)).alloc _).alloc _).alloc _
  · exact ((on _ _ _ _ (by simp)).alloc _).alloc _
  · exact (on _ _ _ _ (by simp)).alloc _
  · exact cn _ _ _ _ _ _ (by simp)

section
variable {w W : World} {B : Nat} {r s : Rat} {va0 va1 va2 vb0 vb1 vb2 x y p q n e f1 f2 f3 : Value}
end
end Go.Proofs.Ytdolhanniiejfaa
/- The contract of rat.sum. -/
namespace Go.Proofs.Ytdolhanniiejfaa
open Go.ChangeShapes Go.WideShapes Go.RowKit
set_option linter.unusedVariables false
set_option maxRecDepth 100000

theorem sMag_lt {m n : Bool} {x y : Nat} (hx : x < big48) (hy : y < big48) (h : ssOk m x n y = true) : sMag m x n y < big48 := by
  unfold sMag ssOk at *
  by_cases hmn : m = n
  · subst hmn
    rw [if_pos rfl]
    have : (m != m) = false := by cases m <;> rfl
    rw [this, Bool.false_or] at h
    exact of_decide_eq_true h
  · rw [if_neg hmn]
    split <;> omega
theorem prOk_parts {a b c d : Nat} (h : prOk a b c d = true) : a * b < big48 ∧ c * d < big48 := by
  unfold prOk at h; simpa using h

end Go.Proofs.Ytdolhanniiejfaa
/- Contracts of rat.times, Add, Mul of rat; Add, Mul of the reference. -/
namespace Go.Proofs.Ytdolhanniiejfaa
open Go.ChangeShapes Go.WideShapes Go.RowKit
set_option linter.unusedVariables false
set_option maxRecDepth 100000

theorem mulOk_eq (r s : Rat) : mulOk r s = prOk r.num.natAbs s.num.natAbs r.den s.den := rfl
theorem bne_dec (m n : Bool) : (m != n) = !(m == n) := rfl

set_option maxHeartbeats 1600000 in
theorem rat_times_0 (r s : Rat) (hr : fitR r = true) (hs : fitR s = true) (v u : Value) (w : World) (hv : IsR w v r) (hu : IsR w u s) (ho : mulOk r s = false) :
    Calls Try.prog 48 #[v, u] w (RRes w (okE (mulOk r s)) (r * s)) := by
  obtain ⟨vp, vq, rfl, h1, h2⟩ := hv
  obtain ⟨up, uq, rfl, h3, h4⟩ := hu
  obtain ⟨A1, c1, rfl, h1'⟩ := in_open h1
  obtain ⟨A2, c2, rfl, h2'⟩ := in_open h2
  obtain ⟨A3, c3, rfl, h3'⟩ := in_open h3
  obtain ⟨A4, c4, rfl, h4'⟩ := in_open h4
  rw [fitR_iff] at hr hs
  have PP := Lib.hid (fun W k1 k2 k3 k4 => rat_products r.num.natAbs s.num.natAbs r.den s.den (.slice A1 (topL r).length c1) (.slice A3 (topL s).length c3) (.slice A2 (botL r).length c2) (.slice A4 (botL s).length c4) W k1 k2 k3 k4 hr.1 hs.1 hr.2 hs.2)
  rw [← mulOk_eq, ho] at PP
  have H1 := Lib.hid h1'
  have H2 := Lib.hid h2'
  have H3 := Lib.hid h3'
  have H4 := Lib.hid h4'
  have HO := Lib.hid ho
  have HC := Lib.hid (Cel.new ((w.alloc (.cells #[.bool (negR r), .slice A1 (topL r).length c1, .slice A2 (botL r).length c2] 35)).alloc (.cells #[.bool (negR s), .slice A3 (topL s).length c3, .slice A4 (botL s).length c4] 35)) (.bool false) (.slice none 0 0) (.slice none 0 0) 35)
  have HCA := Lib.hid (((Cel.new w (.bool (negR r)) (.slice A1 (topL r).length c1) (.slice A2 (botL r).length c2) 35).alloc (.cells #[.bool (negR s), .slice A3 (topL s).length c3, .slice A4 (botL s).length c4] 35)).alloc (.cells #[.bool false, .slice none 0 0, .slice none 0 0] 35))
  have HCB := Lib.hid ((Cel.new (w.alloc (.cells #[.bool (negR r), .slice A1 (topL r).length c1, .slice A2 (botL r).length c2] 35)) (.bool (negR s)) (.slice A3 (topL s).length c3) (.slice A4 (botL s).length c4) 35).alloc (.cells #[.bool false, .slice none 0 0, .slice none 0 0] 35))
  simp only [World.size_alloc] at HC HCB
  clear h1 h2 h3 h4 h1' h2' h3' h4' hr hs ho
  go_enter Try.func48, Try.ntmps48
  go_wp2_with fail
  have hb0 : ∀ o1 o2 o3, Below w.heap.size w (((w.alloc o1).alloc o2).alloc o3) := fun _ _ _ => balloc (balloc (below_alloc _ _) _) _
  have hz0 : ∀ o1 o2 o3, (((w.alloc o1).alloc o2).alloc o3).heap.size = w.heap.size + 3 := fun _ _ _ => by simp
  refine (PP.out _ (H1.out.on (hb0 _ _ _)) (H3.out.on (hb0 _ _ _)) (H2.out.on (hb0 _ _ _)) (H4.out.on (hb0 _ _ _))).mono ?_
  rintro e w1 ⟨vp, vq, rfl, hp, hq, hb1⟩
  have hz1 : w.heap.size + 3 ≤ w1.heap.size := by have := hb1.size; rw [hz0] at this; exact this
  have HB1 : Hid (Below w.heap.size w w1) := (hb0 _ _ _).trans (hb1.mono (by rw [hz0]; omega))
  have HC1 := Lib.hid (HC.out.on hb1)
  obtain ⟨⟨r0, r1, r2⟩, s0, s1, s2⟩ : Cel w1 (w.heap.size + 1 + 1) (.bool false) (.slice none 0 0) (.slice none 0 0) := HC1.out
  clear hb0 hz0 hp hq hb1
  unfold okE
  go_wp2_with fail
  obtain ⟨⟨z0, z1, z2⟩, -⟩ := HC1.out.put3 (.bool false) (.slice none 0 0) (.slice none 0 0)
  simp only [put3] at z0 z1 z2
  refine bodyPost_ret (v := .tuple #[.agg #[.bool false, .slice none 0 0, .slice none 0 0], .int .i64 2]) (by simp [results, Try.results48, go_sem, z0, z1, z2]) rfl ?_
  rw [HO.out]
  exact ⟨_, rfl, OutR.no (by decide), below_put3 HB1.out (g := w.heap.size + 1 + 1) (by omega) _ _ _⟩

set_option maxHeartbeats 1600000 in
theorem rat_times_1 (r s : Rat) (hr : fitR r = true) (hs : fitR s = true) (v u : Value) (w : World) (hv : IsR w v r) (hu : IsR w u s) (ho : mulOk r s = true) :
    Calls Try.prog 48 #[v, u] w (RRes w (okE (mulOk r s)) (r * s)) := by
  obtain ⟨vp, vq, rfl, h1, h2⟩ := hv
  obtain ⟨up, uq, rfl, h3, h4⟩ := hu
  obtain ⟨A1, c1, rfl, h1'⟩ := in_open h1
  obtain ⟨A2, c2, rfl, h2'⟩ := in_open h2
  obtain ⟨A3, c3, rfl, h3'⟩ := in_open h3
  obtain ⟨A4, c4, rfl, h4'⟩ := in_open h4
  rw [fitR_iff] at hr hs
  have PP := Lib.hid (fun W k1 k2 k3 k4 => rat_products r.num.natAbs s.num.natAbs r.den s.den (.slice A1 (topL r).length c1) (.slice A3 (topL s).length c3) (.slice A2 (botL r).length c2) (.slice A4 (botL s).length c4) W k1 k2 k3 k4 hr.1 hs.1 hr.2 hs.2)
  rw [← mulOk_eq, ho] at PP
  have H1 := Lib.hid h1'
  have H2 := Lib.hid h2'
  have H3 := Lib.hid h3'
  have H4 := Lib.hid h4'
  have HO := Lib.hid ho
  have HC := Lib.hid (Cel.new ((w.alloc (.cells #[.bool (negR r), .slice A1 (topL r).length c1, .slice A2 (botL r).length c2] 35)).alloc (.cells #[.bool (negR s), .slice A3 (topL s).length c3, .slice A4 (botL s).length c4] 35)) (.bool false) (.slice none 0 0) (.slice none 0 0) 35)
  have HCA := Lib.hid (((Cel.new w (.bool (negR r)) (.slice A1 (topL r).length c1) (.slice A2 (botL r).length c2) 35).alloc (.cells #[.bool (negR s), .slice A3 (topL s).length c3, .slice A4 (botL s).length c4] 35)).alloc (.cells #[.bool false, .slice none 0 0, .slice none 0 0] 35))
  have HCB := Lib.hid ((Cel.new (w.alloc (.cells #[.bool (negR r), .slice A1 (topL r).length c1, .slice A2 (botL r).length c2] 35)) (.bool (negR s)) (.slice A3 (topL s).length c3) (.slice A4 (botL s).length c4) 35).alloc (.cells #[.bool false, .slice none 0 0, .slice none 0 0] 35))
  simp only [World.size_alloc] at HC HCB
  clear h1 h2 h3 h4 h1' h2' h3' h4' hr hs ho
  go_enter Try.func48, Try.ntmps48
  go_wp2_with fail
  have hb0 : ∀ o1 o2 o3, Below w.heap.size w (((w.alloc o1).alloc o2).alloc o3) := fun _ _ _ => balloc (balloc (below_alloc _ _) _) _
  have hz0 : ∀ o1 o2 o3, (((w.alloc o1).alloc o2).alloc o3).heap.size = w.heap.size + 3 := fun _ _ _ => by simp
  refine (PP.out _ (H1.out.on (hb0 _ _ _)) (H3.out.on (hb0 _ _ _)) (H2.out.on (hb0 _ _ _)) (H4.out.on (hb0 _ _ _))).mono ?_
  rintro e w1 ⟨vp, vq, rfl, hp, hq, hb1⟩
  have hz1 : w.heap.size + 3 ≤ w1.heap.size := by have := hb1.size; rw [hz0] at this; exact this
  have HB1 : Hid (Below w.heap.size w w1) := (hb0 _ _ _).trans (hb1.mono (by rw [hz0]; omega))
  have HC1 := Lib.hid (HC.out.on hb1)
  obtain ⟨⟨a0, -⟩, -⟩ : Cel w1 w.heap.size (.bool (negR r)) (.slice A1 (topL r).length c1) (.slice A2 (botL r).length c2) := HCA.out.on hb1
  obtain ⟨⟨b0, -⟩, -⟩ : Cel w1 (w.heap.size + 1) (.bool (negR s)) (.slice A3 (topL s).length c3) (.slice A4 (botL s).length c4) := HCB.out.on hb1
  have HP := Lib.hid hp.toIn
  have HQ := Lib.hid hq.toIn
  have HOP : Hid (prOk r.num.natAbs s.num.natAbs r.den s.den = true) := HO.out
  clear hb0 hz0 hp hq hb1
  unfold okE
  go_wp2_with fail
  refine (rat_reduced (negR r != negR s) _ _ _ _ w1 HP.out HQ.out (prOk_parts HOP.out).1 (prOk_parts HOP.out).2 (Nat.mul_ne_zero r.den_nz s.den_nz)).mono ?_
  rw [mul_form]
  rintro e w4 ⟨v4, rfl, h4, hb4⟩
  obtain ⟨vp4, vq4, rfl, h4p, h4q⟩ := h4
  obtain ⟨P4, x4, rfl, h4p'⟩ := in_open h4p
  obtain ⟨Q4, y4, rfl, h4q'⟩ := in_open h4q
  have HP4 := Lib.hid h4p'
  have HQ4 := Lib.hid h4q'
  have HB4 := Lib.hid hb4
  have HC4 := HC1.out.on hb4
  have HC4' := Lib.hid HC4
  have HRR := Lib.hid (HC4.put3 (.bool (negR (r * s))) (.slice P4 (topL (r * s)).length x4) (.slice Q4 (botL (r * s)).length y4))
  obtain ⟨⟨d0, d1, d2⟩, f0, f1, f2⟩ := HC4
  clear h4p h4q h4p' h4q' hb4
  go_wp2_with fail
  obtain ⟨⟨r0, r1, r2⟩, -⟩ := HRR.out
  refine bodyPost_ret (v := .tuple #[.agg #[.bool (negR (r * s)), .slice P4 (topL (r * s)).length x4, .slice Q4 (botL (r * s)).length y4], .int .i64 0]) (by simp only [put3] at r0 r1 r2; simp [results, Try.results48, go_sem, r0, r1, r2]) rfl ?_
  rw [HO.out]
  exact ⟨_, rfl, OutR.ok ⟨_, _, rfl, HP4.out.put3 HC4'.out _ _ _, HQ4.out.put3 HC4'.out _ _ _⟩, below_put3 (HB1.out.trans (HB4.out.mono (by omega))) (by omega) _ _ _⟩

theorem rat_times (r s : Rat) (hr : fitR r = true) (hs : fitR s = true) (v u : Value) (w : World) (hv : IsR w v r) (hu : IsR w u s) :
    Calls Try.prog 48 #[v, u] w (RRes w (okE (mulOk r s)) (r * s)) := by
  cases h : mulOk r s with
  | false => rw [← h]; exact rat_times_0 r s hr hs v u w hv hu h
  | true => rw [← h]; exact rat_times_1 r s hr hs v u w hv hu h
end Go.Proofs.Ytdolhanniiejfaa
/- Contracts of Add and Mul of rat. -/
namespace Go.Proofs.Ytdolhanniiejfaa
open Go.ChangeShapes Go.WideShapes Go.RowKit
set_option linter.unusedVariables false
set_option maxRecDepth 100000

/-- Both arguments valid. -/
def two (b : Bool) (xs ys : List Int) (c : Bool) (zs ts : List Int) : Bool := valR b xs ys && valR c zs ts
theorem two_cases (b : Bool) (xs ys : List Int) (c : Bool) (zs ts : List Int) :
    (valR b xs ys = false ∧ two b xs ys c zs ts = false) ∨ (valR b xs ys = true ∧ valR c zs ts = false ∧ two b xs ys c zs ts = false) ∨
    (two b xs ys c zs ts = true ∧ ∃ r s, (fitR r = true ∧ b = negR r ∧ xs = topL r ∧ ys = botL r) ∧ (fitR s = true ∧ c = negR s ∧ zs = topL s ∧ ts = botL s)) := by
  unfold two
  cases h1 : valR b xs ys with
  | false => exact Or.inl ⟨rfl, rfl⟩
  | true =>
    cases h2 : valR c zs ts with
    | false => exact Or.inr (Or.inl ⟨rfl, rfl, rfl⟩)
    | true =>
      obtain ⟨r, hr⟩ := val_form h1
      obtain ⟨s, hs⟩ := val_form h2
      exact Or.inr (Or.inr ⟨rfl, r, s, hr, hs⟩)
theorem two_form {r s : Rat} (hr : fitR r = true) (hs : fitR s = true) : two (negR r) (topL r) (botL r) (negR s) (topL s) (botL s) = true := by
  unfold two; rw [(form_val hr).1, (form_val hs).1]; rfl
def opE (ok : Rat → Rat → Bool) (b : Bool) (xs ys : List Int) (c : Bool) (zs ts : List Int) : Int := if two b xs ys c zs ts then okE (ok (ratV b xs ys) (ratV c zs ts)) else 3
def opV (f : Rat → Rat → Rat) (b : Bool) (xs ys : List Int) (c : Bool) (zs ts : List Int) : Rat := f (ratV b xs ys) (ratV c zs ts)
theorem opE_no {ok : Rat → Rat → Bool} {b : Bool} {xs ys : List Int} {c : Bool} {zs ts : List Int} (h : two b xs ys c zs ts = false) : opE ok b xs ys c zs ts = 3 := by unfold opE; rw [h]; rfl
theorem op_form {ok : Rat → Rat → Bool} {f : Rat → Rat → Rat} {r s : Rat} (hr : fitR r = true) (hs : fitR s = true) :
    opE ok (negR r) (topL r) (botL r) (negR s) (topL s) (botL s) = okE (ok r s) ∧ opV f (negR r) (topL r) (botL r) (negR s) (topL s) (botL s) = f r s := by
  unfold opE opV; rw [two_form hr hs, (form_val hr).2, (form_val hs).2]; exact ⟨rfl, rfl⟩
def addOp (r s : Rat) : Rat := r + s
def mulOp (r s : Rat) : Rat := r * s
/-- The result from a call below. -/
theorem RRes.open_ {w : World} {err : Int} {r : Rat} {e : Ending} {w' : World} (h : RRes w err r e w') :
    ∃ b A n c B m d, e = .returned (.tuple #[.agg #[.bool b, .slice A n c, .slice B m d], .int .i64 err]) ∧ OutR w' (.agg #[.bool b, .slice A n c, .slice B m d]) err r ∧ Below w.heap.size w w' := by
  obtain ⟨v, rfl, ho, hb⟩ := h
  have k : ∃ b xs ys, InR w' v b xs ys := by
    unfold OutR at ho; split at ho
    · exact ⟨_, _, _, ho⟩
    · exact ⟨_, _, _, ho⟩
  obtain ⟨b, xs, ys, vp, vq, rfl, h1, h2⟩ := k
  obtain ⟨A, c, rfl, -⟩ := in_open h1
  obtain ⟨B, d, rfl, -⟩ := in_open h2
  exact ⟨b, A, _, c, B, _, d, rfl, ho, hb⟩
theorem InR.put3 {w : World} {v : Value} {b b' : Bool} {xs ys : List Int} {g : Nat} {A B : Option Addr} {n c m d : Nat} (h : InR w v b xs ys) (hc : Cel w g (.bool b') (.slice A n c) (.slice B m d)) (x0 x1 x2 : Value) : InR (put3 w g x0 x1 x2) v b xs ys := by
  obtain ⟨vp, vq, e, h1, h2⟩ := h; exact ⟨vp, vq, e, h1.put3 hc _ _ _, h2.put3 hc _ _ _⟩
theorem OutR.on {w w' : World} {v : Value} {err : Int} {r : Rat} (h : OutR w v err r) (hb : Below w.heap.size w w') : OutR w' v err r := by
  unfold OutR at *
  split
  · rename_i e; rw [if_pos e] at h; exact InR.on h hb
  · rename_i e; rw [if_neg e] at h; exact InR.on h hb
theorem OutR.put3 {w : World} {v : Value} {err : Int} {r : Rat} {b' : Bool} {g : Nat} {A B : Option Addr} {n c m d : Nat} (h : OutR w v err r) (hc : Cel w g (.bool b') (.slice A n c) (.slice B m d)) (x0 x1 x2 : Value) : OutR (put3 w g x0 x1 x2) v err r := by
  unfold OutR at *
  split
  · rename_i e; rw [if_pos e] at h; exact InR.put3 h hc _ _ _
  · rename_i e; rw [if_neg e] at h; exact InR.put3 h hc _ _ _

set_option maxHeartbeats 1600000 in
theorem rat_Mul_no1 (b : Bool) (xs ys : List Int) (c : Bool) (zs ts : List Int) (v u : Value) (w : World) (hv : InR w v b xs ys) (hu : InR w u c zs ts) (hn1 : valR b xs ys = false) (hn : two b xs ys c zs ts = false) :
    Calls Try.prog 33 #[v, u] w (RRes w (opE mulOk b xs ys c zs ts) (opV mulOp b xs ys c zs ts)) := by
  have HN1 := Lib.hid hn1
  have HN := Lib.hid hn
  clear hn1 hn
  obtain ⟨vp, vq, rfl, h1, h2⟩ := hv
  obtain ⟨up, uq, rfl, h3, h4⟩ := hu
  obtain ⟨A1, c1, rfl, h1'⟩ := in_open h1
  obtain ⟨A2, c2, rfl, h2'⟩ := in_open h2
  obtain ⟨A3, c3, rfl, h3'⟩ := in_open h3
  obtain ⟨A4, c4, rfl, h4'⟩ := in_open h4
  have HV := Lib.hid (show InR w (.agg #[.bool b, .slice A1 xs.length c1, .slice A2 ys.length c2]) b xs ys from ⟨_, _, rfl, h1', h2'⟩)
  have HU := Lib.hid (show InR w (.agg #[.bool c, .slice A3 zs.length c3, .slice A4 ts.length c4]) c zs ts from ⟨_, _, rfl, h3', h4'⟩)
  have HC := Lib.hid (Cel.new ((w.alloc (.cells #[.bool b, .slice A1 xs.length c1, .slice A2 ys.length c2] 35)).alloc (.cells #[.bool c, .slice A3 zs.length c3, .slice A4 ts.length c4] 35)) (.bool false) (.slice none 0 0) (.slice none 0 0) 35)
  have HCA := Lib.hid (((Cel.new w (.bool b) (.slice A1 xs.length c1) (.slice A2 ys.length c2) 35).alloc (.cells #[.bool c, .slice A3 zs.length c3, .slice A4 ts.length c4] 35)).alloc (.cells #[.bool false, .slice none 0 0, .slice none 0 0] 35))
  have HCB := Lib.hid ((Cel.new (w.alloc (.cells #[.bool b, .slice A1 xs.length c1, .slice A2 ys.length c2] 35)) (.bool c) (.slice A3 zs.length c3) (.slice A4 ts.length c4) 35).alloc (.cells #[.bool false, .slice none 0 0, .slice none 0 0] 35))
  simp only [World.size_alloc] at HC HCB
  have hb0 : ∀ o1 o2 o3, Below w.heap.size w (((w.alloc o1).alloc o2).alloc o3) := fun _ _ _ => balloc (balloc (below_alloc _ _) _) _
  have hz0 : ∀ o1 o2 o3, (((w.alloc o1).alloc o2).alloc o3).heap.size = w.heap.size + 3 := fun _ _ _ => by simp
  have HB0 := Lib.hid hb0
  have HZ0 := Lib.hid hz0
  clear h1 h2 h3 h4 h1' h2' h3' h4' hb0 hz0
  go_enter Try.func33, Try.ntmps33
  go_wp2_with fail
  refine (rat_Valid _ _ _ _ _ (HV.out.on (HB0.out _ _ _))).mono ?_
  rw [HN1.out]
  rintro e w1 ⟨rfl, hb1⟩
  have HZ1 : w.heap.size + 3 ≤ w1.heap.size := by have := hb1.size; rw [HZ0.out] at this; exact this
  have HB1 : Hid (Below w.heap.size w w1) := (HB0.out _ _ _).trans (hb1.mono (by rw [HZ0.out]; omega))
  have HC1 := Lib.hid (HC.out.on hb1)
  have HCA1 := Lib.hid (HCA.out.on hb1)
  have HCB1 := Lib.hid (HCB.out.on hb1)
  clear hb1
  obtain ⟨⟨r0, r1, r2⟩, s0, s1, s2⟩ : Cel w1 (w.heap.size + 1 + 1) (.bool false) (.slice none 0 0) (.slice none 0 0) := HC1.out
  go_wp2_with fail
  obtain ⟨⟨z0, z1, z2⟩, -⟩ := HC1.out.put3 (.bool false) (.slice none 0 0) (.slice none 0 0)
  simp only [put3] at z0 z1 z2
  refine bodyPost_ret (v := .tuple #[.agg #[.bool false, .slice none 0 0, .slice none 0 0], .int .i64 3]) (by simp [results, Try.results33, go_sem, z0, z1, z2]) rfl ?_
  rw [opE_no HN.out]
  exact ⟨_, rfl, OutR.no (by decide), below_put3 HB1.out (g := w.heap.size + 1 + 1) (by omega) _ _ _⟩

set_option maxHeartbeats 1600000 in
theorem rat_Mul_no2 (b : Bool) (xs ys : List Int) (c : Bool) (zs ts : List Int) (v u : Value) (w : World) (hv : InR w v b xs ys) (hu : InR w u c zs ts) (hn1 : valR b xs ys = true) (hn2 : valR c zs ts = false) (hn : two b xs ys c zs ts = false) :
    Calls Try.prog 33 #[v, u] w (RRes w (opE mulOk b xs ys c zs ts) (opV mulOp b xs ys c zs ts)) := by
  have HN1 := Lib.hid hn1
  have HN2 := Lib.hid hn2
  have HN := Lib.hid hn
  clear hn1 hn2 hn
  obtain ⟨vp, vq, rfl, h1, h2⟩ := hv
  obtain ⟨up, uq, rfl, h3, h4⟩ := hu
  obtain ⟨A1, c1, rfl, h1'⟩ := in_open h1
  obtain ⟨A2, c2, rfl, h2'⟩ := in_open h2
  obtain ⟨A3, c3, rfl, h3'⟩ := in_open h3
  obtain ⟨A4, c4, rfl, h4'⟩ := in_open h4
  have HV := Lib.hid (show InR w (.agg #[.bool b, .slice A1 xs.length c1, .slice A2 ys.length c2]) b xs ys from ⟨_, _, rfl, h1', h2'⟩)
  have HU := Lib.hid (show InR w (.agg #[.bool c, .slice A3 zs.length c3, .slice A4 ts.length c4]) c zs ts from ⟨_, _, rfl, h3', h4'⟩)
  have HC := Lib.hid (Cel.new ((w.alloc (.cells #[.bool b, .slice A1 xs.length c1, .slice A2 ys.length c2] 35)).alloc (.cells #[.bool c, .slice A3 zs.length c3, .slice A4 ts.length c4] 35)) (.bool false) (.slice none 0 0) (.slice none 0 0) 35)
  have HCA := Lib.hid (((Cel.new w (.bool b) (.slice A1 xs.length c1) (.slice A2 ys.length c2) 35).alloc (.cells #[.bool c, .slice A3 zs.length c3, .slice A4 ts.length c4] 35)).alloc (.cells #[.bool false, .slice none 0 0, .slice none 0 0] 35))
  have HCB := Lib.hid ((Cel.new (w.alloc (.cells #[.bool b, .slice A1 xs.length c1, .slice A2 ys.length c2] 35)) (.bool c) (.slice A3 zs.length c3) (.slice A4 ts.length c4) 35).alloc (.cells #[.bool false, .slice none 0 0, .slice none 0 0] 35))
  simp only [World.size_alloc] at HC HCB
  have hb0 : ∀ o1 o2 o3, Below w.heap.size w (((w.alloc o1).alloc o2).alloc o3) := fun _ _ _ => balloc (balloc (below_alloc _ _) _) _
  have hz0 : ∀ o1 o2 o3, (((w.alloc o1).alloc o2).alloc o3).heap.size = w.heap.size + 3 := fun _ _ _ => by simp
  have HB0 := Lib.hid hb0
  have HZ0 := Lib.hid hz0
  clear h1 h2 h3 h4 h1' h2' h3' h4' hb0 hz0
  go_enter Try.func33, Try.ntmps33
  go_wp2_with fail
  refine (rat_Valid _ _ _ _ _ (HV.out.on (HB0.out _ _ _))).mono ?_
  rw [HN1.out]
  rintro e w1 ⟨rfl, hb1⟩
  have HZ1 : w.heap.size + 3 ≤ w1.heap.size := by have := hb1.size; rw [HZ0.out] at this; exact this
  have HB1 : Hid (Below w.heap.size w w1) := (HB0.out _ _ _).trans (hb1.mono (by rw [HZ0.out]; omega))
  have HC1 := Lib.hid (HC.out.on hb1)
  have HCA1 := Lib.hid (HCA.out.on hb1)
  have HCB1 := Lib.hid (HCB.out.on hb1)
  clear hb1
  obtain ⟨⟨b0, b1, b2⟩, -⟩ : Cel w1 (w.heap.size + 1) (.bool c) (.slice A3 zs.length c3) (.slice A4 ts.length c4) := HCB1.out
  go_wp2_with fail
  clear b0 b1 b2
  refine (rat_Valid _ _ _ _ _ (HU.out.on HB1.out)).mono ?_
  rw [HN2.out]
  rintro e w2 ⟨rfl, hb2⟩
  have HZ2 : w.heap.size + 3 ≤ w2.heap.size := by have := hb2.size; omega
  have HB2 : Hid (Below w.heap.size w w2) := HB1.out.trans (hb2.mono (by omega))
  have HC2 := Lib.hid (HC1.out.on hb2)
  have HCA2 := Lib.hid (HCA1.out.on hb2)
  have HCB2 := Lib.hid (HCB1.out.on hb2)
  clear hb2
  obtain ⟨⟨r0, r1, r2⟩, s0, s1, s2⟩ : Cel w2 (w.heap.size + 1 + 1) (.bool false) (.slice none 0 0) (.slice none 0 0) := HC2.out
  go_wp2_with fail
  obtain ⟨⟨z0, z1, z2⟩, -⟩ := HC2.out.put3 (.bool false) (.slice none 0 0) (.slice none 0 0)
  simp only [put3] at z0 z1 z2
  refine bodyPost_ret (v := .tuple #[.agg #[.bool false, .slice none 0 0, .slice none 0 0], .int .i64 3]) (by simp [results, Try.results33, go_sem, z0, z1, z2]) rfl ?_
  rw [opE_no HN.out]
  exact ⟨_, rfl, OutR.no (by decide), below_put3 HB2.out (g := w.heap.size + 1 + 1) (by omega) _ _ _⟩

set_option maxHeartbeats 1600000 in
theorem rat_Mul_yes (r s : Rat) (hr : fitR r = true) (hs : fitR s = true) (v u : Value) (w : World) (hv : IsR w v r) (hu : IsR w u s) :
    Calls Try.prog 33 #[v, u] w (RRes w (opE mulOk (negR r) (topL r) (botL r) (negR s) (topL s) (botL s)) (opV mulOp (negR r) (topL r) (botL r) (negR s) (topL s) (botL s))) := by
  have HF := Lib.hid (op_form (ok := mulOk) (f := mulOp) hr hs)
  have HR := Lib.hid hr
  have HS := Lib.hid hs
  have HN1 := Lib.hid (form_val hr).1
  have HN2 := Lib.hid (form_val hs).1
  clear hr hs
  obtain ⟨vp, vq, rfl, h1, h2⟩ := hv
  obtain ⟨up, uq, rfl, h3, h4⟩ := hu
  obtain ⟨A1, c1, rfl, h1'⟩ := in_open h1
  obtain ⟨A2, c2, rfl, h2'⟩ := in_open h2
  obtain ⟨A3, c3, rfl, h3'⟩ := in_open h3
  obtain ⟨A4, c4, rfl, h4'⟩ := in_open h4
  have HV := Lib.hid (show InR w (.agg #[.bool (negR r), .slice A1 (topL r).length c1, .slice A2 (botL r).length c2]) (negR r) (topL r) (botL r) from ⟨_, _, rfl, h1', h2'⟩)
  have HU := Lib.hid (show InR w (.agg #[.bool (negR s), .slice A3 (topL s).length c3, .slice A4 (botL s).length c4]) (negR s) (topL s) (botL s) from ⟨_, _, rfl, h3', h4'⟩)
  have HC := Lib.hid (Cel.new ((w.alloc (.cells #[.bool (negR r), .slice A1 (topL r).length c1, .slice A2 (botL r).length c2] 35)).alloc (.cells #[.bool (negR s), .slice A3 (topL s).length c3, .slice A4 (botL s).length c4] 35)) (.bool false) (.slice none 0 0) (.slice none 0 0) 35)
  have HCA := Lib.hid (((Cel.new w (.bool (negR r)) (.slice A1 (topL r).length c1) (.slice A2 (botL r).length c2) 35).alloc (.cells #[.bool (negR s), .slice A3 (topL s).length c3, .slice A4 (botL s).length c4] 35)).alloc (.cells #[.bool false, .slice none 0 0, .slice none 0 0] 35))
  have HCB := Lib.hid ((Cel.new (w.alloc (.cells #[.bool (negR r), .slice A1 (topL r).length c1, .slice A2 (botL r).length c2] 35)) (.bool (negR s)) (.slice A3 (topL s).length c3) (.slice A4 (botL s).length c4) 35).alloc (.cells #[.bool false, .slice none 0 0, .slice none 0 0] 35))
  simp only [World.size_alloc] at HC HCB
  have hb0 : ∀ o1 o2 o3, Below w.heap.size w (((w.alloc o1).alloc o2).alloc o3) := fun _ _ _ => balloc (balloc (below_alloc _ _) _) _
  have hz0 : ∀ o1 o2 o3, (((w.alloc o1).alloc o2).alloc o3).heap.size = w.heap.size + 3 := fun _ _ _ => by simp
  have HB0 := Lib.hid hb0
  have HZ0 := Lib.hid hz0
  clear h1 h2 h3 h4 h1' h2' h3' h4' hb0 hz0
  go_enter Try.func33, Try.ntmps33
  go_wp2_with fail
  refine (rat_Valid _ _ _ _ _ (HV.out.on (HB0.out _ _ _))).mono ?_
  rw [HN1.out]
  rintro e w1 ⟨rfl, hb1⟩
  have HZ1 : w.heap.size + 3 ≤ w1.heap.size := by have := hb1.size; rw [HZ0.out] at this; exact this
  have HB1 : Hid (Below w.heap.size w w1) := (HB0.out _ _ _).trans (hb1.mono (by rw [HZ0.out]; omega))
  have HC1 := Lib.hid (HC.out.on hb1)
  have HCA1 := Lib.hid (HCA.out.on hb1)
  have HCB1 := Lib.hid (HCB.out.on hb1)
  clear hb1
  obtain ⟨⟨b0, b1, b2⟩, -⟩ : Cel w1 (w.heap.size + 1) (.bool (negR s)) (.slice A3 (topL s).length c3) (.slice A4 (botL s).length c4) := HCB1.out
  go_wp2_with fail
  clear b0 b1 b2
  refine (rat_Valid _ _ _ _ _ (HU.out.on HB1.out)).mono ?_
  rw [HN2.out]
  rintro e w2 ⟨rfl, hb2⟩
  have HZ2 : w.heap.size + 3 ≤ w2.heap.size := by have := hb2.size; omega
  have HB2 : Hid (Below w.heap.size w w2) := HB1.out.trans (hb2.mono (by omega))
  have HC2 := Lib.hid (HC1.out.on hb2)
  have HCA2 := Lib.hid (HCA1.out.on hb2)
  have HCB2 := Lib.hid (HCB1.out.on hb2)
  clear hb2
  obtain ⟨⟨a0, a1, a2⟩, -⟩ : Cel w2 w.heap.size (.bool (negR r)) (.slice A1 (topL r).length c1) (.slice A2 (botL r).length c2) := HCA2.out
  obtain ⟨⟨b0, b1, b2⟩, -⟩ : Cel w2 (w.heap.size + 1) (.bool (negR s)) (.slice A3 (topL s).length c3) (.slice A4 (botL s).length c4) := HCB2.out
  go_wp2_with fail
  refine (rat_times r s HR.out HS.out _ _ w2 (HV.out.on HB2.out) (HU.out.on HB2.out)).mono ?_
  rintro e w3 h3
  obtain ⟨b3, A5, n5, d5, A6, n6, d6, rfl, ho3, hb3⟩ := h3.open_
  have HO3 := Lib.hid ho3
  have HB3 := Lib.hid hb3
  have HC3 := HC2.out.on hb3
  have HC3' := Lib.hid HC3
  have HRR := Lib.hid (HC3.put3 (.bool b3) (.slice A5 n5 d5) (.slice A6 n6 d6))
  obtain ⟨⟨d0, d1, d2⟩, f0, f1, f2⟩ := HC3
  clear h3 ho3 hb3 a0 a1 a2 b0 b1 b2
  go_wp2_with fail
  obtain ⟨⟨r0, r1, r2⟩, -⟩ := HRR.out
  refine bodyPost_ret (v := .tuple #[.agg #[.bool b3, .slice A5 n5 d5, .slice A6 n6 d6], .int .i64 (okE (mulOk r s))]) (by simp only [put3] at r0 r1 r2; simp [results, Try.results33, go_sem, r0, r1, r2]) rfl ?_
  rw [HF.out.1, HF.out.2]
  exact ⟨_, rfl, HO3.out.put3 HC3'.out _ _ _, below_put3 (HB2.out.trans (HB3.out.mono (by omega))) (by omega) _ _ _⟩

theorem rat_Mul (b : Bool) (xs ys : List Int) (c : Bool) (zs ts : List Int) (v u : Value) (w : World) (hv : InR w v b xs ys) (hu : InR w u c zs ts) :
    Calls Try.prog 33 #[v, u] w (RRes w (opE mulOk b xs ys c zs ts) (opV mulOp b xs ys c zs ts)) := by
  rcases two_cases b xs ys c zs ts with ⟨h1, h⟩ | ⟨h1, h2, h⟩ | ⟨h, r, s, ⟨hr, rfl, rfl, rfl⟩, hs, rfl, rfl, rfl⟩
  · exact rat_Mul_no1 b xs ys c zs ts v u w hv hu h1 h
  · exact rat_Mul_no2 b xs ys c zs ts v u w hv hu h1 h2 h
  · exact rat_Mul_yes r s hr hs v u w hv hu

end Go.Proofs.Ytdolhanniiejfaa
/- Contracts of Add and Mul of the reference. -/
namespace Go.Proofs.Ytdolhanniiejfaa
open Go.ChangeShapes Go.WideShapes Go.RowKit
set_option linter.unusedVariables false
set_option maxRecDepth 100000

end Go.Proofs.Ytdolhanniiejfaa
/- The contract of Add of the reference. -/
namespace Go.Proofs.Ytdolhanniiejfaa
open Go.ChangeShapes Go.WideShapes Go.RowKit
set_option linter.unusedVariables false
set_option maxRecDepth 100000

end Go.Proofs.Ytdolhanniiejfaa
/- Contracts of Sub of rat and of its reference. -/
namespace Go.Proofs.Ytdolhanniiejfaa
open Go.ChangeShapes Go.WideShapes Go.RowKit
set_option linter.unusedVariables false
set_option maxRecDepth 100000

def subOk (r s : Rat) : Bool := sumOk r (-s)
def subOp (r s : Rat) : Rat := r + -s
theorem len_emp (n : Nat) : (limbs n).isEmpty = !decide (0 < n) := by rw [limbs_emp]; by_cases h : n = 0 <;> simp [h]; omega
theorem signed_neg {w : World} {v : Value} {s : Rat} (h : InR w v (!negR s && !(topL s).isEmpty) (topL s) (botL s)) : IsR w v (-s) := by
  obtain ⟨e1, e2, e3⟩ := neg_form s
  have e : (!negR s && !(topL s).isEmpty) = negR (-s) := by rw [e1, topL, len_emp, Bool.not_not]
  unfold IsR
  rw [e2, e3, ← e]; exact h
theorem In.drew {w : World} {v : Value} {zs : List Int} (h : In w v zs) : In w.drew v zs := h
theorem InR.drew {w : World} {v : Value} {b : Bool} {xs ys : List Int} (h : InR w v b xs ys) : InR w.drew v b xs ys := h
theorem Cel.put3o {w : World} {g g' : Nat} {u0 u1 u2 : Value} (h : Cel w g u0 u1 u2) (hg : g' ≠ g) (x0 x1 x2 : Value) : Cel (Go.Proofs.Ytdolhanniiejfaa.put3 w g' x0 x1 x2) g u0 u1 u2 :=
  ((h.other (p := ⟨g', 0, none⟩) hg x0).other (p := ⟨g', 1, none⟩) hg x1).other (p := ⟨g', 2, none⟩) hg x2
theorem Cel.drew {w : World} {g : Nat} {u0 u1 u2 : Value} (h : Cel w g u0 u1 u2) : Cel w.drew g u0 u1 u2 := h

end Go.Proofs.Ytdolhanniiejfaa
/- Contracts of Sub of the reference; Div of rat and of its reference. -/
namespace Go.Proofs.Ytdolhanniiejfaa
open Go.ChangeShapes Go.WideShapes Go.RowKit
set_option linter.unusedVariables false
set_option maxRecDepth 100000

/-- Div: its error and its value. -/
def divEr (r s : Rat) : Int := if s.num = 0 then 16 else okE (mulOk r s⁻¹)
def divOp (r s : Rat) : Rat := r * s⁻¹
def opG (er : Rat → Rat → Int) (b : Bool) (xs ys : List Int) (c : Bool) (zs ts : List Int) : Int := if two b xs ys c zs ts then er (ratV b xs ys) (ratV c zs ts) else 3
theorem opG_no {er : Rat → Rat → Int} {b : Bool} {xs ys : List Int} {c : Bool} {zs ts : List Int} (h : two b xs ys c zs ts = false) : opG er b xs ys c zs ts = 3 := by unfold opG; rw [h]; rfl
theorem opG_form {er : Rat → Rat → Int} {f : Rat → Rat → Rat} {r s : Rat} (hr : fitR r = true) (hs : fitR s = true) :
    opG er (negR r) (topL r) (botL r) (negR s) (topL s) (botL s) = er r s ∧ opV f (negR r) (topL r) (botL r) (negR s) (topL s) (botL s) = f r s := by
  unfold opG opV; rw [two_form hr hs, (form_val hr).2, (form_val hs).2]; exact ⟨rfl, rfl⟩
theorem top_emp (s : Rat) : (topL s).isEmpty = decide (s.num = 0) := by
  unfold topL; rw [limbs_emp]
  by_cases h : s.num = 0
  · rw [h]; rfl
  · rw [decide_eq_false h, decide_eq_false]; omega
theorem bot_emp (s : Rat) : (botL s).isEmpty = false := by unfold botL; rw [limbs_emp]; exact decide_eq_false s.den_nz
theorem inv_is {w : World} {v : Value} {s : Rat} (h0 : s.num ≠ 0) (h : InR w v (negR s) (botL s) (topL s)) : IsR w v s⁻¹ := by
  obtain ⟨e1, e2, e3, _⟩ := inv_form h0
  unfold IsR; rw [e1, e2, e3]; exact h
theorem signed_inv {w : World} {v : Value} {s : Rat} (h0 : s.num ≠ 0) (h : InR w v (negR s && !(botL s).isEmpty) (botL s) (topL s)) : IsR w v s⁻¹ := by
  rw [bot_emp, Bool.not_false, Bool.and_true] at h; exact inv_is h0 h
theorem divEr_zero {r s : Rat} (h : s.num = 0) : divEr r s = 16 := if_pos h
theorem divEr_inv {r s : Rat} (h : s.num ≠ 0) : divEr r s = okE (mulOk r s⁻¹) := if_neg h

end Go.Proofs.Ytdolhanniiejfaa
/- Contracts of Div of rat and of its reference. -/
namespace Go.Proofs.Ytdolhanniiejfaa
open Go.ChangeShapes Go.WideShapes Go.RowKit
set_option linter.unusedVariables false
set_option maxRecDepth 100000

end Go.Proofs.Ytdolhanniiejfaa
/- Contracts of Cmp of rat and of its reference. -/
namespace Go.Proofs.Ytdolhanniiejfaa
open Go.ChangeShapes Go.WideShapes Go.RowKit
set_option linter.unusedVariables false
set_option maxRecDepth 100000

theorem bcase (b : Bool) : b = true ∨ b = false := by cases b <;> simp
theorem crossOk_eq (r s : Rat) : crossOk r s = prOk r.num.natAbs s.den s.num.natAbs r.den := rfl
theorem cmpI_swap (x y : Int) : cmpI y x = -cmpI x y := by
  rcases Int.lt_trichotomy x y with h | h | h
  · rw [cmpI_lt h, cmpI_gt h]; rfl
  · subst h; rw [cmpI_eq]; rfl
  · rw [cmpI_gt h, cmpI_lt h]
def cmpQ (r s : Rat) : Int :=
  if negR r = true then (if negR s = true then -cmpI (r.num.natAbs * s.den : Nat) (s.num.natAbs * r.den : Nat) else -1) else if negR s = true then 1 else cmpI (r.num.natAbs * s.den : Nat) (s.num.natAbs * r.den : Nat)
def cmpG (r s : Rat) : Int := if crossOk r s then cmpQ r s else 0
def cmpW (b : Bool) (xs ys : List Int) (c : Bool) (zs ts : List Int) : Int := if two b xs ys c zs ts then cmpG (ratV b xs ys) (ratV c zs ts) else 0
theorem cmpW_no {b : Bool} {xs ys : List Int} {c : Bool} {zs ts : List Int} (h : two b xs ys c zs ts = false) : cmpW b xs ys c zs ts = 0 := by unfold cmpW; rw [h]; rfl
theorem cmpW_form {r s : Rat} (hr : fitR r = true) (hs : fitR s = true) : cmpW (negR r) (topL r) (botL r) (negR s) (topL s) (botL s) = cmpG r s := by
  unfold cmpW; rw [two_form hr hs, (form_val hr).2, (form_val hs).2]; rfl
theorem cmpG_no {r s : Rat} (h : crossOk r s = false) : cmpG r s = 0 := by unfold cmpG; rw [h]; rfl
theorem cmpG_nn {r s : Rat} (h : crossOk r s = true) (h1 : negR r = true) (h2 : negR s = true) : cmpG r s = -cmpI (r.num.natAbs * s.den : Nat) (s.num.natAbs * r.den : Nat) := by
  unfold cmpG cmpQ; rw [h, h1, h2]; rfl
theorem cmpG_np {r s : Rat} (h : crossOk r s = true) (h1 : negR r = true) (h2 : negR s = false) : cmpG r s = -1 := by
  unfold cmpG cmpQ; rw [h, h1, h2]; rfl
theorem cmpG_pn {r s : Rat} (h : crossOk r s = true) (h1 : negR r = false) (h2 : negR s = true) : cmpG r s = 1 := by
  unfold cmpG cmpQ; rw [h, h1, h2]; rfl
theorem cmpG_pp {r s : Rat} (h : crossOk r s = true) (h1 : negR r = false) (h2 : negR s = false) : cmpG r s = cmpI (r.num.natAbs * s.den : Nat) (s.num.natAbs * r.den : Nat) := by
  unfold cmpG cmpQ; rw [h, h1, h2]; rfl

end Go.Proofs.Ytdolhanniiejfaa
/- The contract of Cmp of the reference. -/
namespace Go.Proofs.Ytdolhanniiejfaa
open Go.ChangeShapes Go.WideShapes Go.RowKit
set_option linter.unusedVariables false
set_option maxRecDepth 100000

theorem cmpI_bd (x y : Int) : -1 ≤ cmpI x y ∧ cmpI x y ≤ 1 := by
  rcases Int.lt_trichotomy x y with h | h | h
  · rw [cmpI_lt h]; decide
  · subst h; rw [cmpI_eq]; decide
  · rw [cmpI_gt h]; decide

end Go.Proofs.Ytdolhanniiejfaa
/- Contracts of Make and Of, of rat and of its reference. -/
namespace Go.Proofs.Ytdolhanniiejfaa
open Go.ChangeShapes Go.WideShapes Go.RowKit
set_option linter.unusedVariables false
set_option maxRecDepth 100000

def mkNeg (p q : Int) : Bool := decide (p < 0) != decide (q < 0)
def mkV (p q : Int) : Rat := mkRat (sgI (mkNeg p q) p.natAbs) q.natAbs
def mkE (p q : Int) : Int := if inRB p && inRB q then (if q = 0 then 16 else 0) else 1
theorem inRB_iff {n : Int} : inRB n = true ↔ -1125899906842624 ≤ n ∧ n ≤ 1125899906842624 := by simp [inRB]
theorem mkE_1 {p q : Int} (h : inRB p = false) : mkE p q = 1 := by unfold mkE; rw [h]; rfl
theorem mkE_2 {p q : Int} (h : inRB p = true) (h2 : inRB q = false) : mkE p q = 1 := by unfold mkE; rw [h, h2]; rfl
theorem mkE_3 {p : Int} (h : inRB p = true) : mkE p 0 = 16 := by unfold mkE; rw [h]; rfl
theorem mkE_4 {p q : Int} (h : inRB p = true) (h2 : inRB q = true) (h3 : q ≠ 0) : mkE p q = 0 := by unfold mkE; rw [h, h2]; simp [h3]
theorem small48 {n : Nat} (h : n ≤ 1125899906842624) : n < big48 := by
  have : 1000000000 ^ 2 ≤ big48 := Nat.pow_le_pow_right (by decide) (by decide)
  have e : (1000000000 : Nat) ^ 2 = 1000000000000000000 := by decide
  omega

set_option maxHeartbeats 1600000 in
theorem rat_Make_1 (p q : Int) (w : World) (hp : inRB p = false) :
    Calls Try.prog 32 #[.int .i64 p, .int .i64 q] w (RRes w (mkE p q) (mkV p q)) := by
  have HP := Lib.hid hp
  clear hp
  go_enter Try.func32, Try.ntmps32
  go_wp2_with fail
  refine (rat_inRange p _).mono ?_
  rw [HP.out]
  rintro e w' ⟨rfl, rfl⟩
  go_wp2_with fail
  refine bodyPost_ret (v := .tuple #[.agg #[.bool false, .slice none 0 0, .slice none 0 0], .int .i64 1]) (by simp [results, Try.results32, go_sem]) rfl ?_
  rw [mkE_1 HP.out]
  exact ⟨_, rfl, OutR.no (by decide), below_alloc _ _⟩

set_option maxHeartbeats 1600000 in
theorem rat_Make_2 (p q : Int) (w : World) (hp : inRB p = true) (hq : inRB q = false) :
    Calls Try.prog 32 #[.int .i64 p, .int .i64 q] w (RRes w (mkE p q) (mkV p q)) := by
  have HP := Lib.hid hp
  have HQ := Lib.hid hq
  clear hp hq
  go_enter Try.func32, Try.ntmps32
  go_wp2_with fail
  refine (rat_inRange p _).mono ?_
  rw [HP.out]
  rintro e w' ⟨rfl, rfl⟩
  go_wp2_with fail
  refine (rat_inRange q _).mono ?_
  rw [HQ.out]
  rintro e w' ⟨rfl, rfl⟩
  go_wp2_with fail
  refine bodyPost_ret (v := .tuple #[.agg #[.bool false, .slice none 0 0, .slice none 0 0], .int .i64 1]) (by simp [results, Try.results32, go_sem]) rfl ?_
  rw [mkE_2 HP.out HQ.out]
  exact ⟨_, rfl, OutR.no (by decide), below_alloc _ _⟩

set_option maxHeartbeats 1600000 in
theorem rat_Make_3 (p q : Int) (w : World) (hp : inRB p = true) (hq : q = 0) :
    Calls Try.prog 32 #[.int .i64 p, .int .i64 q] w (RRes w (mkE p q) (mkV p q)) := by
  subst hq
  have HP := Lib.hid hp
  have HQ : Hid (inRB 0 = true) := rfl
  clear hp
  go_enter Try.func32, Try.ntmps32
  go_wp2_with fail
  refine (rat_inRange p _).mono ?_
  rw [HP.out]
  rintro e w' ⟨rfl, rfl⟩
  go_wp2_with fail
  refine (rat_inRange 0 _).mono ?_
  rw [HQ.out]
  rintro e w' ⟨rfl, rfl⟩
  go_wp2_with fail
  refine bodyPost_ret (v := .tuple #[.agg #[.bool false, .slice none 0 0, .slice none 0 0], .int .i64 16]) (by simp [results, Try.results32, go_sem]) rfl ?_
  rw [mkE_3 HP.out]
  exact ⟨_, rfl, OutR.no (by decide), below_alloc _ _⟩

set_option maxHeartbeats 1600000 in
theorem rat_Make_4 (p q : Int) (w : World) (hp : inRB p = true) (hq : inRB q = true) (hq0 : q ≠ 0) :
    Calls Try.prog 32 #[.int .i64 p, .int .i64 q] w (RRes w (mkE p q) (mkV p q)) := by
  have HP := Lib.hid hp
  have HQ := Lib.hid hq
  have H0 := Lib.hid hq0
  have bp := inRB_iff.mp hp
  have bq := inRB_iff.mp hq
  have hp1 : max p (-p) = (p.natAbs : Int) := by omega
  have hq1 : max q (-q) = (q.natAbs : Int) := by omega
  have hqz : (q == 0) = false := beq_false_of_ne hq0
  have HN : Hid (mkNeg p q = !(decide (p < 0) == decide (q < 0))) := rfl
  have HPS : Hid (p.natAbs < big48) := small48 (by omega)
  have HQS : Hid (q.natAbs < big48) := small48 (by omega)
  have HQN : Hid (q.natAbs ≠ 0) := by rw [Hid]; omega
  have HC := Lib.hid (Cel.new w (.bool false) (.slice none 0 0) (.slice none 0 0) 35)
  obtain ⟨P, hP⟩ : ∃ P, P = p.natAbs := ⟨_, rfl⟩
  obtain ⟨Q, hQ⟩ : ∃ Q, Q = q.natAbs := ⟨_, rfl⟩
  have HPP := Lib.hid hP
  have HQQ := Lib.hid hQ
  rw [← hP] at hp1 HPS
  rw [← hQ] at hq1 HQS HQN
  have bP : (P : Int) ≤ 1125899906842624 := by omega
  have bQ : (Q : Int) ≤ 1125899906842624 := by omega
  clear hq0 hp hq hP hQ
  go_enter Try.func32, Try.ntmps32
  go_wp2_with fail
  refine (rat_inRange p _).mono ?_
  rw [HP.out]
  rintro e w' ⟨rfl, rfl⟩
  go_wp2_with fail
  refine (rat_inRange q _).mono ?_
  rw [HQ.out]
  rintro e w' ⟨rfl, rfl⟩
  go_wp2_with fail
  refine (nat_Of (P : Int) _ (by omega) (by omega)).mono ?_
  rintro e w1 ⟨v1, rfl, h1, hb1⟩
  rw [Int.toNat_natCast] at h1
  have HX := Lib.hid h1.toIn
  have HB1 := Lib.hid hb1
  have HC1 := Lib.hid (HC.out.on hb1)
  have hz1 : w.heap.size + 1 ≤ w1.heap.size := by have := hb1.size; simp at this; exact this
  clear h1 hb1
  go_wp2_with fail
  refine (nat_Of (Q : Int) _ (by omega) (by omega)).mono ?_
  rintro e w2 ⟨v2, rfl, h2, hb2⟩
  rw [Int.toNat_natCast] at h2
  have HY := Lib.hid h2.toIn
  have HX2 := Lib.hid (HX.out.on hb2)
  have HB2 := Lib.hid hb2
  have HC2 := Lib.hid (HC1.out.on hb2)
  have hz2 : w.heap.size + 1 ≤ w2.heap.size := by have := hb2.size; omega
  clear h2 hb2
  go_wp2_with fail
  rw [← HN.out]
  refine (rat_reduced (mkNeg p q) P Q _ _ w2 HX2.out HY.out HPS.out HQS.out HQN.out).mono ?_
  rw [HPP.out, HQQ.out, show mkRat (sgI (mkNeg p q) p.natAbs) q.natAbs = mkV p q from rfl]
  rintro e w4 ⟨v4, rfl, h4, hb4⟩
  obtain ⟨vp4, vq4, rfl, h4p, h4q⟩ := h4
  obtain ⟨P4, x4, rfl, h4p'⟩ := in_open h4p
  obtain ⟨Q4, y4, rfl, h4q'⟩ := in_open h4q
  have HP4 := Lib.hid h4p'
  have HQ4 := Lib.hid h4q'
  have HB4 := Lib.hid hb4
  have HC4 := HC2.out.on hb4
  have HC4' := Lib.hid HC4
  have HRR := Lib.hid (HC4.put3 (.bool (negR (mkV p q))) (.slice P4 (topL (mkV p q)).length x4) (.slice Q4 (botL (mkV p q)).length y4))
  obtain ⟨⟨d0, d1, d2⟩, f0, f1, f2⟩ := HC4
  clear h4p h4q h4p' h4q' hb4
  go_wp2_with fail
  obtain ⟨⟨r0, r1, r2⟩, -⟩ := HRR.out
  refine bodyPost_ret (v := .tuple #[.agg #[.bool (negR (mkV p q)), .slice P4 (topL (mkV p q)).length x4, .slice Q4 (botL (mkV p q)).length y4], .int .i64 0]) (by simp only [put3] at r0 r1 r2; simp [results, Try.results32, go_sem, r0, r1, r2]) rfl ?_
  rw [mkE_4 HP.out HQ.out H0.out]
  exact ⟨_, rfl, OutR.ok ⟨_, _, rfl, HP4.out.put3 HC4'.out _ _ _, HQ4.out.put3 HC4'.out _ _ _⟩, below_put3 (bstep (bstep ((below_alloc _ _).trans (HB1.out.mono (by simp))) HB2.out) HB4.out) (Nat.le_refl _) _ _ _⟩

theorem rat_Make (p q : Int) (w : World) (h1 : -9223372036854775808 ≤ p) (h2 : p ≤ 9223372036854775807) (h3 : -9223372036854775808 ≤ q) (h4 : q ≤ 9223372036854775807) :
    Calls Try.prog 32 #[.int .i64 p, .int .i64 q] w (RRes w (mkE p q) (mkV p q)) := by
  rcases bcase (inRB p) with hp | hp
  · rcases bcase (inRB q) with hq | hq
    · by_cases h0 : q = 0
      · exact rat_Make_3 p q w hp h0
      · exact rat_Make_4 p q w hp hq h0
    · exact rat_Make_2 p q w hp hq
  · exact rat_Make_1 p q w hp

set_option maxHeartbeats 1600000 in
theorem rat_Of (p : Int) (w : World) (h1 : -9223372036854775808 ≤ p) (h2 : p ≤ 9223372036854775807) :
    Calls Try.prog 31 #[.int .i64 p] w (RRes w (mkE p 1) (mkV p 1)) := by
  have HM := Lib.hid (fun W => rat_Make p 1 W h1 h2 (by decide) (by decide))
  have HC := Lib.hid (Cel.new w (.bool false) (.slice none 0 0) (.slice none 0 0) 35)
  clear h1 h2
  go_enter Try.func31, Try.ntmps31
  go_wp2_with fail
  refine (HM.out _).mono ?_
  rintro e w3 h3
  obtain ⟨b3, A5, n5, d5, A6, n6, d6, rfl, ho3, hb3⟩ := h3.open_
  have HO3 := Lib.hid ho3
  have HB3 := Lib.hid hb3
  have HC3 := HC.out.on hb3
  have HC3' := Lib.hid HC3
  have HRR := Lib.hid (HC3.put3 (.bool b3) (.slice A5 n5 d5) (.slice A6 n6 d6))
  obtain ⟨⟨d0, d1, d2⟩, f0, f1, f2⟩ := HC3
  clear h3 ho3 hb3
  go_wp2_with fail
  obtain ⟨⟨r0, r1, r2⟩, -⟩ := HRR.out
  refine bodyPost_ret (v := .tuple #[.agg #[.bool b3, .slice A5 n5 d5, .slice A6 n6 d6], .int .i64 (mkE p 1)]) (by simp only [put3] at r0 r1 r2; simp [results, Try.results31, go_sem, r0, r1, r2]) rfl ?_
  exact ⟨_, rfl, HO3.out.put3 HC3'.out _ _ _, below_put3 ((below_alloc _ _).trans (HB3.out.mono (by simp))) (Nat.le_refl _) _ _ _⟩

end Go.Proofs.Ytdolhanniiejfaa
/- Contracts of slices.Clone at api.Nat; Neg of rat and of its reference. -/
namespace Go.Proofs.Ytdolhanniiejfaa
open Go.ChangeShapes Go.WideShapes Go.RowKit
set_option linter.unusedVariables false
set_option maxRecDepth 100000

theorem own_nothing (w : World) : (w.alloc (.cells #[] 3)).ownsRow w.heap.size 3 1 (.slice (some ⟨w.heap.size, 0, none⟩) 0 0) ([] : List Int).length (([] : List Int).map (Value.int .i64)) := own_empty w
/-- A function of one number. -/
def opH (er : Rat → Int) (b : Bool) (xs ys : List Int) : Int := if valR b xs ys then er (ratV b xs ys) else 3
def opU (f : Rat → Rat) (b : Bool) (xs ys : List Int) : Rat := f (ratV b xs ys)
theorem opH_no {er : Rat → Int} {b : Bool} {xs ys : List Int} (h : valR b xs ys = false) : opH er b xs ys = 3 := by unfold opH; rw [h]; rfl
theorem opH_form {er : Rat → Int} {f : Rat → Rat} {r : Rat} (hr : fitR r = true) : opH er (negR r) (topL r) (botL r) = er r ∧ opU f (negR r) (topL r) (botL r) = f r := by
  unfold opH opU; rw [(form_val hr).1, (form_val hr).2]; exact ⟨rfl, rfl⟩
def noE (r : Rat) : Int := 0
def negOp (r : Rat) : Rat := -r

end Go.Proofs.Ytdolhanniiejfaa
