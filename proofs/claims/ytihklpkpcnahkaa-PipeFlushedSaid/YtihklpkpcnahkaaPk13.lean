/- Several texts in one: NatH, NatI, NatJ, NatK, NatL, NatM, NatN, NatO, NatP, NatW1, NatW2, NatQ, NatR, NatS, NatT, NatU, NatV. -/
import Derived.Test.YtihklpkpcnahkaaPk12
import Derived.StillTailTactics
import Derived.Lib.ItoaNum
import Derived.Lib.ItoaLen
import Derived.Lib.AppendStr
import Derived.Lib.AppendIntMem
import Derived.Laws.AppendOwnNone
/- Contracts of nat.Cmp, nat.Add, nat.Sub. -/
namespace Go.Proofs.Ytihklpkpcnahkaa
open Go.ChangeShapes Go.WideShapes Go.RowKit
set_option linter.unusedVariables false
set_option maxRecDepth 100000

/-- A slice that is there: it holds the integers zs. -/
def In (w : World) (v : Value) (zs : List Int) : Prop := Sl w 0 w.heap.size v zs
theorem Sl.below {w w' : World} {B lo hi : Nat} {v : Value} {zs : List Int} (h : Sl w lo hi v zs) (hb : Below B w w') (hB : hi ≤ B) : Sl w' lo hi v zs := by
  obtain ⟨A, c, rfl, h1, h2, h3⟩ := h
  exact ⟨A, c, rfl, h1, h2, Holds.below h3 hb hB⟩
theorem Sl.more {w : World} {lo hi lo' hi' : Nat} {v : Value} {zs : List Int} (h : Sl w lo hi v zs) (hl : lo' ≤ lo) (hh : hi ≤ hi') : Sl w lo' hi' v zs := by
  obtain ⟨A, c, rfl, h1, h2, h3⟩ := h
  exact ⟨A, c, rfl, h1, h2, Holds.more h3 hl hh⟩
theorem In.below {w w' : World} {B : Nat} {v : Value} {zs : List Int} (h : In w v zs) (hb : Below B w w') (hB : w.heap.size ≤ B) : In w' v zs :=
  (Sl.below h hb hB).more (Nat.le_refl _) hb.size
theorem Sl.toIn {w : World} {lo : Nat} {v : Value} {zs : List Int} (h : Sl w lo w.heap.size v zs) : In w v zs := h.more (Nat.zero_le _) (Nat.le_refl _)
theorem In.nil (w : World) : In w (.slice none 0 0) [] := ⟨none, 0, rfl, Nat.le_refl _, by unfold maxLen; omega, fun k z hz => by simp at hz⟩
theorem Sl.nil (w : World) (lo hi : Nat) : Sl w lo hi (.slice none 0 0) [] := ⟨none, 0, rfl, Nat.le_refl _, by unfold maxLen; omega, fun k z hz => by simp at hz⟩

/-- What a function that returns a number and an error leaves. -/
def Res (w : World) (N : Nat) (err : Int) (e : Ending) (w' : World) : Prop :=
  ∃ v, e = .returned (.tuple #[v, .int .i64 err]) ∧ Sl w' w.heap.size w'.heap.size v (limbs N) ∧ Below w.heap.size w w'
theorem Res.none {w w' : World} {N : Nat} {err err' : Int} {e : Ending} (hN : N = 0) (he : err = err') (h : e = .returned (.tuple #[.slice none 0 0, .int .i64 err'])) (hb : Below w.heap.size w w') : Res w N err e w' := by
  subst hN he h
  exact ⟨_, rfl, by rw [limbs_zero]; exact Sl.nil _ _ _, hb⟩

def both (xs ys : List Int) : Bool := validB xs && validB ys
def cmpV (xs ys : List Int) : Int := if both xs ys then cmpI (nval xs) (nval ys) else 0
def formE (xs ys : List Int) : Int := if both xs ys then 0 else 3
theorem both_cases (xs ys : List Int) : (validB xs = false ∧ both xs ys = false) ∨ (validB xs = true ∧ validB ys = false ∧ both xs ys = false) ∨ (validB xs = true ∧ validB ys = true ∧ both xs ys = true) := by
  cases hx : validB xs <;> cases hy : validB ys <;> simp [both, hx, hy]
theorem valid_len {xs : List Int} (h : validB xs = true) : xs.length ≤ 48 := (validB_iff.mp h).1
theorem valid_nrm {xs : List Int} (h : validB xs = true) : nrm xs = true := (validB_iff.mp h).2
theorem valid_lok {xs : List Int} (h : validB xs = true) : lok xs = true := nrm_lok (valid_nrm h)

theorem lok_of_val {D : List Int} {z : Int} (h : lok D = true) (h1 : 0 ≤ nval (D ++ [z])) (h2 : nval (D ++ [z]) < 1000000000 ^ (D.length + 1)) : lok (D ++ [z]) = true := by
  rw [lok_append]
  refine ⟨h, ?_⟩
  rw [nval_snoc] at h1 h2
  have a := nval_nonneg h
  have b := nval_lt h
  have p := pow_pos' D.length
  rw [Int.pow_succ] at h2
  obtain ⟨P, hP⟩ : ∃ P : Int, P = 1000000000 ^ D.length := ⟨_, rfl⟩
  rw [← hP] at h1 h2 b p
  have z1 : 0 ≤ z := by
    rcases Int.lt_or_le z 0 with hz | hz
    · have : P * z ≤ P * (-1) := Int.mul_le_mul_of_nonneg_left (by omega) (Int.le_of_lt p)
      omega
    · exact hz
  have z2 : z < 1000000000 := by
    rcases Int.lt_or_le z 1000000000 with hz | hz
    · exact hz
    · have : P * 1000000000 ≤ P * z := Int.mul_le_mul_of_nonneg_left hz (Int.le_of_lt p)
      omega
  simp [lok, z1, z2]
theorem lok_of_dropLast {T : List Int} (hne : T ≠ []) (h : lok T.dropLast = true) (h1 : 0 ≤ nval T) (h2 : nval T < 1000000000 ^ T.length) : lok T = true := by
  have e := List.dropLast_concat_getLast hne
  rw [← e] at h1 h2 ⊢
  refine lok_of_val h h1 ?_
  rw [List.length_append] at h2; exact h2
theorem pow_le_pow' {a b : Nat} (h : a ≤ b) : (1000000000 : Int) ^ a ≤ 1000000000 ^ b := by
  have e : b = a + (b - a) := by omega
  rw [e, Int.pow_add]
  have p := pow_pos' a
  have q := pow_pos' (b - a)
  have : (1000000000 : Int) ^ a * 1 ≤ 1000000000 ^ a * 1000000000 ^ (b - a) := Int.mul_le_mul_of_nonneg_left (by omega) (Int.le_of_lt p)
  omega

/-- Add. -/
def addV (xs ys : List Int) : Nat := if both xs ys then fitN (nval xs + nval ys).toNat else 0
def addE (xs ys : List Int) : Int := if both xs ys then fitE (nval xs + nval ys).toNat else 3
theorem laid_all {Z D : List Int} (h : D.length = Z.length) : laid Z 0 D = D := by
  rw [laid, List.take_zero, List.nil_append, List.drop_eq_nil_of_le (by omega), List.append_nil]
theorem addT_pad {xs ys : List Int} {n : Nat} {m : Int} (hx : lok xs = true) (hy : lok ys = true) (h1 : xs.length < n) (h2 : ys.length < n) (h0 : 0 ≤ nval xs + m * nval ys) (hlt : nval xs + m * nval ys < 1000000000 ^ n) :
    lok (addT (padL xs n) ys m 0) = true ∧ nval (addT (padL xs n) ys m 0) = nval xs + m * nval ys := by
  have hl : (padL xs n).length = n := padL_length (by omega)
  have hv : nval (addT (padL xs n) ys m 0) = nval xs + m * nval ys := by rw [addT_val _ _ _ _ (by omega), padL_val]; omega
  refine ⟨lok_of_dropLast ?_ (addT_lok _ _ _ _) (by rw [hv]; exact h0) (by rw [hv, addT_length, hl]; exact hlt), hv⟩
  intro h
  have := addT_length (padL xs n) ys m 0
  rw [h, hl] at this; simp at this; omega

/-- Sub. -/
def subV (xs ys : List Int) : Nat := if both xs ys then (if nval xs < nval ys then 0 else fitN (nval xs - nval ys).toNat) else 0
def subE (xs ys : List Int) : Int := if both xs ys then (if nval xs < nval ys then 1 else fitE (nval xs - nval ys).toNat) else 3
theorem len_of_le {xs ys : List Int} (hx : nrm xs = true) (hy : nrm ys = true) (h : nval ys ≤ nval xs) : ys.length ≤ xs.length := by
  rcases Nat.lt_or_ge xs.length ys.length with h1 | h1
  · have := nrm_len hx hy h1; omega
  · exact h1

end Go.Proofs.Ytihklpkpcnahkaa
/- The contract of nat.Mul. -/
namespace Go.Proofs.Ytihklpkpcnahkaa
open Go.ChangeShapes Go.WideShapes Go.RowKit
set_option linter.unusedVariables false
set_option maxRecDepth 100000

/-- Mul. -/
def mulV (xs ys : List Int) : Nat := if both xs ys then fitN (nval xs * nval ys).toNat else 0
def mulE (xs ys : List Int) : Int := if both xs ys then fitE (nval xs * nval ys).toNat else 3
/-- The window of n limbs at place k. -/
def win (P : List Int) (k n : Nat) : List Int := (P.drop k).take n
theorem win_length {P : List Int} {k n : Nat} (h : k + n ≤ P.length) : (win P k n).length = n := by simp [win]; omega
theorem win_at {P : List Int} {k n : Nat} (h : k + n ≤ P.length) (j : Nat) (hj : j < n) : P[k + j]? = (win P k n)[j]? := by
  unfold win; rw [List.getElem?_take, if_pos hj, List.getElem?_drop]
theorem win_split {P : List Int} {k n : Nat} (h : k + n ≤ P.length) : nval P = nval (P.take k) + 1000000000 ^ k * (nval (win P k n) + 1000000000 ^ n * nval (P.drop (k + n))) := by
  have e : P = P.take k ++ (win P k n ++ P.drop (k + n)) := by
    have e1 : win P k n ++ P.drop (k + n) = P.drop k := by
      unfold win; rw [← List.drop_drop, List.take_append_drop]
    rw [e1, List.take_append_drop]
  have l1 : (P.take k).length = k := by rw [List.length_take]; omega
  have l2 := win_length h
  have := congrArg nval e
  rw [nval_append, nval_append, l1, l2] at this
  exact this
theorem laid_split {P T : List Int} {k n : Nat} (h : k + n ≤ P.length) (hT : T.length = n) : nval (laid P k T) = nval (P.take k) + 1000000000 ^ k * (nval T + 1000000000 ^ n * nval (P.drop (k + n))) := by
  have l1 : (P.take k).length = k := by rw [List.length_take]; omega
  unfold laid
  rw [nval_append, nval_append, l1, hT]
theorem laid_lok {P T : List Int} {k : Nat} (h : lok P = true) (hT : lok T = true) : lok (laid P k T) = true := by
  unfold laid; rw [lok_append, lok_append]; exact ⟨lok_take h _, hT, lok_drop h _⟩
theorem mul_step {P xs : List Int} {k m : Nat} {b : Int} (hP : lok P = true) (hk : k + (xs.length + 1) ≤ P.length) (hx : lok xs = true) (hb : 0 ≤ b) (hb2 : b < 1000000000)
    (hlt : nval P < 1000000000 ^ (xs.length + k)) :
    lok (addT (win P k (xs.length + 1)) xs b 0) = true ∧ nval (laid P k (addT (win P k (xs.length + 1)) xs b 0)) = nval P + 1000000000 ^ k * (b * nval xs) := by
  have hs := win_split hk
  have hw := nval_nonneg (lok_take (lok_drop hP k) (xs.length + 1))
  have h1 := nval_nonneg (lok_take hP k)
  have h2 := nval_nonneg (lok_drop hP (k + (xs.length + 1)))
  have p1 := pow_pos' k
  have p2 := pow_pos' (xs.length + 1)
  have hl := win_length hk
  have hv : nval (addT (win P k (xs.length + 1)) xs b 0) = nval (win P k (xs.length + 1)) + b * nval xs := by rw [addT_val _ _ _ _ (by omega)]; omega
  have hx1 := nval_lt hx
  have hx0 := nval_nonneg hx
  have hwlt : nval (win P k (xs.length + 1)) < 1000000000 ^ xs.length := by
    rcases Int.lt_or_le (nval (win P k (xs.length + 1))) (1000000000 ^ xs.length) with h | h
    · exact h
    · exfalso
      have e : (1000000000 : Int) ^ (xs.length + k) = 1000000000 ^ k * 1000000000 ^ xs.length := by rw [Int.pow_add, Int.mul_comm]
      have a1 : 1000000000 ^ k * 1000000000 ^ xs.length ≤ (1000000000 : Int) ^ k * (nval (win P k (xs.length + 1)) + 1000000000 ^ (xs.length + 1) * nval (P.drop (k + (xs.length + 1)))) :=
        Int.mul_le_mul_of_nonneg_left (by have := Int.mul_nonneg (Int.le_of_lt p2) h2; omega) (Int.le_of_lt p1)
      omega
  refine ⟨lok_of_dropLast ?_ (addT_lok _ _ _ _) ?_ ?_, ?_⟩
  · intro h; have := addT_length (win P k (xs.length + 1)) xs b 0; rw [h, hl] at this; simp at this
  · rw [hv]; have := Int.mul_nonneg hb hx0; change 0 ≤ nval (win P k (xs.length + 1)) at hw; omega
  · rw [hv, addT_length, hl, Int.pow_succ]
    have : b * nval xs ≤ 999999999 * nval xs := Int.mul_le_mul_of_nonneg_right (by omega) hx0
    omega
  · rw [laid_split hk (by rw [addT_length, hl]), hv, hs, Int.mul_add, Int.mul_add, Int.mul_add]; omega
theorem mul_round {P xs ys : List Int} {k : Nat} {b : Int} (hP : lok P = true) (hl : P.length = xs.length + ys.length) (hx : lok xs = true) (hy : lok ys = true) (hb : ys[k]? = some b) (hv : nval P = nval xs * nval (ys.take k)) :
    (lok (addT (win P k (xs.length + 1)) xs b 0) = true ∧ nval (laid P k (addT (win P k (xs.length + 1)) xs b 0)) = nval xs * nval (ys.take (k + 1))) ∧ k + (xs.length + 1) ≤ P.length := by
  have hk : k < ys.length := by
    rcases Nat.lt_or_ge k ys.length with h | h
    · exact h
    · rw [List.getElem?_eq_none h] at hb; cases hb
  have hkk : k + (xs.length + 1) ≤ P.length := by omega
  have hbb := lok_at hy hb
  have hlt : nval P < 1000000000 ^ (xs.length + k) := by
    have a := nval_lt hx
    have a0 := nval_nonneg hx
    have c := nval_lt (lok_take hy k)
    have c0 := nval_nonneg (lok_take hy k)
    rw [List.length_take, Nat.min_eq_left (by omega)] at c
    rw [hv, Int.pow_add]
    have p := pow_pos' xs.length
    have m1 : nval xs * nval (ys.take k) ≤ 1000000000 ^ xs.length * nval (ys.take k) := Int.mul_le_mul_of_nonneg_right (Int.le_of_lt a) c0
    have m2 : (1000000000 : Int) ^ xs.length * nval (ys.take k) < 1000000000 ^ xs.length * 1000000000 ^ k := Int.mul_lt_mul_of_pos_left c p
    omega
  have h := mul_step hP hkk hx hbb.1 hbb.2 hlt (m := 0)
  refine ⟨⟨h.1, ?_⟩, hkk⟩
  rw [h.2, hv, trim_step hb, nval_snoc, List.length_take, Nat.min_eq_left (by omega), Int.mul_add]
  congr 1
  rw [Int.mul_comm b, Int.mul_left_comm]

theorem wrap_id {n : Int} (h1 : -9223372036854775808 ≤ n) (h2 : n ≤ 9223372036854775807) : IntKind.i64.wrap n = n := by rw [IntKind.wrap_i64]; omega

end Go.Proofs.Ytihklpkpcnahkaa
/- The contract of nat.Text. -/
namespace Go.Proofs.Ytihklpkpcnahkaa
open Go.ChangeShapes Go.WideShapes Go.RowKit
set_option linter.unusedVariables false
set_option maxRecDepth 100000

/-- The table of powers of ten reads as it was laid. -/
def Tab (w : World) : Prop := Lib.TabBelow Try.prog w.heap.size w "internal/strconv.uint64pow10" .u64 Lib.pow10Tab
theorem Tab.on {w w' : World} (h : Tab w) (hb : Below w.heap.size w w') : Tab w' := fun w2 h2 => h w2 (hb.trans (h2.mono hb.size))
theorem Tab.here {w : World} (h : Tab w) : Lib.TabIs Try.prog w "internal/strconv.uint64pow10" .u64 Lib.pow10Tab := h w (Below.refl _ _)

def padD : Nat → Nat → List UInt8
  | 0, _ => []
  | k + 1, r => padD k (r / 10) ++ [UInt8.ofNat (48 + r % 10)]
theorem padD_length (k : Nat) : ∀ r, (padD k r).length = k := by
  induction k with
  | zero => intro r; rfl
  | succ k ih => intro r; rw [padD, List.length_append, ih]; rfl
theorem dec_pad (k : Nat) : ∀ (q r : Nat), 0 < q → r < 10 ^ k → Lib.decDigits (q * 10 ^ k + r) = Lib.decDigits q ++ padD k r := by
  induction k with
  | zero => intro q r hq hr; obtain rfl : r = 0 := by simpa using hr
            simp [padD]
  | succ k ih =>
    intro q r hq hr
    have p : 0 < 10 ^ k := Nat.pow_pos (by decide)
    rw [Nat.pow_succ] at hr ⊢
    have e1 : (q * (10 ^ k * 10) + r) / 10 = q * 10 ^ k + r / 10 := by
      rw [← Nat.mul_assoc, Nat.mul_comm (q * 10 ^ k) 10, Nat.mul_add_div (by decide)]
    have e2 : (q * (10 ^ k * 10) + r) % 10 = r % 10 := by
      rw [← Nat.mul_assoc, Nat.mul_comm (q * 10 ^ k) 10, Nat.mul_add_mod]
    have big : ¬ q * (10 ^ k * 10) + r < 10 := by
      have : 1 * (1 * 10) ≤ q * (10 ^ k * 10) := Nat.mul_le_mul hq (Nat.mul_le_mul_right 10 p)
      omega
    rw [Lib.decDigits, dif_neg big, e1, e2, ih q (r / 10) hq (by omega), padD, List.append_assoc]
theorem dec_limb {x : Nat} (h : x < 1000000000) : Lib.decDigits (1000000000 + x) = 49 :: padD 9 x := by
  have := dec_pad 9 1 x (by decide) (by simpa using h)
  have e : Lib.decDigits 1 = [49] := by rw [Lib.decDigits_one (by decide)]; rfl
  rw [e] at this
  simpa using this
theorem dec_next {x q : Nat} (h : x < 1000000000) (hq : 0 < q) : Lib.decDigits (x + 1000000000 * q) = Lib.decDigits q ++ padD 9 x := by
  have := dec_pad 9 q x hq (by simpa using h)
  rw [← this]; congr 1; omega
def decS (n : Nat) : ByteArray := ⟨(Lib.decDigits n).toArray⟩
def textV (xs : List Int) : ByteArray := if validB xs then decS (nval xs).toNat else ⟨#[]⟩
def oneE (xs : List Int) : Int := if validB xs then 0 else 3

theorem own_keep {w w' : World} {base e size n : Nat} {v : Value} {xs : List Value} (h : w.ownsRow base e size v n xs) (hb : Below w.heap.size w w') : w'.ownsRow base e size v n xs := by
  obtain ⟨h1, h2 | ⟨g, cap, cur, rfl, h3, h4, h5⟩⟩ := h
  · exact ⟨h1, Or.inl h2⟩
  · exact ⟨h1, Or.inr ⟨g, cap, cur, rfl, h3, (hb.block g (lt_of_block h4)).trans h4, h5⟩⟩
theorem grow_below' (w : World) (k : Nat) (os : Array Obj) : Below w.heap.size w (Sort.grow (w.drewN k) os) := by
  refine ⟨rfl, rfl, rfl, ?_, fun i hi => ?_⟩
  · show w.heap.size ≤ (w.heap ++ os).size; rw [Array.size_append]; omega
  · show (w.heap ++ os)[i]? = _; rw [Array.getElem?_append_left hi]
theorem info_byte : (Try.prog.info? 5).map (fun i => (i.zero, i.size, i.bytes)) = some (some (.int .u8 0), 1, 1) := by kernel_rfl
theorem itoa_nn {x : Int} (h : 0 ≤ x) : Lib.itoa x = Lib.decDigits x.toNat := by unfold Lib.itoa; rw [if_neg (by omega)]
theorem nval_pos_last {xs : List Int} (hn : nrm xs = true) {k : Nat} (hk : k < xs.length) : 0 < nval (xs.drop k) := by
  have hl := nrm_lok hn
  have hne : xs.drop k ≠ [] := by intro h; have := congrArg List.length h; simp at this; omega
  have e := List.dropLast_concat_getLast hne
  have h1 := nval_nonneg (lok_drop hl k)
  rcases Int.lt_or_eq_of_le h1 with h | h
  · exact h
  · exfalso
    have hz : (xs.drop k).getLast? = some ((xs.drop k).getLast hne) := List.getLast?_eq_some_getLast hne
    have hz2 : xs.getLast? = some ((xs.drop k).getLast hne) := by rw [← hz, List.getLast?_drop, if_neg (by omega)]
    have hlok := lok_drop hl k
    rw [← e, lok_append] at hlok
    have a := nval_nonneg hlok.1
    rw [← e, nval_snoc] at h
    have z0 : 0 ≤ (xs.drop k).getLast hne := (lok_cons.mp hlok.2).1.1
    have p := pow_pos' (xs.drop k).dropLast.length
    have hm := Int.mul_nonneg (Int.le_of_lt p) z0
    have hm0 : 1000000000 ^ (xs.drop k).dropLast.length * (xs.drop k).getLast hne = 0 := by omega
    rcases Int.mul_eq_zero.mp hm0 with h2 | h2
    · omega
    · rw [h2] at hz2; simp [nrm, hz2] at hn

theorem nval_last {xs : List Int} {z : Int} (hz : xs[xs.length - 1]? = some z) : nval (xs.drop (xs.length - 1)) = z := by
  have h := nval_drop_step hz
  have hp : 0 < xs.length := by
    rcases Nat.eq_zero_or_pos xs.length with h1 | h1
    · have : xs = [] := List.eq_nil_of_length_eq_zero h1
      subst this; simp at hz
    · exact h1
  rw [h, List.drop_eq_nil_of_le (by omega)]; simp [nval]
theorem text_start {xs : List Int} {z : Int} (hn : nrm xs = true) (hz : xs[xs.length - 1]? = some z) : Lib.itoa z = Lib.decDigits (nval (xs.drop (xs.length - 1 - 0))).toNat := by
  rw [Nat.sub_zero, nval_last hz, itoa_nn (lok_at (nrm_lok hn) hz).1]
theorem text_step {xs : List Int} {x : Int} {k : Nat} (hn : nrm xs = true) (hk : k < xs.length - 1) (hx : xs[xs.length - 1 - 1 - k]? = some x) :
    Lib.decDigits (nval (xs.drop (xs.length - 1 - (k + 1)))).toNat = Lib.decDigits (nval (xs.drop (xs.length - 1 - k))).toNat ++ padD 9 x.toNat := by
  have e0 : xs.length - 1 - (k + 1) = xs.length - 1 - 1 - k := by omega
  have h := nval_drop_step hx
  have e1 : xs.length - 1 - 1 - k + 1 = xs.length - 1 - k := by omega
  rw [e1] at h
  have p := nval_pos_last hn (k := xs.length - 1 - k) (by omega)
  have b := lok_at (nrm_lok hn) hx
  rw [e0, h, ← dec_next (x := x.toNat) (by omega) (q := (nval (xs.drop (xs.length - 1 - k))).toNat) (by omega)]
  congr 1; omega
theorem tail_bytes {x : Int} (h0 : 0 ≤ x) (h1 : x < 1000000000) : Lib.itoa (1000000000 + x) = 49 :: padD 9 x.toNat := by
  rw [itoa_nn (by omega), ← dec_limb (by omega)]; congr 1; omega

theorem tail_cells {S : ByteArray} {x : Nat} (hS : S = ⟨(49 :: padD 9 x).toArray⟩) : Lib.strCells (S.extract 1 10) = Lib.byteCells (padD 9 x) ∧ (S.extract 1 10).size = 9 := by
  subst hS
  have h : (ByteArray.extract ⟨(49 :: padD 9 x).toArray⟩ 1 10).data.toList = padD 9 x := by
    rw [ByteArray.data_extract]
    simp [List.take_of_length_le (Nat.le_of_eq (padD_length 9 x))]
  refine ⟨by unfold Lib.strCells Lib.byteCells; rw [h], ?_⟩
  show (ByteArray.extract ⟨(49 :: padD 9 x).toArray⟩ 1 10).data.size = 9
  rw [← Array.length_toList, h, padD_length]

end Go.Proofs.Ytihklpkpcnahkaa
/- Contracts of nat.isDecimal and nat.Parse. -/
namespace Go.Proofs.Ytihklpkpcnahkaa
open Go.ChangeShapes Go.WideShapes Go.RowKit
set_option linter.unusedVariables false
set_option maxRecDepth 100000

def isD (b : UInt8) : Bool := decide (48 ≤ b.toNat) && decide (b.toNat ≤ 57)
/-- Digits, not none, without leading zeros. -/
def decOk (L : List UInt8) : Bool := L.all isD && (decide (L = [48]) || (!L.isEmpty && ((L.headD 0) != 48)))
theorem str_get? (s : ByteArray) {k : Nat} (h : k < s.size) : s.data.toList[k]? = some s[k] := by
  rw [Array.getElem?_toList]
  exact Array.getElem?_eq_getElem h
theorem str_len (s : ByteArray) : s.data.toList.length = s.size := by rw [Array.length_toList]; rfl
theorem all_snoc {L : List UInt8} {k : Nat} {b : UInt8} (h : (L.take k).all isD = true) (hb : L[k]? = some b) (h1 : isD b = true) : (L.take (k + 1)).all isD = true := by
  rw [List.take_add_one, hb, List.all_append, h]; simp [h1]
theorem decOk_bad {L : List UInt8} {k : Nat} {b : UInt8} (hb : L[k]? = some b) (h1 : isD b = false) : decOk L = false := by
  have : L.all isD = false := by
    rw [List.all_eq_false]; exact ⟨b, List.mem_of_getElem? hb, by simp [h1]⟩
  simp [decOk, this]
theorem isD_no {b : UInt8} (h : b.toNat < 48 ∨ 57 < b.toNat) : isD b = false := by
  unfold isD
  rcases h with h | h
  · rw [decide_eq_false (by omega)]; rfl
  · rw [decide_eq_false (p := b.toNat ≤ 57) (by omega), Bool.and_false]
theorem isD_yes {b : UInt8} (h1 : 48 ≤ b.toNat) (h2 : b.toNat ≤ 57) : isD b = true := by simp [isD, h1, h2]
theorem isD_iff {b : UInt8} (h : isD b = true) : 48 ≤ b.toNat ∧ b.toNat ≤ 57 := by simpa [isD] using h

theorem fin_dec {s : ByteArray} {w : World} {b : Bool} (h : b = decOk s.data.toList) : Ending.returned (.bool b) = Ending.returned (.bool (decOk s.data.toList)) ∧ w = w := by subst h; exact ⟨rfl, rfl⟩

end Go.Proofs.Ytihklpkpcnahkaa
/- The contract of nat.Parse. -/
namespace Go.Proofs.Ytihklpkpcnahkaa
open Go.ChangeShapes Go.WideShapes Go.RowKit
set_option linter.unusedVariables false
set_option maxRecDepth 100000

/-- What digits stand for. -/
def dval (L : List UInt8) : Nat := L.foldl (fun v b => v * 10 + (b.toNat - 48)) 0
theorem dval_snoc (L : List UInt8) (b : UInt8) : dval (L ++ [b]) = dval L * 10 + (b.toNat - 48) := by simp [dval]
def parN (L : List UInt8) : Nat := if decOk L then (if L.length ≤ 432 then dval L else 0) else 0
def parE (L : List UInt8) : Int := if decOk L then (if L.length ≤ 432 then 0 else 2) else 3

theorem nval_drop_getD (P : List Int) (t : Nat) : nval (P.drop t) = P.getD t 0 + 1000000000 * nval (P.drop (t + 1)) := by
  rcases Nat.lt_or_ge t P.length with h | h
  · have hz : P[t]? = some P[t] := List.getElem?_eq_getElem h
    rw [nval_drop_step hz, List.getD_eq_getElem?_getD, hz]; rfl
  · rw [List.drop_eq_nil_of_le h, List.drop_eq_nil_of_le (by omega), List.getD_eq_getElem?_getD, List.getElem?_eq_none h]; rfl
theorem lok_set {P : List Int} (h : lok P = true) (j : Nat) {v : Int} (h0 : 0 ≤ v) (h1 : v < 1000000000) : lok (P.set j v) = true := by
  simp only [lok, List.all_eq_true] at h ⊢
  intro x hx
  rcases List.mem_or_eq_of_mem_set hx with h2 | h2
  · exact h x h2
  · subst h2; simp [h0, h1]
structure PInv (L : List UInt8) (P : List Int) (k : Nat) : Prop where
  len : P.length = (L.length + 8) / 9
  ok : lok P = true
  low : ∀ j, j < (L.length - k) / 9 → P.getD j 0 = 0
  lt : P.getD ((L.length - k) / 9) 0 < 10 ^ (9 - (L.length - k) % 9)
  val : (dval (L.take k) : Int) = nval (P.drop ((L.length - k) / 9 + 1)) * 10 ^ (9 - (L.length - k) % 9) + P.getD ((L.length - k) / 9) 0
theorem getD_replicate (n j : Nat) : (List.replicate n (0 : Int)).getD j 0 = 0 := by
  rw [List.getD_eq_getElem?_getD, List.getElem?_replicate]; split <;> rfl
theorem pinv_start (L : List UInt8) : PInv L (List.replicate ((L.length + 8) / 9) 0) 0 := by
  refine ⟨by simp, lok_zeros _, fun j _ => getD_replicate _ _, ?_, ?_⟩
  · rw [getD_replicate]; exact Int.pow_pos (by decide)
  · rw [getD_replicate, List.drop_replicate, nval_zeros]; simp [dval]
theorem pinv_end {L : List UInt8} {P : List Int} (h : PInv L P L.length) : nval P = dval L := by
  have h1 := h.val
  rw [Nat.sub_self, List.take_length] at h1
  have h2 := nval_drop_getD P 0
  rw [List.drop_zero] at h2
  have e : ((10 : Int) ^ (9 - 0 % 9)) = 1000000000 := by decide
  rw [e] at h1
  simp only [Nat.zero_div, Nat.zero_add] at h1 h2
  omega
theorem getD_set_same {P : List Int} {j : Nat} (h : j < P.length) (v : Int) : (P.set j v).getD j 0 = v := by
  rw [List.getD_eq_getElem?_getD, List.getElem?_set_self h]; rfl
theorem getD_set_other {P : List Int} {i j : Nat} (h : i ≠ j) (v : Int) : (P.set i v).getD j 0 = P.getD j 0 := by
  rw [List.getD_eq_getElem?_getD, List.getElem?_set_ne h, List.getD_eq_getElem?_getD]
theorem drop_set_above {P : List Int} {i j : Nat} (h : i < j) (v : Int) : (P.set i v).drop j = P.drop j := by
  rw [List.drop_set, if_pos h]
theorem dval_take_succ {L : List UInt8} {k : Nat} {b : UInt8} (hb : L[k]? = some b) (hd : isD b = true) : (dval (L.take (k + 1)) : Int) = dval (L.take k) * 10 + ((b.toNat : Int) - 48) := by
  rw [List.take_add_one, hb]
  have := dval_snoc (L.take k) b
  have hb := isD_iff hd
  simp only [Option.toList_some]
  rw [this]; omega
theorem pinv_step {L : List UInt8} {P : List Int} {k : Nat} {b : UInt8} (h : PInv L P k) (hb : L[k]? = some b) (hd : isD b = true) :
    (L.length - 1 - k) / 9 < P.length ∧ 0 ≤ P.getD ((L.length - 1 - k) / 9) 0 ∧ P.getD ((L.length - 1 - k) / 9) 0 < 100000000 ∧
    PInv L (P.set ((L.length - 1 - k) / 9) (P.getD ((L.length - 1 - k) / 9) 0 * 10 + ((b.toNat : Int) - 48))) (k + 1) := by
  have hk : k < L.length := by
    rcases Nat.lt_or_ge k L.length with h1 | h1
    · exact h1
    · rw [List.getElem?_eq_none h1] at hb; cases hb
  have hbd := isD_iff hd
  have hv := dval_take_succ hb hd
  have hlen := h.len
  have e1 : L.length - (k + 1) = L.length - 1 - k := by omega
  have hj : (L.length - 1 - k) / 9 < P.length := by omega
  obtain ⟨j, hjj⟩ : ∃ j, j = (L.length - 1 - k) / 9 := ⟨_, rfl⟩
  have x0 := (lok_getD h.ok j).1
  by_cases hr : (L.length - k) % 9 = 0
  · have ej : (L.length - k) / 9 = j + 1 := by omega
    have er : (L.length - 1 - k) % 9 = 8 := by omega
    have hx : P.getD j 0 = 0 := h.low j (by omega)
    have h1 := h.val
    rw [hr, ej] at h1
    have e9 : ((10 : Int) ^ (9 - 0)) = 1000000000 := by decide
    have e8 : ((10 : Int) ^ (9 - 8)) = 10 := by decide
    rw [e9] at h1
    have h2 := nval_drop_getD P (j + 1)
    rw [← hjj, hx]
    rw [← hjj] at hj
    refine ⟨hj, by omega, by omega, by rw [List.length_set]; exact hlen, lok_set h.ok _ (by omega) (by omega), ?_, ?_, ?_⟩
    · intro i hi
      rw [e1, ← hjj] at hi
      rw [getD_set_other (by omega)]; exact h.low i (by omega)
    · rw [e1, ← hjj, er, e8, getD_set_same hj]; omega
    · rw [e1, ← hjj, er, e8, getD_set_same hj, hv, drop_set_above (by omega)]; omega
  · have ej : (L.length - k) / 9 = j := by omega
    have er : 9 - (L.length - 1 - k) % 9 = 9 - (L.length - k) % 9 + 1 := by omega
    have h1 := h.val
    have h3 := h.lt
    rw [ej] at h1 h3
    obtain ⟨q, hq⟩ : ∃ q, q = 9 - (L.length - k) % 9 := ⟨_, rfl⟩
    have hq8 : q ≤ 8 := by omega
    rw [← hq] at h1 h3 er
    have hp8 : (10 : Int) ^ q ≤ 100000000 := by
      have : ∀ q : Nat, q ≤ 8 → (10 : Int) ^ q ≤ 100000000 := by decide
      exact this q hq8
    rw [← hjj]
    rw [← hjj] at hj
    refine ⟨hj, x0, by omega, by rw [List.length_set]; exact hlen, lok_set h.ok _ (by omega) (by omega), ?_, ?_, ?_⟩
    · intro i hi
      rw [e1, ← hjj] at hi
      rw [getD_set_other (by omega)]; exact h.low i (by omega)
    · rw [e1, ← hjj, er, getD_set_same hj, Int.pow_succ]; omega
    · rw [e1, ← hjj, er, getD_set_same hj, hv, drop_set_above (by omega), Int.pow_succ, h1, ← Int.mul_assoc]; omega

end Go.Proofs.Ytihklpkpcnahkaa
/- Contracts of nat.divide of short numbers, of nat.DivMod, of nat.gcd of short numbers, of nat.Gcd. -/
namespace Go.Proofs.Ytihklpkpcnahkaa
open Go.ChangeShapes Go.WideShapes Go.RowKit
set_option linter.unusedVariables false
set_option maxRecDepth 100000

/-- What divide leaves: the limbs of the quotient and of the remainder. -/
def DivRes (w : World) (xs ys : List Int) (e : Ending) (w' : World) : Prop :=
  ∃ vq vr, e = .returned (.tuple #[vq, vr]) ∧ Sl w' w.heap.size w'.heap.size vq (limbs ((nval xs).toNat / (nval ys).toNat)) ∧ Sl w' w.heap.size w'.heap.size vr (limbs ((nval xs).toNat % (nval ys).toNat)) ∧ Below w.heap.size w w'
theorem nval_pos {ys : List Int} (hn : nrm ys = true) (hne : 0 < ys.length) : 0 < nval ys := by
  have := nval_pos_last hn (k := 0) hne
  rwa [List.drop_zero] at this
theorem padL_self (xs : List Int) : padL xs xs.length = xs := by simp [padL]

end Go.Proofs.Ytihklpkpcnahkaa
/- Contracts of nat.DivMod and nat.Gcd out of those of divide and gcd; of nat.gcd where the second number is short. -/
namespace Go.Proofs.Ytihklpkpcnahkaa
open Go.ChangeShapes Go.WideShapes Go.RowKit
set_option linter.unusedVariables false
set_option maxRecDepth 100000

def divOk (xs ys : List Int) : Bool := both xs ys && !ys.isEmpty
def quoN (xs ys : List Int) : Nat := if divOk xs ys then (nval xs).toNat / (nval ys).toNat else 0
def remN (xs ys : List Int) : Nat := if divOk xs ys then (nval xs).toNat % (nval ys).toNat else 0
def divE (xs ys : List Int) : Int := if both xs ys then (if ys.isEmpty then 16 else 0) else 3
def DmRes (w : World) (xs ys : List Int) (e : Ending) (w' : World) : Prop :=
  ∃ vq vr, e = .returned (.tuple #[vq, vr, .int .i64 (divE xs ys)]) ∧ Sl w' w.heap.size w'.heap.size vq (limbs (quoN xs ys)) ∧ Sl w' w.heap.size w'.heap.size vr (limbs (remN xs ys)) ∧ Below w.heap.size w w'
theorem DmRes.none {w w' : World} {xs ys : List Int} {k : Int} {e : Ending} (hq : divOk xs ys = false) (hk : divE xs ys = k) (h : e = .returned (.tuple #[.slice none 0 0, .slice none 0 0, .int .i64 k])) (hb : Below w.heap.size w w') : DmRes w xs ys e w' := by
  subst hk h
  refine ⟨_, _, rfl, ?_, ?_, hb⟩
  · rw [quoN, hq]; exact (by show Sl _ _ _ _ (limbs 0); rw [limbs_zero]; exact Sl.nil _ _ _)
  · rw [remN, hq]; exact (by show Sl _ _ _ _ (limbs 0); rw [limbs_zero]; exact Sl.nil _ _ _)

/-- What gcd leaves. -/
def GcdRes (w : World) (N : Nat) (e : Ending) (w' : World) : Prop :=
  ∃ v, e = .returned v ∧ Sl w' w.heap.size w'.heap.size v (limbs N) ∧ Below w.heap.size w w'
theorem gcd_step (a b : Nat) : Nat.gcd b (a % b) = Nat.gcd a b := by rw [Nat.gcd_comm b, ← Nat.gcd_rec, Nat.gcd_comm]
theorem gcd_words (a b : Nat) (h : 0 < b) : Nat.gcd b (a % b) = Nat.gcd a b := gcd_step a b

end Go.Proofs.Ytihklpkpcnahkaa
/- Contract of nat.Gcd out of that of gcd; Same at opaque slices; 'awake'. -/
namespace Go.Proofs.Ytihklpkpcnahkaa
open Go.ChangeShapes Go.WideShapes Go.RowKit
set_option linter.unusedVariables false
set_option maxRecDepth 100000

def gcdN (xs ys : List Int) : Nat := if both xs ys then Nat.gcd (nval xs).toNat (nval ys).toNat else 0

theorem in_built (w : World) (t : TypeId) (zs : List Int) (hz : zs.length ≤ 1000) : In (w.alloc (.cells (zs.map (Value.int .i64)).toArray t)) (.slice (some ⟨w.heap.size, 0, none⟩) zs.length zs.length) zs := by
  refine ⟨_, _, rfl, Nat.le_refl _, by unfold maxLen; omega, ?_⟩
  have hr : Row (w.alloc (.cells (zs.map (Value.int .i64)).toArray t)) w.heap.size zs := row_of_heap (heap_alloc_new w _)
  exact hr.holds (fun k z hk => by rw [Nat.zero_add]; exact hk) (Nat.zero_le _) hr.lt
theorem below_alloc (w : World) (o : Obj) : Below w.heap.size w (w.alloc o) := (Below.refl _ _).alloc (Nat.le_refl _) _
theorem aw1 : limbs (1000000007 : Int).toNat = [7, 1] := by
  show limbs 1000000007 = _
  rw [limbs_pos (by decide), limbs_pos (by decide), limbs]; rfl
theorem aw2 : mulV [7, 1] [3] = 3000000021 := by decide +kernel
theorem aw3 : mulE [7, 1] [3] = 0 := by decide +kernel
theorem aw2' : limbs 3000000021 = [21, 3] := by
  rw [limbs_pos (by decide), limbs_pos (by decide), limbs]; rfl
theorem aw4 : quoN [21, 3] [4] = 750000005 := by decide +kernel
theorem aw5 : remN [21, 3] [4] = 1 := by decide +kernel
theorem aw6 : divE [21, 3] [4] = 0 := by decide +kernel
theorem aw4' : limbs 750000005 = [750000005] := by rw [limbs_pos (by decide), limbs]; rfl
theorem aw5' : limbs 1 = [1] := by rw [limbs_pos (by decide), limbs]; rfl
theorem aw7 : gcdN [12] [18] = 6 := by decide +kernel
theorem aw8 : formE [12] [18] = 0 := by decide +kernel
theorem aw7' : limbs 6 = [6] := by rw [limbs_pos (by decide), limbs]; rfl
theorem aw9 : textV [21, 3] = ⟨#[51, 48, 48, 48, 48, 48, 48, 48, 50, 49]⟩ := by
  have e : (nval [21, 3]).toNat = 3000000021 := by decide +kernel
  have v : validB [21, 3] = true := by decide +kernel
  rw [textV, v, e]
  show decS 3000000021 = _
  have h := dec_next (x := 21) (q := 3) (by decide) (by decide)
  have h3 : Lib.decDigits 3 = [51] := by rw [Lib.decDigits_one (by decide)]; rfl
  rw [h3] at h
  have e2 : (21 + 1000000000 * 3) = 3000000021 := by decide
  rw [e2] at h
  unfold decS
  rw [h]; rfl
theorem aw10 : oneE [21, 3] = 0 := by decide +kernel
theorem aw11 : parN [48, 48, 55] = 0 := by decide +kernel
theorem aw12 : parE [48, 48, 55] = 3 := by decide +kernel
end Go.Proofs.Ytihklpkpcnahkaa
/- The contract of 'awake'. -/
namespace Go.Proofs.Ytihklpkpcnahkaa
open Go.ChangeShapes Go.WideShapes Go.RowKit
set_option linter.unusedVariables false
set_option maxRecDepth 100000

theorem bstep {w0 w1 w2 : World} (h : Below w0.heap.size w0 w1) (k : Below w1.heap.size w1 w2) : Below w0.heap.size w0 w2 := h.trans (k.mono h.size)
theorem balloc {w0 w1 : World} (h : Below w0.heap.size w0 w1) (o : Obj) : Below w0.heap.size w0 (w1.alloc o) := h.alloc h.size _
theorem In.alloc {w : World} {v : Value} {zs : List Int} (h : In w v zs) (o : Obj) : In (w.alloc o) v zs := h.below (below_alloc _ _) (Nat.le_refl _)
theorem In.on {w w' : World} {v : Value} {zs : List Int} (h : In w v zs) (hb : Below w.heap.size w w') : In w' v zs := h.below hb (Nat.le_refl _)
theorem in_one (w : World) (t : TypeId) (x : Int) : In (w.alloc (.cells #[.int .i64 x] t)) (.slice (some ⟨w.heap.size, 0, none⟩) 1 1) [x] := in_built w t [x] (by simp)
theorem in_two (w : World) (t : TypeId) (x y : Int) : In (w.alloc (.cells #[.int .i64 x, .int .i64 y] t)) (.slice (some ⟨w.heap.size, 0, none⟩) 2 2) [x, y] := in_built w t [x, y] (by simp)

theorem nrm1 : nrm [21, 3] = true := by decide +kernel
theorem nrm2 : nrm [4] = true := by decide +kernel
theorem nrm3 : nrm [12] = true := by decide +kernel
theorem nrm4 : nrm [18] = true := by decide +kernel
end Go.Proofs.Ytihklpkpcnahkaa
/- The walk of NatCompares; contracts of the reference's compare and Cmp. -/
namespace Go.Proofs.Ytihklpkpcnahkaa
open Go.ChangeShapes Go.WideShapes Go.RowKit
set_option linter.unusedVariables false
set_option maxRecDepth 100000

end Go.Proofs.Ytihklpkpcnahkaa
/- The walk of NatTexts. -/
namespace Go.Proofs.Ytihklpkpcnahkaa
open Go.ChangeShapes Go.WideShapes Go.RowKit
set_option linter.unusedVariables false
set_option maxRecDepth 100000

theorem dgt {d : Nat} (h : d < 10) : (UInt8.ofNat (48 + d)).toNat = 48 + d := by
  show (48 + d) % 256 = 48 + d
  omega
theorem rev_ind {P : List UInt8 → Prop} (h0 : P []) (h1 : ∀ l a, P l → P (l ++ [a])) (L : List UInt8) : P L := by
  have h : ∀ l : List UInt8, P l.reverse := by
    intro l
    induction l with
    | nil => exact h0
    | cons a l ih => rw [List.reverse_cons]; exact h1 _ _ ih
  have := h L.reverse
  rwa [List.reverse_reverse] at this
theorem dval_dec (n : Nat) : dval (Lib.decDigits n) = n := by
  induction n using Nat.strongRecOn with
  | ind n ih =>
    rw [Lib.decDigits]
    split
    · rename_i h
      have := dgt h
      show 0 * 10 + ((UInt8.ofNat (48 + n)).toNat - 48) = n
      omega
    · rename_i h
      have := dgt (d := n % 10) (by omega)
      rw [dval_snoc, ih _ (by omega), this]; omega
theorem dec_all (n : Nat) : (Lib.decDigits n).all isD = true := by
  induction n using Nat.strongRecOn with
  | ind n ih =>
    rw [Lib.decDigits]
    split
    · rename_i h
      have := dgt h
      rw [List.all_cons, isD_yes (by omega) (by omega)]; rfl
    · rename_i h
      have := dgt (d := n % 10) (by omega)
      rw [List.all_append, ih _ (by omega), List.all_cons, isD_yes (by omega) (by omega)]; rfl
theorem dec_ne (n : Nat) : Lib.decDigits n ≠ [] := by
  rw [Lib.decDigits]; split <;> simp
theorem dec_head {n : Nat} (h : 0 < n) : (Lib.decDigits n).headD 0 ≠ 48 := by
  induction n using Nat.strongRecOn with
  | ind n ih =>
    rw [Lib.decDigits]
    split
    · rename_i h10
      intro h2
      have h3 : (UInt8.ofNat (48 + n)).toNat = 48 := congrArg UInt8.toNat h2
      rw [dgt h10] at h3; omega
    · rename_i h10
      have h1 := ih (n / 10) (by omega) (by omega)
      cases hd : Lib.decDigits (n / 10) with
      | nil => exact absurd hd (dec_ne _)
      | cons a l => rw [hd] at h1; simpa using h1
theorem dec_ok (n : Nat) : decOk (Lib.decDigits n) = true := by
  unfold decOk
  rw [dec_all]
  rcases Nat.eq_zero_or_pos n with rfl | h
  · have : Lib.decDigits 0 = [48] := by rw [Lib.decDigits_one (by decide)]; rfl
    rw [this]; rfl
  · have h1 := dec_head h
    have h2 := dec_ne n
    have h3 : (Lib.decDigits n).isEmpty = false := by cases hd : Lib.decDigits n with
      | nil => exact absurd hd h2
      | cons a l => rfl
    rw [h3]
    have h4 : ((Lib.decDigits n).headD 0 != 48) = true := by simpa using h1
    rw [h4]; simp
theorem dec_len {k : Nat} : ∀ {n : Nat}, n < 10 ^ (k + 1) → (Lib.decDigits n).length ≤ k + 1 := by
  induction k with
  | zero => intro n h; rw [Lib.decDigits_one (by simpa using h)]; simp
  | succ k ih =>
    intro n h
    rw [Lib.decDigits]
    split
    · simp
    · rw [List.length_append]
      have := ih (n := n / 10) (by rw [Nat.pow_succ] at h; omega)
      simp; omega
theorem dval_lt (L : List UInt8) (h : L.all isD = true) : dval L < 10 ^ L.length := by
  revert h
  refine rev_ind (P := fun L => L.all isD = true → dval L < 10 ^ L.length) (by intro _; simp [dval]) ?_ L
  · intro L b ih h
    rw [List.all_append, Bool.and_eq_true] at h
    have i := ih h.1
    have hb : isD b = true := by simpa using h.2
    have := isD_iff hb
    rw [dval_snoc, List.length_append, List.length_singleton, Nat.pow_succ]; omega
theorem dval_pos {L : List UInt8} (h : L.all isD = true) (h1 : L ≠ []) (h2 : L.headD 0 ≠ 48) : 0 < dval L := by
  revert h h1 h2
  refine rev_ind (P := fun L => L.all isD = true → L ≠ [] → L.headD 0 ≠ 48 → 0 < dval L) (by intro _ h1; exact absurd rfl h1) ?_ L
  · intro L b ih h h1 h2
    rw [List.all_append, Bool.and_eq_true] at h
    have hb : isD b = true := by simpa using h.2
    have hbb := isD_iff hb
    rw [dval_snoc]
    cases L with
    | nil =>
      have : b.toNat ≠ 48 := by
        intro h3; apply h2; apply UInt8.toNat_inj.mp; simpa using h3
      simp [dval]; omega
    | cons a l =>
      have := ih h.1 (by simp) (by simpa using h2)
      omega
theorem dec_dval {L : List UInt8} (h : L.all isD = true) (h1 : L ≠ []) (h2 : L = [48] ∨ L.headD 0 ≠ 48) : Lib.decDigits (dval L) = L := by
  revert h h1 h2
  refine rev_ind (P := fun L => L.all isD = true → L ≠ [] → (L = [48] ∨ L.headD 0 ≠ 48) → Lib.decDigits (dval L) = L) (by intro _ h1; exact absurd rfl h1) ?_ L
  · intro L b ih h h1 h2
    rw [List.all_append, Bool.and_eq_true] at h
    have hb : isD b = true := by simpa using h.2
    have hbb := isD_iff hb
    have eb : UInt8.ofNat (48 + (b.toNat - 48)) = b := by
      apply UInt8.toNat_inj.mp; rw [dgt (by omega)]; omega
    rw [dval_snoc]
    cases L with
    | nil =>
      have e0 : dval [] = 0 := rfl
      rw [e0, Nat.zero_mul, Nat.zero_add, Lib.decDigits_one (by omega), eb]; rfl
    | cons a l =>
      have hh : (a :: l).headD 0 ≠ 48 := by
        rcases h2 with h3 | h3
        · simp at h3
        · simpa using h3
      have hp := dval_pos h.1 (by simp) hh
      rw [Lib.decDigits, dif_neg (by omega)]
      have e1 : (dval (a :: l) * 10 + (b.toNat - 48)) / 10 = dval (a :: l) := by omega
      have e2 : (dval (a :: l) * 10 + (b.toNat - 48)) % 10 = b.toNat - 48 := by omega
      rw [e1, e2, eb, ih h.1 (by simp) (Or.inr hh)]
theorem dec_dval_ok {L : List UInt8} (h : decOk L = true) : Lib.decDigits (dval L) = L := by
  simp only [decOk, Bool.and_eq_true, Bool.or_eq_true] at h
  obtain ⟨h1, h2⟩ := h
  rcases h2 with h2 | h2
  · have e : L = [48] := of_decide_eq_true h2
    exact dec_dval h1 (by rw [e]; simp) (Or.inl e)
  · refine dec_dval h1 ?_ (Or.inr (by simpa using h2.2))
    intro h3; rw [h3] at h2; simp at h2
theorem pow9 (k : Nat) : (1000000000 : Nat) ^ k = 10 ^ (9 * k) := by rw [Nat.pow_mul]
theorem lt_pow9 {n a k : Nat} (h : n < 10 ^ a) (h2 : a ≤ 9 * k) : n < 1000000000 ^ k := by rw [pow9]; exact Nat.lt_of_lt_of_le h (Nat.pow_le_pow_right (by decide) h2)
/-- What Text returns is parsed as the number. -/
theorem parse_text {xs : List Int} (h : validB xs = true) : parN (textV xs).data.toList = (nval xs).toNat ∧ parE (textV xs).data.toList = 0 ∧ limbs (nval xs).toNat = xs := by
  have ht : (textV xs).data.toList = Lib.decDigits (nval xs).toNat := by rw [textV, h]; rfl
  have hl := nrm_limbs (valid_nrm h)
  have hlt : (nval xs).toNat < 1000000000 ^ 48 := limbs_len_le.mp (by rw [← hl]; exact valid_len h)
  rw [pow9, show 9 * 48 = 431 + 1 from rfl] at hlt
  have hlen : (Lib.decDigits (nval xs).toNat).length ≤ 432 := dec_len (k := 431) hlt
  rw [ht, parN, parE, dec_ok, if_pos rfl, if_pos rfl, if_pos hlen, if_pos hlen, dval_dec]
  exact ⟨rfl, rfl, hl.symm⟩
/-- What is parsed is valid, and has this text. -/
theorem text_parse {L : List UInt8} (h : parE L = 0) : validB (limbs (parN L)) = true ∧ (textV (limbs (parN L))).data.toList = L := by
  unfold parE at h
  have h1 : decOk L = true := by
    cases hd : decOk L with
    | true => rfl
    | false => rw [hd] at h; simp at h
  rw [h1, if_pos rfl] at h
  have h2 : L.length ≤ 432 := by
    rcases Nat.lt_or_ge 432 L.length with h3 | h3
    · rw [if_neg (by omega)] at h; simp at h
    · exact h3
  have hN : parN L = dval L := by rw [parN, h1, if_pos rfl, if_pos h2]
  have hall : L.all isD = true := by simp only [decOk, Bool.and_eq_true] at h1; exact h1.1
  have hlt := dval_lt L hall
  have hv : validB (limbs (dval L)) = true := validB_iff.mpr ⟨limbs_len_le.mpr (lt_pow9 hlt (by omega)), nrm_of_limbs _⟩
  rw [hN]
  refine ⟨hv, ?_⟩
  rw [textV, hv]
  show (decS (nval (limbs (dval L))).toNat).data.toList = L
  rw [nval_limbs, Int.toNat_natCast]
  show (Lib.decDigits (dval L)).toArray.toList = L
  rw [List.toList_toArray, dec_dval_ok h1]
theorem parN_err {L : List UInt8} (h : parE L ≠ 0) : parN L = 0 := by
  unfold parE at h
  unfold parN
  split at h
  · split at h
    · exact absurd rfl h
    · rename_i h1 h2; rw [if_pos h1, if_neg h2]
  · rename_i h1; rw [if_neg h1]

theorem text_size {xs : List Int} (hv : validB xs = true) : (textV xs).size ≤ 9223372036854775807 := by
  have h := parse_text hv
  have ht : (textV xs).data.toList = Lib.decDigits (nval xs).toNat := by rw [textV, hv]; rfl
  have hl := nrm_limbs (valid_nrm hv)
  have hlt : (nval xs).toNat < 1000000000 ^ 48 := limbs_len_le.mp (by rw [← hl]; exact valid_len hv)
  rw [pow9, show 9 * 48 = 431 + 1 from rfl] at hlt
  have hlen := dec_len (k := 431) hlt
  rw [← ht, str_len] at hlen
  omega
end Go.Proofs.Ytihklpkpcnahkaa
/- Appending a slice that is there; contracts of nat.Int, and of Of, Int, fit of the reference. -/
namespace Go.Proofs.Ytihklpkpcnahkaa
open Go.ChangeShapes Go.WideShapes Go.RowKit
set_option linter.unusedVariables false
set_option maxRecDepth 100000

theorem run_append_empty {P : Program} {w : World} (base : Nat) (t ty e : TypeId) (i : TypeInfo) (size c : Nat) (ht : P.underlying t = some (.slice e)) (hi : P.info? e = some i)
    (v : Value) (n : Nat) (xs : List Value) (hown : w.ownsRow base e size v n xs) :
    (Builtin.append_ #[t, t] ty #[v, .slice none 0 c]).run P w = .ok v w := by
  rcases hown.2 with ⟨rfl, rfl⟩ | ⟨g, cap, cur, rfl, _, _, hnc, _⟩
  · simp [Builtin.append_, run_underlying ht, sizeOf, typeInfo, hi, Builtin.lenOf, Builtin.firstCells]
  · simp [Builtin.append_, run_underlying ht, sizeOf, typeInfo, hi, Builtin.lenOf, Builtin.firstCells, hnc, storeCells]
theorem wpList_append_empty {P : Program} {w : World} {ops : Array Oper} {rest : List Oper} {o : Oper} {a : Act} {Q : Exit → Act → World → Prop} (hgd : o.guard = none) (s x : Operand) (t : TypeId)
    (ho : o.op = .call { callee := .builtin .append, args := #[s, x], argTypes := #[t, t] })
    (base : Nat) (e : TypeId) (i : TypeInfo) (size c : Nat) (ht : P.underlying t = some (.slice e)) (hi : P.info? e = some i)
    (v : Value) (n : Nat) (xs : List Value) (hs : a.eval s = v) (hown : w.ownsRow base e size v n xs) (hx : a.eval x = .slice none 0 c)
    (h : wpList P ops Q rest (a.put o.dst v) w) : wpList P ops Q (o :: rest) a w := by
  refine wpList_plain hgd fun K hK => ?_
  have hrun := run_append_empty (P := P) (w := w) base t o.type e i size c ht hi v n xs hown
  unfold Oper.wp
  simp [execOp, ho, resolve, invoke, builtin, hs, hx, hrun, Result.andThen]
  exact hK _ _ h

theorem own_empty (w : World) : (w.alloc (.cells #[] 3)).ownsRow w.heap.size 3 1 (.slice (some ⟨w.heap.size, 0, none⟩) 0 0) ([] : List Int).length (([] : List Int).map (Value.int .i64)) :=
  World.ownsRow_lit (base := w.heap.size) (e := 3) (size := 1) w #[] 0 (Nat.le_refl _) (by unfold maxLen; omega) rfl

def intV (xs : List Int) : Int := if validB xs then (if nval xs ≤ 1125899906842624 then nval xs else 0) else 0
def intE (xs : List Int) : Int := if validB xs then (if nval xs ≤ 1125899906842624 then 0 else 2) else 3
theorem long_big {xs : List Int} (hn : nrm xs = true) (h : 2 < xs.length) : 1000000000000000000 ≤ nval xs := by
  have hl := nrm_limbs hn
  have h0 := nval_nonneg (nrm_lok hn)
  have h1 : ¬ (limbs (nval xs).toNat).length ≤ 2 := by rw [← hl]; omega
  rw [limbs_len_le] at h1
  omega

end Go.Proofs.Ytihklpkpcnahkaa
/- Contracts of at, fit, Add, minus, Sub of the reference. -/
namespace Go.Proofs.Ytihklpkpcnahkaa
open Go.ChangeShapes Go.WideShapes Go.RowKit
set_option linter.unusedVariables false
set_option maxRecDepth 100000

end Go.Proofs.Ytihklpkpcnahkaa
/- Contracts of Add, minus, Sub of the reference; the walk of NatSums. -/
namespace Go.Proofs.Ytihklpkpcnahkaa
open Go.ChangeShapes Go.WideShapes Go.RowKit
set_option linter.unusedVariables false
set_option maxRecDepth 100000

theorem lok_snoc {ds : List Int} {x : Int} (h : lok ds = true) (h0 : 0 ≤ x) (h1 : x < 1000000000) : lok (ds ++ [x]) = true := by
  rw [lok_append]; exact ⟨h, by simp [lok, h0, h1]⟩
theorem radd_step {xs ys ds : List Int} {k : Nat} {c T : Int} (hl : ds.length = k) (hv : nval ds + 1000000000 ^ k * (c + nval (xs.drop k) + nval (ys.drop k)) = T) :
    nval (ds ++ [(xs.getD k 0 + ys.getD k 0 + c) % 1000000000]) + 1000000000 ^ (k + 1) * ((xs.getD k 0 + ys.getD k 0 + c) / 1000000000 + nval (xs.drop (k + 1)) + nval (ys.drop (k + 1))) = T := by
  rw [nval_snoc, hl, ← hv, nval_drop_getD xs k, nval_drop_getD ys k, Int.pow_succ, Int.mul_assoc, Int.add_assoc, ← Int.mul_add]
  congr 2
  have e := Int.emod_add_mul_ediv (xs.getD k 0 + ys.getD k 0 + c) 1000000000
  omega
theorem drop_ge {xs : List Int} {k : Nat} (h : xs.length ≤ k) : nval (xs.drop k) = 0 := by rw [List.drop_eq_nil_of_le h]; rfl

end Go.Proofs.Ytihklpkpcnahkaa
/- Contracts of minus and Sub of the reference; the walk of NatSums. -/
namespace Go.Proofs.Ytihklpkpcnahkaa
open Go.ChangeShapes Go.WideShapes Go.RowKit
set_option linter.unusedVariables false
set_option maxRecDepth 100000

theorem rmin_step {xs ys ds : List Int} {k : Nat} {x y bo b' T : Int} (hl : ds.length = k) (hx : xs.getD k 0 = x) (hy : ys.getD k 0 = y) (hv : nval ds + 1000000000 ^ k * (nval (xs.drop k) - nval (ys.drop k) - bo) = T) :
    nval (ds ++ [x - y - bo + 1000000000 * b']) + 1000000000 ^ (k + 1) * (nval (xs.drop (k + 1)) - nval (ys.drop (k + 1)) - b') = T := by
  rw [nval_snoc, hl, ← hv, nval_drop_getD xs k, nval_drop_getD ys k, hx, hy, Int.pow_succ, Int.mul_assoc, Int.add_assoc, ← Int.mul_add]
  congr 2
  omega
theorem rmin_end {xs ys ds : List Int} {bo : Int} (hx : lok xs = true) (hy : lok ys = true) (hle : nval ys ≤ nval xs) (hdl : ds.length = xs.length) (hdk : lok ds = true) (b0 : 0 ≤ bo)
    (hv : nval ds + 1000000000 ^ xs.length * (nval (xs.drop xs.length) - nval (ys.drop xs.length) - bo) = nval xs - nval ys) : nval ds = nval xs - nval ys := by
  rw [List.drop_length] at hv
  have h1 := nval_nonneg (lok_drop hy xs.length)
  have h2 := nval_lt hdk
  rw [hdl] at h2
  have e0 : nval ([] : List Int) = 0 := rfl
  rw [e0] at hv
  rcases Int.lt_or_le 0 (nval (ys.drop xs.length) + bo) with h | h
  · exfalso
    have p := pow_pos' xs.length
    have : (1000000000 : Int) ^ xs.length * (0 - nval (ys.drop xs.length) - bo) ≤ 1000000000 ^ xs.length * (-1) := Int.mul_le_mul_of_nonneg_left (by omega) (Int.le_of_lt p)
    omega
  · have e : (0 : Int) - nval (ys.drop xs.length) - bo = 0 := by omega
    rw [e, Int.mul_zero] at hv
    omega

theorem one_cell (w : World) (t : TypeId) (x : Value) (j : Nat) (u : Value) (hj : [x][j]? = some u) : (w.alloc (.cells #[x] t)).cell? ((⟨w.heap.size, 0, none⟩ : Addr).add j) = some u := by
  match j, hj with
  | 0, hj =>
    obtain rfl : x = u := by simpa using hj
    show (w.alloc (.cells #[x] t)).cell? ⟨w.heap.size, 0, none⟩ = some x
    rw [cell_of_row _ w.heap.size 0 #[x] t (0, 0) (heap_alloc_new w _)]
    rfl

theorem sub_fit {xs ys : List Int} (hx : validB xs = true) (hy : validB ys = true) (hle : nval ys ≤ nval xs) : (nval xs - nval ys).toNat < 1000000000 ^ 48 := by
  have h0 := nval_nonneg (valid_lok hy)
  have hl := nrm_limbs (valid_nrm hx)
  have : (nval xs).toNat < 1000000000 ^ 48 := limbs_len_le.mp (by rw [← hl]; exact valid_len hx)
  exact Nat.lt_of_le_of_lt (by omega) this

theorem res_open {w w' : World} {N : Nat} {err : Int} {e : Ending} (h : Res w N err e w') : ∃ v, e = .returned (.tuple #[v, .int .i64 err]) ∧ In w' v (limbs N) ∧ Below w.heap.size w w' := by
  obtain ⟨v, h1, h2, h3⟩ := h; exact ⟨v, h1, h2.toIn, h3⟩
end Go.Proofs.Ytihklpkpcnahkaa
/- Contracts of times and Mul of the reference. -/
namespace Go.Proofs.Ytihklpkpcnahkaa
open Go.ChangeShapes Go.WideShapes Go.RowKit
set_option linter.unusedVariables false
set_option maxRecDepth 100000

theorem nval_set (P : List Int) : ∀ (j : Nat) (v : Int), j < P.length → nval (P.set j v) = nval P + 1000000000 ^ j * (v - P.getD j 0) := by
  induction P with
  | nil => intro j v h; simp at h
  | cons p P ih =>
    intro j v h
    cases j with
    | zero => simp [nval]; omega
    | succ j =>
      have i := ih j v (by simpa using h)
      have e : (p :: P).getD (j + 1) 0 = P.getD j 0 := by simp
      rw [List.set_cons_succ, nval, nval, i, e, Int.pow_succ, Int.mul_add, Int.mul_comm (1000000000 ^ j) 1000000000, Int.mul_assoc]; omega
theorem mul_bd2 {x y : Int} (h0 : 0 ≤ x) (h1 : x < 1000000000) (h2 : 0 ≤ y) (h3 : y < 1000000000) : 0 ≤ x * y ∧ x * y ≤ 999999998000000001 :=
  ⟨Int.mul_nonneg h0 h2, (mul_bd (by omega) h1 h2 h3).2⟩
theorem inner_step {P ys : List Int} {j k : Nat} {p x y c T : Int} (hj : j < P.length) (hp : P.getD j 0 = p) (hy : ys.getD k 0 = y) (hv : nval P + 1000000000 ^ j * (c + x * nval (ys.drop k)) = T) :
    nval (P.set j ((p + x * y + c) % 1000000000)) + 1000000000 ^ (j + 1) * ((p + x * y + c) / 1000000000 + x * nval (ys.drop (k + 1))) = T := by
  rw [nval_set P j _ hj, hp, ← hv, nval_drop_getD ys k, hy, Int.pow_succ, Int.mul_assoc, Int.add_assoc, ← Int.mul_add, Int.mul_add x]
  have e2 : x * (1000000000 * nval (ys.drop (k + 1))) = 1000000000 * (x * nval (ys.drop (k + 1))) := by rw [Int.mul_left_comm]
  rw [e2]
  congr 2
  have e := Int.emod_add_mul_ediv (p + x * y + c) 1000000000
  omega
/-- Behind the last limb nothing is carried. -/
theorem inner_top {P xs ys : List Int} {i k : Nat} {x c : Int} (hP : lok P = true) (hx : lok xs = true) (hy : lok ys = true) (hxi : xs[i]? = some x) (c0 : 0 ≤ c) (hk : ys.length ≤ k)
    (hv : nval P + 1000000000 ^ (i + k) * (c + x * nval (ys.drop k)) = nval (xs.take (i + 1)) * nval ys) : 0 < c → k = ys.length := by
  intro hc
  rw [drop_ge hk, Int.mul_zero, Int.add_zero] at hv
  have h0 := nval_nonneg hP
  have hi : i < xs.length := by
    rcases Nat.lt_or_ge i xs.length with h | h
    · exact h
    · rw [List.getElem?_eq_none h] at hxi; cases hxi
  have a := nval_lt (lok_take hx (i + 1))
  have a0 := nval_nonneg (lok_take hx (i + 1))
  have b := nval_lt hy
  have b0 := nval_nonneg hy
  rw [List.length_take, Nat.min_eq_left (by omega)] at a
  rcases Nat.lt_or_ge ys.length k with h | h
  · exfalso
    have p1 := pow_pos' (i + 1)
    have p2 := pow_pos' ys.length
    have m1 : nval (xs.take (i + 1)) * nval ys ≤ 1000000000 ^ (i + 1) * nval ys := Int.mul_le_mul_of_nonneg_right (Int.le_of_lt a) b0
    have m2 : (1000000000 : Int) ^ (i + 1) * nval ys < 1000000000 ^ (i + 1) * 1000000000 ^ ys.length := Int.mul_lt_mul_of_pos_left b p1
    rw [← Int.pow_add] at m2
    have m3 : (1000000000 : Int) ^ (i + 1 + ys.length) ≤ 1000000000 ^ (i + k) := pow_le_pow' (by omega)
    have m4 : (1000000000 : Int) ^ (i + k) * 1 ≤ 1000000000 ^ (i + k) * c := Int.mul_le_mul_of_nonneg_left (by omega) (Int.le_of_lt (pow_pos' _))
    omega
  · omega
theorem outer_next {P xs ys : List Int} {i : Nat} {x : Int} (hxi : xs[i]? = some x) (hv : nval P = nval (xs.take i) * nval ys) :
    nval P + 1000000000 ^ (i + 0) * (0 + x * nval (ys.drop 0)) = nval (xs.take (i + 1)) * nval ys := by
  have hi : i < xs.length := by
    rcases Nat.lt_or_ge i xs.length with h | h
    · exact h
    · rw [List.getElem?_eq_none h] at hxi; cases hxi
  rw [trim_step hxi, nval_snoc, List.length_take, Nat.min_eq_left (by omega), List.drop_zero, Nat.add_zero, Int.zero_add, hv, Int.add_mul, Int.mul_assoc]
theorem inner_end {P ys : List Int} {i k : Nat} {x c T : Int} (hk : ys.length ≤ k) (hc : c = 0) (hv : nval P + 1000000000 ^ (i + k) * (c + x * nval (ys.drop k)) = T) : nval P = T := by
  rw [drop_ge hk, hc] at hv; simpa using hv

end Go.Proofs.Ytihklpkpcnahkaa
/- The contract of nat.takeOff. -/
namespace Go.Proofs.Ytihklpkpcnahkaa
open Go.ChangeShapes Go.WideShapes Go.RowKit
set_option linter.unusedVariables false
set_option maxRecDepth 100000

/-- The last two limbs. -/
theorem nval_top {S : List Int} {l : Nat} {a0 a1 : Int} (hl : S.length = l + 2) (h0 : S[l]? = some a0) (h1 : S[l + 1]? = some a1) :
    nval S = nval (S.take l) + 1000000000 ^ l * (a0 + 1000000000 * a1) := by
  have e := nval_append (S.take l) (S.drop l)
  rw [List.take_append_drop, List.length_take, Nat.min_eq_left (by omega)] at e
  rw [e, nval_drop_step h0, nval_drop_step h1, List.drop_eq_nil_of_le (by omega)]
  simp [nval]
theorem nval_top1 {S : List Int} {l : Nat} {a0 : Int} (hl : S.length = l + 1) (h0 : S[l]? = some a0) :
    nval S = nval (S.take l) + 1000000000 ^ l * a0 := by
  have e := nval_append (S.take l) (S.drop l)
  rw [List.take_append_drop, List.length_take, Nat.min_eq_left (by omega)] at e
  rw [e, nval_drop_step h0, List.drop_eq_nil_of_le (by omega)]
  simp [nval]
/-- The guess is not too small. -/
theorem guess_ge {S ys : List Int} {l : Nat} {a0 a1 b1 : Int} (hS : lok S = true) (hy : lok ys = true) (hl : S.length = l + 2) (hly : ys.length = l + 1) (h0 : S[l]? = some a0) (h1 : S[l + 1]? = some a1) (hb : ys[l]? = some b1)
    (hb0 : 0 < b1) (hlt : nval S < 1000000000 * nval ys) :
    nval S / nval ys ≤ min ((a1 * 1000000000 + a0) / b1) 999999999 ∧ 0 ≤ nval S / nval ys ∧ 0 < nval ys := by
  have eS := nval_top hl h0 h1
  have eY := nval_top1 hly hb
  have s0 := nval_nonneg (lok_take hS l)
  have s1 := nval_lt (lok_take hS l)
  have y0 := nval_nonneg (lok_take hy l)
  rw [List.length_take, Nat.min_eq_left (by omega)] at s1
  have p := pow_pos' l
  obtain ⟨P, hP⟩ : ∃ P : Int, P = 1000000000 ^ l := ⟨_, rfl⟩
  rw [← hP] at eS eY s1 p
  have hpb : P * 1 ≤ P * b1 := Int.mul_le_mul_of_nonneg_left (by omega) (Int.le_of_lt p)
  have ypos : 0 < nval ys := by omega
  have snn := nval_nonneg hS
  have q0 : 0 ≤ nval S / nval ys := Int.ediv_nonneg snn (Int.le_of_lt ypos)
  obtain ⟨q, hq⟩ : ∃ q, q = nval S / nval ys := ⟨_, rfl⟩
  have hqS : q * nval ys ≤ nval S := by rw [hq]; exact Int.ediv_mul_le _ (by omega)
  rw [← hq] at q0 ⊢
  refine ⟨?_, q0, ypos⟩
  have h2 : q < 1000000000 := by
    rcases Int.lt_or_le q 1000000000 with h | h
    · exact h
    · have : 1000000000 * nval ys ≤ q * nval ys := Int.mul_le_mul_of_nonneg_right h (Int.le_of_lt ypos)
      omega
  have h3 : q ≤ (a1 * 1000000000 + a0) / b1 := by
    rw [Int.le_ediv_iff_mul_le hb0]
    have m1 : q * (P * b1) ≤ q * nval ys := Int.mul_le_mul_of_nonneg_left (by omega) q0
    have m2 : P * (q * b1) < P * (a1 * 1000000000 + a0 + 1) := by
      have e1 : P * (q * b1) = q * (P * b1) := by rw [Int.mul_left_comm]
      have e2 : P * (a1 * 1000000000 + a0 + 1) = P * (a0 + 1000000000 * a1) + P := by
        have : a1 * 1000000000 + a0 + 1 = (a0 + 1000000000 * a1) + 1 := by omega
        rw [this, Int.mul_add, Int.mul_one]
      omega
    have := Int.lt_of_mul_lt_mul_left m2 (Int.le_of_lt p)
    omega
  omega
/-- The last limb behind a subtraction. -/
theorem last_bd {T : List Int} {l : Nat} {z V : Int} (hd : lok T.dropLast = true) (hl : T.length = l + 1) (hz : T[l]? = some z) (hv : nval T = V) (h1 : -(1000000000 * 1000000000 ^ l) < V) (h2 : V < 1000000000 ^ (l + 1)) :
    -2000000000 < z ∧ z < 2000000000 ∧ (z < 0 ↔ V < 0) := by
  have e := nval_top1 hl hz
  have ht : T.take l = T.dropLast := by rw [List.dropLast_eq_take]; congr 1; omega
  have s0 := nval_nonneg hd
  have s1 := nval_lt hd
  have hdl : T.dropLast.length = l := by rw [List.length_dropLast]; omega
  rw [hdl] at s1
  rw [ht, hv] at e
  have p := pow_pos' l
  rw [Int.pow_succ] at h2
  obtain ⟨P, hP⟩ : ∃ P : Int, P = 1000000000 ^ l := ⟨_, rfl⟩
  rw [← hP] at e s1 p h1 h2
  have a1 : -2000000000 < z := by
    rcases Int.lt_or_le (-2000000000) z with h | h
    · exact h
    · have : P * z ≤ P * (-2000000000) := Int.mul_le_mul_of_nonneg_left h (Int.le_of_lt p)
      omega
  have a2 : z < 2000000000 := by
    rcases Int.lt_or_le z 2000000000 with h | h
    · exact h
    · have : P * 2000000000 ≤ P * z := Int.mul_le_mul_of_nonneg_left h (Int.le_of_lt p)
      omega
  refine ⟨a1, a2, ?_, ?_⟩
  · intro h
    have : P * z ≤ P * (-1) := Int.mul_le_mul_of_nonneg_left (by omega) (Int.le_of_lt p)
    omega
  · intro h
    rcases Int.lt_or_le z 0 with h3 | h3
    · exact h3
    · have := Int.mul_nonneg (Int.le_of_lt p) h3
      omega
theorem quo_of {S Y n : Int} (hy : 0 < Y) (hq : S / Y ≤ n) (hnn : 0 ≤ S - n * Y) : n = S / Y ∧ S - n * Y = S % Y := by
  have h1 : n ≤ S / Y := by rw [Int.le_ediv_iff_mul_le hy]; omega
  have e : n = S / Y := by omega
  refine ⟨e, ?_⟩
  have := Int.emod_add_mul_ediv S Y
  rw [e, Int.mul_comm]; omega
theorem take_state {S ys T : List Int} {l : Nat} {n z : Int} (hS : lok S = true) (hy : lok ys = true) (hl : S.length = l + 2) (hly : ys.length = l + 1) (hlt : nval S < 1000000000 * nval ys) (ypos : 0 < nval ys)
    (hT : T.length = l + 2) (hd : lok T.dropLast = true) (hv : nval T = nval S - n * nval ys) (hz : T[l + 1]? = some z) (n0 : 0 ≤ n) (n1 : n ≤ 999999999) :
    -2000000000 < z ∧ z < 2000000000 ∧ (z < 0 ↔ nval S - n * nval ys < 0) := by
  have y1 := nval_lt hy
  rw [hly] at y1
  have snn := nval_nonneg hS
  have s1 := nval_lt hS
  rw [hl] at s1
  have m : n * nval ys ≤ 999999999 * nval ys := Int.mul_le_mul_of_nonneg_right n1 (Int.le_of_lt ypos)
  have m0 : 0 ≤ n * nval ys := Int.mul_nonneg n0 (Int.le_of_lt ypos)
  have p := pow_pos' (l + 1)
  exact last_bd hd hT hz hv (by omega) (by rw [show l + 1 + 1 = l + 2 from rfl]; omega)
theorem take_last {S ys T : List Int} {l : Nat} (hy : lok ys = true) (hly : ys.length = l + 1) (ypos : 0 < nval ys) (hT : T.length = l + 2) (hd : lok T.dropLast = true) (hv : nval T = nval S % nval ys) : lok T = true := by
  have y1 := nval_lt hy
  rw [hly] at y1
  have h1 := Int.emod_nonneg (nval S) (show nval ys ≠ 0 by omega)
  have h2 := Int.emod_lt_of_pos (nval S) ypos
  refine lok_of_dropLast (by intro h; rw [h] at hT; simp at hT) hd (by omega) ?_
  rw [hT, hv]
  have : (1000000000 : Int) ^ (l + 1) ≤ 1000000000 ^ (l + 2) := pow_le_pow' (by omega)
  omega
end Go.Proofs.Ytihklpkpcnahkaa
