/- Several texts in one: RatW, RatX, RatY, RatZ, TankA, RowF. -/
import Derived.Test.YtagjimdplmimoaaGreatPk17
import Derived.Test.YtagjimdplmimoaaGreatPk10
import Derived.Test.YtagjimdplmimoaaGreatPk16
import Derived.Test.YtagjimdplmimoaaGreatPk1
/- Contracts of Floor, Ceil of rat and of its reference. -/
namespace Go.Proofs.YtagjimdplmimoaaGreat
open Go.ChangeShapes Go.WideShapes Go.RowKit
set_option linter.unusedVariables false
set_option maxRecDepth 100000

def floorV (b : Bool) (xs ys : List Int) : Int := rW b b xs ys
def floorE (b : Bool) (xs ys : List Int) : Int := opH (fun r => rndE r b) b xs ys
def ceilV (b : Bool) (xs ys : List Int) : Int := rW (!b) b xs ys
def ceilE (b : Bool) (xs ys : List Int) : Int := opH (fun r => rndE r (!b)) b xs ys
theorem rmag_neg (r : Rat) (away : Bool) : rmag (-r) away = rmag r away := by
  unfold rmag rQ rM; rw [(neg_parts r).1, (neg_parts r).2, Int.natAbs_neg]
theorem rmag_zero {r : Rat} (h : r.num = 0) (away : Bool) : rmag r away = 0 := by unfold rmag rQ rM; rw [h]; cases away <;> simp
theorem negR_neg_zero {r : Rat} (h : r.num = 0) : negR (-r) = false ∧ negR r = false := by
  unfold negR; rw [(neg_parts r).1, h]; exact ⟨rfl, rfl⟩
theorem negR_neg {r : Rat} (h : r.num ≠ 0) : negR (-r) = !negR r := by
  rw [(neg_form r).1, decide_eq_true (show 0 < r.num.natAbs by omega), Bool.and_true]
/-- The least integer above is the negative of the greatest one below the negative. -/
theorem ceil_neg (r : Rat) : -(rndV (-r) (negR (-r))) = rndV r (!negR r) ∧ rndE (-r) (negR (-r)) = rndE r (!negR r) := by
  unfold rndV rndE
  rw [rmag_neg]
  by_cases h : r.num = 0
  · rw [rmag_zero h, rmag_zero h, (negR_neg_zero h).1, (negR_neg_zero h).2]; exact ⟨by decide, rfl⟩
  · rw [negR_neg h]
    refine ⟨?_, rfl⟩
    split
    · cases negR r <;> simp [sgI]
    · rfl
theorem rndV_bd (r : Rat) (away : Bool) : -1125899906842624 ≤ rndV r away ∧ rndV r away ≤ 1125899906842624 := by
  unfold rndV
  split
  · unfold sgI; split <;> omega
  · omega

set_option maxHeartbeats 1600000 in
theorem rat_Floor (b : Bool) (xs ys : List Int) (v : Value) (w : World) (hv : InR w v b xs ys) :
    Calls Tryz.prog 29 #[v] w (fun e w' => e = .returned (.tuple #[.int .i64 (floorV b xs ys), .int .i64 (floorE b xs ys)]) ∧ Below w.heap.size w w') := by
  obtain ⟨vp, vq, rfl, h1, h2⟩ := hv
  obtain ⟨A1, c1, rfl, h1'⟩ := in_open h1
  obtain ⟨A2, c2, rfl, h2'⟩ := in_open h2
  have H1 := Lib.hid h1'
  have H2 := Lib.hid h2'
  have HV := Lib.hid (show InR w (.agg #[.bool b, .slice A1 xs.length c1, .slice A2 ys.length c2]) b xs ys from ⟨_, _, rfl, h1', h2'⟩)
  have HCA := Lib.hid (Cel.new w (.bool b) (.slice A1 xs.length c1) (.slice A2 ys.length c2) 46)
  have hb0 : ∀ o1, Below w.heap.size w (w.alloc o1) := fun _ => below_alloc _ _
  have hz0 : ∀ o1, (w.alloc o1).heap.size = w.heap.size + 1 := fun _ => by simp
  have HB0 := Lib.hid hb0
  have HZ0 := Lib.hid hz0
  clear h1 h2 h1' h2' hb0 hz0
  obtain ⟨⟨a0, a1, a2⟩, -⟩ := HCA.out
  go_enter Tryz.func29, Tryz.ntmps29
  go_wp2_with fail
  refine (rat_rounded b xs ys _ _ (HV.out.on (HB0.out _)) b).mono ?_
  rintro e w1 ⟨rfl, hb⟩
  have HB1 : Hid (Below w.heap.size w w1) := (HB0.out _).trans (hb.mono (by rw [HZ0.out]; omega))
  clear hb
  go_wp2_with fail
  go_ret2
  exact ⟨rfl, HB1.out⟩

end Go.Proofs.YtagjimdplmimoaaGreat
/- Contracts of Text of rat and of its reference. -/
namespace Go.Proofs.YtagjimdplmimoaaGreat
open Go.ChangeShapes Go.WideShapes Go.RowKit
set_option linter.unusedVariables false
set_option maxRecDepth 100000

/-- The text of a number. -/
def txtL (r : Rat) : List UInt8 := (if negR r then [45] else []) ++ (Lib.decDigits r.num.natAbs ++ (if r.den = 1 then [] else 47 :: Lib.decDigits r.den))
def txtS (r : Rat) : ByteArray := ⟨(txtL r).toArray⟩
def txtW (b : Bool) (xs ys : List Int) : ByteArray := if valR b xs ys then txtS (ratV b xs ys) else ⟨#[]⟩
theorem txtW_no {b : Bool} {xs ys : List Int} (h : valR b xs ys = false) : txtW b xs ys = ⟨#[]⟩ := by unfold txtW; rw [h]; rfl
theorem txtW_form {r : Rat} (hr : fitR r = true) : txtW (negR r) (topL r) (botL r) = txtS r := by unfold txtW; rw [(form_val hr).1, (form_val hr).2]; rfl
theorem textV_limbs {n : Nat} (h : n < big48) : (textV (limbs n)).data.toList = Lib.decDigits n := by rw [textV, valid48 h, nvt]; rfl
theorem oneE_limbs {n : Nat} (h : n < big48) : oneE (limbs n) = 0 := by rw [oneE, valid48 h]; rfl
theorem text_short {n : Nat} (h : n < big48) : (textV (limbs n)).size ≤ 432 := by
  have hlt : n < 10 ^ (431 + 1) := by unfold big48 at h; rw [pow9, show 9 * 48 = 431 + 1 from rfl] at h; exact h
  have hlen := dec_len (k := 431) hlt
  rw [← textV_limbs h, str_len] at hlen
  omega
theorem txt_ff {r : Rat} (hr : fitR r = true) (h1 : negR r = false) (h2 : r.den = 1) : textV (topL r) = txtS r := by
  refine bytes_inj ?_
  unfold topL txtS txtL
  rw [textV_limbs (fitR_iff.mp hr).1, h1, h2]; simp
theorem txt_tf {r : Rat} (hr : fitR r = true) (h1 : negR r = true) (h2 : r.den = 1) : (⟨#[45]⟩ : ByteArray) ++ textV (topL r) = txtS r := by
  refine bytes_inj ?_
  unfold topL txtS txtL
  rw [ByteArray.data_append, Array.toList_append, textV_limbs (fitR_iff.mp hr).1, h1, h2]; simp
theorem txt_ft {r : Rat} (hr : fitR r = true) (h1 : negR r = false) (h2 : r.den ≠ 1) : textV (topL r) ++ ((⟨#[47]⟩ : ByteArray) ++ textV (botL r)) = txtS r := by
  refine bytes_inj ?_
  unfold topL botL txtS txtL
  rw [ByteArray.data_append, ByteArray.data_append, Array.toList_append, Array.toList_append, textV_limbs (fitR_iff.mp hr).1, textV_limbs (fitR_iff.mp hr).2, h1, if_neg h2]; simp
theorem txt_tt {r : Rat} (hr : fitR r = true) (h1 : negR r = true) (h2 : r.den ≠ 1) : ((⟨#[45]⟩ : ByteArray) ++ textV (topL r)) ++ ((⟨#[47]⟩ : ByteArray) ++ textV (botL r)) = txtS r := by
  refine bytes_inj ?_
  unfold topL botL txtS txtL
  rw [ByteArray.data_append, ByteArray.data_append, ByteArray.data_append, Array.toList_append, Array.toList_append, Array.toList_append, textV_limbs (fitR_iff.mp hr).1, textV_limbs (fitR_iff.mp hr).2, h1, if_neg h2]; simp
theorem bot_one (r : Rat) : decide (botL r = [1]) = decide (r.den = 1) := limbs_is_one r.den

end Go.Proofs.YtagjimdplmimoaaGreat
/- Lists of rational numbers in memory; their sums. The contract of rat.Sum. -/
namespace Go.Proofs.YtagjimdplmimoaaGreat
open Go.ChangeShapes Go.WideShapes Go.RowKit
set_option linter.unusedVariables false
set_option maxRecDepth 100000

/-- A sign and two lists of limbs. -/
abbrev Trip := Bool × List Int × List Int
def vT (t : Trip) : Bool := valR t.1 t.2.1 t.2.2
def rT (t : Trip) : Rat := ratV t.1 t.2.1 t.2.2
/-- At the address lie the numbers L. -/
def Rats (w : World) (A : Option Addr) (L : List Trip) : Prop :=
  ∀ (k : Nat) (t : Trip), L[k]? = some t → ∃ b off A1 c1 A2 c2, A = some ⟨b, off, none⟩ ∧ b < w.heap.size ∧
    (w.cell? ⟨b, off + k * 3, none⟩ = some (.bool t.1) ∧ w.cell? ⟨b, off + k * 3 + 1, none⟩ = some (.slice A1 t.2.1.length c1) ∧ w.cell? ⟨b, off + k * 3 + 2, none⟩ = some (.slice A2 t.2.2.length c2)) ∧
    In w (.slice A1 t.2.1.length c1) t.2.1 ∧ In w (.slice A2 t.2.2.length c2) t.2.2
theorem Rats.on {w w' : World} {A : Option Addr} {L : List Trip} (h : Rats w A L) (hb : Below w.heap.size w w') : Rats w' A L := by
  intro k t hk
  obtain ⟨b, off, A1, c1, A2, c2, e, hlt, ⟨h0, h1, h2⟩, i1, i2⟩ := h k t hk
  exact ⟨b, off, A1, c1, A2, c2, e, Nat.lt_of_lt_of_le hlt hb.size, ⟨(hb.cell (p := ⟨b, off + k * 3, none⟩) hlt).trans h0, (hb.cell (p := ⟨b, off + k * 3 + 1, none⟩) hlt).trans h1, (hb.cell (p := ⟨b, off + k * 3 + 2, none⟩) hlt).trans h2⟩, i1.on hb, i2.on hb⟩

/-- The sum from s on, element by element; none where an addition does not fit. -/
def tot : List Rat → Rat → Option Rat
  | [], s => some s
  | a :: l, s => if sumOk s a then tot l (s + a) else none
def sumE (L : List Trip) : Int := if 4096 < L.length then 8 else if L.all vT then (if (tot (L.map rT) 0).isSome then 0 else 2) else 3
def sumV (L : List Trip) : Rat := (tot (L.map rT) 0).getD 0
theorem sumE_full {L : List Trip} (h : 4096 < L.length) : sumE L = 8 := if_pos h
theorem sumE_form {L : List Trip} (h : ¬ 4096 < L.length) (h2 : L.all vT = false) : sumE L = 3 := by unfold sumE; rw [if_neg h, h2]; rfl
theorem sumE_over {L : List Trip} (h : ¬ 4096 < L.length) (h2 : L.all vT = true) (h3 : tot (L.map rT) 0 = none) : sumE L = 2 := by unfold sumE; rw [if_neg h, h2, h3]; rfl
theorem sumE_ok {L : List Trip} {r : Rat} (h : ¬ 4096 < L.length) (h2 : L.all vT = true) (h3 : tot (L.map rT) 0 = some r) : sumE L = 0 ∧ sumV L = r := by unfold sumE sumV; rw [if_neg h, h2, h3]; exact ⟨rfl, rfl⟩
theorem all_false {L : List Trip} {k : Nat} {t : Trip} (h : L[k]? = some t) (hv : vT t = false) : L.all vT = false := by
  rw [List.all_eq_false]; exact ⟨t, List.mem_of_getElem? h, by simpa using hv⟩
theorem all_true {L : List Trip} (h : ∀ (k : Nat) (t : Trip), L[k]? = some t → vT t = true) : L.all vT = true := by
  rw [List.all_eq_true]
  intro t ht
  obtain ⟨k, hk⟩ := List.mem_iff_getElem?.mp ht
  exact h k t hk
theorem all_at {L : List Trip} (h : L.all vT = true) {k : Nat} {t : Trip} (hk : L[k]? = some t) : vT t = true := by
  rw [List.all_eq_true] at h; exact h t (List.mem_of_getElem? hk)
theorem tot_step {L : List Trip} {k : Nat} {t : Trip} {s : Rat} (hk : L[k]? = some t) : tot ((L.drop k).map rT) s = if sumOk s (rT t) then tot ((L.drop (k + 1)).map rT) (s + rT t) else none := by
  have hlt : k < L.length := by
    rcases Nat.lt_or_ge k L.length with h | h
    · exact h
    · rw [List.getElem?_eq_none h] at hk; cases hk
  have e : L[k] = t := by rw [List.getElem?_eq_getElem hlt] at hk; exact Option.some.inj hk
  rw [List.drop_eq_getElem_cons hlt, e]; rfl
theorem tot_end {L : List Trip} {s : Rat} : tot ((L.drop L.length).map rT) s = some s := by rw [List.drop_length]; rfl
theorem fit_sum {r s : Rat} (hr : fitR r = true) (hs : fitR s = true) (h : sumOk r s = true) : fitR (r + s) = true := by
  rw [sumOk_eq, Bool.and_eq_true, Bool.and_eq_true] at h
  obtain ⟨h1, h2, h3⟩ := h
  rw [← add_form]
  exact mk_fit (sMag_lt (prOk_parts h1).1 (prOk_parts h1).2 h3) (of_decide_eq_true h2) (Nat.mul_ne_zero r.den_nz s.den_nz)
theorem fit_zero : fitR 0 = true := by rw [fitR_iff]; exact ⟨big48_pos, small48 (by decide)⟩
theorem mkV_zero : mkV 0 1 = 0 := by decide +kernel
theorem mkE_zero : mkE 0 1 = 0 := by decide
/-- A valid number is the form of its value. -/
theorem trip_form {t : Trip} (h : vT t = true) : fitR (rT t) = true ∧ t.1 = negR (rT t) ∧ t.2.1 = topL (rT t) ∧ t.2.2 = botL (rT t) := by
  obtain ⟨b, xs, ys⟩ := t
  obtain ⟨r, hr, h1, h2, h3⟩ := val_form h
  have e : rT (b, xs, ys) = r := by unfold rT; rw [h1, h2, h3]; exact (form_val hr).2
  rw [e]; exact ⟨hr, h1, h2, h3⟩
theorem trip_is {w : World} {v : Value} {t : Trip} (h : vT t = true) (hi : InR w v t.1 t.2.1 t.2.2) : IsR w v (rT t) := by
  obtain ⟨_, h1, h2, h3⟩ := trip_form h
  unfold IsR; rw [← h1, ← h2, ← h3]; exact hi

/-- What holds at the head of the loop that adds. -/
def SumInv (w wr : World) (g gs : Nat) (r : Rat) : Prop :=
  (Below w.heap.size w wr ∧ w.heap.size ≤ gs ∧ g ≠ gs) ∧ Cel wr g (.bool false) (.slice none 0 0) (.slice none 0 0) ∧
  ∃ b A1 n1 d1 A2 n2 d2, Cel wr gs (.bool b) (.slice A1 n1 d1) (.slice A2 n2 d2) ∧ IsR wr (.agg #[.bool b, .slice A1 n1 d1, .slice A2 n2 d2]) r
theorem OutR.zero {w : World} {v : Value} {err : Int} {r : Rat} (h : err = 0) (ho : OutR w v err r) : IsR w v r := by unfold OutR at ho; rw [if_pos h] at ho; exact ho

set_option maxHeartbeats 3200000 in
theorem rat_Sum (L : List Trip) (A : Option Addr) (c : Nat) (w : World) (ha : Rats w A L) (hm : L.length ≤ 9223372036854775807) :
    Calls Tryz.prog 44 #[.slice A L.length c] w (RRes w (sumE L) (sumV L)) := by
  have HA := Lib.hid ha
  have HC := Lib.hid (Cel.new w (.bool false) (.slice none 0 0) (.slice none 0 0) 46)
  clear ha
  by_cases hf : 4096 < L.length
  · have hf' : (4096 : Int) < (L.length : Int) := by omega
    have HF := Lib.hid (sumE_full hf)
    clear hf
    go_enter Tryz.func44, Tryz.ntmps44
    go_wp2_with fail
    refine bodyPost_ret (v := .tuple #[.agg #[.bool false, .slice none 0 0, .slice none 0 0], .int .i64 8]) (by simp [results, Tryz.results44, go_sem]) rfl ?_
    rw [HF.out]
    exact ⟨_, rfl, OutR.no (by decide), below_alloc _ _⟩
  · have hf' : decide ((4096 : Int) < (L.length : Int)) = false := decide_eq_false (by omega)
    have hf2 : decide (4096 < L.length) = false := decide_eq_false (by omega)
    have HF := Lib.hid hf
    clear hf
    go_enter Tryz.func44, Tryz.ntmps44
    go_wp2_with fail
    obtain ⟨w0, hw0⟩ : ∃ w0, w0 = w.alloc (.cells #[.bool false, .slice none 0 0, .slice none 0 0] 46) := ⟨_, rfl⟩
    rw [← hw0] at HC ⊢
    have hz0 : w.heap.size + 1 ≤ w0.heap.size := by rw [hw0]; simp
    have HB0 : Hid (Below w.heap.size w w0) := by rw [hw0]; exact below_alloc _ _
    clear hw0
    go_loopw [16] (fun i wr => ∃ k : Nat, k ≤ L.length ∧ i = .int .i64 k ∧ (∀ j t, j < k → L[j]? = some t → vT t = true) ∧ Below w0.heap.size w0 wr) (fun i _ => L.length - (intOf i).toNat)
    case atStart => exact ⟨0, Nat.zero_le _, rfl, fun j t h => absurd h (by omega), Below.refl _ _⟩
    case round =>
      obtain ⟨k, hk, rfl, hv, hbel⟩ := hrel
      have HV := Lib.hid hv
      have HB := Lib.hid hbel
      have hzr : w0.heap.size ≤ wr.heap.size := hbel.size
      have HBW : Hid (Below w.heap.size w wr) := HB0.out.trans (hbel.mono (by omega))
      have HCR := Lib.hid (HC.out.on hbel)
      clear hv hbel
      rcases Nat.lt_or_ge k L.length with hlt | hge
      · obtain ⟨t, ht⟩ : ∃ t, L[k]? = some t := ⟨_, List.getElem?_eq_getElem hlt⟩
        obtain ⟨b, off, A1, c1, A2, c2, rfl, hbl, ⟨k0, k1, k2⟩, i1, i2⟩ := HA.out.on HBW.out k t ht
        have HT := Lib.hid ht
        have HI := Lib.hid (show InR wr (.agg #[.bool t.1, .slice A1 t.2.1.length c1, .slice A2 t.2.2.length c2]) t.1 t.2.1 t.2.2 from ⟨_, _, rfl, i1, i2⟩)
        clear ht i1 i2
        go_wp2_with fail
        refine (rat_Valid _ t.1 t.2.1 t.2.2 _ (HI.out.on (below_alloc _ _))).mono ?_
        rintro e w1 ⟨rfl, hb1⟩
        have hbw1 := (below_alloc wr (.cells #[.bool t.1, .slice A1 t.2.1.length c1, .slice A2 t.2.2.length c2] 46)).trans (hb1.mono (by simp))
        have HB1 := Lib.hid hbw1
        have hz1 : wr.heap.size ≤ w1.heap.size := hbw1.size
        have HC1 := Lib.hid (HCR.out.on hbw1)
        clear hb1 hbw1
        cases hvt : valR t.1 t.2.1 t.2.2 with
        | false =>
          have HE := Lib.hid (sumE_form HF.out (all_false HT.out hvt))
          obtain ⟨⟨r0, r1, r2⟩, s0, s1, s2⟩ := HC1.out
          clear hvt k0 k1 k2
          go_wp2_with fail
          obtain ⟨⟨z0, z1, z2⟩, -⟩ := HC1.out.put3 (.bool false) (.slice none 0 0) (.slice none 0 0)
          simp only [put3] at z0 z1 z2
          refine bodyPost_ret (v := .tuple #[.agg #[.bool false, .slice none 0 0, .slice none 0 0], .int .i64 3]) (by simp [results, Tryz.results44, go_sem, z0, z1, z2]) rfl ?_
          rw [HE.out]
          exact ⟨_, rfl, OutR.no (by decide), below_put3 (HBW.out.trans (HB1.out.mono (by omega))) (g := w.heap.size) (by omega) _ _ _⟩
        | true =>
          have HVT := Lib.hid hvt
          clear hvt k0 k1 k2
          go_wp2_with fail
          go_roundw
          case rel =>
            refine ⟨k + 1, by omega, by go_num, ?_, bstep HB.out HB1.out⟩
            intro j u hj hu
            rcases Nat.lt_or_eq_of_le (Nat.le_of_lt_succ hj) with h | h
            · exact HV.out j u h hu
            · subst h
              have e := HT.out
              rw [hu] at e; cases e; exact HVT.out
          case measure => simp [intOf]; omega
      · obtain rfl : k = L.length := by omega
        have HALL := Lib.hid (all_true (L := L) fun j u hu => HV.out j u (by rcases Nat.lt_or_ge j L.length with h | h; exact h; rw [List.getElem?_eq_none h] at hu; cases hu) hu)
        go_wp2_with fail
        refine (rat_Of 0 _ (by decide) (by decide)).mono ?_
        rw [mkE_zero, mkV_zero]
        rintro e w1 h1
        obtain ⟨b1, A1, n1, d1, A2, n2, d2, rfl, ho, hb1⟩ := h1.open_
        have HC1 := Lib.hid (HCR.out.on hb1)
        have hz1 : wr.heap.size ≤ w1.heap.size := hb1.size
        have HB1 : Hid (Below w.heap.size w w1) := HBW.out.trans (hb1.mono (by omega))
        have HO := Lib.hid ho
        clear h1 ho hb1
        go_wp2_with fail
        obtain ⟨w3, hw3⟩ : ∃ w3, w3 = w1.alloc (.cells #[.bool b1, .slice A1 n1 d1, .slice A2 n2 d2] 46) := ⟨_, rfl⟩
        rw [← hw3]
        have HI3 : Hid (SumInv w w3 w.heap.size w1.heap.size 0) := by
          rw [hw3]
          exact ⟨⟨HB1.out.alloc (by omega) _, by omega, by omega⟩, HC1.out.alloc _, b1, A1, n1, d1, A2, n2, d2, Cel.new _ _ _ _ _, (OutR.zero rfl HO.out).on (below_alloc _ _)⟩
        obtain ⟨gs, hgs⟩ : ∃ gs, gs = w1.heap.size := ⟨_, rfl⟩
        rw [← hgs] at HI3 ⊢
        clear hw3 hgs hz1 hzr
        obtain ⟨wo, rfl⟩ : ∃ wo : World, wo = wr := ⟨_, rfl⟩
        go_loopw [31] (fun i wr => ∃ (k : Nat) (r : Rat), k ≤ L.length ∧ i = .int .i64 k ∧ (fitR r = true ∧ tot ((L.drop k).map rT) r = tot (L.map rT) 0) ∧ SumInv w wr w.heap.size gs r) (fun i _ => L.length - (intOf i).toNat)
        case atStart => exact ⟨0, 0, Nat.zero_le _, rfl, ⟨fit_zero, rfl⟩, HI3.out⟩
        case round =>
          obtain ⟨k, r, hk, rfl, ⟨hfr, htot⟩, ⟨hbx, hg1, hg2⟩, hcx, b2, A3, n3, d3, A4, n4, d4, hcs, his⟩ := hrel
          have HFR := Lib.hid hfr
          have HTOT := Lib.hid htot
          have HBX := Lib.hid hbx
          have HCX := Lib.hid hcx
          have HCS := Lib.hid hcs
          have HIS := Lib.hid his
          have hgl : gs < wr.heap.size := hcs.lt
          have hwl : w.heap.size < wr.heap.size := hcx.lt
          obtain ⟨⟨s0, s1, s2⟩, -⟩ := hcs
          clear hfr htot hbx hcx his
          rcases Nat.lt_or_ge k L.length with hlt | hge
          · obtain ⟨t, ht⟩ : ∃ t, L[k]? = some t := ⟨_, List.getElem?_eq_getElem hlt⟩
            obtain ⟨b, off, A5, c5, A6, c6, rfl, hbl, ⟨k0, k1, k2⟩, i1, i2⟩ := HA.out.on HBX.out k t ht
            have HVT := Lib.hid (all_at HALL.out ht)
            have HST := Lib.hid (tot_step (s := r) ht)
            have HI := Lib.hid (show InR wr (.agg #[.bool t.1, .slice A5 t.2.1.length c5, .slice A6 t.2.2.length c6]) t.1 t.2.1 t.2.2 from ⟨_, _, rfl, i1, i2⟩)
            have hbax := below_alloc wr (.cells #[.bool t.1, .slice A5 t.2.1.length c5, .slice A6 t.2.2.length c6] 46)
            have HBA := Lib.hid hbax
            have hza : wr.heap.size ≤ (wr.alloc (.cells #[.bool t.1, .slice A5 t.2.1.length c5, .slice A6 t.2.2.length c6] 46)).heap.size := hbax.size
            clear ht i1 i2 hbax
            go_wp2_with fail
            refine (rat_sum r (rT t) HFR.out (trip_form HVT.out).1 _ _ _ (HIS.out.on HBA.out) (trip_is HVT.out (HI.out.on HBA.out))).mono ?_
            rintro e w4 h4
            obtain ⟨b5, A7, n7, d7, A8, n8, d8, rfl, ho4, hb4⟩ := h4.open_
            have HO4 := Lib.hid ho4
            have hb4' := HBA.out.trans (hb4.mono hza)
            have HB4 := Lib.hid hb4'
            have HCX4 := Lib.hid (HCX.out.on hb4')
            have HCS4 := Lib.hid (HCS.out.on hb4')
            have hz4 : wr.heap.size ≤ w4.heap.size := hb4'.size
            have HX := Lib.hid (HCX4.out.put3o (g' := gs) (fun h => hg2 h.symm) (.bool b5) (.slice A7 n7 d7) (.slice A8 n8 d8))
            obtain ⟨⟨q0, q1, q2⟩, p0, p1, p2⟩ := HCS4.out
            clear h4 ho4 hb4 hb4' k0 k1 k2 s0 s1 s2 hza
            cases hok : sumOk r (rT t) with
            | false =>
              have HE := Lib.hid (sumE_over HF.out HALL.out (by rw [← HTOT.out, HST.out, hok]; rfl))
              obtain ⟨⟨r0, r1, r2⟩, f0, f1, f2⟩ := HX.out
              simp only [put3] at r0 r1 r2 f0 f1 f2
              clear hok
              unfold okE
              go_wp2_with fail
              obtain ⟨⟨z0, z1, z2⟩, -⟩ := HX.out.put3 (.bool false) (.slice none 0 0) (.slice none 0 0)
              simp only [put3] at z0 z1 z2
              refine bodyPost_ret (v := .tuple #[.agg #[.bool false, .slice none 0 0, .slice none 0 0], .int .i64 2]) (by simp [results, Tryz.results44, go_sem, z0, z1, z2]) rfl ?_
              rw [HE.out]
              exact ⟨_, rfl, OutR.no (by decide), below_put3 (below_put3 (HBX.out.trans (HB4.out.mono (by omega))) (g := gs) hg1 _ _ _) (g := w.heap.size) (Nat.le_refl _) _ _ _⟩
            | true =>
              have HOK := Lib.hid hok
              rw [hok] at HO4
              clear hok
              unfold okE
              go_wp2_with fail
              go_roundw
              case rel =>
                refine ⟨k + 1, r + rT t, by omega, by go_num, ⟨fit_sum HFR.out (trip_form HVT.out).1 HOK.out, by rw [← HTOT.out, HST.out, HOK.out]; rfl⟩, ⟨below_put3 (HBX.out.trans (HB4.out.mono (by omega))) hg1 _ _ _, hg1, hg2⟩, HX.out, b5, A7, n7, d7, A8, n8, d8, HCS4.out.put3 _ _ _, ?_⟩
                exact InR.put3 (OutR.zero rfl HO4.out) HCS4.out _ _ _
              case measure => simp [intOf]; omega
          · obtain rfl : k = L.length := by omega
            have HE := Lib.hid (sumE_ok HF.out HALL.out (by rw [← HTOT.out, tot_end]))
            obtain ⟨⟨r0, r1, r2⟩, f0, f1, f2⟩ := HCX.out
            go_wp2_with fail
            obtain ⟨⟨z0, z1, z2⟩, -⟩ := HCX.out.put3 (.bool b2) (.slice A3 n3 d3) (.slice A4 n4 d4)
            simp only [put3] at z0 z1 z2
            refine bodyPost_ret (v := .tuple #[.agg #[.bool b2, .slice A3 n3 d3, .slice A4 n4 d4], .int .i64 0]) (by simp [results, Tryz.results44, go_sem, z0, z1, z2]) rfl ?_
            rw [HE.out.1, HE.out.2]
            exact ⟨_, rfl, OutR.ok (InR.put3 HIS.out HCX.out _ _ _), below_put3 HBX.out (Nat.le_refl _) _ _ _⟩
end Go.Proofs.YtagjimdplmimoaaGreat
/- The contract of Sum of the reference. -/
namespace Go.Proofs.YtagjimdplmimoaaGreat
open Go.ChangeShapes Go.WideShapes Go.RowKit
set_option linter.unusedVariables false
set_option maxRecDepth 100000

theorem below_of_drew {w w' : World} (h : Below w.drew.heap.size w.drew w') : Below w.heap.size w w' := (Below.refl w.heap.size w).drew.trans h

end Go.Proofs.YtagjimdplmimoaaGreat
/- Tanks: errors and values (pure). -/
namespace Go.Proofs.YtagjimdplmimoaaGreat.Tank
open Go.ChangeShapes Go.WideShapes Go.RowKit
set_option linter.unusedVariables false

/-! ### Numbers -/
theorem fit_mul {r s : Rat} (h : mulOk r s = true) : fitR (r * s) = true := by
  unfold mulOk at h
  rw [Bool.and_eq_true] at h
  rw [← mul_form]
  exact mk_fit (of_decide_eq_true h.1) (of_decide_eq_true h.2) (Nat.mul_ne_zero r.den_nz s.den_nz)
theorem fit_sub {r s : Rat} (hr : fitR r = true) (hs : fitR s = true) (h : subOk r s = true) : fitR (subOp r s) = true := fit_sum hr (fit_neg hs) h
theorem divEr_of {r s : Rat} (h : divEr r s = 0) : s.num ≠ 0 ∧ mulOk r s⁻¹ = true := by
  unfold divEr at h
  by_cases h0 : s.num = 0
  · rw [if_pos h0] at h; cases h
  · rw [if_neg h0] at h
    cases hm : mulOk r s⁻¹ with
    | true => exact ⟨h0, rfl⟩
    | false => rw [hm] at h; cases h
theorem fit_div {r s : Rat} (h : divEr r s = 0) : fitR (divOp r s) = true := fit_mul (divEr_of h).2
theorem okE_zero {b : Bool} : okE b = 0 ↔ b = true := by cases b <;> simp [okE]
theorem okE_two {b : Bool} (h : ¬ okE b = 0) : okE b = 2 := by cases b <;> simp_all [okE]
/-- The number of an integer. -/
def qI (n : Int) : Rat := mkV n 1
theorem qI_ok {n : Int} (h : 0 ≤ n) (h2 : n ≤ MM) : mkE n 1 = 0 := by
  have hM : MM = 1099511627776 := rfl
  unfold mkE inRB
  rw [decide_eq_true (by omega), decide_eq_true (by omega)]; rfl
theorem qI_fit {n : Int} (h : 0 ≤ n) (h2 : n ≤ MM) : fitR (qI n) = true := by
  have hM : MM = 1099511627776 := rfl
  exact mk_fit (Nat.lt_trans (show n.natAbs < 1000000000000000000 by omega) (by decide +kernel)) (by decide +kernel) (by decide)
theorem qI_val (n : Int) : qI n = (n : Rat) := by
  unfold qI mkV mkNeg
  have : sgI (decide (n < 0) != decide ((1 : Int) < 0)) n.natAbs = n := by
    unfold sgI
    by_cases h : n < 0
    · rw [decide_eq_true h]; simp; omega
    · rw [decide_eq_false h]; simp; omega
  rw [this]
  show mkRat n 1 = _
  rw [Rat.mkRat_one]
/-- The form of a number. -/
def triR (r : Rat) : Trip := (negR r, topL r, botL r)
theorem vT_tri {r : Rat} (h : fitR r = true) : vT (triR r) = true := (form_val h).1
theorem rT_tri {r : Rat} (h : fitR r = true) : rT (triR r) = r := (form_val h).2
theorem tri_rT {t : Trip} (h : vT t = true) : triR (rT t) = t := by
  obtain ⟨_, h1, h2, h3⟩ := trip_form h
  obtain ⟨b, xs, ys⟩ := t
  unfold triR
  rw [← h1, ← h2, ← h3]
theorem tri_inj {r s : Rat} (h : triR r = triR s) : r = s := by
  unfold triR at h
  simp only [Prod.mk.injEq] at h
  exact form_inj h.1 h.2.1 h.2.2
/-- Parts that are numbers. -/
def qs (L : List Trip) : List Rat := L.map rT
def ts (Q : List Rat) : List Trip := Q.map triR
theorem ts_len (Q : List Rat) : (ts Q).length = Q.length := List.length_map ..
theorem qs_len (L : List Trip) : (qs L).length = L.length := List.length_map ..
theorem ts_qs {L : List Trip} (h : ∀ t ∈ L, vT t = true) : ts (qs L) = L := by
  unfold ts qs
  rw [List.map_map]
  conv => rhs; rw [← List.map_id L]
  exact List.map_congr_left fun t ht => tri_rT (h t ht)
theorem qs_ts {Q : List Rat} (h : ∀ r ∈ Q, fitR r = true) : qs (ts Q) = Q := by
  unfold ts qs
  rw [List.map_map]
  conv => rhs; rw [← List.map_id Q]
  exact List.map_congr_left fun t ht => rT_tri (h t ht)
theorem qs_at {L : List Trip} {k : Nat} {t : Trip} (h : L[k]? = some t) : (qs L)[k]? = some (rT t) := by unfold qs; rw [List.getElem?_map, h]; rfl
theorem ts_at {Q : List Rat} {k : Nat} {r : Rat} (h : Q[k]? = some r) : (ts Q)[k]? = some (triR r) := by unfold ts; rw [List.getElem?_map, h]; rfl

/-! ### Check -/
def ckP : List Trip → Int
  | [] => 0
  | t :: l => if vT t then (if t.1 then 1 else ckP l) else 3
theorem ckP_bad : ∀ {l : List Trip} {k : Nat} {t : Trip}, l[k]? = some t → (∀ (j : Nat) (u : Trip), j < k → l[j]? = some u → vT u = true ∧ u.1 = false) → (vT t = false → ckP l = 3) ∧ (vT t = true → t.1 = true → ckP l = 1)
  | [], _, _, h, _ => by simp at h
  | u :: l, 0, t, h, _ => by
    simp at h; subst h
    exact ⟨fun hv => by rw [ckP, if_neg (by rw [hv]; decide)], fun hv hn => by rw [ckP, if_pos hv, if_pos hn]⟩
  | u :: l, k + 1, t, h, ha => by
    rw [List.getElem?_cons_succ] at h
    obtain ⟨h1, h2⟩ := ha 0 u (by omega) rfl
    rw [ckP, if_pos h1, if_neg (by rw [h2]; decide)]
    exact ckP_bad h fun j x hj hx => ha (j + 1) x (by omega) (by rw [List.getElem?_cons_succ]; exact hx)
theorem ckP_ok : ∀ {l : List Trip}, (∀ (j : Nat) (u : Trip), l[j]? = some u → vT u = true ∧ u.1 = false) → ckP l = 0
  | [], _ => rfl
  | u :: l, h => by
    obtain ⟨h1, h2⟩ := h 0 u rfl
    rw [ckP, if_pos h1, if_neg (by rw [h2]; decide)]
    exact ckP_ok fun j x hx => h (j + 1) x (by rw [List.getElem?_cons_succ]; exact hx)
theorem ckP_of : ∀ {l : List Trip}, ckP l = 0 → ∀ t ∈ l, vT t = true ∧ t.1 = false
  | [], _, t, ht => by simp at ht
  | u :: l, h, t, ht => by
    rw [ckP] at h
    by_cases h1 : vT u = true
    · rw [if_pos h1] at h
      by_cases h2 : u.1 = true
      · rw [if_pos h2] at h; cases h
      · rw [if_neg h2] at h
        rcases List.mem_cons.mp ht with rfl | ht
        · exact ⟨h1, by simpa using h2⟩
        · exact ckP_of h t ht
    · rw [if_neg h1] at h; cases h
theorem ckP_cases : ∀ (l : List Trip), ckP l = 0 ∨ ckP l = 1 ∨ ckP l = 3
  | [] => Or.inl rfl
  | u :: l => by
    rw [ckP]
    split
    · split
      · exact Or.inr (Or.inl rfl)
      · exact ckP_cases l
    · exact Or.inr (Or.inr rfl)
/-- The sum, and whether it is greater than the capacity. -/
def ckS (cap : Int) (L : List Trip) : Int :=
  if sumE L = 0 then (if crossOk (sumV L) (qI cap) then (if 0 < cmpG (sumV L) (qI cap) then 8 else 0) else 2) else sumE L
def ckN (cap : Int) (L : List Trip) : Int := if 1 ≤ L.length ∧ L.length ≤ 8 then (if ckP L = 0 then ckS cap L else ckP L) else 17
def ckT (cap : Int) (L : List Trip) : Int := if 1 ≤ cap ∧ cap ≤ MM then ckN cap L else 1
structure TOk (cap : Int) (L : List Trip) : Prop where
  c0 : 1 ≤ cap
  c1 : cap ≤ MM
  n0 : 1 ≤ L.length
  n1 : L.length ≤ 8
  all : ∀ t ∈ L, vT t = true ∧ t.1 = false
  sum : sumE L = 0
  cross : crossOk (sumV L) (qI cap) = true
  le : ¬ 0 < cmpG (sumV L) (qI cap)
theorem ckT_of {cap : Int} {L : List Trip} (h : ckT cap L = 0) : TOk cap L := by
  unfold ckT at h
  by_cases h1 : 1 ≤ cap ∧ cap ≤ MM
  · rw [if_pos h1] at h
    unfold ckN at h
    by_cases h2 : 1 ≤ L.length ∧ L.length ≤ 8
    · rw [if_pos h2] at h
      by_cases h3 : ckP L = 0
      · rw [if_pos h3] at h
        unfold ckS at h
        by_cases h4 : sumE L = 0
        · rw [if_pos h4] at h
          by_cases h5 : crossOk (sumV L) (qI cap) = true
          · rw [if_pos h5] at h
            by_cases h6 : 0 < cmpG (sumV L) (qI cap)
            · rw [if_pos h6] at h; cases h
            · exact ⟨h1.1, h1.2, h2.1, h2.2, ckP_of h3, h4, h5, h6⟩
          · rw [if_neg h5] at h; cases h
        · rw [if_neg h4] at h; exact absurd h h4
      · rw [if_neg h3] at h; exact absurd h h3
    · rw [if_neg h2] at h; cases h
  · rw [if_neg h1] at h; cases h
theorem TOk.err {cap : Int} {L : List Trip} (h : TOk cap L) : ckT cap L = 0 := by
  unfold ckT ckN ckS
  rw [if_pos ⟨h.c0, h.c1⟩, if_pos ⟨h.n0, h.n1⟩, if_pos (ckP_ok fun j u hu => h.all u (List.mem_of_getElem? hu)), if_pos h.sum, if_pos h.cross, if_neg h.le]
/-- The sum of valid parts fits. -/
theorem tot_fit : ∀ {l : List Rat} {s r : Rat}, fitR s = true → (∀ x ∈ l, fitR x = true) → tot l s = some r → fitR r = true
  | [], s, r, hs, _, h => by rw [tot] at h; cases h; exact hs
  | a :: l, s, r, hs, hl, h => by
    rw [tot] at h
    by_cases h1 : sumOk s a = true
    · rw [if_pos h1] at h
      exact tot_fit (fit_sum hs (hl a (List.mem_cons_self ..)) h1) (fun x hx => hl x (List.mem_cons_of_mem _ hx)) h
    · rw [if_neg h1] at h; cases h
theorem sumE_of {L : List Trip} (h : sumE L = 0) : (∀ t ∈ L, vT t = true) ∧ tot (qs L) 0 = some (sumV L) := by
  unfold sumE at h
  by_cases h1 : 4096 < L.length
  · rw [if_pos h1] at h; cases h
  · rw [if_neg h1] at h
    cases h2 : L.all vT with
    | false => rw [h2] at h; cases h
    | true =>
      rw [h2, if_pos rfl] at h
      refine ⟨fun t ht => List.all_eq_true.mp h2 t ht, ?_⟩
      unfold sumV qs
      cases h3 : tot (L.map rT) 0 with
      | none => rw [h3] at h; cases h
      | some r => rfl
theorem sumE_fit {L : List Trip} (h : sumE L = 0) : fitR (sumV L) = true := by
  obtain ⟨h1, h2⟩ := sumE_of h
  refine tot_fit fit_zero (fun x hx => ?_) h2
  obtain ⟨t, ht, rfl⟩ := List.mem_map.mp hx
  exact (trip_form (h1 t ht)).1
/-! ### Sums part by part -/
def poB : List Rat → List Rat → Bool
  | q :: l, x :: m => sumOk q x && poB l m
  | _, _ => true
def poV : List Rat → List Rat → List Rat
  | q :: l, x :: m => (q + x) :: poV l m
  | _, _ => []
theorem poV_len : ∀ {l m : List Rat}, l.length = m.length → (poV l m).length = l.length
  | [], [], _ => rfl
  | q :: l, x :: m, h => by
    have := poV_len (l := l) (m := m) (by simpa using h)
    rw [poV, List.length_cons, List.length_cons, this]
  | [], x :: m, h => by cases h
  | q :: l, [], h => by cases h
theorem poV_at : ∀ {l m : List Rat} {k : Nat} {q x : Rat}, l[k]? = some q → m[k]? = some x → (poV l m)[k]? = some (q + x)
  | [], _, _, _, _, h, _ => by simp at h
  | _ :: _, [], _, _, _, _, h => by simp at h
  | q :: l, x :: m, 0, _, _, h, k => by
    simp at h k; subst h; subst k; rfl
  | q :: l, x :: m, n + 1, _, _, h, k => by
    rw [List.getElem?_cons_succ] at h k
    rw [poV, List.getElem?_cons_succ]
    exact poV_at h k
theorem poV_get : ∀ {l m : List Rat} {k : Nat} {z : Rat}, (poV l m)[k]? = some z → ∃ q x, l[k]? = some q ∧ m[k]? = some x ∧ z = q + x
  | [], _, _, _, h => by simp [poV] at h
  | _ :: _, [], _, _, h => by simp [poV] at h
  | q :: l, x :: m, 0, z, h => by
    simp [poV] at h
    exact ⟨q, x, rfl, rfl, h.symm⟩
  | q :: l, x :: m, k + 1, z, h => by
    rw [poV, List.getElem?_cons_succ] at h
    obtain ⟨u, v, h1, h2, h3⟩ := poV_get h
    exact ⟨u, v, by rw [List.getElem?_cons_succ]; exact h1, by rw [List.getElem?_cons_succ]; exact h2, h3⟩
theorem poB_bad : ∀ {l m : List Rat} {k : Nat} {q x : Rat}, l[k]? = some q → m[k]? = some x → sumOk q x = false → poB l m = false
  | [], _, _, _, _, h, _, _ => by simp at h
  | _ :: _, [], _, _, _, _, h, _ => by simp at h
  | q :: l, x :: m, 0, _, _, h, k, hb => by
    simp at h k; subst h; subst k
    rw [poB, hb]; rfl
  | q :: l, x :: m, n + 1, _, _, h, k, hb => by
    rw [List.getElem?_cons_succ] at h k
    rw [poB, poB_bad h k hb, Bool.and_false]
theorem poB_ok : ∀ {l m : List Rat}, (∀ (k : Nat) (q x : Rat), l[k]? = some q → m[k]? = some x → sumOk q x = true) → poB l m = true
  | [], _, _ => by rw [poB]; intro _ _ _ _ h; cases h
  | _ :: _, [], _ => by rw [poB]; intro _ _ _ _ _ h; cases h
  | q :: l, x :: m, h => by
    rw [poB, h 0 q x rfl rfl, Bool.true_and]
    exact poB_ok fun k q x hq hx => h (k + 1) q x (by rw [List.getElem?_cons_succ]; exact hq) (by rw [List.getElem?_cons_succ]; exact hx)
theorem poB_at {l m : List Rat} (h : poB l m = true) {k : Nat} {q x : Rat} (hq : l[k]? = some q) (hx : m[k]? = some x) : sumOk q x = true := by
  cases hs : sumOk q x with
  | true => rfl
  | false => rw [poB_bad hq hx hs] at h; cases h
theorem poV_fit {l m : List Rat} (hl : ∀ q ∈ l, fitR q = true) (hm : ∀ x ∈ m, fitR x = true) (h : poB l m = true) : ∀ z ∈ poV l m, fitR z = true := fun z hz => by
  obtain ⟨k, hk⟩ := List.mem_iff_getElem?.mp hz
  obtain ⟨q, x, hq, hx, rfl⟩ := poV_get hk
  exact fit_sum (hl q (List.mem_of_getElem? hq)) (hm x (List.mem_of_getElem? hx)) (poB_at h hq hx)
/-! ### Fill -/
def qIs (m : List Int) : List Rat := m.map qI
theorem qIs_at {m : List Int} {k : Nat} {z : Int} (h : m[k]? = some z) : (qIs m)[k]? = some (qI z) := by unfold qIs; rw [List.getElem?_map, h]; rfl
theorem qIs_len (m : List Int) : (qIs m).length = m.length := List.length_map ..
def filB (l : List Rat) (m : List Int) : Bool := poB l (qIs m)
def filV (l : List Rat) (m : List Int) : List Rat := poV l (qIs m)
def filE (cap : Int) (L : List Trip) (m : List Int) : Int :=
  if ckT cap L = 0 then (if parE m (L.length : Int) = 0 then (if filB (qs L) m then ckT cap (ts (filV (qs L) m)) else 2) else parE m (L.length : Int)) else ckT cap L
def filC (cap : Int) (L : List Trip) (m : List Int) : Int := if filE cap L m = 0 then cap else 0
def filL (cap : Int) (L : List Trip) (m : List Int) : List Trip := if filE cap L m = 0 then ts (filV (qs L) m) else []
/-! ### Draw -/
/-- What is taken of a part: its error, its value, what is left. -/
def tkE (p m v : Rat) : Int :=
  if mulOk p m then (if divEr (p * m) v = 0 then okE (subOk p (divOp (p * m) v)) else divEr (p * m) v) else 2
def tkX (p m v : Rat) : Rat := divOp (p * m) v
def tkY (p m v : Rat) : Rat := subOp p (tkX p m v)
theorem tkE_of {p m v : Rat} (h : tkE p m v = 0) : mulOk p m = true ∧ divEr (p * m) v = 0 ∧ subOk p (tkX p m v) = true := by
  unfold tkE at h
  by_cases h1 : mulOk p m = true
  · rw [if_pos h1] at h
    by_cases h2 : divEr (p * m) v = 0
    · rw [if_pos h2] at h; exact ⟨h1, h2, okE_zero.mp h⟩
    · rw [if_neg h2] at h; exact absurd h h2
  · rw [if_neg h1] at h; cases h
def tkF (m v : Rat) : List Rat → Int
  | [] => 0
  | p :: l => if tkE p m v = 0 then tkF m v l else tkE p m v
theorem tkF_bad {m v : Rat} : ∀ {l : List Rat} {k : Nat} {p : Rat}, l[k]? = some p → ¬ tkE p m v = 0 → (∀ (j : Nat) (u : Rat), j < k → l[j]? = some u → tkE u m v = 0) → tkF m v l = tkE p m v
  | [], _, _, h, _, _ => by simp at h
  | u :: l, 0, p, h, hb, _ => by simp at h; subst h; rw [tkF, if_neg hb]
  | u :: l, k + 1, p, h, hb, ha => by
    rw [List.getElem?_cons_succ] at h
    rw [tkF, if_pos (ha 0 u (by omega) rfl)]
    exact tkF_bad h hb fun j x hj hx => ha (j + 1) x (by omega) (by rw [List.getElem?_cons_succ]; exact hx)
theorem tkF_ok {m v : Rat} : ∀ {l : List Rat}, (∀ (j : Nat) (u : Rat), l[j]? = some u → tkE u m v = 0) → tkF m v l = 0
  | [], _ => rfl
  | u :: l, h => by
    rw [tkF, if_pos (h 0 u rfl)]
    exact tkF_ok fun j x hx => h (j + 1) x (by rw [List.getElem?_cons_succ]; exact hx)
theorem tkF_of {m v : Rat} : ∀ {l : List Rat}, tkF m v l = 0 → ∀ p ∈ l, tkE p m v = 0
  | [], _, t, ht => by simp at ht
  | u :: l, h, t, ht => by
    rw [tkF] at h
    by_cases h1 : tkE u m v = 0
    · rw [if_pos h1] at h
      rcases List.mem_cons.mp ht with rfl | ht
      · exact h1
      · exact tkF_of h t ht
    · rw [if_neg h1] at h; exact absurd h h1
/-- The errors of Draw behind Check. -/
def drM (cap : Int) (L : List Trip) (mass : Int) : Int :=
  if inM MM mass then (if cap < mass ∨ 0 < cmpG (qI mass) (sumV L) then 19 else if mass = 0 then 0 else tkF (qI mass) (sumV L) (qs L)) else 1
def drE (cap : Int) (L : List Trip) (mass : Int) : Int := if ckT cap L = 0 then drM cap L mass else ckT cap L
/-- What was taken, and what is left. -/
def drX (L : List Trip) (mass : Int) : List Rat := (qs L).map fun p => if mass = 0 then 0 else tkX p (qI mass) (sumV L)
def drY (L : List Trip) (mass : Int) : List Rat := (qs L).map fun p => if mass = 0 then p else tkY p (qI mass) (sumV L)
def drC (cap : Int) (L : List Trip) (mass : Int) : Int := if drE cap L mass = 0 then cap else 0
def drT (cap : Int) (L : List Trip) (mass : Int) : List Trip := if drE cap L mass = 0 then ts (drX L mass) else []
def drP (cap : Int) (L : List Trip) (mass : Int) : List Trip := if drE cap L mass = 0 then ts (drY L mass) else []
structure DOk (cap : Int) (L : List Trip) (mass : Int) : Prop where
  t : TOk cap L
  m0 : 0 ≤ mass
  m1 : mass ≤ MM
  mc : mass ≤ cap
  ml : ¬ 0 < cmpG (qI mass) (sumV L)
  tk : ¬ mass = 0 → ∀ p ∈ qs L, tkE p (qI mass) (sumV L) = 0
theorem drE_of {cap : Int} {L : List Trip} {mass : Int} (h : drE cap L mass = 0) : DOk cap L mass := by
  unfold drE at h
  by_cases h1 : ckT cap L = 0
  · rw [if_pos h1] at h
    unfold drM at h
    by_cases h2 : inM MM mass = true
    · rw [if_pos h2] at h
      by_cases h3 : cap < mass ∨ 0 < cmpG (qI mass) (sumV L)
      · rw [if_pos h3] at h; cases h
      · rw [if_neg h3] at h
        have h4 := inM_iff.mp h2
        refine ⟨ckT_of h1, h4.1, h4.2, by omega, fun k => h3 (Or.inr k), fun h5 => ?_⟩
        rw [if_neg h5] at h
        exact tkF_of h
    · rw [if_neg h2] at h; cases h
  · rw [if_neg h1] at h; exact absurd h h1
/-! ### Pour -/
def poE (c : Int) (L : List Trip) (d : Int) (M : List Trip) (mass : Int) : Int :=
  if ckT c L = 0 then (if ckT d M = 0 then (if L.length = M.length then (if drE c L mass = 0 then (if poB (qs M) (drX L mass) then ckT d (ts (poV (qs M) (drX L mass))) else 2) else drE c L mass) else 17) else ckT d M) else ckT c L
def poC (c : Int) (L : List Trip) (d : Int) (M : List Trip) (mass : Int) (x : Int) : Int := if poE c L d M mass = 0 then x else 0
def poX (c : Int) (L : List Trip) (d : Int) (M : List Trip) (mass : Int) : List Trip := if poE c L d M mass = 0 then ts (drY L mass) else []
def poY (c : Int) (L : List Trip) (d : Int) (M : List Trip) (mass : Int) : List Trip := if poE c L d M mass = 0 then ts (poV (qs M) (drX L mass)) else []
/-! ### Part -/
def paM (L : List Trip) (kind : Int) : Int :=
  if 0 ≤ kind ∧ kind < (L.length : Int) then (if (sumV L).num = 0 then 10 else divEr ((qs L).getD kind.toNat 0) (sumV L)) else 7
def paE (cap : Int) (L : List Trip) (kind : Int) : Int := if ckT cap L = 0 then paM L kind else ckT cap L
def paV (L : List Trip) (kind : Int) : Rat := divOp ((qs L).getD kind.toNat 0) (sumV L)
end Go.Proofs.YtagjimdplmimoaaGreat.Tank
/- Rows whose cells hold no integers: integers elsewhere in memory are left alone by an append to such a row, wherever they lie. -/
namespace Go.Proofs.YtagjimdplmimoaaGreat.Rw
open Go.ChangeShapes Go.WideShapes Go.RowKit Go.Lib
set_option linter.unusedVariables false
set_option maxRecDepth 100000

def noI (u : Value) : Prop := ∀ (k : IntKind) (z : Int), u ≠ .int k z
/-- The row's own block holds no integer. -/
def NoI (w : World) (v : Value) : Prop := ∀ g, v.ownBlock = some g → ∀ (j : Nat) (k : IntKind) (z : Int), w.cell? ⟨g, j, none⟩ ≠ some (.int k z)
theorem NoI.nil (w : World) : NoI w (.slice none 0 0) := fun g h => by cases h
theorem NoI.keep {w w' : World} {v : Value} (h : NoI w v) (hk : ∀ k, v.ownBlock = some k → w'.heap[k]? = w.heap[k]?) : NoI w' v := fun g hg j k z hc =>
  h g hg j k z ((World.cell?_of_block (a := ⟨g, j, none⟩) (hk g hg)).symm.trans hc)
theorem noI_block {w : World} {g : Nat} {cur : Array Value} {e : TypeId} (hg : w.heap[g]? = some (.cells cur e (0, 0))) (h : ∀ u ∈ cur.toList, noI u) (j : Nat) (k : IntKind) (z : Int) : w.cell? ⟨g, j, none⟩ ≠ some (.int k z) := by
  intro hc
  rw [cell_of_row _ _ _ _ _ _ hg] at hc
  exact h _ (Array.mem_toList_iff.mpr (Array.mem_of_getElem? hc)) k z rfl
theorem mem_zero {z : Array Value} {n : Nat} {u : Value} (h : u ∈ (Builtin.zeroCells z n).toList) : u ∈ z.toList := by
  unfold Builtin.zeroCells at h
  rw [Array.toList_map, List.mem_map] at h
  obtain ⟨i, hi, rfl⟩ := h
  have hi' : i < n * z.size := by simpa using hi
  have hpos : 0 < z.size := by
    rcases Nat.eq_zero_or_pos z.size with h0 | h0
    · rw [h0, Nat.mul_zero] at hi'; omega
    · exact h0
  have hlt : i % z.size < z.size := Nat.mod_lt _ hpos
  rw [getElem!_pos z (i % z.size) hlt]
  exact Array.mem_toList_iff.mpr (Array.getElem_mem hlt)
section
variable {α : Type} {cs : α → List Value} {s : Nat} {T t : TypeId} {B : Nat} {w : World} {v : Value} {L M : List α} {A : Option Addr}
theorem run_append_noI (K : Kd cs s T t) (hcs : ∀ z, ∀ u ∈ cs z, noI u) (hzr : ∀ i zv, Tryz.prog.info? t = some i → i.zero = some zv → ∀ u ∈ zv.cells.toList, noI u)
    (hown : Row cs s t B w v L) (hno : NoI w v) (m c : Nat) (hm : m = M.length) (hpos : 0 < m) (hz : Rd cs s w A M) (hlen : L.length + m ≤ 1000000) (hB : B ≤ w.heap.size) (ty : TypeId) :
    ∃ v' w', (Builtin.append_ #[T, T] ty #[v, .slice A m c]).run Tryz.prog w = .ok v' w' ∧ Row cs s t B w' v' (L ++ M) ∧ w.grownBy w' v.ownBlock ∧ (v'.ownBlock = v.ownBlock ∨ v'.ownBlock = some w.heap.size) ∧ NoI w' v' := by
  obtain ⟨v', w', hr, h1, h2, h3⟩ := run_append_rows K hown m c hm hz hlen hB ty
  refine ⟨v', w', hr, h1, h2, h3, ?_⟩
  obtain ⟨i, zv, by_, hi, hzv, hs, hby, hzc, hb1⟩ := K.info
  have hz0 := hzr i zv hi hzv
  subst hm
  cases A with
  | none =>
    obtain rfl := hz.none_
    simp at hpos
  | some ad =>
    have hl : (M.flatMap cs).length = M.length * i.size := by rw [hs]; exact flat_len K.len M
    have hnews := rd_flat K.len K.pos hz
    have hM : ∀ u ∈ M.flatMap cs, noI u := fun u hu => by obtain ⟨z, hz, hu⟩ := List.mem_flatMap.mp hu; exact hcs z u hu
    have hL : ∀ u ∈ L.flatMap cs, noI u := fun u hu => by obtain ⟨z, hz, hu⟩ := List.mem_flatMap.mp hu; exact hcs z u hu
    have hone : ∀ u ∈ M.flatMap cs, u.oneCell' = true := fun u hu => by obtain ⟨z, hz, hu⟩ := List.mem_flatMap.mp hu; exact K.one z u hu
    have hbb : (L.length + M.length) * i.bytes ≤ 140737488355328 := by rw [hby]; exact Nat.le_trans (Nat.mul_le_mul hlen hb1) (by decide)
    have hbm : M.length * i.bytes ≤ 281474976710656 := Nat.le_trans (Nat.mul_le_mul_right _ (Nat.le_add_left _ L.length)) (Nat.le_trans hbb (by decide))
    rcases hown.2 with ⟨rfl, hn⟩ | ⟨g, cap, cur, rfl, hbg, hg, hnc, hcm, hcsz, htake⟩
    · have hr2 := run_append_nil (P := Tryz.prog) w T ty t i zv K.und hi hzv ad M.length c _ hl hnews hpos (by omega) hbm
      rw [hr2] at hr
      cases hr
      intro g' hg'
      cases hg'
      refine noI_block (heap_alloc_new w.drew _) fun u hu => ?_
      rw [Array.toList_append, List.mem_append] at hu
      rcases hu with hu | hu
      · exact hM u (by simpa using hu)
      · exact hz0 u (mem_zero hu)
    · have hcur : ∀ u ∈ cur.toList, noI u := fun u hu k z e => by
        obtain ⟨j, hj⟩ := List.mem_iff_getElem?.mp hu
        subst e
        exact hno g rfl j k z (by rw [cell_of_row _ _ _ _ _ _ hg]; simpa using hj)
      by_cases hroom : L.length + M.length ≤ cap
      · have hfit : L.length * i.size + (M.flatMap cs).length ≤ cur.size := by rw [hl, hcsz, hs, ← Nat.add_mul]; exact Nat.mul_le_mul_right _ hroom
        have hr2 := run_append_room (P := Tryz.prog) w T ty t i K.und hi g L.length cap cur hg ad M.length c _ hl hnews hone hroom hfit
        rw [hr2] at hr
        cases hr
        intro g' hg'
        cases hg'
        refine noI_block (setRow_heap w g cur _ t _ hg) fun u hu => ?_
        rw [List.toList_toArray, List.mem_append, List.mem_append] at hu
        rcases hu with (hu | hu) | hu
        · exact hcur u (List.mem_of_mem_take hu)
        · exact hM u hu
        · exact hcur u (List.mem_of_mem_drop hu)
      · have holds : ∀ j u, (L.flatMap cs)[j]? = some u → w.cell? ((⟨g, 0, none⟩ : Addr).add j) = some u := World.ownsRow.cells hown (g := g) rfl
        have hr2 := run_append_grow (P := Tryz.prog) w T ty t i zv K.und hi hzv ⟨g, 0, none⟩ L.length cap _ (by rw [hs]; exact flat_len K.len L) holds ad M.length c _ hl hnews (by omega) (by omega) (growslice_fits (by omega) hbb)
        rw [hr2] at hr
        cases hr
        intro g' hg'
        cases hg'
        refine noI_block (heap_alloc_new w.drew _) fun u hu => ?_
        rw [Array.toList_append, List.mem_append, Array.toList_append, List.mem_append] at hu
        rcases hu with (hu | hu) | hu
        · exact hL u (by simpa using hu)
        · exact hM u (by simpa using hu)
        · exact hz0 u (mem_zero hu)
/-- 'append(s, x...)' in a plain region. -/
theorem append_rowsF (K : Kd cs s T t) (hcs : ∀ z, ∀ u ∈ cs z, noI u) (hzr : ∀ i zv, Tryz.prog.info? t = some i → i.zero = some zv → ∀ u ∈ zv.cells.toList, noI u)
    {ops : Array Oper} {rest : List Oper} {o : Oper} {a : Act} {Q : Exit → Act → World → Prop} (hgd : o.guard = none) (x y : Operand)
    (ho : o.op = .call { callee := .builtin .append, args := #[x, y], argTypes := #[T, T] })
    (v : Value) (L : List α) (hs : a.eval x = v) (hown : Row cs s t B w v L) (hno : NoI w v) (A : Option Addr) (m c : Nat) (M : List α) (hm : m = M.length) (hpos : 0 < m) (hx : a.eval y = .slice A m c) (hz : Rd cs s w A M) (hlen : L.length + m ≤ 1000000) (hB : B ≤ w.heap.size)
    (h : ∀ A' n' c' w', n' = L.length + m → Row cs s t B w' (.slice A' n' c') (L ++ M) → NoI w' (.slice A' n' c') → w.grownBy w' v.ownBlock → wpList Tryz.prog ops Q rest (a.put o.dst (.slice A' n' c')) w') :
    wpList Tryz.prog ops Q (o :: rest) a w := by
  obtain ⟨v', w', hr, h1, h2, h3, h4⟩ := run_append_noI K hcs hzr hown hno m c hm hpos hz hlen hB o.type
  obtain ⟨A', c', rfl, -⟩ := h1.one K.len
  refine wpList_plain hgd fun K' hK => ?_
  unfold Oper.wp execOp
  simp only [ho, resolve, invoke, builtin, Sem.run_bind, Sem.run_pure, Result.andThen_ok, List.map_toArray, List.map_cons, List.map_nil, hs, hx, hr]
  exact hK _ _ (h A' _ c' w' (by rw [List.length_append, hm]) h1 h4 h2)
/-- 'append(s, x...)' at a step of a region that draws its order. -/
theorem step_rowsF (K : Kd cs s T t) (hcs : ∀ z, ∀ u ∈ cs z, noI u) (hzr : ∀ i zv, Tryz.prog.info? t = some i → i.zero = some zv → ∀ u ∈ zv.cells.toList, noI u)
    {ops : Array Oper} {o : Oper} {a : Act} {K' : Act → World → Prop} {Q : Exit → Act → World → Prop} {E : Prop} (hgd : o.guard = none) (x y : Operand)
    (ho : o.op = .call { callee := .builtin .append, args := #[x, y], argTypes := #[T, T] })
    (v : Value) (L : List α) (hs : a.eval x = v) (hown : Row cs s t B w v L) (hno : NoI w v) (A : Option Addr) (m c : Nat) (M : List α) (hm : m = M.length) (hpos : 0 < m) (hx : a.eval y = .slice A m c) (hz : Rd cs s w A M) (hlen : L.length + m ≤ 1000000) (hB : B ≤ w.heap.size)
    (h : ∀ A' n' c' w', n' = L.length + m → Row cs s t B w' (.slice A' n' c') (L ++ M) → NoI w' (.slice A' n' c') → w.grownBy w' v.ownBlock → K' (a.put o.dst (.slice A' n' c')) w') :
    if Region.wanted o (yielded ops a.tmps) = true then Oper.wp Tryz.prog o a w K' Q else E := by
  have hw : Region.wanted o (yielded ops a.tmps) = true := by simp [Region.wanted, hgd]
  rw [if_pos hw]
  obtain ⟨v', w', hr, h1, h2, h3, h4⟩ := run_append_noI K hcs hzr hown hno m c hm hpos hz hlen hB o.type
  obtain ⟨A', c', rfl, -⟩ := h1.one K.len
  unfold Oper.wp execOp
  simp only [ho, resolve, invoke, builtin, Sem.run_bind, Sem.run_pure, Result.andThen_ok, List.map_toArray, List.map_cons, List.map_nil, hs, hx, hr]
  exact h A' _ c' w' (by rw [List.length_append, hm]) h1 h4 h2
end
end Go.Proofs.YtagjimdplmimoaaGreat.Rw
