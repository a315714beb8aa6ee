/- Several texts in one: RatY, RatZ, TankK, TankA, TankB, TankC, TankM, PipeV. -/
import Derived.Test.YtihklpkpcnahkaaPk15
import Derived.Test.YtihklpkpcnahkaaPk1
import Derived.Test.YtihklpkpcnahkaaPk7
import Derived.Test.YtihklpkpcnahkaaPk10
import Derived.Test.YtihklpkpcnahkaaPk2
/- Lists of rational numbers in memory; their sums. The contract of rat.Sum. -/
namespace Go.Proofs.Ytihklpkpcnahkaa
open Go.ChangeShapes Go.WideShapes Go.RowKit
set_option linter.unusedVariables false
set_option maxRecDepth 100000

/-- A sign and two lists of limbs. -/
abbrev Trip := Bool × List Int × List Int
def vT (t : Trip) : Bool := valR t.1 t.2.1 t.2.2
def rT (t : Trip) : Rat := ratV t.1 t.2.1 t.2.2
/-- At the address lie the numbers L. -/
def Rats (w : World) (A : Option Addr) (L : List Trip) : Prop :=
  ∀ (k : Nat) (t : Trip), L[k]? = some t → ∃ b off A1 c1 A2 c2, A = some ⟨b, off, none⟩ ∧ b < w.heap.size ∧
    (w.cell? ⟨b, off + k * 3, none⟩ = some (.bool t.1) ∧ w.cell? ⟨b, off + k * 3 + 1, none⟩ = some (.slice A1 t.2.1.length c1) ∧ w.cell? ⟨b, off + k * 3 + 2, none⟩ = some (.slice A2 t.2.2.length c2)) ∧
    In w (.slice A1 t.2.1.length c1) t.2.1 ∧ In w (.slice A2 t.2.2.length c2) t.2.2
theorem Rats.on {w w' : World} {A : Option Addr} {L : List Trip} (h : Rats w A L) (hb : Below w.heap.size w w') : Rats w' A L := by
  intro k t hk
  obtain ⟨b, off, A1, c1, A2, c2, e, hlt, ⟨h0, h1, h2⟩, i1, i2⟩ := h k t hk
  exact ⟨b, off, A1, c1, A2, c2, e, Nat.lt_of_lt_of_le hlt hb.size, ⟨(hb.cell (p := ⟨b, off + k * 3, none⟩) hlt).trans h0, (hb.cell (p := ⟨b, off + k * 3 + 1, none⟩) hlt).trans h1, (hb.cell (p := ⟨b, off + k * 3 + 2, none⟩) hlt).trans h2⟩, i1.on hb, i2.on hb⟩

/-- The sum from s on, element by element; none where an addition does not fit. -/
def tot : List Rat → Rat → Option Rat
  | [], s => some s
  | a :: l, s => if sumOk s a then tot l (s + a) else none
def sumE (L : List Trip) : Int := if 4096 < L.length then 8 else if L.all vT then (if (tot (L.map rT) 0).isSome then 0 else 2) else 3
def sumV (L : List Trip) : Rat := (tot (L.map rT) 0).getD 0
theorem sumE_full {L : List Trip} (h : 4096 < L.length) : sumE L = 8 := if_pos h
theorem sumE_form {L : List Trip} (h : ¬ 4096 < L.length) (h2 : L.all vT = false) : sumE L = 3 := by unfold sumE; rw [if_neg h, h2]; rfl
theorem sumE_over {L : List Trip} (h : ¬ 4096 < L.length) (h2 : L.all vT = true) (h3 : tot (L.map rT) 0 = none) : sumE L = 2 := by unfold sumE; rw [if_neg h, h2, h3]; rfl
theorem sumE_ok {L : List Trip} {r : Rat} (h : ¬ 4096 < L.length) (h2 : L.all vT = true) (h3 : tot (L.map rT) 0 = some r) : sumE L = 0 ∧ sumV L = r := by unfold sumE sumV; rw [if_neg h, h2, h3]; exact ⟨rfl, rfl⟩
theorem all_false {L : List Trip} {k : Nat} {t : Trip} (h : L[k]? = some t) (hv : vT t = false) : L.all vT = false := by
  rw [List.all_eq_false]; exact ⟨t, List.mem_of_getElem? h, by simpa using hv⟩
theorem all_true {L : List Trip} (h : ∀ (k : Nat) (t : Trip), L[k]? = some t → vT t = true) : L.all vT = true := by
  rw [List.all_eq_true]
  intro t ht
  obtain ⟨k, hk⟩ := List.mem_iff_getElem?.mp ht
  exact h k t hk
theorem all_at {L : List Trip} (h : L.all vT = true) {k : Nat} {t : Trip} (hk : L[k]? = some t) : vT t = true := by
  rw [List.all_eq_true] at h; exact h t (List.mem_of_getElem? hk)
theorem tot_step {L : List Trip} {k : Nat} {t : Trip} {s : Rat} (hk : L[k]? = some t) : tot ((L.drop k).map rT) s = if sumOk s (rT t) then tot ((L.drop (k + 1)).map rT) (s + rT t) else none := by
  have hlt : k < L.length := by
    rcases Nat.lt_or_ge k L.length with h | h
    · exact h
    · rw [List.getElem?_eq_none h] at hk; cases hk
  have e : L[k] = t := by rw [List.getElem?_eq_getElem hlt] at hk; exact Option.some.inj hk
  rw [List.drop_eq_getElem_cons hlt, e]; rfl
theorem tot_end {L : List Trip} {s : Rat} : tot ((L.drop L.length).map rT) s = some s := by rw [List.drop_length]; rfl
theorem fit_sum {r s : Rat} (hr : fitR r = true) (hs : fitR s = true) (h : sumOk r s = true) : fitR (r + s) = true := by
  rw [sumOk_eq, Bool.and_eq_true, Bool.and_eq_true] at h
  obtain ⟨h1, h2, h3⟩ := h
  rw [← add_form]
  exact mk_fit (sMag_lt (prOk_parts h1).1 (prOk_parts h1).2 h3) (of_decide_eq_true h2) (Nat.mul_ne_zero r.den_nz s.den_nz)
theorem fit_zero : fitR 0 = true := by rw [fitR_iff]; exact ⟨big48_pos, small48 (by decide)⟩
theorem mkV_zero : mkV 0 1 = 0 := by decide +kernel
theorem mkE_zero : mkE 0 1 = 0 := by decide
/-- A valid number is the form of its value. -/
theorem trip_form {t : Trip} (h : vT t = true) : fitR (rT t) = true ∧ t.1 = negR (rT t) ∧ t.2.1 = topL (rT t) ∧ t.2.2 = botL (rT t) := by
  obtain ⟨b, xs, ys⟩ := t
  obtain ⟨r, hr, h1, h2, h3⟩ := val_form h
  have e : rT (b, xs, ys) = r := by unfold rT; rw [h1, h2, h3]; exact (form_val hr).2
  rw [e]; exact ⟨hr, h1, h2, h3⟩
theorem trip_is {w : World} {v : Value} {t : Trip} (h : vT t = true) (hi : InR w v t.1 t.2.1 t.2.2) : IsR w v (rT t) := by
  obtain ⟨_, h1, h2, h3⟩ := trip_form h
  unfold IsR; rw [← h1, ← h2, ← h3]; exact hi

/-- What holds at the head of the loop that adds. -/
def SumInv (w wr : World) (g gs : Nat) (r : Rat) : Prop :=
  (Below w.heap.size w wr ∧ w.heap.size ≤ gs ∧ g ≠ gs) ∧ Cel wr g (.bool false) (.slice none 0 0) (.slice none 0 0) ∧
  ∃ b A1 n1 d1 A2 n2 d2, Cel wr gs (.bool b) (.slice A1 n1 d1) (.slice A2 n2 d2) ∧ IsR wr (.agg #[.bool b, .slice A1 n1 d1, .slice A2 n2 d2]) r
theorem OutR.zero {w : World} {v : Value} {err : Int} {r : Rat} (h : err = 0) (ho : OutR w v err r) : IsR w v r := by unfold OutR at ho; rw [if_pos h] at ho; exact ho

end Go.Proofs.Ytihklpkpcnahkaa
/- The contract of Sum of the reference. -/
namespace Go.Proofs.Ytihklpkpcnahkaa
open Go.ChangeShapes Go.WideShapes Go.RowKit
set_option linter.unusedVariables false
set_option maxRecDepth 100000

theorem below_of_drew {w w' : World} (h : Below w.drew.heap.size w.drew w') : Below w.heap.size w w' := (Below.refl w.heap.size w).drew.trans h

end Go.Proofs.Ytihklpkpcnahkaa
/- Lists of masses: errors; list, Parts of layer 16's reference (gen17/k.py out of FibreA, FibreC). -/
namespace Go.Proofs.Ytihklpkpcnahkaa.Tank
open Go.ChangeShapes Go.WideShapes Go.RowKit Go.Lib
open Go.Proofs.Ytihklpkpcnahkaa.Mem (Cl eI Own)
open Go.Proofs.Ytihklpkpcnahkaa.Rw (glt get_lt ret_bool ret_int wrap_id bstep below_drewN below_drew drew_below)
set_option linter.unusedVariables false
set_option maxRecDepth 100000

abbrev MM : Int := 1099511627776
def inM (most z : Int) : Bool := decide (0 ≤ z) && decide (z ≤ most)
theorem inM_iff {most z : Int} : inM most z = true ↔ 0 ≤ z ∧ z ≤ most := by unfold inM; simp only [Bool.and_eq_true, decide_eq_true_iff]
/-- The error of a list for a number of kinds. -/
def kiB (l : List Int) (kinds : Int) : Bool := decide (1 ≤ kinds) && (decide (kinds ≤ 8) && decide ((l.length : Int) = kinds))
theorem kiB_iff {l : List Int} {kinds : Int} : kiB l kinds = true ↔ 1 ≤ kinds ∧ kinds ≤ 8 ∧ (l.length : Int) = kinds := by unfold kiB; simp only [Bool.and_eq_true, decide_eq_true_iff]
def lisE (l : List Int) (kinds most : Int) : Int := if kiB l kinds then (if l.all (inM most) then 0 else 1) else 17
theorem lisE_no {l : List Int} {kinds most : Int} (h : kiB l kinds = false) : lisE l kinds most = 17 := by unfold lisE; rw [h]; rfl
theorem lisE_bad {l : List Int} {kinds most : Int} (h : kiB l kinds = true) {k : Nat} {z : Int} (hz : l[k]? = some z) (hb : inM most z = false) : lisE l kinds most = 1 := by
  unfold lisE
  have : ¬ l.all (inM most) = true := fun ha => by
    have := List.all_eq_true.mp ha z (List.mem_of_getElem? hz)
    rw [hb] at this; cases this
  rw [h, if_pos rfl, if_neg this]
theorem lisE_ok {l : List Int} {kinds most : Int} (h : kiB l kinds = true) (ha : ∀ (k : Nat) (z : Int), l[k]? = some z → inM most z = true) : lisE l kinds most = 0 := by
  unfold lisE
  rw [h, if_pos rfl, if_pos (List.all_eq_true.mpr fun z hz => by
    obtain ⟨k, hk⟩ := List.mem_iff_getElem?.mp hz
    exact ha k z hk)]
theorem lisE_of {l : List Int} {kinds most : Int} (h : lisE l kinds most = 0) : 1 ≤ l.length ∧ l.length ≤ 8 ∧ (l.length : Int) = kinds ∧ ∀ z ∈ l, 0 ≤ z ∧ z ≤ most := by
  unfold lisE at h
  cases hk : kiB l kinds with
  | false => rw [hk] at h; cases h
  | true =>
    rw [hk, if_pos rfl] at h
    have h1 := kiB_iff.mp hk
    by_cases h2 : l.all (inM most) = true
    · exact ⟨by omega, by omega, h1.2.2, fun z hz => inM_iff.mp (List.all_eq_true.mp h2 z hz)⟩
    · rw [if_neg h2] at h; cases h
theorem lisE_mk {l : List Int} {kinds most : Int} (h0 : 1 ≤ kinds) (h1 : kinds ≤ 8) (h2 : (l.length : Int) = kinds) (ha : ∀ z ∈ l, 0 ≤ z ∧ z ≤ most) : lisE l kinds most = 0 :=
  lisE_ok (kiB_iff.mpr ⟨h0, h1, h2⟩) fun k z hz => inM_iff.mpr (ha z (List.mem_of_getElem? hz))
theorem lisE_cases (l : List Int) (kinds most : Int) : lisE l kinds most = 0 ∨ lisE l kinds most = 1 ∨ lisE l kinds most = 17 := by
  unfold lisE
  split
  · split
    · exact Or.inl rfl
    · exact Or.inr (Or.inl rfl)
  · exact Or.inr (Or.inr rfl)
def lenI (l : List Int) : Int := l.length
def parE (m : List Int) (kinds : Int) : Int := lisE m kinds MM
theorem cl_at {w : World} {A : Option Addr} {L : List Int} (h : Cl eI w A L) {k : Nat} {z : Int} (hz : L[k]? = some z) : ∃ b off, A = some ⟨b, off, none⟩ ∧ b < w.heap.size ∧ w.cell? ⟨b, off + k, none⟩ = some (.int .i64 z) := h k z hz
set_option maxHeartbeats 800000 in
theorem rr_list (l : List Int) (A : Option Addr) (n c : Nat) (hn : n = l.length) (kinds most : Int) (w : World) (ha : Cl eI w A l) (hm : n ≤ 9223372036854775807) :
    Calls Try.prog 36 #[.slice A n c, .int .i64 kinds, .int .i64 most] w fun e w' => e = .returned (.int .i64 (lisE l kinds most)) ∧ Below w.heap.size w w' := by
  have HA := Lib.hid ha
  have HN := Lib.hid hn
  obtain ⟨E, hE⟩ : ∃ E, lisE l kinds most = E := ⟨_, rfl⟩
  rw [hE]
  have HE := Lib.hid hE
  clear ha
  rcases Int.lt_or_le kinds 1 with h0 | h0
  · have d0 : decide (kinds < 1) = true := decide_eq_true h0
    obtain rfl : E = 17 := by rw [← hE]; exact lisE_no (Bool.eq_false_iff.mpr fun h => by have := kiB_iff.mp h; omega)
    clear h0 hE hn
    go_enter Try.func36, Try.ntmps36
    go_wp2_with fail
    go_ret
    exact ⟨rfl, Below.refl _ _⟩
  have d0 : decide (kinds < 1) = false := decide_eq_false (by omega)
  rcases Int.lt_or_le 8 kinds with h1 | h1
  · have d1 : decide (8 < kinds) = true := decide_eq_true h1
    obtain rfl : E = 17 := by rw [← hE]; exact lisE_no (Bool.eq_false_iff.mpr fun h => by have := kiB_iff.mp h; omega)
    clear h0 h1 hE hn
    go_enter Try.func36, Try.ntmps36
    go_wp2_with fail
    go_ret
    exact ⟨rfl, Below.refl _ _⟩
  have d1 : decide (8 < kinds) = false := decide_eq_false (by omega)
  by_cases h2 : (n : Int) = kinds
  rotate_left
  · have d2 : ((n : Int) != kinds) = true := by simpa using h2
    have d3 : ((n : Int) == kinds) = false := by simpa using h2
    obtain rfl : E = 17 := by rw [← hE]; exact lisE_no (Bool.eq_false_iff.mpr fun h => by have := kiB_iff.mp h; omega)
    clear h0 h1 h2 hE hn
    go_enter Try.func36, Try.ntmps36
    go_wp2_with fail
    go_ret
    exact ⟨rfl, Below.refl _ _⟩
  have HK : Hid (kiB l kinds = true) := Lib.hid (kiB_iff.mpr ⟨h0, h1, by omega⟩)
  subst h2
  have d2 : ((n : Int) != (n : Int)) = false := by simp
  have d3 : ((n : Int) == (n : Int)) = true := by simp
  clear h0 h1 hE hn
  go_enter Try.func36, Try.ntmps36
  go_wp2_with fail
  go_loopw [7] (fun i wr => ∃ k : Nat, k ≤ n ∧ i = .int .i64 k ∧ (∀ (j : Nat) (z : Int), j < k → l[j]? = some z → inM most z = true) ∧ Below w.heap.size w wr) (fun i _ => n - (RowKit.intOf i).toNat)
  case atStart => exact ⟨0, Nat.zero_le _, rfl, fun j z h => absurd h (by omega), Below.refl _ _⟩
  case round =>
    obtain ⟨k, hk, rfl, hv, hbel⟩ := hrel
    have HV := Lib.hid hv
    have HB := Lib.hid hbel
    clear hv hbel
    rcases Nat.lt_or_ge k n with hlt | hge
    · obtain ⟨z, hz⟩ := get_lt (L := l) (k := k) (by have := HN.out; omega)
      obtain ⟨b, off, rfl, hb, e0⟩ := cl_at (HA.out.on HB.out) hz
      have HZ := Lib.hid hz
      have i1 : (k : Int) < (n : Int) := by omega
      have i2 : (0 : Int) ≤ (k : Int) := by omega
      clear hz
      rcases Int.lt_or_le z 0 with h0 | h0
      · have t0 : decide (z < 0) = true := decide_eq_true h0
        obtain rfl : E = 1 := by rw [← HE.out]; exact lisE_bad HK.out HZ.out (Bool.eq_false_iff.mpr fun h => by have := inM_iff.mp h; omega)
        clear h0
        go_wp2_with fail
        go_ret
        exact ⟨rfl, HB.out⟩
      have t0 : decide (z < 0) = false := decide_eq_false (by omega)
      rcases Int.lt_or_le most z with h1 | h1
      · have t1 : decide (most < z) = true := decide_eq_true h1
        obtain rfl : E = 1 := by rw [← HE.out]; exact lisE_bad HK.out HZ.out (Bool.eq_false_iff.mpr fun h => by have := inM_iff.mp h; omega)
        clear h0 h1
        go_wp2_with fail
        go_ret
        exact ⟨rfl, HB.out⟩
      have t1 : decide (most < z) = false := decide_eq_false (by omega)
      have HI : Hid (inM most z = true) := Lib.hid (inM_iff.mpr ⟨h0, h1⟩)
      clear h0 h1
      go_wp2_with fail
      go_roundw
      case rel =>
        refine ⟨k + 1, by omega, by go_num, ?_, HB.out⟩
        intro j y hj hy
        rcases Nat.lt_or_eq_of_le (Nat.le_of_lt_succ hj) with h | h
        · exact HV.out j y h hy
        · subst h
          have e := HZ.out
          rw [hy] at e; cases e; exact HI.out
      case measure => simp [RowKit.intOf]; omega
    · obtain rfl : k = n := by omega
      obtain rfl : E = 0 := by rw [← HE.out]; exact lisE_ok HK.out fun j z hz => HV.out j z (by rw [HN.out]; exact glt hz) hz
      go_wp2_with fail
      go_ret
      exact ⟨rfl, HB.out⟩

theorem rr_Parts (m : List Int) (A : Option Addr) (n c : Nat) (hn : n = m.length) (kinds : Int) (w : World) (ha : Cl eI w A m) (hm : n ≤ 9223372036854775807) :
    Calls Try.prog 27 #[.slice A n c, .int .i64 kinds] w fun e w' => e = .returned (.int .i64 (parE m kinds)) ∧ Below w.heap.size w w' := by
  have HL := Lib.hid (rr_list m A n c hn kinds MM w ha hm)
  clear ha hn
  go_enter Try.func27, Try.ntmps27
  go_wp2_with fail
  refine HL.out.mono ?_
  rintro e w1 ⟨rfl, hb⟩
  have B1 := Lib.hid hb
  clear hb
  go_wp2_with fail
  go_ret
  exact ⟨rfl, B1.out⟩

end Go.Proofs.Ytihklpkpcnahkaa.Tank
/- Tanks: errors and values (pure). -/
namespace Go.Proofs.Ytihklpkpcnahkaa.Tank
open Go.ChangeShapes Go.WideShapes Go.RowKit
set_option linter.unusedVariables false

/-! ### Numbers -/
theorem fit_mul {r s : Rat} (h : mulOk r s = true) : fitR (r * s) = true := by
  unfold mulOk at h
  rw [Bool.and_eq_true] at h
  rw [← mul_form]
  exact mk_fit (of_decide_eq_true h.1) (of_decide_eq_true h.2) (Nat.mul_ne_zero r.den_nz s.den_nz)
theorem fit_sub {r s : Rat} (hr : fitR r = true) (hs : fitR s = true) (h : subOk r s = true) : fitR (subOp r s) = true := fit_sum hr (fit_neg hs) h
theorem divEr_of {r s : Rat} (h : divEr r s = 0) : s.num ≠ 0 ∧ mulOk r s⁻¹ = true := by
  unfold divEr at h
  by_cases h0 : s.num = 0
  · rw [if_pos h0] at h; cases h
  · rw [if_neg h0] at h
    cases hm : mulOk r s⁻¹ with
    | true => exact ⟨h0, rfl⟩
    | false => rw [hm] at h; cases h
theorem fit_div {r s : Rat} (h : divEr r s = 0) : fitR (divOp r s) = true := fit_mul (divEr_of h).2
theorem okE_zero {b : Bool} : okE b = 0 ↔ b = true := by cases b <;> simp [okE]
theorem okE_two {b : Bool} (h : ¬ okE b = 0) : okE b = 2 := by cases b <;> simp_all [okE]
/-- The number of an integer. -/
def qI (n : Int) : Rat := mkV n 1
theorem qI_ok {n : Int} (h : 0 ≤ n) (h2 : n ≤ MM) : mkE n 1 = 0 := by
  have hM : MM = 1099511627776 := rfl
  unfold mkE inRB
  rw [decide_eq_true (by omega), decide_eq_true (by omega)]; rfl
theorem qI_fit {n : Int} (h : 0 ≤ n) (h2 : n ≤ MM) : fitR (qI n) = true := by
  have hM : MM = 1099511627776 := rfl
  exact mk_fit (Nat.lt_trans (show n.natAbs < 1000000000000000000 by omega) (by decide +kernel)) (by decide +kernel) (by decide)
theorem qI_val (n : Int) : qI n = (n : Rat) := by
  unfold qI mkV mkNeg
  have : sgI (decide (n < 0) != decide ((1 : Int) < 0)) n.natAbs = n := by
    unfold sgI
    by_cases h : n < 0
    · rw [decide_eq_true h]; simp; omega
    · rw [decide_eq_false h]; simp; omega
  rw [this]
  show mkRat n 1 = _
  rw [Rat.mkRat_one]
/-- The form of a number. -/
def triR (r : Rat) : Trip := (negR r, topL r, botL r)
theorem vT_tri {r : Rat} (h : fitR r = true) : vT (triR r) = true := (form_val h).1
theorem rT_tri {r : Rat} (h : fitR r = true) : rT (triR r) = r := (form_val h).2
theorem tri_rT {t : Trip} (h : vT t = true) : triR (rT t) = t := by
  obtain ⟨_, h1, h2, h3⟩ := trip_form h
  obtain ⟨b, xs, ys⟩ := t
  unfold triR
  rw [← h1, ← h2, ← h3]
theorem tri_inj {r s : Rat} (h : triR r = triR s) : r = s := by
  unfold triR at h
  simp only [Prod.mk.injEq] at h
  exact form_inj h.1 h.2.1 h.2.2
/-- Parts that are numbers. -/
def qs (L : List Trip) : List Rat := L.map rT
def ts (Q : List Rat) : List Trip := Q.map triR
theorem ts_len (Q : List Rat) : (ts Q).length = Q.length := List.length_map ..
theorem qs_len (L : List Trip) : (qs L).length = L.length := List.length_map ..
theorem ts_qs {L : List Trip} (h : ∀ t ∈ L, vT t = true) : ts (qs L) = L := by
  unfold ts qs
  rw [List.map_map]
  conv => rhs; rw [← List.map_id L]
  exact List.map_congr_left fun t ht => tri_rT (h t ht)
theorem qs_ts {Q : List Rat} (h : ∀ r ∈ Q, fitR r = true) : qs (ts Q) = Q := by
  unfold ts qs
  rw [List.map_map]
  conv => rhs; rw [← List.map_id Q]
  exact List.map_congr_left fun t ht => rT_tri (h t ht)
theorem qs_at {L : List Trip} {k : Nat} {t : Trip} (h : L[k]? = some t) : (qs L)[k]? = some (rT t) := by unfold qs; rw [List.getElem?_map, h]; rfl
theorem ts_at {Q : List Rat} {k : Nat} {r : Rat} (h : Q[k]? = some r) : (ts Q)[k]? = some (triR r) := by unfold ts; rw [List.getElem?_map, h]; rfl

/-! ### Check -/
def ckP : List Trip → Int
  | [] => 0
  | t :: l => if vT t then (if t.1 then 1 else ckP l) else 3
theorem ckP_bad : ∀ {l : List Trip} {k : Nat} {t : Trip}, l[k]? = some t → (∀ (j : Nat) (u : Trip), j < k → l[j]? = some u → vT u = true ∧ u.1 = false) → (vT t = false → ckP l = 3) ∧ (vT t = true → t.1 = true → ckP l = 1)
  | [], _, _, h, _ => by simp at h
  | u :: l, 0, t, h, _ => by
    simp at h; subst h
    exact ⟨fun hv => by rw [ckP, if_neg (by rw [hv]; decide)], fun hv hn => by rw [ckP, if_pos hv, if_pos hn]⟩
  | u :: l, k + 1, t, h, ha => by
    rw [List.getElem?_cons_succ] at h
    obtain ⟨h1, h2⟩ := ha 0 u (by omega) rfl
    rw [ckP, if_pos h1, if_neg (by rw [h2]; decide)]
    exact ckP_bad h fun j x hj hx => ha (j + 1) x (by omega) (by rw [List.getElem?_cons_succ]; exact hx)
theorem ckP_ok : ∀ {l : List Trip}, (∀ (j : Nat) (u : Trip), l[j]? = some u → vT u = true ∧ u.1 = false) → ckP l = 0
  | [], _ => rfl
  | u :: l, h => by
    obtain ⟨h1, h2⟩ := h 0 u rfl
    rw [ckP, if_pos h1, if_neg (by rw [h2]; decide)]
    exact ckP_ok fun j x hx => h (j + 1) x (by rw [List.getElem?_cons_succ]; exact hx)
theorem ckP_of : ∀ {l : List Trip}, ckP l = 0 → ∀ t ∈ l, vT t = true ∧ t.1 = false
  | [], _, t, ht => by simp at ht
  | u :: l, h, t, ht => by
    rw [ckP] at h
    by_cases h1 : vT u = true
    · rw [if_pos h1] at h
      by_cases h2 : u.1 = true
      · rw [if_pos h2] at h; cases h
      · rw [if_neg h2] at h
        rcases List.mem_cons.mp ht with rfl | ht
        · exact ⟨h1, by simpa using h2⟩
        · exact ckP_of h t ht
    · rw [if_neg h1] at h; cases h
theorem ckP_cases : ∀ (l : List Trip), ckP l = 0 ∨ ckP l = 1 ∨ ckP l = 3
  | [] => Or.inl rfl
  | u :: l => by
    rw [ckP]
    split
    · split
      · exact Or.inr (Or.inl rfl)
      · exact ckP_cases l
    · exact Or.inr (Or.inr rfl)
/-- The sum, and whether it is greater than the capacity. -/
def ckS (cap : Int) (L : List Trip) : Int :=
  if sumE L = 0 then (if crossOk (sumV L) (qI cap) then (if 0 < cmpG (sumV L) (qI cap) then 8 else 0) else 2) else sumE L
def ckN (cap : Int) (L : List Trip) : Int := if 1 ≤ L.length ∧ L.length ≤ 8 then (if ckP L = 0 then ckS cap L else ckP L) else 17
def ckT (cap : Int) (L : List Trip) : Int := if 1 ≤ cap ∧ cap ≤ MM then ckN cap L else 1
structure TOk (cap : Int) (L : List Trip) : Prop where
  c0 : 1 ≤ cap
  c1 : cap ≤ MM
  n0 : 1 ≤ L.length
  n1 : L.length ≤ 8
  all : ∀ t ∈ L, vT t = true ∧ t.1 = false
  sum : sumE L = 0
  cross : crossOk (sumV L) (qI cap) = true
  le : ¬ 0 < cmpG (sumV L) (qI cap)
theorem ckT_of {cap : Int} {L : List Trip} (h : ckT cap L = 0) : TOk cap L := by
  unfold ckT at h
  by_cases h1 : 1 ≤ cap ∧ cap ≤ MM
  · rw [if_pos h1] at h
    unfold ckN at h
    by_cases h2 : 1 ≤ L.length ∧ L.length ≤ 8
    · rw [if_pos h2] at h
      by_cases h3 : ckP L = 0
      · rw [if_pos h3] at h
        unfold ckS at h
        by_cases h4 : sumE L = 0
        · rw [if_pos h4] at h
          by_cases h5 : crossOk (sumV L) (qI cap) = true
          · rw [if_pos h5] at h
            by_cases h6 : 0 < cmpG (sumV L) (qI cap)
            · rw [if_pos h6] at h; cases h
            · exact ⟨h1.1, h1.2, h2.1, h2.2, ckP_of h3, h4, h5, h6⟩
          · rw [if_neg h5] at h; cases h
        · rw [if_neg h4] at h; exact absurd h h4
      · rw [if_neg h3] at h; exact absurd h h3
    · rw [if_neg h2] at h; cases h
  · rw [if_neg h1] at h; cases h
theorem TOk.err {cap : Int} {L : List Trip} (h : TOk cap L) : ckT cap L = 0 := by
  unfold ckT ckN ckS
  rw [if_pos ⟨h.c0, h.c1⟩, if_pos ⟨h.n0, h.n1⟩, if_pos (ckP_ok fun j u hu => h.all u (List.mem_of_getElem? hu)), if_pos h.sum, if_pos h.cross, if_neg h.le]
/-- The sum of valid parts fits. -/
theorem tot_fit : ∀ {l : List Rat} {s r : Rat}, fitR s = true → (∀ x ∈ l, fitR x = true) → tot l s = some r → fitR r = true
  | [], s, r, hs, _, h => by rw [tot] at h; cases h; exact hs
  | a :: l, s, r, hs, hl, h => by
    rw [tot] at h
    by_cases h1 : sumOk s a = true
    · rw [if_pos h1] at h
      exact tot_fit (fit_sum hs (hl a (List.mem_cons_self ..)) h1) (fun x hx => hl x (List.mem_cons_of_mem _ hx)) h
    · rw [if_neg h1] at h; cases h
theorem sumE_of {L : List Trip} (h : sumE L = 0) : (∀ t ∈ L, vT t = true) ∧ tot (qs L) 0 = some (sumV L) := by
  unfold sumE at h
  by_cases h1 : 4096 < L.length
  · rw [if_pos h1] at h; cases h
  · rw [if_neg h1] at h
    cases h2 : L.all vT with
    | false => rw [h2] at h; cases h
    | true =>
      rw [h2, if_pos rfl] at h
      refine ⟨fun t ht => List.all_eq_true.mp h2 t ht, ?_⟩
      unfold sumV qs
      cases h3 : tot (L.map rT) 0 with
      | none => rw [h3] at h; cases h
      | some r => rfl
theorem sumE_fit {L : List Trip} (h : sumE L = 0) : fitR (sumV L) = true := by
  obtain ⟨h1, h2⟩ := sumE_of h
  refine tot_fit fit_zero (fun x hx => ?_) h2
  obtain ⟨t, ht, rfl⟩ := List.mem_map.mp hx
  exact (trip_form (h1 t ht)).1
/-! ### Sums part by part -/
def poB : List Rat → List Rat → Bool
  | q :: l, x :: m => sumOk q x && poB l m
  | _, _ => true
def poV : List Rat → List Rat → List Rat
  | q :: l, x :: m => (q + x) :: poV l m
  | _, _ => []
theorem poV_len : ∀ {l m : List Rat}, l.length = m.length → (poV l m).length = l.length
  | [], [], _ => rfl
  | q :: l, x :: m, h => by
    have := poV_len (l := l) (m := m) (by simpa using h)
    rw [poV, List.length_cons, List.length_cons, this]
  | [], x :: m, h => by cases h
  | q :: l, [], h => by cases h
theorem poV_at : ∀ {l m : List Rat} {k : Nat} {q x : Rat}, l[k]? = some q → m[k]? = some x → (poV l m)[k]? = some (q + x)
  | [], _, _, _, _, h, _ => by simp at h
  | _ :: _, [], _, _, _, _, h => by simp at h
  | q :: l, x :: m, 0, _, _, h, k => by
    simp at h k; subst h; subst k; rfl
  | q :: l, x :: m, n + 1, _, _, h, k => by
    rw [List.getElem?_cons_succ] at h k
    rw [poV, List.getElem?_cons_succ]
    exact poV_at h k
theorem poV_get : ∀ {l m : List Rat} {k : Nat} {z : Rat}, (poV l m)[k]? = some z → ∃ q x, l[k]? = some q ∧ m[k]? = some x ∧ z = q + x
  | [], _, _, _, h => by simp [poV] at h
  | _ :: _, [], _, _, h => by simp [poV] at h
  | q :: l, x :: m, 0, z, h => by
    simp [poV] at h
    exact ⟨q, x, rfl, rfl, h.symm⟩
  | q :: l, x :: m, k + 1, z, h => by
    rw [poV, List.getElem?_cons_succ] at h
    obtain ⟨u, v, h1, h2, h3⟩ := poV_get h
    exact ⟨u, v, by rw [List.getElem?_cons_succ]; exact h1, by rw [List.getElem?_cons_succ]; exact h2, h3⟩
theorem poB_bad : ∀ {l m : List Rat} {k : Nat} {q x : Rat}, l[k]? = some q → m[k]? = some x → sumOk q x = false → poB l m = false
  | [], _, _, _, _, h, _, _ => by simp at h
  | _ :: _, [], _, _, _, _, h, _ => by simp at h
  | q :: l, x :: m, 0, _, _, h, k, hb => by
    simp at h k; subst h; subst k
    rw [poB, hb]; rfl
  | q :: l, x :: m, n + 1, _, _, h, k, hb => by
    rw [List.getElem?_cons_succ] at h k
    rw [poB, poB_bad h k hb, Bool.and_false]
theorem poB_ok : ∀ {l m : List Rat}, (∀ (k : Nat) (q x : Rat), l[k]? = some q → m[k]? = some x → sumOk q x = true) → poB l m = true
  | [], _, _ => by rw [poB]; intro _ _ _ _ h; cases h
  | _ :: _, [], _ => by rw [poB]; intro _ _ _ _ _ h; cases h
  | q :: l, x :: m, h => by
    rw [poB, h 0 q x rfl rfl, Bool.true_and]
    exact poB_ok fun k q x hq hx => h (k + 1) q x (by rw [List.getElem?_cons_succ]; exact hq) (by rw [List.getElem?_cons_succ]; exact hx)
theorem poB_at {l m : List Rat} (h : poB l m = true) {k : Nat} {q x : Rat} (hq : l[k]? = some q) (hx : m[k]? = some x) : sumOk q x = true := by
  cases hs : sumOk q x with
  | true => rfl
  | false => rw [poB_bad hq hx hs] at h; cases h
theorem poV_fit {l m : List Rat} (hl : ∀ q ∈ l, fitR q = true) (hm : ∀ x ∈ m, fitR x = true) (h : poB l m = true) : ∀ z ∈ poV l m, fitR z = true := fun z hz => by
  obtain ⟨k, hk⟩ := List.mem_iff_getElem?.mp hz
  obtain ⟨q, x, hq, hx, rfl⟩ := poV_get hk
  exact fit_sum (hl q (List.mem_of_getElem? hq)) (hm x (List.mem_of_getElem? hx)) (poB_at h hq hx)
/-! ### Fill -/
def qIs (m : List Int) : List Rat := m.map qI
theorem qIs_at {m : List Int} {k : Nat} {z : Int} (h : m[k]? = some z) : (qIs m)[k]? = some (qI z) := by unfold qIs; rw [List.getElem?_map, h]; rfl
theorem qIs_len (m : List Int) : (qIs m).length = m.length := List.length_map ..
def filB (l : List Rat) (m : List Int) : Bool := poB l (qIs m)
def filV (l : List Rat) (m : List Int) : List Rat := poV l (qIs m)
def filE (cap : Int) (L : List Trip) (m : List Int) : Int :=
  if ckT cap L = 0 then (if parE m (L.length : Int) = 0 then (if filB (qs L) m then ckT cap (ts (filV (qs L) m)) else 2) else parE m (L.length : Int)) else ckT cap L
def filC (cap : Int) (L : List Trip) (m : List Int) : Int := if filE cap L m = 0 then cap else 0
def filL (cap : Int) (L : List Trip) (m : List Int) : List Trip := if filE cap L m = 0 then ts (filV (qs L) m) else []
/-! ### Draw -/
/-- What is taken of a part: its error, its value, what is left. -/
def tkE (p m v : Rat) : Int :=
  if mulOk p m then (if divEr (p * m) v = 0 then okE (subOk p (divOp (p * m) v)) else divEr (p * m) v) else 2
def tkX (p m v : Rat) : Rat := divOp (p * m) v
def tkY (p m v : Rat) : Rat := subOp p (tkX p m v)
theorem tkE_of {p m v : Rat} (h : tkE p m v = 0) : mulOk p m = true ∧ divEr (p * m) v = 0 ∧ subOk p (tkX p m v) = true := by
  unfold tkE at h
  by_cases h1 : mulOk p m = true
  · rw [if_pos h1] at h
    by_cases h2 : divEr (p * m) v = 0
    · rw [if_pos h2] at h; exact ⟨h1, h2, okE_zero.mp h⟩
    · rw [if_neg h2] at h; exact absurd h h2
  · rw [if_neg h1] at h; cases h
def tkF (m v : Rat) : List Rat → Int
  | [] => 0
  | p :: l => if tkE p m v = 0 then tkF m v l else tkE p m v
theorem tkF_bad {m v : Rat} : ∀ {l : List Rat} {k : Nat} {p : Rat}, l[k]? = some p → ¬ tkE p m v = 0 → (∀ (j : Nat) (u : Rat), j < k → l[j]? = some u → tkE u m v = 0) → tkF m v l = tkE p m v
  | [], _, _, h, _, _ => by simp at h
  | u :: l, 0, p, h, hb, _ => by simp at h; subst h; rw [tkF, if_neg hb]
  | u :: l, k + 1, p, h, hb, ha => by
    rw [List.getElem?_cons_succ] at h
    rw [tkF, if_pos (ha 0 u (by omega) rfl)]
    exact tkF_bad h hb fun j x hj hx => ha (j + 1) x (by omega) (by rw [List.getElem?_cons_succ]; exact hx)
theorem tkF_ok {m v : Rat} : ∀ {l : List Rat}, (∀ (j : Nat) (u : Rat), l[j]? = some u → tkE u m v = 0) → tkF m v l = 0
  | [], _ => rfl
  | u :: l, h => by
    rw [tkF, if_pos (h 0 u rfl)]
    exact tkF_ok fun j x hx => h (j + 1) x (by rw [List.getElem?_cons_succ]; exact hx)
theorem tkF_of {m v : Rat} : ∀ {l : List Rat}, tkF m v l = 0 → ∀ p ∈ l, tkE p m v = 0
  | [], _, t, ht => by simp at ht
  | u :: l, h, t, ht => by
    rw [tkF] at h
    by_cases h1 : tkE u m v = 0
    · rw [if_pos h1] at h
      rcases List.mem_cons.mp ht with rfl | ht
      · exact h1
      · exact tkF_of h t ht
    · rw [if_neg h1] at h; exact absurd h h1
/-- The errors of Draw behind Check. -/
def drM (cap : Int) (L : List Trip) (mass : Int) : Int :=
  if inM MM mass then (if cap < mass ∨ 0 < cmpG (qI mass) (sumV L) then 19 else if mass = 0 then 0 else tkF (qI mass) (sumV L) (qs L)) else 1
def drE (cap : Int) (L : List Trip) (mass : Int) : Int := if ckT cap L = 0 then drM cap L mass else ckT cap L
/-- What was taken, and what is left. -/
def drX (L : List Trip) (mass : Int) : List Rat := (qs L).map fun p => if mass = 0 then 0 else tkX p (qI mass) (sumV L)
def drY (L : List Trip) (mass : Int) : List Rat := (qs L).map fun p => if mass = 0 then p else tkY p (qI mass) (sumV L)
def drC (cap : Int) (L : List Trip) (mass : Int) : Int := if drE cap L mass = 0 then cap else 0
def drT (cap : Int) (L : List Trip) (mass : Int) : List Trip := if drE cap L mass = 0 then ts (drX L mass) else []
def drP (cap : Int) (L : List Trip) (mass : Int) : List Trip := if drE cap L mass = 0 then ts (drY L mass) else []
structure DOk (cap : Int) (L : List Trip) (mass : Int) : Prop where
  t : TOk cap L
  m0 : 0 ≤ mass
  m1 : mass ≤ MM
  mc : mass ≤ cap
  ml : ¬ 0 < cmpG (qI mass) (sumV L)
  tk : ¬ mass = 0 → ∀ p ∈ qs L, tkE p (qI mass) (sumV L) = 0
theorem drE_of {cap : Int} {L : List Trip} {mass : Int} (h : drE cap L mass = 0) : DOk cap L mass := by
  unfold drE at h
  by_cases h1 : ckT cap L = 0
  · rw [if_pos h1] at h
    unfold drM at h
    by_cases h2 : inM MM mass = true
    · rw [if_pos h2] at h
      by_cases h3 : cap < mass ∨ 0 < cmpG (qI mass) (sumV L)
      · rw [if_pos h3] at h; cases h
      · rw [if_neg h3] at h
        have h4 := inM_iff.mp h2
        refine ⟨ckT_of h1, h4.1, h4.2, by omega, fun k => h3 (Or.inr k), fun h5 => ?_⟩
        rw [if_neg h5] at h
        exact tkF_of h
    · rw [if_neg h2] at h; cases h
  · rw [if_neg h1] at h; exact absurd h h1
/-! ### Pour -/
def poE (c : Int) (L : List Trip) (d : Int) (M : List Trip) (mass : Int) : Int :=
  if ckT c L = 0 then (if ckT d M = 0 then (if L.length = M.length then (if drE c L mass = 0 then (if poB (qs M) (drX L mass) then ckT d (ts (poV (qs M) (drX L mass))) else 2) else drE c L mass) else 17) else ckT d M) else ckT c L
def poC (c : Int) (L : List Trip) (d : Int) (M : List Trip) (mass : Int) (x : Int) : Int := if poE c L d M mass = 0 then x else 0
def poX (c : Int) (L : List Trip) (d : Int) (M : List Trip) (mass : Int) : List Trip := if poE c L d M mass = 0 then ts (drY L mass) else []
def poY (c : Int) (L : List Trip) (d : Int) (M : List Trip) (mass : Int) : List Trip := if poE c L d M mass = 0 then ts (poV (qs M) (drX L mass)) else []
/-! ### Part -/
def paM (L : List Trip) (kind : Int) : Int :=
  if 0 ≤ kind ∧ kind < (L.length : Int) then (if (sumV L).num = 0 then 10 else divEr ((qs L).getD kind.toNat 0) (sumV L)) else 7
def paE (cap : Int) (L : List Trip) (kind : Int) : Int := if ckT cap L = 0 then paM L kind else ckT cap L
def paV (L : List Trip) (kind : Int) : Rat := divOp ((qs L).getD kind.toNat 0) (sumV L)
end Go.Proofs.Ytihklpkpcnahkaa.Tank
/- Tanks in memory: rows of numbers. Contracts over valid numbers. -/
namespace Go.Proofs.Ytihklpkpcnahkaa.Tank
open Go.ChangeShapes Go.WideShapes Go.RowKit Go.Lib
open Go.Proofs.Ytihklpkpcnahkaa.Rw (Rd Row Kd glt get_lt rd_one flat_len)
set_option linter.unusedVariables false
set_option maxRecDepth 100000

/-! ### Rows of numbers -/
abbrev Slc := Option Addr × Nat × Nat
abbrev sl (s : Slc) : Value := .slice s.1 s.2.1 s.2.2
abbrev Raw := Bool × Slc × Slc
abbrev cR (r : Raw) : List Value := [.bool r.1, sl r.2.1, sl r.2.2]
theorem cR_len (r : Raw) : (cR r).length = 3 := rfl
theorem info_parts {T : TypeId} {zz : Option Value} {s b : Nat} (h : (Try.prog.info? T).map (fun i => (i.zero, i.size, i.bytes)) = some (zz, s, b)) : ∃ i, Try.prog.info? T = some i ∧ i.zero = zz ∧ i.size = s ∧ i.bytes = b := by
  cases hi : Try.prog.info? T with
  | none => rw [hi] at h; cases h
  | some i => rw [hi] at h; simp at h; exact ⟨i, rfl, h.1, h.2.1, h.2.2⟩
/-- What lies in the row stands for the numbers. -/
def Ins (w : World) (R : List Raw) (L : List Trip) : Prop :=
  R.length = L.length ∧ ∀ (k : Nat) (r : Raw) (t : Trip), R[k]? = some r → L[k]? = some t → r.1 = t.1 ∧ In w (sl r.2.1) t.2.1 ∧ In w (sl r.2.2) t.2.2
theorem Ins.nil (w : World) : Ins w [] [] := ⟨rfl, fun k r t h => by simp at h⟩
theorem Ins.on {w w' : World} {R : List Raw} {L : List Trip} (h : Ins w R L) (hb : Below w.heap.size w w') : Ins w' R L :=
  ⟨h.1, fun k r t hr ht => by obtain ⟨h1, h2, h3⟩ := h.2 k r t hr ht; exact ⟨h1, h2.on hb, h3.on hb⟩⟩
theorem Ins.snoc {w : World} {R : List Raw} {L : List Trip} {r : Raw} {t : Trip} (h : Ins w R L) (h1 : r.1 = t.1) (h2 : In w (sl r.2.1) t.2.1) (h3 : In w (sl r.2.2) t.2.2) : Ins w (R ++ [r]) (L ++ [t]) := by
  refine ⟨by rw [List.length_append, List.length_append, h.1]; rfl, fun k x u hx hu => ?_⟩
  rcases Nat.lt_or_ge k R.length with hk | hk
  · rw [List.getElem?_append_left hk] at hx
    rw [List.getElem?_append_left (by rw [← h.1]; exact hk)] at hu
    exact h.2 k x u hx hu
  · rw [List.getElem?_append_right hk] at hx
    rw [List.getElem?_append_right (by rw [← h.1]; exact hk)] at hu
    rw [← h.1] at hu
    obtain ⟨j, hj⟩ : ∃ j, k - R.length = j := ⟨_, rfl⟩
    rw [hj] at hx hu
    cases j with
    | zero => simp at hx hu; subst hx; subst hu; exact ⟨h1, h2, h3⟩
    | succ j => simp at hx
theorem Ins.rats {w : World} {A : Option Addr} {R : List Raw} {L : List Trip} (h : Rd cR 3 w A R) (hi : Ins w R L) : Rats w A L := by
  intro k t ht
  obtain ⟨r, hr⟩ := get_lt (L := R) (k := k) (by rw [hi.1]; exact glt ht)
  obtain ⟨b, off, e, hlt, hc⟩ := h k r hr
  obtain ⟨h1, h2, h3⟩ := hi.2 k r t hr ht
  obtain ⟨A1, c1, e1, i1⟩ := in_open h2
  obtain ⟨A2, c2, e2, i2⟩ := in_open h3
  have c0 := hc 0 _ rfl
  have c1' := hc 1 _ rfl
  have c2' := hc 2 _ rfl
  rw [Nat.add_zero, h1] at c0
  rw [show sl r.2.1 = _ from e1] at c1'
  rw [show sl r.2.2 = _ from e2] at c2'
  exact ⟨b, off, A1, c1, A2, c2, e, hlt, ⟨c0, c1', c2'⟩, i1, i2⟩
theorem Rats.nil (w : World) (A : Option Addr) : Rats w A [] := fun k t h => by simp at h
theorem Rats.at_ {w : World} {A : Option Addr} {L : List Trip} (h : Rats w A L) {k : Nat} {t : Trip} (ht : L[k]? = some t) : ∃ b off A1 c1 A2 c2, A = some ⟨b, off, none⟩ ∧ b < w.heap.size ∧
    w.cell? ⟨b, off + k * 3, none⟩ = some (.bool t.1) ∧ w.cell? ⟨b, off + k * 3 + 1, none⟩ = some (.slice A1 t.2.1.length c1) ∧ w.cell? ⟨b, off + k * 3 + 2, none⟩ = some (.slice A2 t.2.2.length c2) ∧ InR w (.agg #[.bool t.1, .slice A1 t.2.1.length c1, .slice A2 t.2.2.length c2]) t.1 t.2.1 t.2.2 := by
  obtain ⟨b, off, A1, c1, A2, c2, e, hlt, ⟨h0, h1, h2⟩, i1, i2⟩ := h k t ht
  exact ⟨b, off, A1, c1, A2, c2, e, hlt, h0, h1, h2, _, _, rfl, i1, i2⟩
/-- A tank's value. -/
def InT (w : World) (v : Value) (cap : Int) (L : List Trip) : Prop := ∃ A c, v = .agg #[.int .i64 cap, .slice A L.length c] ∧ L.length ≤ 9223372036854775807 ∧ Rats w A L
theorem InT.on {w w' : World} {v : Value} {cap : Int} {L : List Trip} (h : InT w v cap L) (hb : Below w.heap.size w w') : InT w' v cap L := by
  obtain ⟨A, c, e, hl, hr⟩ := h; exact ⟨A, c, e, hl, hr.on hb⟩
theorem InT.zero (w : World) : InT w (.agg #[.int .i64 0, .slice none 0 0]) 0 [] := ⟨none, 0, rfl, by simp, Rats.nil _ _⟩
/-- A tank and an error. -/
def TRes (w : World) (err cap : Int) (L : List Trip) (e : Ending) (w' : World) : Prop := ∃ v, e = .returned (.tuple #[v, .int .i64 err]) ∧ InT w' v cap L ∧ Below w.heap.size w w'
theorem TRes.none_ {w w' : World} {err : Int} (hb : Below w.heap.size w w') : TRes w err 0 [] (.returned (.tuple #[.agg #[.int .i64 0, .slice none 0 0], .int .i64 err])) w' := ⟨_, rfl, InT.zero _, hb⟩
/-- A number's value, cell by cell. -/
theorem inR_open {w : World} {v : Value} {b : Bool} {xs ys : List Int} (h : InR w v b xs ys) : ∃ A c B d, v = .agg #[.bool b, .slice A xs.length c, .slice B ys.length d] ∧ In w (.slice A xs.length c) xs ∧ In w (.slice B ys.length d) ys := by
  obtain ⟨vp, vq, rfl, h1, h2⟩ := h
  obtain ⟨A, c, rfl, i1⟩ := in_open h1
  obtain ⟨B, d, rfl, i2⟩ := in_open h2
  exact ⟨A, c, B, d, rfl, i1, i2⟩
theorem RRes.op {w : World} {err : Int} {r : Rat} {e : Ending} {w' : World} (h : RRes w err r e w') : ∃ b A n c B m d, e = .returned (.tuple #[.agg #[.bool b, .slice A n c, .slice B m d], .int .i64 err]) ∧ OutR w' (.agg #[.bool b, .slice A n c, .slice B m d]) err r ∧ Below w.heap.size w w' := by
  obtain ⟨v, rfl, ho, hb⟩ := h
  have h1 : ∃ b xs ys, InR w' v b xs ys := by
    unfold OutR at ho
    split at ho
    · exact ⟨_, _, _, ho⟩
    · exact ⟨_, _, _, ho⟩
  obtain ⟨b, xs, ys, hi⟩ := h1
  obtain ⟨A, c, B, d, rfl, -, -⟩ := inR_open hi
  exact ⟨b, A, _, c, B, _, d, rfl, ho, hb⟩
theorem IsR.cells {w : World} {b : Bool} {A B : Option Addr} {n c m d : Nat} {r : Rat} (h : IsR w (.agg #[.bool b, .slice A n c, .slice B m d]) r) : b = negR r ∧ In w (.slice A n c) (topL r) ∧ In w (.slice B m d) (botL r) := by
  obtain ⟨vp, vq, e, h1, h2⟩ := h
  simp only [Value.agg.injEq, Array.mk.injEq, List.cons.injEq, Value.bool.injEq, and_true] at e
  obtain ⟨e1, e2, e3⟩ := e
  subst e1; subst e2; subst e3
  exact ⟨rfl, h1, h2⟩
/-! ### Appends -/
theorem cR_noI (z : Raw) : ∀ u ∈ cR z, Rw.noI u := fun u hu => by
  simp at hu
  rcases hu with h | h | h <;> subst h <;> intro k z e <;> cases e
theorem In.grown {w w' : World} {rv v : Value} {zs : List Int} (h : In w v zs) (hg : w.grownBy w' rv.ownBlock) (hn : Rw.NoI w rv) : In w' v zs := by
  obtain ⟨A, c, rfl, h1, h2, h3⟩ := h
  refine ⟨A, c, rfl, h1, h2, fun k z hz => ?_⟩
  obtain ⟨b, off, hA, hlo, hlt, hc⟩ := h3 k z hz
  refine ⟨b, off, hA, ⟨Nat.zero_le _, Or.inl rfl⟩, Nat.lt_of_lt_of_le hlt hg.size, ?_⟩
  by_cases hb : rv.ownBlock = some b
  · exact absurd hc (hn b hb _ _ _)
  · exact (World.cell?_of_block (a := ⟨b, off + k, none⟩) (hg.block b hlt fun e => hb e.symm)).trans hc
theorem Ins.grown {w w' : World} {rv : Value} {R : List Raw} {L : List Trip} (h : Ins w R L) (hg : w.grownBy w' rv.ownBlock) (hn : Rw.NoI w rv) : Ins w' R L :=
  ⟨h.1, fun k r t hr ht => by obtain ⟨h1, h2, h3⟩ := h.2 k r t hr ht; exact ⟨h1, In.grown h2 hg hn, In.grown h3 hg hn⟩⟩
theorem Ins.set {w : World} {R : List Raw} {L : List Trip} (h : Ins w R L) {p : Addr} {u : Value} (hx : w.cell? p = some u) (hu : ∀ z, u ≠ .int .i64 z) (x : Value) : Ins (w.setCell p x) R L :=
  ⟨h.1, fun k r t hr ht => by obtain ⟨h1, h2, h3⟩ := h.2 k r t hr ht; exact ⟨h1, h2.set hx hu x, h3.set hx hu x⟩⟩
/-- A store into a tank that is still the zero value: no limbs of a valid number lie there (the last limb is not 0). -/
theorem In.tank {w : World} {v : Value} {zs : List Int} {g : Nat} {A : Option Addr} {n c : Nat} (h : In w v zs) (hv : validB zs = true) (hc : Rw.Cel w g [.int .i64 0, .slice A n c]) (x y : Value) : In ((w.setCell ⟨g, 0, none⟩ x).setCell ⟨g, 1, none⟩ y) v zs := by
  obtain ⟨c0, c1⟩ := hc.two
  have h2 : In (w.setCell ⟨g, 0, none⟩ x) v zs := by
    obtain ⟨A', d, rfl, h1, h2, h3⟩ := h
    refine ⟨A', d, rfl, h1, h2, fun k z hz => ?_⟩
    obtain ⟨b, off, hA, hlo, hlt, hcell⟩ := h3 k z hz
    refine ⟨b, off, hA, ⟨Nat.zero_le _, Or.inl rfl⟩, by simpa using hlt, ?_⟩
    rw [World.cell?_setCell_other w ⟨g, 0, none⟩ ⟨b, off + k, none⟩ x ?_]
    · exact hcell
    · intro e
      simp only [Addr.mk.injEq, and_true] at e
      obtain ⟨rfl, e2⟩ := e
      have hk : k = 0 := by omega
      have ho : off = 0 := by omega
      subst hk; subst ho
      rw [c0] at hcell
      cases hcell
      match zs, hz with
      | [z0], hz => simp at hz; subst hz; exact absurd hv (by decide)
      | z0 :: z1 :: l, hz =>
        obtain ⟨b', off', hA', -, -, hc'⟩ := h3 1 z1 rfl
        rw [hA] at hA'
        cases hA'
        rw [show (0 + 1 : Nat) = 1 from rfl, c1] at hc'
        cases hc'
  have c1' : (w.setCell ⟨g, 0, none⟩ x).cell? ⟨g, 1, none⟩ = some (.slice A n c) := (hc.set 0 x).two.2
  exact h2.set c1' (fun z e => by cases e) y
theorem vT_valid {t : Trip} (h : vT t = true) : validB t.2.1 = true ∧ validB t.2.2 = true := ⟨(val_parts h).1, (val_parts h).2.1⟩
theorem Ins.tank {w : World} {R : List Raw} {L : List Trip} {g : Nat} {A : Option Addr} {n c : Nat} (h : Ins w R L) (hv : ∀ t ∈ L, vT t = true) (hc : Rw.Cel w g [.int .i64 0, .slice A n c]) (x y : Value) : Ins ((w.setCell ⟨g, 0, none⟩ x).setCell ⟨g, 1, none⟩ y) R L :=
  ⟨h.1, fun k r t hr ht => by
    obtain ⟨h1, h2, h3⟩ := h.2 k r t hr ht
    obtain ⟨v1, v2⟩ := vT_valid (hv t (List.mem_of_getElem? ht))
    exact ⟨h1, In.tank h2 v1 hc x y, In.tank h3 v2 hc x y⟩⟩
/-! ### Contracts over valid numbers -/
end Go.Proofs.Ytihklpkpcnahkaa.Tank
/- Same, zero, Check, Level of the reference. -/
namespace Go.Proofs.Ytihklpkpcnahkaa.Tank
open Go.ChangeShapes Go.WideShapes Go.RowKit Go.Lib
open Go.Proofs.Ytihklpkpcnahkaa.Rw (Rd Row Kd glt get_lt rd_one flat_len below_alloc bstep wrap_id below_drewN below_drew drew_below)
set_option linter.unusedVariables false
set_option maxRecDepth 100000

theorem ne_zero {E : Int} (h : ¬ E = 0) : (E == 0) = false ∧ (E != 0) = true := by
  have h1 : (E == 0) = false := beq_false_of_ne h
  exact ⟨h1, by rw [bne, h1]; rfl⟩
theorem cel_root {w : World} {g : Nat} {u0 u1 u2 : Value} (h : Rw.Cel w g [u0, u1, u2]) : Cel w g u0 u1 u2 := ⟨h.three, h.warm3⟩
theorem qI_zero : qI 0 = 0 := mkV_zero
end Go.Proofs.Ytihklpkpcnahkaa.Tank
/- Parts of the program's fibre (gen17/m.py out of FibreH). -/
namespace Go.Proofs.Ytihklpkpcnahkaa.Tank
open Go.ChangeShapes Go.WideShapes Go.RowKit Go.Lib
open Go.Proofs.Ytihklpkpcnahkaa.Mem (Cl eI Own)
open Go.Proofs.Ytihklpkpcnahkaa.Rw (glt get_lt ret_bool ret_int wrap_id bstep below_drewN below_drew drew_below below_alloc)
set_option linter.unusedVariables false
set_option maxRecDepth 100000

/-- The error of a number. -/
def nuE (most z : Int) : Int := if inM most z then 0 else 1
theorem nuE_ok {most z : Int} (h : inM most z = true) : nuE most z = 0 := by unfold nuE; rw [h]; rfl
theorem nuE_bad {most z : Int} (h : inM most z = false) : nuE most z = 1 := by unfold nuE; rw [h]; rfl
theorem nuE_zero {most z : Int} (h : nuE most z = 0) : inM most z = true := by
  cases hz : inM most z with
  | true => rfl
  | false => rw [nuE_bad hz] at h; cases h
theorem tp_checkNumber (z most : Int) (w : World) :
    Calls Try.prog 44 #[.int .i64 z, .int .i64 most] w fun e w' => e = .returned (.int .i64 (nuE most z)) ∧ w = w' := by
  rcases Int.lt_or_le z 0 with h0 | h0
  · have t0 : decide (z < 0) = true := decide_eq_true h0
    rw [nuE_bad (Bool.eq_false_iff.mpr fun h => by have := inM_iff.mp h; omega)]
    clear h0
    go_enter Try.func44, Try.ntmps44
    go_wp2_with fail
    go_ret
    exact ⟨rfl, rfl⟩
  have t0 : decide (z < 0) = false := decide_eq_false (by omega)
  rcases Int.lt_or_le most z with h1 | h1
  · have t1 : decide (most < z) = true := decide_eq_true h1
    rw [nuE_bad (Bool.eq_false_iff.mpr fun h => by have := inM_iff.mp h; omega)]
    clear h0 h1
    go_enter Try.func44, Try.ntmps44
    go_wp2_with fail
    go_ret
    exact ⟨rfl, rfl⟩
  have t1 : decide (most < z) = false := decide_eq_false (by omega)
  rw [nuE_ok (inM_iff.mpr ⟨h0, h1⟩)]
  clear h0 h1
  go_enter Try.func44, Try.ntmps44
  go_wp2_with fail
  go_ret
  exact ⟨rfl, rfl⟩

theorem tp_clo (b : Nat) (most z : Int) (w : World) (hc : w.cell? ⟨b, 0, none⟩ = some (.int .i64 most)) :
    Calls Try.prog 43 #[.int .i64 z, .pointer (some ⟨b, 0, none⟩)] w fun e w' => e = .returned (.int .i64 (nuE most z)) ∧ w = w' := by
  have HC := Lib.hid (tp_checkNumber z most w)
  go_enter Try.func43, Try.ntmps43
  go_wp2_with fail
  refine HC.out.mono ?_
  rintro e w' ⟨rfl, rfl⟩
  go_wp2_with fail
  go_ret
  exact ⟨rfl, rfl⟩

/-- The first error of a list. -/
def firG (g : Int → Int) : List Int → Int
  | [] => 0
  | z :: l => if g z = 0 then firG g l else g z
theorem firG_bad {g : Int → Int} : ∀ {l : List Int} {k : Nat} {z : Int}, l[k]? = some z → ¬ g z = 0 → (∀ (j : Nat) (y : Int), j < k → l[j]? = some y → g y = 0) → firG g l = g z
  | [], _, _, h, _, _ => by simp at h
  | y :: l, 0, z, h, hb, _ => by simp at h; subst h; rw [firG, if_neg hb]
  | y :: l, k + 1, z, h, hb, ha => by
    rw [List.getElem?_cons_succ] at h
    rw [firG, if_pos (ha 0 y (by omega) rfl)]
    exact firG_bad h hb fun j x hj hx => ha (j + 1) x (by omega) (by rw [List.getElem?_cons_succ]; exact hx)
theorem firG_ok {g : Int → Int} : ∀ {l : List Int}, (∀ (j : Nat) (y : Int), l[j]? = some y → g y = 0) → firG g l = 0
  | [], _ => rfl
  | y :: l, h => by
    rw [firG, if_pos (h 0 y rfl)]
    exact firG_ok fun j x hx => h (j + 1) x (by rw [List.getElem?_cons_succ]; exact hx)
theorem firG_nu {most : Int} {l : List Int} : firG (nuE most) l = if l.all (inM most) then 0 else 1 := by
  induction l with
  | nil => rfl
  | cons z l ih =>
    rw [firG, List.all_cons, ih]
    cases hz : inM most z with
    | true => rw [nuE_ok hz, if_pos rfl, Bool.true_and]
    | false => rw [nuE_bad hz, Bool.false_and]; rfl

/-- A function that answers of an integer as long as I holds of the memory. -/
structure Ans (fn : Nat) (ba ca : Array Value) (g : Int → Int) (I : World → Prop) : Prop where
  eg : ∀ args w, (callFunc fn args).run Try.prog w = .ok (.enter fn args) w
  run : ∀ z W, I W → Calls Try.prog fn (ba ++ #[.int .i64 z] ++ ca) W fun e W' => e = .returned (.int .i64 (g z)) ∧ W = W'
set_option maxHeartbeats 800000 in
theorem tvisit_int {fn : Nat} {ba ca : Array Value} {g : Int → Int} {I : World → Prop} (hv : Ans fn ba ca g I) (l : List Int) (A : Option Addr) (n c : Nat) (hn : n = l.length) (w : World) (ha : Cl eI w A l) (hI : I w) (hm : n ≤ 9223372036854775807) :
    Calls Try.prog 42 #[.slice A n c, .func (.func fn) ba ca] w fun e w' => e = .returned (.int .i64 (firG g l)) ∧ w = w' := by
  have HA := Lib.hid ha
  have HN := Lib.hid hn
  have HV := Lib.hid fun z => hv.run z w hI
  have eg := hv.eg
  obtain ⟨E, hE⟩ : ∃ E, firG g l = E := ⟨_, rfl⟩
  rw [hE]
  have HE := Lib.hid hE
  clear ha hn hv hI hE
  go_enter Try.func42, Try.ntmps42
  go_wp2_with fail
  go_loopw [10, 6, 7] (fun i _ _ wr => ∃ k : Nat, k ≤ n ∧ i = .int .i64 k ∧ (∀ (j : Nat) (y : Int), j < k → l[j]? = some y → g y = 0) ∧ wr = w) (fun i _ _ _ => n - (RowKit.intOf i).toNat)
  case atStart => exact ⟨0, Nat.zero_le _, rfl, fun j z h => absurd h (by omega), rfl⟩
  case round =>
    obtain ⟨k, hk, rfl, hg, rfl⟩ := hrel
    have HG := Lib.hid hg
    clear hg
    rcases Nat.lt_or_ge k n with hlt | hge
    · obtain ⟨z, hz⟩ := get_lt (L := l) (k := k) (by have := HN.out; omega)
      obtain ⟨b, off, rfl, hb, e0⟩ := cl_at HA.out hz
      have HZ := Lib.hid hz
      have i1 : (k : Int) < (n : Int) := by omega
      have i2 : (0 : Int) ≤ (k : Int) := by omega
      have HR := Lib.hid (HV.out z)
      obtain ⟨F, hF⟩ : ∃ F, g z = F := ⟨_, rfl⟩
      rw [hF] at HR
      have HF := Lib.hid hF
      clear hz hF
      by_cases hz : F = 0
      · subst hz
        go_wp2_with (go_at_fn fn; refine HR.out.mono ?_; rintro e w5 ⟨rfl, rfl⟩)
        go_roundw
        case rel =>
          refine ⟨k + 1, by omega, by go_num, ?_, trivial⟩
          intro j y hj hy
          rcases Nat.lt_or_eq_of_le (Nat.le_of_lt_succ hj) with h | h
          · exact HG.out j y h hy
          · subst h
            have e := HZ.out
            rw [hy] at e; cases e; exact HF.out
        case measure => simp [RowKit.intOf]; omega
      · obtain ⟨z1, z2⟩ := ne_zero hz
        obtain rfl : E = F := by rw [← HE.out, ← HF.out]; exact firG_bad HZ.out (by rw [HF.out]; exact hz) HG.out
        clear hz
        go_wp2_with (go_at_fn fn; refine HR.out.mono ?_; rintro e w5 ⟨rfl, rfl⟩)
        go_ret
        exact ⟨rfl, rfl⟩
    · obtain rfl : k = n := by omega
      obtain rfl : E = 0 := by rw [← HE.out]; exact firG_ok fun j y hy => HG.out j y (by rw [HN.out]; exact glt hy) hy
      go_wp2_with fail
      go_ret
      exact ⟨rfl, rfl⟩

set_option maxHeartbeats 800000 in
theorem tp_checkList (l : List Int) (A : Option Addr) (n c : Nat) (hn : n = l.length) (kinds most : Int) (w : World) (ha : Cl eI w A l) (hm : n ≤ 9223372036854775807) :
    Calls Try.prog 37 #[.slice A n c, .int .i64 kinds, .int .i64 most] w fun e w' => e = .returned (.int .i64 (lisE l kinds most)) ∧ Below w.heap.size w w' := by
  have HA := Lib.hid ha
  have HN := Lib.hid hn
  obtain ⟨E, hE⟩ : ∃ E, lisE l kinds most = E := ⟨_, rfl⟩
  rw [hE]
  have HE := Lib.hid hE
  clear ha
  rcases Int.lt_or_le kinds 1 with h0 | h0
  · have d0 : decide (kinds < 1) = true := decide_eq_true h0
    obtain rfl : E = 17 := by rw [← hE]; exact lisE_no (Bool.eq_false_iff.mpr fun h => by have := kiB_iff.mp h; omega)
    clear h0 hE hn
    go_enter Try.func37, Try.ntmps37
    go_wp2_with fail
    go_ret
    exact ⟨rfl, below_alloc _ _⟩
  have d0 : decide (kinds < 1) = false := decide_eq_false (by omega)
  rcases Int.lt_or_le 8 kinds with h1 | h1
  · have d1 : decide (8 < kinds) = true := decide_eq_true h1
    obtain rfl : E = 17 := by rw [← hE]; exact lisE_no (Bool.eq_false_iff.mpr fun h => by have := kiB_iff.mp h; omega)
    clear h0 h1 hE hn
    go_enter Try.func37, Try.ntmps37
    go_wp2_with fail
    go_ret
    exact ⟨rfl, below_alloc _ _⟩
  have d1 : decide (8 < kinds) = false := decide_eq_false (by omega)
  by_cases h2 : (n : Int) = kinds
  rotate_left
  · have d2 : ((n : Int) != kinds) = true := by simpa using h2
    have d3 : ((n : Int) == kinds) = false := by simpa using h2
    obtain rfl : E = 17 := by rw [← hE]; exact lisE_no (Bool.eq_false_iff.mpr fun h => by have := kiB_iff.mp h; omega)
    clear h0 h1 h2 hE hn
    go_enter Try.func37, Try.ntmps37
    go_wp2_with fail
    go_ret
    exact ⟨rfl, below_alloc _ _⟩
  have hK : kiB l kinds = true := kiB_iff.mpr ⟨h0, h1, by omega⟩
  have HF : Hid (E = firG (nuE most) l) := Lib.hid (by rw [← hE, firG_nu]; unfold lisE; rw [if_pos hK])
  have HV : Hid (Ans 43 #[] #[.pointer (some ⟨w.heap.size, 0, none⟩)] (nuE most) (fun W => W.cell? ⟨w.heap.size, 0, none⟩ = some (.int .i64 most))) := Lib.hid ⟨enters_of Try.func43 (by kernel_rfl) rfl, fun z W h => tp_clo _ _ _ _ h⟩
  subst h2
  have d2 : ((n : Int) != (n : Int)) = false := by simp
  have d3 : ((n : Int) == (n : Int)) = true := by simp
  clear h0 h1 hE hn hK
  go_enter Try.func37, Try.ntmps37
  go_upto_region 1 with fail
  generalize hw1 : w.alloc (.cells #[.int .i64 most] 3) = w1
  have HB1 : Hid (Below w.heap.size w w1) := hw1 ▸ below_alloc _ _
  have HC1 : Hid (Rw.Cel w1 w.heap.size [.int .i64 most]) := hw1 ▸ Rw.Cel.new _ [_] _
  have HVi := Lib.hid (tvisit_int HV.out l A n c HN.out w1 (HA.out.on HB1.out) (HC1.out.at_ 0 _ rfl) hm)
  clear hw1
  go_wp2_with fail
  refine HVi.out.mono ?_
  rintro e w2 ⟨rfl, rfl⟩
  go_wp2_with fail
  go_ret
  exact ⟨ret_int HF.out.symm, HB1.out⟩
theorem q_Parts (m : List Int) (A : Option Addr) (n c : Nat) (hn : n = m.length) (kinds : Int) (w : World) (ha : Cl eI w A m) (hm : n ≤ 9223372036854775807) :
    Calls Try.prog 31 #[.slice A n c, .int .i64 kinds] w fun e w' => e = .returned (.int .i64 (parE m kinds)) ∧ Below w.heap.size w w' := by
  have HL := Lib.hid (tp_checkList m A n c hn kinds MM w ha hm)
  clear ha hn
  go_enter Try.func31, Try.ntmps31
  go_wp2_with fail
  refine HL.out.mono ?_
  rintro e w1 ⟨rfl, hb⟩
  have B1 := Lib.hid hb
  clear hb
  go_wp2_with fail
  go_ret
  exact ⟨rfl, B1.out⟩
end Go.Proofs.Ytihklpkpcnahkaa.Tank
/- The program: fibre.Parts, fibre.Total; share.Split of a valid plug. -/
namespace Go.Proofs.Ytihklpkpcnahkaa.Pipe
open Go.ChangeShapes Go.WideShapes Go.RowKit Go.Lib
open Go.Proofs.Ytihklpkpcnahkaa.Mem (Cl eI Own)
open Go.Proofs.Ytihklpkpcnahkaa.Vec (sumZ)
open Go.Proofs.Ytihklpkpcnahkaa.Share (mx tot_all allIn_of cl_holds partsL splL errS ResL share_split)
open Go.Proofs.Ytihklpkpcnahkaa.Num (num_sum)
open Go.Proofs.Ytihklpkpcnahkaa.Fibre (MM)
open Go.Proofs.Ytihklpkpcnahkaa.Rw (glt get_lt bstep)
set_option linter.unusedVariables false
set_option maxRecDepth 100000

theorem p_Parts (m : List Int) (A : Option Addr) (n c : Nat) (hn : n = m.length) (kinds : Int) (w : World) (ha : Cl eI w A m) (hm : n ≤ 9223372036854775807) :
    Calls Try.prog 31 #[.slice A n c, .int .i64 kinds] w fun e w' => e = .returned (.int .i64 (Fibre.parE m kinds)) ∧ Below w.heap.size w w' := Tank.q_Parts m A n c hn kinds w ha hm
theorem p_sum (l : List Int) (A : Option Addr) (n c : Nat) (hn : n = l.length) (w : World) (ha : Cl eI w A l) (hl : n ≤ 8) (hz : ∀ z ∈ l, 0 ≤ z ∧ z ≤ MM) :
    Calls Try.prog 38 #[.slice A n c] w fun e w' => e = .returned (.tuple #[.int .i64 (Fibre.sumZ l), .int .i64 0]) ∧ Below w.heap.size w w' := by
  subst hn
  have hM : MM = 1099511627776 := rfl
  have hX : mx = 1125899906842624 := rfl
  have h1 : Num.allIn l = true := allIn_of fun z h => by have := hz z h; rw [hX]; omega
  have h2 := Fibre.sumZ_lim (by decide) hz hl
  rw [hM] at h2
  have h3 : Num.tot l = Fibre.sumZ l := tot_all l
  have hV : Num.sumV l = Fibre.sumZ l := by rw [Num.sumV_all (by omega) h1, h3]; exact Num.okV_yes (by omega) (by omega)
  have hE : Num.sumE l = 0 := by rw [Num.sumE_all (by omega) h1, h3]; exact Num.okE_yes (by omega) (by omega)
  have h := num_sum l A c w (cl_holds ha) (by omega)
  rw [hV, hE] at h
  exact h
set_option maxHeartbeats 800000 in
theorem p_Total (m : List Int) (A : Option Addr) (n c : Nat) (hn : n = m.length) (w : World) (ha : Cl eI w A m) (hm : n ≤ 9223372036854775807) :
    Calls Try.prog 32 #[.slice A n c] w fun e w' => e = .returned (.tuple #[.int .i64 (Fibre.totV m), .int .i64 (Fibre.totE m)]) ∧ Below w.heap.size w w' := by
  have HA := Lib.hid ha
  have HP := Lib.hid (p_Parts m A n c hn n w ha hm)
  obtain ⟨F, hF⟩ : ∃ F, Fibre.totE m = F := ⟨_, rfl⟩
  have hF2 : Fibre.parE m (n : Int) = F := by rw [hn]; exact hF
  rw [hF2] at HP
  by_cases hz : F = 0
  rotate_left
  · obtain ⟨z1, z2⟩ := nz hz
    have he : Fibre.totV m = 0 := if_neg (by rw [hF]; exact hz)
    rw [he, hF]
    clear ha hn hF hF2 hz he
    go_enter Try.func32, Try.ntmps32
    go_wp2_with fail
    refine HP.out.mono ?_
    rintro e w1 ⟨rfl, hb⟩
    have B1 := Lib.hid hb
    clear hb
    go_wp2_with fail
    go_ret2
    exact ⟨rfl, B1.out⟩
  subst hz
  obtain ⟨h1, h2, h3, h4⟩ := Fibre.lisE_of hF2
  have HS := Lib.hid fun (W : World) (h : Cl eI W A m) => p_sum m A n c hn W h (by omega) h4
  have he : Fibre.totV m = Fibre.sumZ m := if_pos hF
  rw [he, hF]
  obtain ⟨S, hS⟩ : ∃ S, Fibre.sumZ m = S := ⟨_, rfl⟩
  rw [hS] at HS
  rw [hS]
  clear ha hn hF hF2 h1 h2 h3 h4 hS he
  go_enter Try.func32, Try.ntmps32
  go_wp2_with fail
  refine HP.out.mono ?_
  rintro e w1 ⟨rfl, hb⟩
  have B1 := Lib.hid hb
  clear hb
  go_wp2_with fail
  refine (HS.out w1 (HA.out.on B1.out)).mono ?_
  rintro e w2 ⟨rfl, hb⟩
  have B2 := Lib.hid (bstep B1.out hb)
  clear hb
  go_wp2_with fail
  go_ret2
  exact ⟨rfl, B2.out⟩
/-- Total of a valid plug. -/
theorem p_total (kinds : Nat) (l : List Int) (h : Pg kinds l) (h1 : 1 ≤ kinds) (h8 : kinds ≤ 8) (A : Option Addr) (n c : Nat) (hn : n = l.length) (w : World) (ha : Cl eI w A l) :
    Calls Try.prog 32 #[.slice A n c] w fun e w' => e = .returned (.tuple #[.int .i64 (sumZ l), .int .i64 0]) ∧ Below w.heap.size w w' := by
  have h2 := p_Total l A n c hn w ha (by have := h.len; omega)
  have he : Fibre.totE l = 0 := by
    have := (h.err h1 h8).1
    unfold Fibre.totE
    show Fibre.parE l (l.length : Int) = 0
    rw [h.len]; exact this
  have hv : Fibre.totV l = sumZ l := if_pos he
  rw [he, hv] at h2
  exact h2
end Go.Proofs.Ytihklpkpcnahkaa.Pipe
