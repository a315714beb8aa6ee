/- Contracts of nat.Cmp, nat.Add, nat.Sub. -/
import Derived.Test.YtmbpcjnlniidkaaDoorNatG
namespace Go.Proofs.YtmbpcjnlniidkaaDoor
open Go.ChangeShapes Go.WideShapes Go.RowKit
set_option linter.unusedVariables false

/-- A slice that is there: it holds the integers zs. -/
def In (w : World) (v : Value) (zs : List Int) : Prop := Sl w 0 w.heap.size v zs
theorem Sl.below {w w' : World} {B lo hi : Nat} {v : Value} {zs : List Int} (h : Sl w lo hi v zs) (hb : Below B w w') (hB : hi ≤ B) : Sl w' lo hi v zs := by
  obtain ⟨A, c, rfl, h1, h2, h3⟩ := h
  exact ⟨A, c, rfl, h1, h2, Holds.below h3 hb hB⟩
theorem Sl.more {w : World} {lo hi lo' hi' : Nat} {v : Value} {zs : List Int} (h : Sl w lo hi v zs) (hl : lo' ≤ lo) (hh : hi ≤ hi') : Sl w lo' hi' v zs := by
  obtain ⟨A, c, rfl, h1, h2, h3⟩ := h
  exact ⟨A, c, rfl, h1, h2, Holds.more h3 hl hh⟩
theorem In.below {w w' : World} {B : Nat} {v : Value} {zs : List Int} (h : In w v zs) (hb : Below B w w') (hB : w.heap.size ≤ B) : In w' v zs :=
  (Sl.below h hb hB).more (Nat.le_refl _) hb.size
theorem Sl.toIn {w : World} {lo : Nat} {v : Value} {zs : List Int} (h : Sl w lo w.heap.size v zs) : In w v zs := h.more (Nat.zero_le _) (Nat.le_refl _)
theorem In.nil (w : World) : In w (.slice none 0 0) [] := ⟨none, 0, rfl, Nat.le_refl _, by unfold maxLen; omega, fun k z hz => by simp at hz⟩
theorem Sl.nil (w : World) (lo hi : Nat) : Sl w lo hi (.slice none 0 0) [] := ⟨none, 0, rfl, Nat.le_refl _, by unfold maxLen; omega, fun k z hz => by simp at hz⟩

/-- What a function that returns a number and an error leaves. -/
def Res (w : World) (N : Nat) (err : Int) (e : Ending) (w' : World) : Prop :=
  ∃ v, e = .returned (.tuple #[v, .int .i64 err]) ∧ Sl w' w.heap.size w'.heap.size v (limbs N) ∧ Below w.heap.size w w'
theorem Res.none {w w' : World} {N : Nat} {err err' : Int} {e : Ending} (hN : N = 0) (he : err = err') (h : e = .returned (.tuple #[.slice none 0 0, .int .i64 err'])) (hb : Below w.heap.size w w') : Res w N err e w' := by
  subst hN he h
  exact ⟨_, rfl, by rw [limbs_zero]; exact Sl.nil _ _ _, hb⟩

def both (xs ys : List Int) : Bool := validB xs && validB ys
def cmpV (xs ys : List Int) : Int := if both xs ys then cmpI (nval xs) (nval ys) else 0
def formE (xs ys : List Int) : Int := if both xs ys then 0 else 3
theorem both_cases (xs ys : List Int) : (validB xs = false ∧ both xs ys = false) ∨ (validB xs = true ∧ validB ys = false ∧ both xs ys = false) ∨ (validB xs = true ∧ validB ys = true ∧ both xs ys = true) := by
  cases hx : validB xs <;> cases hy : validB ys <;> simp [both, hx, hy]
theorem valid_len {xs : List Int} (h : validB xs = true) : xs.length ≤ 48 := (validB_iff.mp h).1
theorem valid_nrm {xs : List Int} (h : validB xs = true) : nrm xs = true := (validB_iff.mp h).2
theorem valid_lok {xs : List Int} (h : validB xs = true) : lok xs = true := nrm_lok (valid_nrm h)

set_option maxHeartbeats 800000 in
theorem nat_Cmp (xs ys : List Int) (va vb : Value) (w : World) (ha : In w va xs) (hb : In w vb ys) :
    Calls Tryd.prog 25 #[va, vb] w fun e w' => e = .returned (.tuple #[.int .i64 (cmpV xs ys), .int .i64 (formE xs ys)]) ∧ Below w.heap.size w w' := by
  obtain ⟨A, c, rfl, hc, hm, hA⟩ := ha
  obtain ⟨B, d, rfl, hd, hn, hB⟩ := hb
  have HA := Lib.hid hA
  have HB := Lib.hid hB
  have hm1 : xs.length ≤ 9223372036854775807 := Nat.le_trans hc hm
  have hm2 : ys.length ≤ 9223372036854775807 := Nat.le_trans hd hn
  clear hA hB hm hn
  rcases both_cases xs ys with ⟨hx, hbo⟩ | ⟨hx, hy, hbo⟩ | ⟨hx, hy, hbo⟩
  · have HBO := Lib.hid hbo
    clear hbo
    go_enter Tryd.func25, Tryd.ntmps25
    go_wp2_with fail
    refine (nat_Valid xs A c _ _ w HA.out hm1).mono ?_
    rintro e w' ⟨rfl, rfl⟩
    go_wp2_with fail
    go_ret2
    exact ⟨ret_two (by rw [cmpV, HBO.out]; rfl) (by rw [formE, HBO.out]; rfl), Below.refl _ _⟩
  · have HBO := Lib.hid hbo
    clear hbo
    go_enter Tryd.func25, Tryd.ntmps25
    go_wp2_with fail
    refine (nat_Valid xs A c _ _ w HA.out hm1).mono ?_
    rintro e w' ⟨rfl, rfl⟩
    go_wp2_with fail
    refine (nat_Valid ys B d _ _ _ HB.out hm2).mono ?_
    rintro e w' ⟨rfl, rfl⟩
    go_wp2_with fail
    go_ret2
    exact ⟨ret_two (by rw [cmpV, HBO.out]; rfl) (by rw [formE, HBO.out]; rfl), Below.refl _ _⟩
  · have HBO := Lib.hid hbo
    have l1 := valid_len hx
    have l2 := valid_len hy
    clear hbo
    go_enter Tryd.func25, Tryd.ntmps25
    go_wp2_with fail
    refine (nat_Valid xs A c _ _ w HA.out hm1).mono ?_
    rintro e w' ⟨rfl, rfl⟩
    go_wp2_with fail
    refine (nat_Valid ys B d _ _ _ HB.out hm2).mono ?_
    rintro e w' ⟨rfl, rfl⟩
    go_wp2_with fail
    refine (nat_compare xs ys A B c d _ _ _ _ _ HA.out HB.out (Nat.le_refl _) (Nat.le_refl _) (valid_nrm hx) (valid_nrm hy) (by omega) (by omega)).mono ?_
    rintro e w' ⟨rfl, hbel⟩
    go_wp2_with fail
    go_ret2
    exact ⟨ret_two (by rw [cmpV, HBO.out]; rfl) (by rw [formE, HBO.out]; rfl), hbel⟩

theorem lok_of_val {D : List Int} {z : Int} (h : lok D = true) (h1 : 0 ≤ nval (D ++ [z])) (h2 : nval (D ++ [z]) < 1000000000 ^ (D.length + 1)) : lok (D ++ [z]) = true := by
  rw [lok_append]
  refine ⟨h, ?_⟩
  rw [nval_snoc] at h1 h2
  have a := nval_nonneg h
  have b := nval_lt h
  have p := pow_pos' D.length
  rw [Int.pow_succ] at h2
  obtain ⟨P, hP⟩ : ∃ P : Int, P = 1000000000 ^ D.length := ⟨_, rfl⟩
  rw [← hP] at h1 h2 b p
  have z1 : 0 ≤ z := by
    rcases Int.lt_or_le z 0 with hz | hz
    · have : P * z ≤ P * (-1) := Int.mul_le_mul_of_nonneg_left (by omega) (Int.le_of_lt p)
      omega
    · exact hz
  have z2 : z < 1000000000 := by
    rcases Int.lt_or_le z 1000000000 with hz | hz
    · exact hz
    · have : P * 1000000000 ≤ P * z := Int.mul_le_mul_of_nonneg_left hz (Int.le_of_lt p)
      omega
  simp [lok, z1, z2]
theorem lok_of_dropLast {T : List Int} (hne : T ≠ []) (h : lok T.dropLast = true) (h1 : 0 ≤ nval T) (h2 : nval T < 1000000000 ^ T.length) : lok T = true := by
  have e := List.dropLast_concat_getLast hne
  rw [← e] at h1 h2 ⊢
  refine lok_of_val h h1 ?_
  rw [List.length_append] at h2; exact h2
theorem pow_le_pow' {a b : Nat} (h : a ≤ b) : (1000000000 : Int) ^ a ≤ 1000000000 ^ b := by
  have e : b = a + (b - a) := by omega
  rw [e, Int.pow_add]
  have p := pow_pos' a
  have q := pow_pos' (b - a)
  have : (1000000000 : Int) ^ a * 1 ≤ 1000000000 ^ a * 1000000000 ^ (b - a) := Int.mul_le_mul_of_nonneg_left (by omega) (Int.le_of_lt p)
  omega

/-- Add. -/
def addV (xs ys : List Int) : Nat := if both xs ys then fitN (nval xs + nval ys).toNat else 0
def addE (xs ys : List Int) : Int := if both xs ys then fitE (nval xs + nval ys).toNat else 3
theorem laid_all {Z D : List Int} (h : D.length = Z.length) : laid Z 0 D = D := by
  rw [laid, List.take_zero, List.nil_append, List.drop_eq_nil_of_le (by omega), List.append_nil]
theorem addT_pad {xs ys : List Int} {n : Nat} {m : Int} (hx : lok xs = true) (hy : lok ys = true) (h1 : xs.length < n) (h2 : ys.length < n) (h0 : 0 ≤ nval xs + m * nval ys) (hlt : nval xs + m * nval ys < 1000000000 ^ n) :
    lok (addT (padL xs n) ys m 0) = true ∧ nval (addT (padL xs n) ys m 0) = nval xs + m * nval ys := by
  have hl : (padL xs n).length = n := padL_length (by omega)
  have hv : nval (addT (padL xs n) ys m 0) = nval xs + m * nval ys := by rw [addT_val _ _ _ _ (by omega), padL_val]; omega
  refine ⟨lok_of_dropLast ?_ (addT_lok _ _ _ _) (by rw [hv]; exact h0) (by rw [hv, addT_length, hl]; exact hlt), hv⟩
  intro h
  have := addT_length (padL xs n) ys m 0
  rw [h, hl] at this; simp at this; omega

set_option maxHeartbeats 1600000 in
theorem nat_Add (xs ys : List Int) (va vb : Value) (w : World) (ha : In w va xs) (hb : In w vb ys) :
    Calls Tryd.prog 27 #[va, vb] w (Res w (addV xs ys) (addE xs ys)) := by
  obtain ⟨A, c, rfl, hc, hm, hA⟩ := ha
  obtain ⟨B, d, rfl, hd, hn, hB⟩ := hb
  have HA := Lib.hid hA
  have HB := Lib.hid hB
  have hm1 : xs.length ≤ 9223372036854775807 := Nat.le_trans hc hm
  have hm2 : ys.length ≤ 9223372036854775807 := Nat.le_trans hd hn
  clear hA hB hm hn
  rcases both_cases xs ys with ⟨hx, hbo⟩ | ⟨hx, hy, hbo⟩ | ⟨hx, hy, hbo⟩
  · have HBO := Lib.hid hbo
    clear hbo
    go_enter Tryd.func27, Tryd.ntmps27
    go_wp2_with fail
    refine (nat_Valid xs A c _ _ w HA.out hm1).mono ?_
    rintro e w' ⟨rfl, rfl⟩
    go_wp2_with fail
    go_ret2
    exact Res.none (by rw [addV, HBO.out]; rfl) (by rw [addE, HBO.out]; rfl) rfl (Below.refl _ _)
  · have HBO := Lib.hid hbo
    clear hbo
    go_enter Tryd.func27, Tryd.ntmps27
    go_wp2_with fail
    refine (nat_Valid xs A c _ _ w HA.out hm1).mono ?_
    rintro e w' ⟨rfl, rfl⟩
    go_wp2_with fail
    refine (nat_Valid ys B d _ _ _ HB.out hm2).mono ?_
    rintro e w' ⟨rfl, rfl⟩
    go_wp2_with fail
    go_ret2
    exact Res.none (by rw [addV, HBO.out]; rfl) (by rw [addE, HBO.out]; rfl) rfl (Below.refl _ _)
  · have HBO := Lib.hid hbo
    have l1 := valid_len hx
    have l2 := valid_len hy
    obtain ⟨m, hmm⟩ : ∃ m, m = max xs.length ys.length := ⟨_, rfl⟩
    have hx1 : xs.length ≤ m := by omega
    have hy1 : ys.length ≤ m := by omega
    have hm48 : m ≤ 48 := by omega
    have hsum := addT_pad (n := m + 1) (m := 1) (valid_lok hx) (valid_lok hy) (by omega) (by omega) (by have := nval_nonneg (valid_lok hx); have := nval_nonneg (valid_lok hy); omega)
      (by have a := nval_lt (valid_lok hx); have b := nval_lt (valid_lok hy); have p := pow_le_pow' hx1; have q := pow_le_pow' hy1; have := pow_pos' m; rw [Int.pow_succ]; omega)
    have hz : lok xs = true := valid_lok hx
    have hz2 : lok ys = true := valid_lok hy
    have hlast : ∀ z, (padL xs (m + 1))[(padL xs (m + 1)).length - 1]? = some z → -4000000000000000000 < z ∧ z < 4000000000000000000 := by
      intro z h; have := lok_at (padL_lok hz _) h; omega
    have hdl : lok (padL xs (m + 1)).dropLast = true := by rw [List.dropLast_eq_take]; exact lok_take (padL_lok hz _) _
    have hpl : (padL xs (m + 1)).length = m + 1 := padL_length (by omega)
    have HMM := Lib.hid hmm
    have hmx : max (xs.length : Int) (ys.length : Int) = (m : Int) := by omega
    have HS := Lib.hid hsum
    have HL := Lib.hid hlast
    have HD := Lib.hid hdl
    have HP := Lib.hid hpl
    have HZ := Lib.hid hz
    have HZ2 := Lib.hid hz2
    clear hbo hsum hlast hdl hpl hmm hz hz2
    go_enter Tryd.func27, Tryd.ntmps27
    go_wp2_with fail
    refine (nat_Valid xs A c _ _ w HA.out hm1).mono ?_
    rintro e w' ⟨rfl, rfl⟩
    go_wp2_with fail
    refine (nat_Valid ys B d _ _ _ HB.out hm2).mono ?_
    rintro e w' ⟨rfl, rfl⟩
    go_wp2_with fail
    refine (nat_copied xs A c (m + 1) _ _ _ HA.out (Nat.le_refl _) (by omega) (by omega)).mono ?_
    rintro e w1 ⟨rfl, hrow, hbel⟩
    have hadd := nat_addTimes (padL xs (m + 1)) (padL xs (m + 1)) ys 1 w.heap.size 0 (m + 1) d _ _ B w1 hrow (by omega) (fun j _ => by rw [Nat.zero_add]) (Holds.below HB.out hbel (Nat.le_refl _)) (Or.inr (Nat.le_refl _)) (by rw [HP.out]; omega) (by rw [HP.out]; omega) HD.out HL.out HZ2.out (by omega) (by omega)
    rw [HP.out, laid_all (by rw [addT_length])] at hadd
    have HADD := Lib.hid hadd
    have HB1 := Lib.hid hbel
    clear hadd hrow hbel
    go_wp2_with fail
    refine HADD.out.mono ?_
    rintro e w2 ⟨rfl, hrow, honly⟩
    have hb2 : Below w.heap.size w w2 := HB1.out.trans (honly.toBelow (Nat.le_refl _))
    have hlen : (addT (padL xs (m + 1)) ys 1 0).length = m + 1 := by rw [addT_length, HP.out]
    have hlim := nat_limited (addT (padL xs (m + 1)) ys 1 0) (some ⟨w.heap.size, 0, none⟩) (m + 1) w.heap.size w2.heap.size w2 (hrow.holds (fun k z hz => by rw [Nat.zero_add]; exact hz) (Nat.le_refl _) hrow.lt) (by omega) (by unfold maxLen; omega) HS.out.1
    rw [hlen, HS.out.2, Int.one_mul] at hlim
    have HLIM := Lib.hid hlim
    have HB2 := Lib.hid hb2
    clear hlim hb2 hrow honly hlen
    go_wp2_with fail
    refine HLIM.out.mono ?_
    rintro e w3 ⟨v, rfl, hsl, rfl⟩
    go_wp2_with fail
    go_ret2
    refine ⟨v, ?_, ?_, HB2.out⟩
    · rw [addE, HBO.out]; rfl
    · rw [addV, HBO.out]; exact hsl
/-- Sub. -/
def subV (xs ys : List Int) : Nat := if both xs ys then (if nval xs < nval ys then 0 else fitN (nval xs - nval ys).toNat) else 0
def subE (xs ys : List Int) : Int := if both xs ys then (if nval xs < nval ys then 1 else fitE (nval xs - nval ys).toNat) else 3
theorem len_of_le {xs ys : List Int} (hx : nrm xs = true) (hy : nrm ys = true) (h : nval ys ≤ nval xs) : ys.length ≤ xs.length := by
  rcases Nat.lt_or_ge xs.length ys.length with h1 | h1
  · have := nrm_len hx hy h1; omega
  · exact h1

set_option maxHeartbeats 1600000 in
theorem nat_Sub (xs ys : List Int) (va vb : Value) (w : World) (ha : In w va xs) (hb : In w vb ys) :
    Calls Tryd.prog 29 #[va, vb] w (Res w (subV xs ys) (subE xs ys)) := by
  obtain ⟨A, c, rfl, hc, hm, hA⟩ := ha
  obtain ⟨B, d, rfl, hd, hn, hB⟩ := hb
  have HA := Lib.hid hA
  have HB := Lib.hid hB
  have hm1 : xs.length ≤ 9223372036854775807 := Nat.le_trans hc hm
  have hm2 : ys.length ≤ 9223372036854775807 := Nat.le_trans hd hn
  clear hA hB hm hn
  rcases both_cases xs ys with ⟨hx, hbo⟩ | ⟨hx, hy, hbo⟩ | ⟨hx, hy, hbo⟩
  · have HBO := Lib.hid hbo
    clear hbo
    go_enter Tryd.func29, Tryd.ntmps29
    go_wp2_with fail
    refine (nat_Valid xs A c _ _ w HA.out hm1).mono ?_
    rintro e w' ⟨rfl, rfl⟩
    go_wp2_with fail
    go_ret2
    exact Res.none (by rw [subV, HBO.out]; rfl) (by rw [subE, HBO.out]; rfl) rfl (Below.refl _ _)
  · have HBO := Lib.hid hbo
    clear hbo
    go_enter Tryd.func29, Tryd.ntmps29
    go_wp2_with fail
    refine (nat_Valid xs A c _ _ w HA.out hm1).mono ?_
    rintro e w' ⟨rfl, rfl⟩
    go_wp2_with fail
    refine (nat_Valid ys B d _ _ _ HB.out hm2).mono ?_
    rintro e w' ⟨rfl, rfl⟩
    go_wp2_with fail
    go_ret2
    exact Res.none (by rw [subV, HBO.out]; rfl) (by rw [subE, HBO.out]; rfl) rfl (Below.refl _ _)
  · have HBO := Lib.hid hbo
    have l1 := valid_len hx
    have l2 := valid_len hy
    have C := nat_compare xs ys A B c d _ _ _ _ w HA.out HB.out (Nat.le_refl _) (Nat.le_refl _) (valid_nrm hx) (valid_nrm hy) (by omega) (by omega)
    have HCC := Lib.hid C
    clear C
    rcases Int.lt_or_le (nval xs) (nval ys) with hlt | hge
    · have hcm : cmpI (nval xs) (nval ys) = -1 := cmpI_lt hlt
      have HLT := Lib.hid hlt
      clear hbo hlt
      go_enter Tryd.func29, Tryd.ntmps29
      go_wp2_with fail
      refine (nat_Valid xs A c _ _ w HA.out hm1).mono ?_
      rintro e w' ⟨rfl, rfl⟩
      go_wp2_with fail
      refine (nat_Valid ys B d _ _ _ HB.out hm2).mono ?_
      rintro e w' ⟨rfl, rfl⟩
      go_wp2_with fail
      refine HCC.out.mono ?_
      rintro e w' ⟨rfl, hbel⟩
      go_wp2_with fail
      go_ret2
      exact Res.none (by rw [subV, HBO.out, if_pos HLT.out]; rfl) (by rw [subE, HBO.out, if_pos HLT.out]; rfl) rfl hbel
    · have hcm : decide (cmpI (nval xs) (nval ys) < 0) = false := by
        refine decide_eq_false ?_
        rcases Int.lt_or_eq_of_le hge with h | h
        · rw [cmpI_gt h]; decide
        · rw [← h, cmpI_eq]; decide
      have hyx := len_of_le (valid_nrm hx) (valid_nrm hy) hge
      have hsum := addT_pad (n := xs.length + 1) (m := -1) (valid_lok hx) (valid_lok hy) (by omega) (by omega) (by omega)
        (by have a := nval_lt (valid_lok hx); have b := nval_nonneg (valid_lok hy); have := pow_pos' xs.length; rw [Int.pow_succ]; omega)
      have hz : lok xs = true := valid_lok hx
      have hz2 : lok ys = true := valid_lok hy
      have hlast : ∀ z, (padL xs (xs.length + 1))[(padL xs (xs.length + 1)).length - 1]? = some z → -4000000000000000000 < z ∧ z < 4000000000000000000 := by
        intro z h; have := lok_at (padL_lok hz _) h; omega
      have hdl : lok (padL xs (xs.length + 1)).dropLast = true := by rw [List.dropLast_eq_take]; exact lok_take (padL_lok hz _) _
      have hpl : (padL xs (xs.length + 1)).length = xs.length + 1 := padL_length (by omega)
      have HLT := Lib.hid (show ¬ nval xs < nval ys by omega)
      have HS := Lib.hid hsum
      have HL := Lib.hid hlast
      have HD := Lib.hid hdl
      have HP := Lib.hid hpl
      have HZ := Lib.hid hz
      have HZ2 := Lib.hid hz2
      clear hbo hsum hlast hdl hpl hz hz2 hge
      go_enter Tryd.func29, Tryd.ntmps29
      go_wp2_with fail
      refine (nat_Valid xs A c _ _ w HA.out hm1).mono ?_
      rintro e w' ⟨rfl, rfl⟩
      go_wp2_with fail
      refine (nat_Valid ys B d _ _ _ HB.out hm2).mono ?_
      rintro e w' ⟨rfl, rfl⟩
      go_wp2_with fail
      refine HCC.out.mono ?_
      rintro e w0 ⟨rfl, hbel0⟩
      have hsz := hbel0.size
      have HB0 := Lib.hid hbel0
      clear hbel0
      go_wp2_with fail
      refine (nat_copied xs A c (xs.length + 1) _ _ _ (Holds.below HA.out HB0.out (Nat.le_refl _)) hsz (by omega) (by omega)).mono ?_
      rintro e w1 ⟨rfl, hrow, hbel⟩
      have hadd := nat_addTimes (padL xs (xs.length + 1)) (padL xs (xs.length + 1)) ys (-1) w0.heap.size 0 (xs.length + 1) d _ _ B w1 hrow (by omega) (fun j _ => by rw [Nat.zero_add]) (Holds.below (Holds.below HB.out HB0.out (Nat.le_refl _)) hbel hsz) (Or.inr hsz) (by rw [HP.out]; omega) (by rw [HP.out]; omega) HD.out HL.out HZ2.out (by omega) (by omega)
      rw [HP.out, laid_all (by rw [addT_length])] at hadd
      have HADD := Lib.hid hadd
      have HB1 := Lib.hid hbel
      clear hadd hrow hbel
      go_wp2_with fail
      refine HADD.out.mono ?_
      rintro e w2 ⟨rfl, hrow, honly⟩
      have hb2 : Below w.heap.size w w2 := (HB0.out.trans (HB1.out.mono hsz)).trans (honly.toBelow hsz)
      have hlen : (addT (padL xs (xs.length + 1)) ys (-1) 0).length = xs.length + 1 := by rw [addT_length, HP.out]
      have hlim := nat_limited (addT (padL xs (xs.length + 1)) ys (-1) 0) (some ⟨w0.heap.size, 0, none⟩) (xs.length + 1) w.heap.size w2.heap.size w2 (hrow.holds (fun k z hz => by rw [Nat.zero_add]; exact hz) hsz hrow.lt) (by omega) (by unfold maxLen; omega) HS.out.1
      have ev : nval xs + -1 * nval ys = nval xs - nval ys := by omega
      rw [hlen, HS.out.2, ev] at hlim
      have HLIM := Lib.hid hlim
      have HB2 := Lib.hid hb2
      clear hlim hb2 hrow honly hlen ev
      go_wp2_with fail
      refine HLIM.out.mono ?_
      rintro e w3 ⟨v, rfl, hsl, rfl⟩
      go_wp2_with fail
      go_ret2
      refine ⟨v, ?_, ?_, HB2.out⟩
      · rw [subE, HBO.out, if_neg (Int.not_lt.mpr HLT.out)]; rfl
      · rw [subV, HBO.out, if_neg (Int.not_lt.mpr HLT.out)]; exact hsl
#print axioms nat_Cmp
#print axioms nat_Add
#print axioms nat_Sub
end Go.Proofs.YtmbpcjnlniidkaaDoor
