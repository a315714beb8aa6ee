/- Several texts in one: NatG, NatH, NatI, NatJ, NatK, NatL. -/
import Derived.Test.YtagjimdplmimoaaGreatPk8
import Derived.StillTailTactics
import Derived.Lib.ItoaNum
import Derived.Lib.ItoaLen
import Derived.Lib.AppendStr
import Derived.Lib.AppendIntMem
/- Contracts of compare: the program's and the reference's; Cmp of both. -/
namespace Go.Proofs.YtagjimdplmimoaaGreat
open Go.ChangeShapes Go.WideShapes Go.RowKit
set_option linter.unusedVariables false
set_option maxRecDepth 100000

def cmpI (x y : Int) : Int := Lib.compareInt x y
theorem cmpI_lt {x y : Int} (h : x < y) : cmpI x y = -1 := by simp [cmpI, Lib.compareInt, h]
theorem cmpI_gt {x y : Int} (h : y < x) : cmpI x y = 1 := by
  unfold cmpI Lib.compareInt; rw [if_neg (by omega), if_pos h]
theorem cmpI_eq (x : Int) : cmpI x x = 0 := by simp [cmpI, Lib.compareInt]
theorem nrm_len {xs ys : List Int} (hx : nrm xs = true) (hy : nrm ys = true) (h : xs.length < ys.length) : nval xs < nval ys := by
  have a := nval_lt (nrm_lok hx)
  have b := nrm_limbs hy
  have c := nval_nonneg (nrm_lok hy)
  have d := nval_nonneg (nrm_lok hx)
  rcases Int.lt_or_le (nval xs) (nval ys) with h1 | h1
  · exact h1
  · exfalso
    have e : (nval ys).toNat < 1000000000 ^ xs.length := by
      have : ((nval ys).toNat : Int) < ((1000000000 ^ xs.length : Nat) : Int) := by rw [Int.natCast_pow]; have : ((1000000000 : Nat) : Int) = 1000000000 := rfl; rw [this]; omega
      omega
    have := limbs_len_le.mpr e
    rw [← b] at this
    omega
theorem nval_lt_at {xs ys : List Int} {k : Nat} {x y : Int} (hx : lok xs = true) (hy : lok ys = true) (h1 : xs[k]? = some x) (h2 : ys[k]? = some y) (he : xs.drop (k + 1) = ys.drop (k + 1)) (h : x < y) : nval xs < nval ys := by
  have hk : k < xs.length := by
    rcases Nat.lt_or_ge k xs.length with h | h
    · exact h
    · rw [List.getElem?_eq_none h] at h1; cases h1
  have hk2 : k < ys.length := by
    rcases Nat.lt_or_ge k ys.length with h | h
    · exact h
    · rw [List.getElem?_eq_none h] at h2; cases h2
  have e1 : nval xs = nval (xs.take k) + 1000000000 ^ k * (x + 1000000000 * nval (xs.drop (k + 1))) := by
    rw [← nval_drop_step h1]
    have := nval_append (xs.take k) (xs.drop k)
    rw [List.take_append_drop, List.length_take, Nat.min_eq_left (by omega)] at this; exact this
  have e2 : nval ys = nval (ys.take k) + 1000000000 ^ k * (y + 1000000000 * nval (ys.drop (k + 1))) := by
    rw [← nval_drop_step h2]
    have := nval_append (ys.take k) (ys.drop k)
    rw [List.take_append_drop, List.length_take, Nat.min_eq_left (by omega)] at this; exact this
  have l1 := nval_lt (lok_take hx k)
  have l2 := nval_nonneg (lok_take hy k)
  rw [List.length_take, Nat.min_eq_left (by omega)] at l1
  rw [e1, e2, he]
  obtain ⟨P, hP⟩ : ∃ P : Int, P = 1000000000 ^ k := ⟨_, rfl⟩
  obtain ⟨R, hR⟩ : ∃ R : Int, R = 1000000000 * nval (ys.drop (k + 1)) := ⟨_, rfl⟩
  have hpos := pow_pos' k
  rw [← hP] at l1 hpos ⊢
  rw [← hR]
  have m : P * (x + R) + P ≤ P * (y + R) := by
    have := Int.mul_le_mul_of_nonneg_left (show x + R + 1 ≤ y + R by omega) (Int.le_of_lt hpos)
    rw [Int.mul_add, Int.mul_one] at this; exact this
  omega
theorem drop_step {l : List Int} {k : Nat} {z : Int} (h : l[k]? = some z) : l.drop k = z :: l.drop (k + 1) := by
  have hk : k < l.length := by
    rcases Nat.lt_or_ge k l.length with h1 | h1
    · exact h1
    · rw [List.getElem?_eq_none h1] at h; cases h
  rw [List.drop_eq_getElem_cons hk]
  rw [List.getElem?_eq_getElem hk] at h
  cases h; rfl

set_option maxHeartbeats 1600000 in
theorem nat_compare (xs ys : List Int) (A B : Option Addr) (c d : Nat) (lo hi lo' hi' : Nat) (w : World) (hS : Holds w lo hi A xs) (hT : Holds w lo' hi' B ys) (hh : hi ≤ w.heap.size) (hh' : hi' ≤ w.heap.size)
    (hx : nrm xs = true) (hy : nrm ys = true) (hm : xs.length ≤ 1000000) (hm2 : ys.length ≤ 1000000) :
    Calls Tryz.prog 80 #[.slice A xs.length c, .slice B ys.length d] w fun e w' => e = .returned (.int .i64 (cmpI (nval xs) (nval ys))) ∧ Below w.heap.size w w' := by
  have HS := Lib.hid hS
  have HT := Lib.hid hT
  have HX := Lib.hid hx
  have HY := Lib.hid hy
  clear hS hT hx hy
  by_cases hl : xs.length = ys.length
  · go_enter Tryz.func80, Tryz.ntmps80
    rw [← hl]
    have HL := Lib.hid hl
    clear hl hm2
    go_wp2_with fail
    go_loopw [19] (fun i wr => ∃ k : Nat, k ≤ xs.length ∧ i = .int .i64 k ∧ xs.drop (xs.length - k) = ys.drop (xs.length - k) ∧ Below w.heap.size w wr) (fun i _ => xs.length - (intOf i).toNat)
    case atStart => exact ⟨0, Nat.zero_le _, rfl, by rw [Nat.sub_zero, List.drop_length, HL.out, List.drop_length], Below.refl _ _⟩
    case round =>
      obtain ⟨k, hk, rfl, hz, hbel⟩ := hrel
      have HK := Lib.hid hz
      have HB := Lib.hid hbel
      clear hz hbel
      rcases Nat.lt_or_ge k xs.length with hlt | hge
      · obtain ⟨j, hj⟩ : ∃ j, j = xs.length - 1 - k := ⟨_, rfl⟩
        obtain ⟨z, hz⟩ : ∃ z, xs[j]? = some z := ⟨_, List.getElem?_eq_getElem (by omega)⟩
        obtain ⟨y, hy⟩ : ∃ y, ys[j]? = some y := ⟨_, List.getElem?_eq_getElem (by have := HL.out; omega)⟩
        obtain ⟨b, off, rfl, _, _, hcell⟩ := (HS.out.below HB.out hh) j z hz
        obtain ⟨b2, off2, rfl, _, _, hcell2⟩ := (HT.out.below HB.out hh') j y hy
        have e1 : (xs.length : Int) - 1 - k = (j : Int) := by omega
        have hjl : j < xs.length := by omega
        have hd : xs.drop (j + 1) = ys.drop (j + 1) := by have := HK.out; have e : xs.length - k = j + 1 := by omega
                                                          rwa [e] at this
        have HZ := Lib.hid hz
        have HYY := Lib.hid hy
        have HJ := Lib.hid hj
        have HD := Lib.hid hd
        clear hz hy hj hd
        by_cases h0 : z = y
        · subst h0
          have hne : (z != z) = false := by simp
          go_wp2_with fail
          go_quiet (fail)
          go_wp2_with fail
          go_roundw
          case rel =>
            refine ⟨k + 1, by omega, by go_num, ?_, below_drewN HB.out _⟩
            have e2 : xs.length - (k + 1) = j := by have := HJ.out; omega
            rw [e2, drop_step HZ.out, drop_step HYY.out, HD.out]
          case measure => simp [intOf]; omega
        · have hne : (z != y) = true := by simpa using h0
          have hv : Lib.compareInt z y = cmpI (nval xs) (nval ys) := by
            rcases Int.lt_or_le z y with h1 | h1
            · rw [cmpI_lt (nval_lt_at (nrm_lok HX.out) (nrm_lok HY.out) HZ.out HYY.out HD.out h1)]; exact cmpI_lt h1
            · have h2 : y < z := by omega
              rw [cmpI_gt (nval_lt_at (nrm_lok HY.out) (nrm_lok HX.out) HYY.out HZ.out HD.out.symm h2)]; exact cmpI_gt h2
          have HV := Lib.hid hv
          clear hv h0
          go_wp2_with fail
          go_quiet (fail)
          go_wp2_with fail
          go_quiet ((go_at_call 67; exact (Tryz.cmp_Compare_int _ _ _).mono fun _ _ k => ⟨k.1, _, k.2⟩))
          go_wp2_with fail
          go_ret
          exact ⟨ret_int HV.out, below_drewN (below_drewN HB.out _) _⟩
      · obtain rfl : k = xs.length := by omega
        have he : xs = ys := by have := HK.out; simpa using this
        have HE := Lib.hid he
        clear he
        go_wp2_with fail
        go_ret
        refine ⟨ret_int ?_, HB.out⟩
        rw [← HE.out, cmpI_eq]
  · have hne : ((xs.length : Int) != (ys.length : Int)) = true := by simp; omega
    have hv : Lib.compareInt (xs.length : Int) (ys.length : Int) = cmpI (nval xs) (nval ys) := by
      rcases Nat.lt_or_ge xs.length ys.length with h1 | h1
      · rw [cmpI_lt (nrm_len HX.out HY.out h1)]; exact cmpI_lt (by omega)
      · rw [cmpI_gt (nrm_len HY.out HX.out (by omega))]; exact cmpI_gt (by omega)
    have HV := Lib.hid hv
    clear hv hl
    go_enter Tryz.func80, Tryz.ntmps80
    go_wp2_with (go_at_call 67; refine (Tryz.cmp_Compare_int _ _ _).mono ?_; rintro e w' ⟨rfl, rfl⟩)
    go_ret
    exact ⟨ret_int HV.out, Below.refl _ _⟩
end Go.Proofs.YtagjimdplmimoaaGreat
/- Contracts of nat.Cmp, nat.Add, nat.Sub. -/
namespace Go.Proofs.YtagjimdplmimoaaGreat
open Go.ChangeShapes Go.WideShapes Go.RowKit
set_option linter.unusedVariables false
set_option maxRecDepth 100000

/-- A slice that is there: it holds the integers zs. -/
def In (w : World) (v : Value) (zs : List Int) : Prop := Sl w 0 w.heap.size v zs
theorem Sl.below {w w' : World} {B lo hi : Nat} {v : Value} {zs : List Int} (h : Sl w lo hi v zs) (hb : Below B w w') (hB : hi ≤ B) : Sl w' lo hi v zs := by
  obtain ⟨A, c, rfl, h1, h2, h3⟩ := h
  exact ⟨A, c, rfl, h1, h2, Holds.below h3 hb hB⟩
theorem Sl.more {w : World} {lo hi lo' hi' : Nat} {v : Value} {zs : List Int} (h : Sl w lo hi v zs) (hl : lo' ≤ lo) (hh : hi ≤ hi') : Sl w lo' hi' v zs := by
  obtain ⟨A, c, rfl, h1, h2, h3⟩ := h
  exact ⟨A, c, rfl, h1, h2, Holds.more h3 hl hh⟩
theorem In.below {w w' : World} {B : Nat} {v : Value} {zs : List Int} (h : In w v zs) (hb : Below B w w') (hB : w.heap.size ≤ B) : In w' v zs :=
  (Sl.below h hb hB).more (Nat.le_refl _) hb.size
theorem Sl.toIn {w : World} {lo : Nat} {v : Value} {zs : List Int} (h : Sl w lo w.heap.size v zs) : In w v zs := h.more (Nat.zero_le _) (Nat.le_refl _)
theorem In.nil (w : World) : In w (.slice none 0 0) [] := ⟨none, 0, rfl, Nat.le_refl _, by unfold maxLen; omega, fun k z hz => by simp at hz⟩
theorem Sl.nil (w : World) (lo hi : Nat) : Sl w lo hi (.slice none 0 0) [] := ⟨none, 0, rfl, Nat.le_refl _, by unfold maxLen; omega, fun k z hz => by simp at hz⟩

/-- What a function that returns a number and an error leaves. -/
def Res (w : World) (N : Nat) (err : Int) (e : Ending) (w' : World) : Prop :=
  ∃ v, e = .returned (.tuple #[v, .int .i64 err]) ∧ Sl w' w.heap.size w'.heap.size v (limbs N) ∧ Below w.heap.size w w'
theorem Res.none {w w' : World} {N : Nat} {err err' : Int} {e : Ending} (hN : N = 0) (he : err = err') (h : e = .returned (.tuple #[.slice none 0 0, .int .i64 err'])) (hb : Below w.heap.size w w') : Res w N err e w' := by
  subst hN he h
  exact ⟨_, rfl, by rw [limbs_zero]; exact Sl.nil _ _ _, hb⟩

def both (xs ys : List Int) : Bool := validB xs && validB ys
def cmpV (xs ys : List Int) : Int := if both xs ys then cmpI (nval xs) (nval ys) else 0
def formE (xs ys : List Int) : Int := if both xs ys then 0 else 3
theorem both_cases (xs ys : List Int) : (validB xs = false ∧ both xs ys = false) ∨ (validB xs = true ∧ validB ys = false ∧ both xs ys = false) ∨ (validB xs = true ∧ validB ys = true ∧ both xs ys = true) := by
  cases hx : validB xs <;> cases hy : validB ys <;> simp [both, hx, hy]
theorem valid_len {xs : List Int} (h : validB xs = true) : xs.length ≤ 48 := (validB_iff.mp h).1
theorem valid_nrm {xs : List Int} (h : validB xs = true) : nrm xs = true := (validB_iff.mp h).2
theorem valid_lok {xs : List Int} (h : validB xs = true) : lok xs = true := nrm_lok (valid_nrm h)

set_option maxHeartbeats 800000 in
theorem nat_Cmp (xs ys : List Int) (va vb : Value) (w : World) (ha : In w va xs) (hb : In w vb ys) :
    Calls Tryz.prog 53 #[va, vb] w fun e w' => e = .returned (.tuple #[.int .i64 (cmpV xs ys), .int .i64 (formE xs ys)]) ∧ Below w.heap.size w w' := by
  obtain ⟨A, c, rfl, hc, hm, hA⟩ := ha
  obtain ⟨B, d, rfl, hd, hn, hB⟩ := hb
  have HA := Lib.hid hA
  have HB := Lib.hid hB
  have hm1 : xs.length ≤ 9223372036854775807 := Nat.le_trans hc hm
  have hm2 : ys.length ≤ 9223372036854775807 := Nat.le_trans hd hn
  clear hA hB hm hn
  rcases both_cases xs ys with ⟨hx, hbo⟩ | ⟨hx, hy, hbo⟩ | ⟨hx, hy, hbo⟩
  · have HBO := Lib.hid hbo
    clear hbo
    go_enter Tryz.func53, Tryz.ntmps53
    go_wp2_with fail
    refine (nat_Valid xs A c _ _ w HA.out hm1).mono ?_
    rintro e w' ⟨rfl, rfl⟩
    go_wp2_with fail
    go_ret2
    exact ⟨ret_two (by rw [cmpV, HBO.out]; rfl) (by rw [formE, HBO.out]; rfl), Below.refl _ _⟩
  · have HBO := Lib.hid hbo
    clear hbo
    go_enter Tryz.func53, Tryz.ntmps53
    go_wp2_with fail
    refine (nat_Valid xs A c _ _ w HA.out hm1).mono ?_
    rintro e w' ⟨rfl, rfl⟩
    go_wp2_with fail
    refine (nat_Valid ys B d _ _ _ HB.out hm2).mono ?_
    rintro e w' ⟨rfl, rfl⟩
    go_wp2_with fail
    go_ret2
    exact ⟨ret_two (by rw [cmpV, HBO.out]; rfl) (by rw [formE, HBO.out]; rfl), Below.refl _ _⟩
  · have HBO := Lib.hid hbo
    have l1 := valid_len hx
    have l2 := valid_len hy
    clear hbo
    go_enter Tryz.func53, Tryz.ntmps53
    go_wp2_with fail
    refine (nat_Valid xs A c _ _ w HA.out hm1).mono ?_
    rintro e w' ⟨rfl, rfl⟩
    go_wp2_with fail
    refine (nat_Valid ys B d _ _ _ HB.out hm2).mono ?_
    rintro e w' ⟨rfl, rfl⟩
    go_wp2_with fail
    refine (nat_compare xs ys A B c d _ _ _ _ _ HA.out HB.out (Nat.le_refl _) (Nat.le_refl _) (valid_nrm hx) (valid_nrm hy) (by omega) (by omega)).mono ?_
    rintro e w' ⟨rfl, hbel⟩
    go_wp2_with fail
    go_ret2
    exact ⟨ret_two (by rw [cmpV, HBO.out]; rfl) (by rw [formE, HBO.out]; rfl), hbel⟩

theorem lok_of_val {D : List Int} {z : Int} (h : lok D = true) (h1 : 0 ≤ nval (D ++ [z])) (h2 : nval (D ++ [z]) < 1000000000 ^ (D.length + 1)) : lok (D ++ [z]) = true := by
  rw [lok_append]
  refine ⟨h, ?_⟩
  rw [nval_snoc] at h1 h2
  have a := nval_nonneg h
  have b := nval_lt h
  have p := pow_pos' D.length
  rw [Int.pow_succ] at h2
  obtain ⟨P, hP⟩ : ∃ P : Int, P = 1000000000 ^ D.length := ⟨_, rfl⟩
  rw [← hP] at h1 h2 b p
  have z1 : 0 ≤ z := by
    rcases Int.lt_or_le z 0 with hz | hz
    · have : P * z ≤ P * (-1) := Int.mul_le_mul_of_nonneg_left (by omega) (Int.le_of_lt p)
      omega
    · exact hz
  have z2 : z < 1000000000 := by
    rcases Int.lt_or_le z 1000000000 with hz | hz
    · exact hz
    · have : P * 1000000000 ≤ P * z := Int.mul_le_mul_of_nonneg_left hz (Int.le_of_lt p)
      omega
  simp [lok, z1, z2]
theorem lok_of_dropLast {T : List Int} (hne : T ≠ []) (h : lok T.dropLast = true) (h1 : 0 ≤ nval T) (h2 : nval T < 1000000000 ^ T.length) : lok T = true := by
  have e := List.dropLast_concat_getLast hne
  rw [← e] at h1 h2 ⊢
  refine lok_of_val h h1 ?_
  rw [List.length_append] at h2; exact h2
theorem pow_le_pow' {a b : Nat} (h : a ≤ b) : (1000000000 : Int) ^ a ≤ 1000000000 ^ b := by
  have e : b = a + (b - a) := by omega
  rw [e, Int.pow_add]
  have p := pow_pos' a
  have q := pow_pos' (b - a)
  have : (1000000000 : Int) ^ a * 1 ≤ 1000000000 ^ a * 1000000000 ^ (b - a) := Int.mul_le_mul_of_nonneg_left (by omega) (Int.le_of_lt p)
  omega

/-- Add. -/
def addV (xs ys : List Int) : Nat := if both xs ys then fitN (nval xs + nval ys).toNat else 0
def addE (xs ys : List Int) : Int := if both xs ys then fitE (nval xs + nval ys).toNat else 3
theorem laid_all {Z D : List Int} (h : D.length = Z.length) : laid Z 0 D = D := by
  rw [laid, List.take_zero, List.nil_append, List.drop_eq_nil_of_le (by omega), List.append_nil]
theorem addT_pad {xs ys : List Int} {n : Nat} {m : Int} (hx : lok xs = true) (hy : lok ys = true) (h1 : xs.length < n) (h2 : ys.length < n) (h0 : 0 ≤ nval xs + m * nval ys) (hlt : nval xs + m * nval ys < 1000000000 ^ n) :
    lok (addT (padL xs n) ys m 0) = true ∧ nval (addT (padL xs n) ys m 0) = nval xs + m * nval ys := by
  have hl : (padL xs n).length = n := padL_length (by omega)
  have hv : nval (addT (padL xs n) ys m 0) = nval xs + m * nval ys := by rw [addT_val _ _ _ _ (by omega), padL_val]; omega
  refine ⟨lok_of_dropLast ?_ (addT_lok _ _ _ _) (by rw [hv]; exact h0) (by rw [hv, addT_length, hl]; exact hlt), hv⟩
  intro h
  have := addT_length (padL xs n) ys m 0
  rw [h, hl] at this; simp at this; omega

set_option maxHeartbeats 1600000 in
theorem nat_Add (xs ys : List Int) (va vb : Value) (w : World) (ha : In w va xs) (hb : In w vb ys) :
    Calls Tryz.prog 97 #[va, vb] w (Res w (addV xs ys) (addE xs ys)) := by
  obtain ⟨A, c, rfl, hc, hm, hA⟩ := ha
  obtain ⟨B, d, rfl, hd, hn, hB⟩ := hb
  have HA := Lib.hid hA
  have HB := Lib.hid hB
  have hm1 : xs.length ≤ 9223372036854775807 := Nat.le_trans hc hm
  have hm2 : ys.length ≤ 9223372036854775807 := Nat.le_trans hd hn
  clear hA hB hm hn
  rcases both_cases xs ys with ⟨hx, hbo⟩ | ⟨hx, hy, hbo⟩ | ⟨hx, hy, hbo⟩
  · have HBO := Lib.hid hbo
    clear hbo
    go_enter Tryz.func97, Tryz.ntmps97
    go_wp2_with fail
    refine (nat_Valid xs A c _ _ w HA.out hm1).mono ?_
    rintro e w' ⟨rfl, rfl⟩
    go_wp2_with fail
    go_ret2
    exact Res.none (by rw [addV, HBO.out]; rfl) (by rw [addE, HBO.out]; rfl) rfl (Below.refl _ _)
  · have HBO := Lib.hid hbo
    clear hbo
    go_enter Tryz.func97, Tryz.ntmps97
    go_wp2_with fail
    refine (nat_Valid xs A c _ _ w HA.out hm1).mono ?_
    rintro e w' ⟨rfl, rfl⟩
    go_wp2_with fail
    refine (nat_Valid ys B d _ _ _ HB.out hm2).mono ?_
    rintro e w' ⟨rfl, rfl⟩
    go_wp2_with fail
    go_ret2
    exact Res.none (by rw [addV, HBO.out]; rfl) (by rw [addE, HBO.out]; rfl) rfl (Below.refl _ _)
  · have HBO := Lib.hid hbo
    have l1 := valid_len hx
    have l2 := valid_len hy
    obtain ⟨m, hmm⟩ : ∃ m, m = max xs.length ys.length := ⟨_, rfl⟩
    have hx1 : xs.length ≤ m := by omega
    have hy1 : ys.length ≤ m := by omega
    have hm48 : m ≤ 48 := by omega
    have hsum := addT_pad (n := m + 1) (m := 1) (valid_lok hx) (valid_lok hy) (by omega) (by omega) (by have := nval_nonneg (valid_lok hx); have := nval_nonneg (valid_lok hy); omega)
      (by have a := nval_lt (valid_lok hx); have b := nval_lt (valid_lok hy); have p := pow_le_pow' hx1; have q := pow_le_pow' hy1; have := pow_pos' m; rw [Int.pow_succ]; omega)
    have hz : lok xs = true := valid_lok hx
    have hz2 : lok ys = true := valid_lok hy
    have hlast : ∀ z, (padL xs (m + 1))[(padL xs (m + 1)).length - 1]? = some z → -4000000000000000000 < z ∧ z < 4000000000000000000 := by
      intro z h; have := lok_at (padL_lok hz _) h; omega
    have hdl : lok (padL xs (m + 1)).dropLast = true := by rw [List.dropLast_eq_take]; exact lok_take (padL_lok hz _) _
    have hpl : (padL xs (m + 1)).length = m + 1 := padL_length (by omega)
    have HMM := Lib.hid hmm
    have hmx : max (xs.length : Int) (ys.length : Int) = (m : Int) := by omega
    have HS := Lib.hid hsum
    have HL := Lib.hid hlast
    have HD := Lib.hid hdl
    have HP := Lib.hid hpl
    have HZ := Lib.hid hz
    have HZ2 := Lib.hid hz2
    clear hbo hsum hlast hdl hpl hmm hz hz2
    go_enter Tryz.func97, Tryz.ntmps97
    go_wp2_with fail
    refine (nat_Valid xs A c _ _ w HA.out hm1).mono ?_
    rintro e w' ⟨rfl, rfl⟩
    go_wp2_with fail
    refine (nat_Valid ys B d _ _ _ HB.out hm2).mono ?_
    rintro e w' ⟨rfl, rfl⟩
    go_wp2_with fail
    refine (nat_copied xs A c (m + 1) _ _ _ HA.out (Nat.le_refl _) (by omega) (by omega)).mono ?_
    rintro e w1 ⟨rfl, hrow, hbel⟩
    have hadd := nat_addTimes (padL xs (m + 1)) (padL xs (m + 1)) ys 1 w.heap.size 0 (m + 1) d _ _ B w1 hrow (by omega) (fun j _ => by rw [Nat.zero_add]) (Holds.below HB.out hbel (Nat.le_refl _)) (Or.inr (Nat.le_refl _)) (by rw [HP.out]; omega) (by rw [HP.out]; omega) HD.out HL.out HZ2.out (by omega) (by omega)
    rw [HP.out, laid_all (by rw [addT_length])] at hadd
    have HADD := Lib.hid hadd
    have HB1 := Lib.hid hbel
    clear hadd hrow hbel
    go_wp2_with fail
    refine HADD.out.mono ?_
    rintro e w2 ⟨rfl, hrow, honly⟩
    have hb2 : Below w.heap.size w w2 := HB1.out.trans (honly.toBelow (Nat.le_refl _))
    have hlen : (addT (padL xs (m + 1)) ys 1 0).length = m + 1 := by rw [addT_length, HP.out]
    have hlim := nat_limited (addT (padL xs (m + 1)) ys 1 0) (some ⟨w.heap.size, 0, none⟩) (m + 1) w.heap.size w2.heap.size w2 (hrow.holds (fun k z hz => by rw [Nat.zero_add]; exact hz) (Nat.le_refl _) hrow.lt) (by omega) (by unfold maxLen; omega) HS.out.1
    rw [hlen, HS.out.2, Int.one_mul] at hlim
    have HLIM := Lib.hid hlim
    have HB2 := Lib.hid hb2
    clear hlim hb2 hrow honly hlen
    go_wp2_with fail
    refine HLIM.out.mono ?_
    rintro e w3 ⟨v, rfl, hsl, rfl⟩
    go_wp2_with fail
    go_ret2
    refine ⟨v, ?_, ?_, HB2.out⟩
    · rw [addE, HBO.out]; rfl
    · rw [addV, HBO.out]; exact hsl
/-- Sub. -/
def subV (xs ys : List Int) : Nat := if both xs ys then (if nval xs < nval ys then 0 else fitN (nval xs - nval ys).toNat) else 0
def subE (xs ys : List Int) : Int := if both xs ys then (if nval xs < nval ys then 1 else fitE (nval xs - nval ys).toNat) else 3
theorem len_of_le {xs ys : List Int} (hx : nrm xs = true) (hy : nrm ys = true) (h : nval ys ≤ nval xs) : ys.length ≤ xs.length := by
  rcases Nat.lt_or_ge xs.length ys.length with h1 | h1
  · have := nrm_len hx hy h1; omega
  · exact h1

set_option maxHeartbeats 1600000 in
theorem nat_Sub (xs ys : List Int) (va vb : Value) (w : World) (ha : In w va xs) (hb : In w vb ys) :
    Calls Tryz.prog 98 #[va, vb] w (Res w (subV xs ys) (subE xs ys)) := by
  obtain ⟨A, c, rfl, hc, hm, hA⟩ := ha
  obtain ⟨B, d, rfl, hd, hn, hB⟩ := hb
  have HA := Lib.hid hA
  have HB := Lib.hid hB
  have hm1 : xs.length ≤ 9223372036854775807 := Nat.le_trans hc hm
  have hm2 : ys.length ≤ 9223372036854775807 := Nat.le_trans hd hn
  clear hA hB hm hn
  rcases both_cases xs ys with ⟨hx, hbo⟩ | ⟨hx, hy, hbo⟩ | ⟨hx, hy, hbo⟩
  · have HBO := Lib.hid hbo
    clear hbo
    go_enter Tryz.func98, Tryz.ntmps98
    go_wp2_with fail
    refine (nat_Valid xs A c _ _ w HA.out hm1).mono ?_
    rintro e w' ⟨rfl, rfl⟩
    go_wp2_with fail
    go_ret2
    exact Res.none (by rw [subV, HBO.out]; rfl) (by rw [subE, HBO.out]; rfl) rfl (Below.refl _ _)
  · have HBO := Lib.hid hbo
    clear hbo
    go_enter Tryz.func98, Tryz.ntmps98
    go_wp2_with fail
    refine (nat_Valid xs A c _ _ w HA.out hm1).mono ?_
    rintro e w' ⟨rfl, rfl⟩
    go_wp2_with fail
    refine (nat_Valid ys B d _ _ _ HB.out hm2).mono ?_
    rintro e w' ⟨rfl, rfl⟩
    go_wp2_with fail
    go_ret2
    exact Res.none (by rw [subV, HBO.out]; rfl) (by rw [subE, HBO.out]; rfl) rfl (Below.refl _ _)
  · have HBO := Lib.hid hbo
    have l1 := valid_len hx
    have l2 := valid_len hy
    have C := nat_compare xs ys A B c d _ _ _ _ w HA.out HB.out (Nat.le_refl _) (Nat.le_refl _) (valid_nrm hx) (valid_nrm hy) (by omega) (by omega)
    have HCC := Lib.hid C
    clear C
    rcases Int.lt_or_le (nval xs) (nval ys) with hlt | hge
    · have hcm : cmpI (nval xs) (nval ys) = -1 := cmpI_lt hlt
      have HLT := Lib.hid hlt
      clear hbo hlt
      go_enter Tryz.func98, Tryz.ntmps98
      go_wp2_with fail
      refine (nat_Valid xs A c _ _ w HA.out hm1).mono ?_
      rintro e w' ⟨rfl, rfl⟩
      go_wp2_with fail
      refine (nat_Valid ys B d _ _ _ HB.out hm2).mono ?_
      rintro e w' ⟨rfl, rfl⟩
      go_wp2_with fail
      refine HCC.out.mono ?_
      rintro e w' ⟨rfl, hbel⟩
      go_wp2_with fail
      go_ret2
      exact Res.none (by rw [subV, HBO.out, if_pos HLT.out]; rfl) (by rw [subE, HBO.out, if_pos HLT.out]; rfl) rfl hbel
    · have hcm : decide (cmpI (nval xs) (nval ys) < 0) = false := by
        refine decide_eq_false ?_
        rcases Int.lt_or_eq_of_le hge with h | h
        · rw [cmpI_gt h]; decide
        · rw [← h, cmpI_eq]; decide
      have hyx := len_of_le (valid_nrm hx) (valid_nrm hy) hge
      have hsum := addT_pad (n := xs.length + 1) (m := -1) (valid_lok hx) (valid_lok hy) (by omega) (by omega) (by omega)
        (by have a := nval_lt (valid_lok hx); have b := nval_nonneg (valid_lok hy); have := pow_pos' xs.length; rw [Int.pow_succ]; omega)
      have hz : lok xs = true := valid_lok hx
      have hz2 : lok ys = true := valid_lok hy
      have hlast : ∀ z, (padL xs (xs.length + 1))[(padL xs (xs.length + 1)).length - 1]? = some z → -4000000000000000000 < z ∧ z < 4000000000000000000 := by
        intro z h; have := lok_at (padL_lok hz _) h; omega
      have hdl : lok (padL xs (xs.length + 1)).dropLast = true := by rw [List.dropLast_eq_take]; exact lok_take (padL_lok hz _) _
      have hpl : (padL xs (xs.length + 1)).length = xs.length + 1 := padL_length (by omega)
      have HLT := Lib.hid (show ¬ nval xs < nval ys by omega)
      have HS := Lib.hid hsum
      have HL := Lib.hid hlast
      have HD := Lib.hid hdl
      have HP := Lib.hid hpl
      have HZ := Lib.hid hz
      have HZ2 := Lib.hid hz2
      clear hbo hsum hlast hdl hpl hz hz2 hge
      go_enter Tryz.func98, Tryz.ntmps98
      go_wp2_with fail
      refine (nat_Valid xs A c _ _ w HA.out hm1).mono ?_
      rintro e w' ⟨rfl, rfl⟩
      go_wp2_with fail
      refine (nat_Valid ys B d _ _ _ HB.out hm2).mono ?_
      rintro e w' ⟨rfl, rfl⟩
      go_wp2_with fail
      refine HCC.out.mono ?_
      rintro e w0 ⟨rfl, hbel0⟩
      have hsz := hbel0.size
      have HB0 := Lib.hid hbel0
      clear hbel0
      go_wp2_with fail
      refine (nat_copied xs A c (xs.length + 1) _ _ _ (Holds.below HA.out HB0.out (Nat.le_refl _)) hsz (by omega) (by omega)).mono ?_
      rintro e w1 ⟨rfl, hrow, hbel⟩
      have hadd := nat_addTimes (padL xs (xs.length + 1)) (padL xs (xs.length + 1)) ys (-1) w0.heap.size 0 (xs.length + 1) d _ _ B w1 hrow (by omega) (fun j _ => by rw [Nat.zero_add]) (Holds.below (Holds.below HB.out HB0.out (Nat.le_refl _)) hbel hsz) (Or.inr hsz) (by rw [HP.out]; omega) (by rw [HP.out]; omega) HD.out HL.out HZ2.out (by omega) (by omega)
      rw [HP.out, laid_all (by rw [addT_length])] at hadd
      have HADD := Lib.hid hadd
      have HB1 := Lib.hid hbel
      clear hadd hrow hbel
      go_wp2_with fail
      refine HADD.out.mono ?_
      rintro e w2 ⟨rfl, hrow, honly⟩
      have hb2 : Below w.heap.size w w2 := (HB0.out.trans (HB1.out.mono hsz)).trans (honly.toBelow hsz)
      have hlen : (addT (padL xs (xs.length + 1)) ys (-1) 0).length = xs.length + 1 := by rw [addT_length, HP.out]
      have hlim := nat_limited (addT (padL xs (xs.length + 1)) ys (-1) 0) (some ⟨w0.heap.size, 0, none⟩) (xs.length + 1) w.heap.size w2.heap.size w2 (hrow.holds (fun k z hz => by rw [Nat.zero_add]; exact hz) hsz hrow.lt) (by omega) (by unfold maxLen; omega) HS.out.1
      have ev : nval xs + -1 * nval ys = nval xs - nval ys := by omega
      rw [hlen, HS.out.2, ev] at hlim
      have HLIM := Lib.hid hlim
      have HB2 := Lib.hid hb2
      clear hlim hb2 hrow honly hlen ev
      go_wp2_with fail
      refine HLIM.out.mono ?_
      rintro e w3 ⟨v, rfl, hsl, rfl⟩
      go_wp2_with fail
      go_ret2
      refine ⟨v, ?_, ?_, HB2.out⟩
      · rw [subE, HBO.out, if_neg (Int.not_lt.mpr HLT.out)]; rfl
      · rw [subV, HBO.out, if_neg (Int.not_lt.mpr HLT.out)]; exact hsl
end Go.Proofs.YtagjimdplmimoaaGreat
/- The contract of nat.Mul. -/
namespace Go.Proofs.YtagjimdplmimoaaGreat
open Go.ChangeShapes Go.WideShapes Go.RowKit
set_option linter.unusedVariables false
set_option maxRecDepth 100000

/-- Mul. -/
def mulV (xs ys : List Int) : Nat := if both xs ys then fitN (nval xs * nval ys).toNat else 0
def mulE (xs ys : List Int) : Int := if both xs ys then fitE (nval xs * nval ys).toNat else 3
/-- The window of n limbs at place k. -/
def win (P : List Int) (k n : Nat) : List Int := (P.drop k).take n
theorem win_length {P : List Int} {k n : Nat} (h : k + n ≤ P.length) : (win P k n).length = n := by simp [win]; omega
theorem win_at {P : List Int} {k n : Nat} (h : k + n ≤ P.length) (j : Nat) (hj : j < n) : P[k + j]? = (win P k n)[j]? := by
  unfold win; rw [List.getElem?_take, if_pos hj, List.getElem?_drop]
theorem win_split {P : List Int} {k n : Nat} (h : k + n ≤ P.length) : nval P = nval (P.take k) + 1000000000 ^ k * (nval (win P k n) + 1000000000 ^ n * nval (P.drop (k + n))) := by
  have e : P = P.take k ++ (win P k n ++ P.drop (k + n)) := by
    have e1 : win P k n ++ P.drop (k + n) = P.drop k := by
      unfold win; rw [← List.drop_drop, List.take_append_drop]
    rw [e1, List.take_append_drop]
  have l1 : (P.take k).length = k := by rw [List.length_take]; omega
  have l2 := win_length h
  have := congrArg nval e
  rw [nval_append, nval_append, l1, l2] at this
  exact this
theorem laid_split {P T : List Int} {k n : Nat} (h : k + n ≤ P.length) (hT : T.length = n) : nval (laid P k T) = nval (P.take k) + 1000000000 ^ k * (nval T + 1000000000 ^ n * nval (P.drop (k + n))) := by
  have l1 : (P.take k).length = k := by rw [List.length_take]; omega
  unfold laid
  rw [nval_append, nval_append, l1, hT]
theorem laid_lok {P T : List Int} {k : Nat} (h : lok P = true) (hT : lok T = true) : lok (laid P k T) = true := by
  unfold laid; rw [lok_append, lok_append]; exact ⟨lok_take h _, hT, lok_drop h _⟩
theorem mul_step {P xs : List Int} {k m : Nat} {b : Int} (hP : lok P = true) (hk : k + (xs.length + 1) ≤ P.length) (hx : lok xs = true) (hb : 0 ≤ b) (hb2 : b < 1000000000)
    (hlt : nval P < 1000000000 ^ (xs.length + k)) :
    lok (addT (win P k (xs.length + 1)) xs b 0) = true ∧ nval (laid P k (addT (win P k (xs.length + 1)) xs b 0)) = nval P + 1000000000 ^ k * (b * nval xs) := by
  have hs := win_split hk
  have hw := nval_nonneg (lok_take (lok_drop hP k) (xs.length + 1))
  have h1 := nval_nonneg (lok_take hP k)
  have h2 := nval_nonneg (lok_drop hP (k + (xs.length + 1)))
  have p1 := pow_pos' k
  have p2 := pow_pos' (xs.length + 1)
  have hl := win_length hk
  have hv : nval (addT (win P k (xs.length + 1)) xs b 0) = nval (win P k (xs.length + 1)) + b * nval xs := by rw [addT_val _ _ _ _ (by omega)]; omega
  have hx1 := nval_lt hx
  have hx0 := nval_nonneg hx
  have hwlt : nval (win P k (xs.length + 1)) < 1000000000 ^ xs.length := by
    rcases Int.lt_or_le (nval (win P k (xs.length + 1))) (1000000000 ^ xs.length) with h | h
    · exact h
    · exfalso
      have e : (1000000000 : Int) ^ (xs.length + k) = 1000000000 ^ k * 1000000000 ^ xs.length := by rw [Int.pow_add, Int.mul_comm]
      have a1 : 1000000000 ^ k * 1000000000 ^ xs.length ≤ (1000000000 : Int) ^ k * (nval (win P k (xs.length + 1)) + 1000000000 ^ (xs.length + 1) * nval (P.drop (k + (xs.length + 1)))) :=
        Int.mul_le_mul_of_nonneg_left (by have := Int.mul_nonneg (Int.le_of_lt p2) h2; omega) (Int.le_of_lt p1)
      omega
  refine ⟨lok_of_dropLast ?_ (addT_lok _ _ _ _) ?_ ?_, ?_⟩
  · intro h; have := addT_length (win P k (xs.length + 1)) xs b 0; rw [h, hl] at this; simp at this
  · rw [hv]; have := Int.mul_nonneg hb hx0; change 0 ≤ nval (win P k (xs.length + 1)) at hw; omega
  · rw [hv, addT_length, hl, Int.pow_succ]
    have : b * nval xs ≤ 999999999 * nval xs := Int.mul_le_mul_of_nonneg_right (by omega) hx0
    omega
  · rw [laid_split hk (by rw [addT_length, hl]), hv, hs, Int.mul_add, Int.mul_add, Int.mul_add]; omega
theorem mul_round {P xs ys : List Int} {k : Nat} {b : Int} (hP : lok P = true) (hl : P.length = xs.length + ys.length) (hx : lok xs = true) (hy : lok ys = true) (hb : ys[k]? = some b) (hv : nval P = nval xs * nval (ys.take k)) :
    (lok (addT (win P k (xs.length + 1)) xs b 0) = true ∧ nval (laid P k (addT (win P k (xs.length + 1)) xs b 0)) = nval xs * nval (ys.take (k + 1))) ∧ k + (xs.length + 1) ≤ P.length := by
  have hk : k < ys.length := by
    rcases Nat.lt_or_ge k ys.length with h | h
    · exact h
    · rw [List.getElem?_eq_none h] at hb; cases hb
  have hkk : k + (xs.length + 1) ≤ P.length := by omega
  have hbb := lok_at hy hb
  have hlt : nval P < 1000000000 ^ (xs.length + k) := by
    have a := nval_lt hx
    have a0 := nval_nonneg hx
    have c := nval_lt (lok_take hy k)
    have c0 := nval_nonneg (lok_take hy k)
    rw [List.length_take, Nat.min_eq_left (by omega)] at c
    rw [hv, Int.pow_add]
    have p := pow_pos' xs.length
    have m1 : nval xs * nval (ys.take k) ≤ 1000000000 ^ xs.length * nval (ys.take k) := Int.mul_le_mul_of_nonneg_right (Int.le_of_lt a) c0
    have m2 : (1000000000 : Int) ^ xs.length * nval (ys.take k) < 1000000000 ^ xs.length * 1000000000 ^ k := Int.mul_lt_mul_of_pos_left c p
    omega
  have h := mul_step hP hkk hx hbb.1 hbb.2 hlt (m := 0)
  refine ⟨⟨h.1, ?_⟩, hkk⟩
  rw [h.2, hv, trim_step hb, nval_snoc, List.length_take, Nat.min_eq_left (by omega), Int.mul_add]
  congr 1
  rw [Int.mul_comm b, Int.mul_left_comm]

theorem wrap_id {n : Int} (h1 : -9223372036854775808 ≤ n) (h2 : n ≤ 9223372036854775807) : IntKind.i64.wrap n = n := by rw [IntKind.wrap_i64]; omega

set_option maxHeartbeats 1600000 in
theorem nat_Mul (xs ys : List Int) (va vb : Value) (w : World) (ha : In w va xs) (hb : In w vb ys) :
    Calls Tryz.prog 76 #[va, vb] w (Res w (mulV xs ys) (mulE xs ys)) := by
  obtain ⟨A, c, rfl, hc, hm, hA⟩ := ha
  obtain ⟨B, d, rfl, hd, hn, hB⟩ := hb
  have HA := Lib.hid hA
  have HB := Lib.hid hB
  have hm1 : xs.length ≤ 9223372036854775807 := Nat.le_trans hc hm
  have hm2 : ys.length ≤ 9223372036854775807 := Nat.le_trans hd hn
  clear hA hB hm hn
  rcases both_cases xs ys with ⟨hx, hbo⟩ | ⟨hx, hy, hbo⟩ | ⟨hx, hy, hbo⟩
  · have HBO := Lib.hid hbo
    clear hbo
    go_enter Tryz.func76, Tryz.ntmps76
    go_wp2_with fail
    refine (nat_Valid xs A c _ _ w HA.out hm1).mono ?_
    rintro e w' ⟨rfl, rfl⟩
    go_wp2_with fail
    go_ret2
    exact Res.none (by rw [mulV, HBO.out]; rfl) (by rw [mulE, HBO.out]; rfl) rfl (Below.refl _ _)
  · have HBO := Lib.hid hbo
    clear hbo
    go_enter Tryz.func76, Tryz.ntmps76
    go_wp2_with fail
    refine (nat_Valid xs A c _ _ w HA.out hm1).mono ?_
    rintro e w' ⟨rfl, rfl⟩
    go_wp2_with fail
    refine (nat_Valid ys B d _ _ _ HB.out hm2).mono ?_
    rintro e w' ⟨rfl, rfl⟩
    go_wp2_with fail
    go_ret2
    exact Res.none (by rw [mulV, HBO.out]; rfl) (by rw [mulE, HBO.out]; rfl) rfl (Below.refl _ _)
  · have HBO := Lib.hid hbo
    have l1 := valid_len hx
    have l2 := valid_len hy
    have HZ := Lib.hid (valid_lok hx)
    have HZ2 := Lib.hid (valid_lok hy)
    clear hbo
    obtain ⟨i0, hi0, hz0, hz1, hz2⟩ := info_parts info_int
    go_enter Tryz.func76, Tryz.ntmps76
    go_wp2_with fail
    refine (nat_Valid xs A c _ _ w HA.out hm1).mono ?_
    rintro e w' ⟨rfl, rfl⟩
    go_wp2_with fail
    refine (nat_Valid ys B d _ _ _ HB.out hm2).mono ?_
    rintro e w' ⟨rfl, rfl⟩
    go_wp2_with (first
      | (at_make; refine wpList_make_full _ rfl _ _ 44 rfl w.heap.size 3 i0 (.int .i64 0) 1 Tryz.underlying44 hi0 hz0 hz1 .i64 .i64 _ _ (xs.length + ys.length) rfl rfl (by omega) (by omega) (by rw [hz2]; omega) (by unfold maxLen; omega) (Nat.le_refl _) ?_; intro w1 hown hgrow)
      | fail)
    have hrow0 : Row w1 w.heap.size (List.replicate (xs.length + ys.length) 0) := row_of_heap (heap_of_made hown)
    have hbel0 : Below w.heap.size w w1 := (Below.refl _ _).grown hgrow (Nat.le_refl _) (fun k hk => by cases hk)
    have HR0 := Lib.hid hrow0
    have HB0 := Lib.hid hbel0
    clear hrow0 hbel0 hown hgrow
    go_loopw [24] (fun i wr => ∃ (k : Nat) (P : List Int), k ≤ ys.length ∧ i = .int .i64 k ∧ P.length = xs.length + ys.length ∧ lok P = true ∧ nval P = nval xs * nval (ys.take k) ∧ Row wr w.heap.size P ∧ Below w.heap.size w wr) (fun i _ => ys.length - (intOf i).toNat)
    case atStart => exact ⟨0, _, Nat.zero_le _, rfl, by simp, lok_zeros _, by rw [nval_zeros]; simp [nval], HR0.out, HB0.out⟩
    case round =>
      obtain ⟨k, P, hk, rfl, hP, hPk, hPv, hrow, hbel⟩ := hrel
      have HPK := Lib.hid hPk
      have HPV := Lib.hid hPv
      have HP := Lib.hid hP
      have HR := Lib.hid hrow
      have HBL := Lib.hid hbel
      clear hPk hPv hP hrow hbel
      rcases Nat.lt_or_ge k ys.length with hlt | hge
      · obtain ⟨b, hb⟩ : ∃ b, ys[k]? = some b := ⟨_, List.getElem?_eq_getElem hlt⟩
        obtain ⟨bb, off, rfl, _, _, hcell⟩ := (Holds.below HB.out HBL.out (Nat.le_refl _)) k b hb
        have hmr := mul_round HPK.out HP.out HZ.out HZ2.out hb HPV.out
        have hbb := lok_at HZ2.out hb
        have hcall : ∀ (W : World) (cap : Nat), W.heap = wr.heap → Calls Tryz.prog 95 #[.slice (some ⟨w.heap.size, k, none⟩) (xs.length + 1) cap, .slice A xs.length c, .int .i64 b] W
            fun e w' => e = .returned (.tuple #[]) ∧ Row w' w.heap.size (laid P k (addT (win P k (xs.length + 1)) xs b 0)) ∧ Only w.heap.size W w' := by
          intro W cap hW
          have hwl := win_length hmr.2
          have hwk : lok (win P k (xs.length + 1)) = true := lok_take (lok_drop HPK.out k) _
          have h := nat_addTimes P (win P k (xs.length + 1)) xs b w.heap.size k cap c 0 w.heap.size A W (HR.out.keep (by rw [hW])) (by rw [hwl]; exact hmr.2) (fun j hj => win_at hmr.2 j (by omega))
            ((Holds.below HA.out HBL.out (Nat.le_refl _)).keep fun i _ _ => by rw [hW]) (Or.inr (Nat.le_refl _)) (by omega) (by omega) (by rw [List.dropLast_eq_take]; exact lok_take hwk _) (fun z hz => by have := lok_at hwk hz; omega) HZ.out (by omega) (by omega)
          rw [hwl] at h; exact h
        have HCALL := Lib.hid hcall
        have HS := Lib.hid hmr
        have HBB := Lib.hid hb
        have hk2 : (k : Int) + xs.length + 1 ≤ (xs.length : Int) + ys.length := by omega
        have hk3 : (k : Int) ≤ (k : Int) + xs.length + 1 := by omega
        have hw1 : IntKind.i64.wrap ((k : Int) + xs.length) = (k : Int) + xs.length := wrap_id (by omega) (by omega)
        have hw2 : IntKind.i64.wrap ((k : Int) + xs.length + 1) = (k : Int) + xs.length + 1 := wrap_id (by omega) (by omega)
        have hk4 : (k : Int) < (ys.length : Int) := by omega
        have hk5 : ¬ xs.length + ys.length = k := by omega
        have hk6 : ((k : Int) + xs.length + 1).toNat - k = xs.length + 1 := by omega
        clear hb hcall hmr hbb
        go_wp2_with fail
        go_still_tail 13, (by kernel_rfl)
        change wpList _ _ _ _ _ wr.drew
        go_wp2_with fail
        refine (HCALL.out wr.drew _ rfl).mono ?_
        rintro e w' ⟨rfl, hr2, ho2⟩
        have HR2 := Lib.hid hr2
        have HO2 := Lib.hid ho2
        clear hr2 ho2 hcell
        go_wp2_with fail
        go_roundw
        case rel =>
          have hm := HS.out
          have hwl := win_length hm.2
          exact ⟨k + 1, _, by omega, by go_num, by rw [laid_length (by rw [addT_length, hwl]; exact hm.2), HP.out], laid_lok HPK.out hm.1.1, hm.1.2, HR2.out, (HBL.out.drew).trans (HO2.out.toBelow (Nat.le_refl _))⟩
        case measure => simp [intOf]; omega
      · obtain rfl : k = ys.length := by omega
        have hv := HPV.out
        rw [List.take_length] at hv
        have hsz := HR.out.lt
        have hlim := nat_limited P (some ⟨w.heap.size, 0, none⟩) (xs.length + ys.length) w.heap.size wr.heap.size wr (HR.out.holds (fun k z hz => by rw [Nat.zero_add]; exact hz) (Nat.le_refl _) hsz) (by have := HP.out; omega) (by unfold maxLen; omega) HPK.out
        rw [hv, HP.out] at hlim
        have HLIM := Lib.hid hlim
        clear hlim hv
        go_wp2_with fail
        refine HLIM.out.mono ?_
        rintro e w3 ⟨v, rfl, hsl, rfl⟩
        go_wp2_with fail
        go_ret2
        refine ⟨v, ?_, ?_, HBL.out⟩
        · rw [mulE, HBO.out]; rfl
        · rw [mulV, HBO.out]; exact hsl
end Go.Proofs.YtagjimdplmimoaaGreat
/- The contract of nat.Text. -/
namespace Go.Proofs.YtagjimdplmimoaaGreat
open Go.ChangeShapes Go.WideShapes Go.RowKit
set_option linter.unusedVariables false
set_option maxRecDepth 100000

/-- The table of powers of ten reads as it was laid. -/
def Tab (w : World) : Prop := Lib.TabBelow Tryz.prog w.heap.size w "internal/strconv.uint64pow10" .u64 Lib.pow10Tab
theorem Tab.on {w w' : World} (h : Tab w) (hb : Below w.heap.size w w') : Tab w' := fun w2 h2 => h w2 (hb.trans (h2.mono hb.size))
theorem Tab.here {w : World} (h : Tab w) : Lib.TabIs Tryz.prog w "internal/strconv.uint64pow10" .u64 Lib.pow10Tab := h w (Below.refl _ _)

def padD : Nat → Nat → List UInt8
  | 0, _ => []
  | k + 1, r => padD k (r / 10) ++ [UInt8.ofNat (48 + r % 10)]
theorem padD_length (k : Nat) : ∀ r, (padD k r).length = k := by
  induction k with
  | zero => intro r; rfl
  | succ k ih => intro r; rw [padD, List.length_append, ih]; rfl
theorem dec_pad (k : Nat) : ∀ (q r : Nat), 0 < q → r < 10 ^ k → Lib.decDigits (q * 10 ^ k + r) = Lib.decDigits q ++ padD k r := by
  induction k with
  | zero => intro q r hq hr; obtain rfl : r = 0 := by simpa using hr
            simp [padD]
  | succ k ih =>
    intro q r hq hr
    have p : 0 < 10 ^ k := Nat.pow_pos (by decide)
    rw [Nat.pow_succ] at hr ⊢
    have e1 : (q * (10 ^ k * 10) + r) / 10 = q * 10 ^ k + r / 10 := by
      rw [← Nat.mul_assoc, Nat.mul_comm (q * 10 ^ k) 10, Nat.mul_add_div (by decide)]
    have e2 : (q * (10 ^ k * 10) + r) % 10 = r % 10 := by
      rw [← Nat.mul_assoc, Nat.mul_comm (q * 10 ^ k) 10, Nat.mul_add_mod]
    have big : ¬ q * (10 ^ k * 10) + r < 10 := by
      have : 1 * (1 * 10) ≤ q * (10 ^ k * 10) := Nat.mul_le_mul hq (Nat.mul_le_mul_right 10 p)
      omega
    rw [Lib.decDigits, dif_neg big, e1, e2, ih q (r / 10) hq (by omega), padD, List.append_assoc]
theorem dec_limb {x : Nat} (h : x < 1000000000) : Lib.decDigits (1000000000 + x) = 49 :: padD 9 x := by
  have := dec_pad 9 1 x (by decide) (by simpa using h)
  have e : Lib.decDigits 1 = [49] := by rw [Lib.decDigits_one (by decide)]; rfl
  rw [e] at this
  simpa using this
theorem dec_next {x q : Nat} (h : x < 1000000000) (hq : 0 < q) : Lib.decDigits (x + 1000000000 * q) = Lib.decDigits q ++ padD 9 x := by
  have := dec_pad 9 q x hq (by simpa using h)
  rw [← this]; congr 1; omega
def decS (n : Nat) : ByteArray := ⟨(Lib.decDigits n).toArray⟩
def textV (xs : List Int) : ByteArray := if validB xs then decS (nval xs).toNat else ⟨#[]⟩
def oneE (xs : List Int) : Int := if validB xs then 0 else 3

theorem own_keep {w w' : World} {base e size n : Nat} {v : Value} {xs : List Value} (h : w.ownsRow base e size v n xs) (hb : Below w.heap.size w w') : w'.ownsRow base e size v n xs := by
  obtain ⟨h1, h2 | ⟨g, cap, cur, rfl, h3, h4, h5⟩⟩ := h
  · exact ⟨h1, Or.inl h2⟩
  · exact ⟨h1, Or.inr ⟨g, cap, cur, rfl, h3, (hb.block g (lt_of_block h4)).trans h4, h5⟩⟩
theorem grow_below' (w : World) (k : Nat) (os : Array Obj) : Below w.heap.size w (Sort.grow (w.drewN k) os) := by
  refine ⟨rfl, rfl, rfl, ?_, fun i hi => ?_⟩
  · show w.heap.size ≤ (w.heap ++ os).size; rw [Array.size_append]; omega
  · show (w.heap ++ os)[i]? = _; rw [Array.getElem?_append_left hi]
theorem info_byte : (Tryz.prog.info? 5).map (fun i => (i.zero, i.size, i.bytes)) = some (some (.int .u8 0), 1, 1) := by kernel_rfl
theorem itoa_nn {x : Int} (h : 0 ≤ x) : Lib.itoa x = Lib.decDigits x.toNat := by unfold Lib.itoa; rw [if_neg (by omega)]
theorem nval_pos_last {xs : List Int} (hn : nrm xs = true) {k : Nat} (hk : k < xs.length) : 0 < nval (xs.drop k) := by
  have hl := nrm_lok hn
  have hne : xs.drop k ≠ [] := by intro h; have := congrArg List.length h; simp at this; omega
  have e := List.dropLast_concat_getLast hne
  have h1 := nval_nonneg (lok_drop hl k)
  rcases Int.lt_or_eq_of_le h1 with h | h
  · exact h
  · exfalso
    have hz : (xs.drop k).getLast? = some ((xs.drop k).getLast hne) := List.getLast?_eq_some_getLast hne
    have hz2 : xs.getLast? = some ((xs.drop k).getLast hne) := by rw [← hz, List.getLast?_drop, if_neg (by omega)]
    have hlok := lok_drop hl k
    rw [← e, lok_append] at hlok
    have a := nval_nonneg hlok.1
    rw [← e, nval_snoc] at h
    have z0 : 0 ≤ (xs.drop k).getLast hne := (lok_cons.mp hlok.2).1.1
    have p := pow_pos' (xs.drop k).dropLast.length
    have hm := Int.mul_nonneg (Int.le_of_lt p) z0
    have hm0 : 1000000000 ^ (xs.drop k).dropLast.length * (xs.drop k).getLast hne = 0 := by omega
    rcases Int.mul_eq_zero.mp hm0 with h2 | h2
    · omega
    · rw [h2] at hz2; simp [nrm, hz2] at hn

theorem nval_last {xs : List Int} {z : Int} (hz : xs[xs.length - 1]? = some z) : nval (xs.drop (xs.length - 1)) = z := by
  have h := nval_drop_step hz
  have hp : 0 < xs.length := by
    rcases Nat.eq_zero_or_pos xs.length with h1 | h1
    · have : xs = [] := List.eq_nil_of_length_eq_zero h1
      subst this; simp at hz
    · exact h1
  rw [h, List.drop_eq_nil_of_le (by omega)]; simp [nval]
theorem text_start {xs : List Int} {z : Int} (hn : nrm xs = true) (hz : xs[xs.length - 1]? = some z) : Lib.itoa z = Lib.decDigits (nval (xs.drop (xs.length - 1 - 0))).toNat := by
  rw [Nat.sub_zero, nval_last hz, itoa_nn (lok_at (nrm_lok hn) hz).1]
theorem text_step {xs : List Int} {x : Int} {k : Nat} (hn : nrm xs = true) (hk : k < xs.length - 1) (hx : xs[xs.length - 1 - 1 - k]? = some x) :
    Lib.decDigits (nval (xs.drop (xs.length - 1 - (k + 1)))).toNat = Lib.decDigits (nval (xs.drop (xs.length - 1 - k))).toNat ++ padD 9 x.toNat := by
  have e0 : xs.length - 1 - (k + 1) = xs.length - 1 - 1 - k := by omega
  have h := nval_drop_step hx
  have e1 : xs.length - 1 - 1 - k + 1 = xs.length - 1 - k := by omega
  rw [e1] at h
  have p := nval_pos_last hn (k := xs.length - 1 - k) (by omega)
  have b := lok_at (nrm_lok hn) hx
  rw [e0, h, ← dec_next (x := x.toNat) (by omega) (q := (nval (xs.drop (xs.length - 1 - k))).toNat) (by omega)]
  congr 1; omega
theorem tail_bytes {x : Int} (h0 : 0 ≤ x) (h1 : x < 1000000000) : Lib.itoa (1000000000 + x) = 49 :: padD 9 x.toNat := by
  rw [itoa_nn (by omega), ← dec_limb (by omega)]; congr 1; omega

theorem tail_cells {S : ByteArray} {x : Nat} (hS : S = ⟨(49 :: padD 9 x).toArray⟩) : Lib.strCells (S.extract 1 10) = Lib.byteCells (padD 9 x) ∧ (S.extract 1 10).size = 9 := by
  subst hS
  have h : (ByteArray.extract ⟨(49 :: padD 9 x).toArray⟩ 1 10).data.toList = padD 9 x := by
    rw [ByteArray.data_extract]
    simp [List.take_of_length_le (Nat.le_of_eq (padD_length 9 x))]
  refine ⟨by unfold Lib.strCells Lib.byteCells; rw [h], ?_⟩
  show (ByteArray.extract ⟨(49 :: padD 9 x).toArray⟩ 1 10).data.size = 9
  rw [← Array.length_toList, h, padD_length]

end Go.Proofs.YtagjimdplmimoaaGreat
/- Contracts of nat.isDecimal and nat.Parse. -/
namespace Go.Proofs.YtagjimdplmimoaaGreat
open Go.ChangeShapes Go.WideShapes Go.RowKit
set_option linter.unusedVariables false
set_option maxRecDepth 100000

def isD (b : UInt8) : Bool := decide (48 ≤ b.toNat) && decide (b.toNat ≤ 57)
/-- Digits, not none, without leading zeros. -/
def decOk (L : List UInt8) : Bool := L.all isD && (decide (L = [48]) || (!L.isEmpty && ((L.headD 0) != 48)))
theorem str_get? (s : ByteArray) {k : Nat} (h : k < s.size) : s.data.toList[k]? = some s[k] := by
  rw [Array.getElem?_toList]
  exact Array.getElem?_eq_getElem h
theorem str_len (s : ByteArray) : s.data.toList.length = s.size := by rw [Array.length_toList]; rfl
theorem all_snoc {L : List UInt8} {k : Nat} {b : UInt8} (h : (L.take k).all isD = true) (hb : L[k]? = some b) (h1 : isD b = true) : (L.take (k + 1)).all isD = true := by
  rw [List.take_add_one, hb, List.all_append, h]; simp [h1]
theorem decOk_bad {L : List UInt8} {k : Nat} {b : UInt8} (hb : L[k]? = some b) (h1 : isD b = false) : decOk L = false := by
  have : L.all isD = false := by
    rw [List.all_eq_false]; exact ⟨b, List.mem_of_getElem? hb, by simp [h1]⟩
  simp [decOk, this]
theorem isD_no {b : UInt8} (h : b.toNat < 48 ∨ 57 < b.toNat) : isD b = false := by
  unfold isD
  rcases h with h | h
  · rw [decide_eq_false (by omega)]; rfl
  · rw [decide_eq_false (p := b.toNat ≤ 57) (by omega), Bool.and_false]
theorem isD_yes {b : UInt8} (h1 : 48 ≤ b.toNat) (h2 : b.toNat ≤ 57) : isD b = true := by simp [isD, h1, h2]
theorem isD_iff {b : UInt8} (h : isD b = true) : 48 ≤ b.toNat ∧ b.toNat ≤ 57 := by simpa [isD] using h

theorem fin_dec {s : ByteArray} {w : World} {b : Bool} (h : b = decOk s.data.toList) : Ending.returned (.bool b) = Ending.returned (.bool (decOk s.data.toList)) ∧ w = w := by subst h; exact ⟨rfl, rfl⟩

end Go.Proofs.YtagjimdplmimoaaGreat
/- The contract of nat.Parse. -/
namespace Go.Proofs.YtagjimdplmimoaaGreat
open Go.ChangeShapes Go.WideShapes Go.RowKit
set_option linter.unusedVariables false
set_option maxRecDepth 100000

/-- What digits stand for. -/
def dval (L : List UInt8) : Nat := L.foldl (fun v b => v * 10 + (b.toNat - 48)) 0
theorem dval_snoc (L : List UInt8) (b : UInt8) : dval (L ++ [b]) = dval L * 10 + (b.toNat - 48) := by simp [dval]
def parN (L : List UInt8) : Nat := if decOk L then (if L.length ≤ 432 then dval L else 0) else 0
def parE (L : List UInt8) : Int := if decOk L then (if L.length ≤ 432 then 0 else 2) else 3

theorem nval_drop_getD (P : List Int) (t : Nat) : nval (P.drop t) = P.getD t 0 + 1000000000 * nval (P.drop (t + 1)) := by
  rcases Nat.lt_or_ge t P.length with h | h
  · have hz : P[t]? = some P[t] := List.getElem?_eq_getElem h
    rw [nval_drop_step hz, List.getD_eq_getElem?_getD, hz]; rfl
  · rw [List.drop_eq_nil_of_le h, List.drop_eq_nil_of_le (by omega), List.getD_eq_getElem?_getD, List.getElem?_eq_none h]; rfl
theorem lok_set {P : List Int} (h : lok P = true) (j : Nat) {v : Int} (h0 : 0 ≤ v) (h1 : v < 1000000000) : lok (P.set j v) = true := by
  simp only [lok, List.all_eq_true] at h ⊢
  intro x hx
  rcases List.mem_or_eq_of_mem_set hx with h2 | h2
  · exact h x h2
  · subst h2; simp [h0, h1]
structure PInv (L : List UInt8) (P : List Int) (k : Nat) : Prop where
  len : P.length = (L.length + 8) / 9
  ok : lok P = true
  low : ∀ j, j < (L.length - k) / 9 → P.getD j 0 = 0
  lt : P.getD ((L.length - k) / 9) 0 < 10 ^ (9 - (L.length - k) % 9)
  val : (dval (L.take k) : Int) = nval (P.drop ((L.length - k) / 9 + 1)) * 10 ^ (9 - (L.length - k) % 9) + P.getD ((L.length - k) / 9) 0
theorem getD_replicate (n j : Nat) : (List.replicate n (0 : Int)).getD j 0 = 0 := by
  rw [List.getD_eq_getElem?_getD, List.getElem?_replicate]; split <;> rfl
theorem pinv_start (L : List UInt8) : PInv L (List.replicate ((L.length + 8) / 9) 0) 0 := by
  refine ⟨by simp, lok_zeros _, fun j _ => getD_replicate _ _, ?_, ?_⟩
  · rw [getD_replicate]; exact Int.pow_pos (by decide)
  · rw [getD_replicate, List.drop_replicate, nval_zeros]; simp [dval]
theorem pinv_end {L : List UInt8} {P : List Int} (h : PInv L P L.length) : nval P = dval L := by
  have h1 := h.val
  rw [Nat.sub_self, List.take_length] at h1
  have h2 := nval_drop_getD P 0
  rw [List.drop_zero] at h2
  have e : ((10 : Int) ^ (9 - 0 % 9)) = 1000000000 := by decide
  rw [e] at h1
  simp only [Nat.zero_div, Nat.zero_add] at h1 h2
  omega
theorem getD_set_same {P : List Int} {j : Nat} (h : j < P.length) (v : Int) : (P.set j v).getD j 0 = v := by
  rw [List.getD_eq_getElem?_getD, List.getElem?_set_self h]; rfl
theorem getD_set_other {P : List Int} {i j : Nat} (h : i ≠ j) (v : Int) : (P.set i v).getD j 0 = P.getD j 0 := by
  rw [List.getD_eq_getElem?_getD, List.getElem?_set_ne h, List.getD_eq_getElem?_getD]
theorem drop_set_above {P : List Int} {i j : Nat} (h : i < j) (v : Int) : (P.set i v).drop j = P.drop j := by
  rw [List.drop_set, if_pos h]
theorem dval_take_succ {L : List UInt8} {k : Nat} {b : UInt8} (hb : L[k]? = some b) (hd : isD b = true) : (dval (L.take (k + 1)) : Int) = dval (L.take k) * 10 + ((b.toNat : Int) - 48) := by
  rw [List.take_add_one, hb]
  have := dval_snoc (L.take k) b
  have hb := isD_iff hd
  simp only [Option.toList_some]
  rw [this]; omega
theorem pinv_step {L : List UInt8} {P : List Int} {k : Nat} {b : UInt8} (h : PInv L P k) (hb : L[k]? = some b) (hd : isD b = true) :
    (L.length - 1 - k) / 9 < P.length ∧ 0 ≤ P.getD ((L.length - 1 - k) / 9) 0 ∧ P.getD ((L.length - 1 - k) / 9) 0 < 100000000 ∧
    PInv L (P.set ((L.length - 1 - k) / 9) (P.getD ((L.length - 1 - k) / 9) 0 * 10 + ((b.toNat : Int) - 48))) (k + 1) := by
  have hk : k < L.length := by
    rcases Nat.lt_or_ge k L.length with h1 | h1
    · exact h1
    · rw [List.getElem?_eq_none h1] at hb; cases hb
  have hbd := isD_iff hd
  have hv := dval_take_succ hb hd
  have hlen := h.len
  have e1 : L.length - (k + 1) = L.length - 1 - k := by omega
  have hj : (L.length - 1 - k) / 9 < P.length := by omega
  obtain ⟨j, hjj⟩ : ∃ j, j = (L.length - 1 - k) / 9 := ⟨_, rfl⟩
  have x0 := (lok_getD h.ok j).1
  by_cases hr : (L.length - k) % 9 = 0
  · have ej : (L.length - k) / 9 = j + 1 := by omega
    have er : (L.length - 1 - k) % 9 = 8 := by omega
    have hx : P.getD j 0 = 0 := h.low j (by omega)
    have h1 := h.val
    rw [hr, ej] at h1
    have e9 : ((10 : Int) ^ (9 - 0)) = 1000000000 := by decide
    have e8 : ((10 : Int) ^ (9 - 8)) = 10 := by decide
    rw [e9] at h1
    have h2 := nval_drop_getD P (j + 1)
    rw [← hjj, hx]
    rw [← hjj] at hj
    refine ⟨hj, by omega, by omega, by rw [List.length_set]; exact hlen, lok_set h.ok _ (by omega) (by omega), ?_, ?_, ?_⟩
    · intro i hi
      rw [e1, ← hjj] at hi
      rw [getD_set_other (by omega)]; exact h.low i (by omega)
    · rw [e1, ← hjj, er, e8, getD_set_same hj]; omega
    · rw [e1, ← hjj, er, e8, getD_set_same hj, hv, drop_set_above (by omega)]; omega
  · have ej : (L.length - k) / 9 = j := by omega
    have er : 9 - (L.length - 1 - k) % 9 = 9 - (L.length - k) % 9 + 1 := by omega
    have h1 := h.val
    have h3 := h.lt
    rw [ej] at h1 h3
    obtain ⟨q, hq⟩ : ∃ q, q = 9 - (L.length - k) % 9 := ⟨_, rfl⟩
    have hq8 : q ≤ 8 := by omega
    rw [← hq] at h1 h3 er
    have hp8 : (10 : Int) ^ q ≤ 100000000 := by
      have : ∀ q : Nat, q ≤ 8 → (10 : Int) ^ q ≤ 100000000 := by decide
      exact this q hq8
    rw [← hjj]
    rw [← hjj] at hj
    refine ⟨hj, x0, by omega, by rw [List.length_set]; exact hlen, lok_set h.ok _ (by omega) (by omega), ?_, ?_, ?_⟩
    · intro i hi
      rw [e1, ← hjj] at hi
      rw [getD_set_other (by omega)]; exact h.low i (by omega)
    · rw [e1, ← hjj, er, getD_set_same hj, Int.pow_succ]; omega
    · rw [e1, ← hjj, er, getD_set_same hj, hv, drop_set_above (by omega), Int.pow_succ, h1, ← Int.mul_assoc]; omega

end Go.Proofs.YtagjimdplmimoaaGreat
