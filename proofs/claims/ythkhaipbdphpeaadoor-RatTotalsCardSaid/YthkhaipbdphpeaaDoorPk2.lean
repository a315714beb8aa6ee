/- Several texts in one: NatG, NatH, NatI, NatJ, NatK, NatL, NatM, NatN, NatO, NatP, NatW1, NatW2, NatQ, NatR. -/
import Derived.Test.YthkhaipbdphpeaaDoorPk1
import Derived.StillTailTactics
import Derived.Lib.ItoaNum
import Derived.Lib.ItoaLen
import Derived.Lib.AppendStr
import Derived.Laws.AppendOwnNone
/- Contracts of compare: the program's and the reference's; Cmp of both. -/
namespace Go.Proofs.YthkhaipbdphpeaaDoor
open Go.ChangeShapes Go.WideShapes Go.RowKit
set_option linter.unusedVariables false
set_option maxRecDepth 100000

def cmpI (x y : Int) : Int := Lib.compareInt x y
theorem cmpI_lt {x y : Int} (h : x < y) : cmpI x y = -1 := by simp [cmpI, Lib.compareInt, h]
theorem cmpI_gt {x y : Int} (h : y < x) : cmpI x y = 1 := by
  unfold cmpI Lib.compareInt; rw [if_neg (by omega), if_pos h]
theorem cmpI_eq (x : Int) : cmpI x x = 0 := by simp [cmpI, Lib.compareInt]
theorem nrm_len {xs ys : List Int} (hx : nrm xs = true) (hy : nrm ys = true) (h : xs.length < ys.length) : nval xs < nval ys := by
  have a := nval_lt (nrm_lok hx)
  have b := nrm_limbs hy
  have c := nval_nonneg (nrm_lok hy)
  have d := nval_nonneg (nrm_lok hx)
  rcases Int.lt_or_le (nval xs) (nval ys) with h1 | h1
  · exact h1
  · exfalso
    have e : (nval ys).toNat < 1000000000 ^ xs.length := by
      have : ((nval ys).toNat : Int) < ((1000000000 ^ xs.length : Nat) : Int) := by rw [Int.natCast_pow]; have : ((1000000000 : Nat) : Int) = 1000000000 := rfl; rw [this]; omega
      omega
    have := limbs_len_le.mpr e
    rw [← b] at this
    omega
theorem nval_lt_at {xs ys : List Int} {k : Nat} {x y : Int} (hx : lok xs = true) (hy : lok ys = true) (h1 : xs[k]? = some x) (h2 : ys[k]? = some y) (he : xs.drop (k + 1) = ys.drop (k + 1)) (h : x < y) : nval xs < nval ys := by
  have hk : k < xs.length := by
    rcases Nat.lt_or_ge k xs.length with h | h
    · exact h
    · rw [List.getElem?_eq_none h] at h1; cases h1
  have hk2 : k < ys.length := by
    rcases Nat.lt_or_ge k ys.length with h | h
    · exact h
    · rw [List.getElem?_eq_none h] at h2; cases h2
  have e1 : nval xs = nval (xs.take k) + 1000000000 ^ k * (x + 1000000000 * nval (xs.drop (k + 1))) := by
    rw [← nval_drop_step h1]
    have := nval_append (xs.take k) (xs.drop k)
    rw [List.take_append_drop, List.length_take, Nat.min_eq_left (by omega)] at this; exact this
  have e2 : nval ys = nval (ys.take k) + 1000000000 ^ k * (y + 1000000000 * nval (ys.drop (k + 1))) := by
    rw [← nval_drop_step h2]
    have := nval_append (ys.take k) (ys.drop k)
    rw [List.take_append_drop, List.length_take, Nat.min_eq_left (by omega)] at this; exact this
  have l1 := nval_lt (lok_take hx k)
  have l2 := nval_nonneg (lok_take hy k)
  rw [List.length_take, Nat.min_eq_left (by omega)] at l1
  rw [e1, e2, he]
  obtain ⟨P, hP⟩ : ∃ P : Int, P = 1000000000 ^ k := ⟨_, rfl⟩
  obtain ⟨R, hR⟩ : ∃ R : Int, R = 1000000000 * nval (ys.drop (k + 1)) := ⟨_, rfl⟩
  have hpos := pow_pos' k
  rw [← hP] at l1 hpos ⊢
  rw [← hR]
  have m : P * (x + R) + P ≤ P * (y + R) := by
    have := Int.mul_le_mul_of_nonneg_left (show x + R + 1 ≤ y + R by omega) (Int.le_of_lt hpos)
    rw [Int.mul_add, Int.mul_one] at this; exact this
  omega
theorem drop_step {l : List Int} {k : Nat} {z : Int} (h : l[k]? = some z) : l.drop k = z :: l.drop (k + 1) := by
  have hk : k < l.length := by
    rcases Nat.lt_or_ge k l.length with h1 | h1
    · exact h1
    · rw [List.getElem?_eq_none h1] at h; cases h
  rw [List.drop_eq_getElem_cons hk]
  rw [List.getElem?_eq_getElem hk] at h
  cases h; rfl

set_option maxHeartbeats 1600000 in
theorem nat_compare (xs ys : List Int) (A B : Option Addr) (c d : Nat) (lo hi lo' hi' : Nat) (w : World) (hS : Holds w lo hi A xs) (hT : Holds w lo' hi' B ys) (hh : hi ≤ w.heap.size) (hh' : hi' ≤ w.heap.size)
    (hx : nrm xs = true) (hy : nrm ys = true) (hm : xs.length ≤ 1000000) (hm2 : ys.length ≤ 1000000) :
    Calls Tryd.prog 87 #[.slice A xs.length c, .slice B ys.length d] w fun e w' => e = .returned (.int .i64 (cmpI (nval xs) (nval ys))) ∧ Below w.heap.size w w' := by
  have HS := Lib.hid hS
  have HT := Lib.hid hT
  have HX := Lib.hid hx
  have HY := Lib.hid hy
  clear hS hT hx hy
  by_cases hl : xs.length = ys.length
  · go_enter Tryd.func87, Tryd.ntmps87
    rw [← hl]
    have HL := Lib.hid hl
    clear hl hm2
    go_wp2_with fail
    go_loopw [19] (fun i wr => ∃ k : Nat, k ≤ xs.length ∧ i = .int .i64 k ∧ xs.drop (xs.length - k) = ys.drop (xs.length - k) ∧ Below w.heap.size w wr) (fun i _ => xs.length - (intOf i).toNat)
    case atStart => exact ⟨0, Nat.zero_le _, rfl, by rw [Nat.sub_zero, List.drop_length, HL.out, List.drop_length], Below.refl _ _⟩
    case round =>
      obtain ⟨k, hk, rfl, hz, hbel⟩ := hrel
      have HK := Lib.hid hz
      have HB := Lib.hid hbel
      clear hz hbel
      rcases Nat.lt_or_ge k xs.length with hlt | hge
      · obtain ⟨j, hj⟩ : ∃ j, j = xs.length - 1 - k := ⟨_, rfl⟩
        obtain ⟨z, hz⟩ : ∃ z, xs[j]? = some z := ⟨_, List.getElem?_eq_getElem (by omega)⟩
        obtain ⟨y, hy⟩ : ∃ y, ys[j]? = some y := ⟨_, List.getElem?_eq_getElem (by have := HL.out; omega)⟩
        obtain ⟨b, off, rfl, _, _, hcell⟩ := (HS.out.below HB.out hh) j z hz
        obtain ⟨b2, off2, rfl, _, _, hcell2⟩ := (HT.out.below HB.out hh') j y hy
        have e1 : (xs.length : Int) - 1 - k = (j : Int) := by omega
        have hjl : j < xs.length := by omega
        have hd : xs.drop (j + 1) = ys.drop (j + 1) := by have := HK.out; have e : xs.length - k = j + 1 := by omega
                                                          rwa [e] at this
        have HZ := Lib.hid hz
        have HYY := Lib.hid hy
        have HJ := Lib.hid hj
        have HD := Lib.hid hd
        clear hz hy hj hd
        by_cases h0 : z = y
        · subst h0
          have hne : (z != z) = false := by simp
          go_wp2_with fail
          go_quiet (fail)
          go_wp2_with fail
          go_roundw
          case rel =>
            refine ⟨k + 1, by omega, by go_num, ?_, below_drewN HB.out _⟩
            have e2 : xs.length - (k + 1) = j := by have := HJ.out; omega
            rw [e2, drop_step HZ.out, drop_step HYY.out, HD.out]
          case measure => simp [intOf]; omega
        · have hne : (z != y) = true := by simpa using h0
          have hv : Lib.compareInt z y = cmpI (nval xs) (nval ys) := by
            rcases Int.lt_or_le z y with h1 | h1
            · rw [cmpI_lt (nval_lt_at (nrm_lok HX.out) (nrm_lok HY.out) HZ.out HYY.out HD.out h1)]; exact cmpI_lt h1
            · have h2 : y < z := by omega
              rw [cmpI_gt (nval_lt_at (nrm_lok HY.out) (nrm_lok HX.out) HYY.out HZ.out HD.out.symm h2)]; exact cmpI_gt h2
          have HV := Lib.hid hv
          clear hv h0
          go_wp2_with fail
          go_quiet (fail)
          go_wp2_with fail
          go_quiet ((go_at_call 100; exact (Tryd.cmp_Compare_int _ _ _).mono fun _ _ k => ⟨k.1, _, k.2⟩))
          go_wp2_with fail
          go_ret
          exact ⟨ret_int HV.out, below_drewN (below_drewN HB.out _) _⟩
      · obtain rfl : k = xs.length := by omega
        have he : xs = ys := by have := HK.out; simpa using this
        have HE := Lib.hid he
        clear he
        go_wp2_with fail
        go_ret
        refine ⟨ret_int ?_, HB.out⟩
        rw [← HE.out, cmpI_eq]
  · have hne : ((xs.length : Int) != (ys.length : Int)) = true := by simp; omega
    have hv : Lib.compareInt (xs.length : Int) (ys.length : Int) = cmpI (nval xs) (nval ys) := by
      rcases Nat.lt_or_ge xs.length ys.length with h1 | h1
      · rw [cmpI_lt (nrm_len HX.out HY.out h1)]; exact cmpI_lt (by omega)
      · rw [cmpI_gt (nrm_len HY.out HX.out (by omega))]; exact cmpI_gt (by omega)
    have HV := Lib.hid hv
    clear hv hl
    go_enter Tryd.func87, Tryd.ntmps87
    go_wp2_with (go_at_call 100; refine (Tryd.cmp_Compare_int _ _ _).mono ?_; rintro e w' ⟨rfl, rfl⟩)
    go_ret
    exact ⟨ret_int HV.out, Below.refl _ _⟩
end Go.Proofs.YthkhaipbdphpeaaDoor
/- Contracts of nat.Cmp, nat.Add, nat.Sub. -/
namespace Go.Proofs.YthkhaipbdphpeaaDoor
open Go.ChangeShapes Go.WideShapes Go.RowKit
set_option linter.unusedVariables false
set_option maxRecDepth 100000

/-- A slice that is there: it holds the integers zs. -/
def In (w : World) (v : Value) (zs : List Int) : Prop := Sl w 0 w.heap.size v zs
theorem Sl.below {w w' : World} {B lo hi : Nat} {v : Value} {zs : List Int} (h : Sl w lo hi v zs) (hb : Below B w w') (hB : hi ≤ B) : Sl w' lo hi v zs := by
  obtain ⟨A, c, rfl, h1, h2, h3⟩ := h
  exact ⟨A, c, rfl, h1, h2, Holds.below h3 hb hB⟩
theorem Sl.more {w : World} {lo hi lo' hi' : Nat} {v : Value} {zs : List Int} (h : Sl w lo hi v zs) (hl : lo' ≤ lo) (hh : hi ≤ hi') : Sl w lo' hi' v zs := by
  obtain ⟨A, c, rfl, h1, h2, h3⟩ := h
  exact ⟨A, c, rfl, h1, h2, Holds.more h3 hl hh⟩
theorem In.below {w w' : World} {B : Nat} {v : Value} {zs : List Int} (h : In w v zs) (hb : Below B w w') (hB : w.heap.size ≤ B) : In w' v zs :=
  (Sl.below h hb hB).more (Nat.le_refl _) hb.size
theorem Sl.toIn {w : World} {lo : Nat} {v : Value} {zs : List Int} (h : Sl w lo w.heap.size v zs) : In w v zs := h.more (Nat.zero_le _) (Nat.le_refl _)
theorem In.nil (w : World) : In w (.slice none 0 0) [] := ⟨none, 0, rfl, Nat.le_refl _, by unfold maxLen; omega, fun k z hz => by simp at hz⟩
theorem Sl.nil (w : World) (lo hi : Nat) : Sl w lo hi (.slice none 0 0) [] := ⟨none, 0, rfl, Nat.le_refl _, by unfold maxLen; omega, fun k z hz => by simp at hz⟩

/-- What a function that returns a number and an error leaves. -/
def Res (w : World) (N : Nat) (err : Int) (e : Ending) (w' : World) : Prop :=
  ∃ v, e = .returned (.tuple #[v, .int .i64 err]) ∧ Sl w' w.heap.size w'.heap.size v (limbs N) ∧ Below w.heap.size w w'
theorem Res.none {w w' : World} {N : Nat} {err err' : Int} {e : Ending} (hN : N = 0) (he : err = err') (h : e = .returned (.tuple #[.slice none 0 0, .int .i64 err'])) (hb : Below w.heap.size w w') : Res w N err e w' := by
  subst hN he h
  exact ⟨_, rfl, by rw [limbs_zero]; exact Sl.nil _ _ _, hb⟩

def both (xs ys : List Int) : Bool := validB xs && validB ys
def cmpV (xs ys : List Int) : Int := if both xs ys then cmpI (nval xs) (nval ys) else 0
def formE (xs ys : List Int) : Int := if both xs ys then 0 else 3
theorem both_cases (xs ys : List Int) : (validB xs = false ∧ both xs ys = false) ∨ (validB xs = true ∧ validB ys = false ∧ both xs ys = false) ∨ (validB xs = true ∧ validB ys = true ∧ both xs ys = true) := by
  cases hx : validB xs <;> cases hy : validB ys <;> simp [both, hx, hy]
theorem valid_len {xs : List Int} (h : validB xs = true) : xs.length ≤ 48 := (validB_iff.mp h).1
theorem valid_nrm {xs : List Int} (h : validB xs = true) : nrm xs = true := (validB_iff.mp h).2
theorem valid_lok {xs : List Int} (h : validB xs = true) : lok xs = true := nrm_lok (valid_nrm h)

set_option maxHeartbeats 800000 in
theorem nat_Cmp (xs ys : List Int) (va vb : Value) (w : World) (ha : In w va xs) (hb : In w vb ys) :
    Calls Tryd.prog 65 #[va, vb] w fun e w' => e = .returned (.tuple #[.int .i64 (cmpV xs ys), .int .i64 (formE xs ys)]) ∧ Below w.heap.size w w' := by
  obtain ⟨A, c, rfl, hc, hm, hA⟩ := ha
  obtain ⟨B, d, rfl, hd, hn, hB⟩ := hb
  have HA := Lib.hid hA
  have HB := Lib.hid hB
  have hm1 : xs.length ≤ 9223372036854775807 := Nat.le_trans hc hm
  have hm2 : ys.length ≤ 9223372036854775807 := Nat.le_trans hd hn
  clear hA hB hm hn
  rcases both_cases xs ys with ⟨hx, hbo⟩ | ⟨hx, hy, hbo⟩ | ⟨hx, hy, hbo⟩
  · have HBO := Lib.hid hbo
    clear hbo
    go_enter Tryd.func65, Tryd.ntmps65
    go_wp2_with fail
    refine (nat_Valid xs A c _ _ w HA.out hm1).mono ?_
    rintro e w' ⟨rfl, rfl⟩
    go_wp2_with fail
    go_ret2
    exact ⟨ret_two (by rw [cmpV, HBO.out]; rfl) (by rw [formE, HBO.out]; rfl), Below.refl _ _⟩
  · have HBO := Lib.hid hbo
    clear hbo
    go_enter Tryd.func65, Tryd.ntmps65
    go_wp2_with fail
    refine (nat_Valid xs A c _ _ w HA.out hm1).mono ?_
    rintro e w' ⟨rfl, rfl⟩
    go_wp2_with fail
    refine (nat_Valid ys B d _ _ _ HB.out hm2).mono ?_
    rintro e w' ⟨rfl, rfl⟩
    go_wp2_with fail
    go_ret2
    exact ⟨ret_two (by rw [cmpV, HBO.out]; rfl) (by rw [formE, HBO.out]; rfl), Below.refl _ _⟩
  · have HBO := Lib.hid hbo
    have l1 := valid_len hx
    have l2 := valid_len hy
    clear hbo
    go_enter Tryd.func65, Tryd.ntmps65
    go_wp2_with fail
    refine (nat_Valid xs A c _ _ w HA.out hm1).mono ?_
    rintro e w' ⟨rfl, rfl⟩
    go_wp2_with fail
    refine (nat_Valid ys B d _ _ _ HB.out hm2).mono ?_
    rintro e w' ⟨rfl, rfl⟩
    go_wp2_with fail
    refine (nat_compare xs ys A B c d _ _ _ _ _ HA.out HB.out (Nat.le_refl _) (Nat.le_refl _) (valid_nrm hx) (valid_nrm hy) (by omega) (by omega)).mono ?_
    rintro e w' ⟨rfl, hbel⟩
    go_wp2_with fail
    go_ret2
    exact ⟨ret_two (by rw [cmpV, HBO.out]; rfl) (by rw [formE, HBO.out]; rfl), hbel⟩

theorem lok_of_val {D : List Int} {z : Int} (h : lok D = true) (h1 : 0 ≤ nval (D ++ [z])) (h2 : nval (D ++ [z]) < 1000000000 ^ (D.length + 1)) : lok (D ++ [z]) = true := by
  rw [lok_append]
  refine ⟨h, ?_⟩
  rw [nval_snoc] at h1 h2
  have a := nval_nonneg h
  have b := nval_lt h
  have p := pow_pos' D.length
  rw [Int.pow_succ] at h2
  obtain ⟨P, hP⟩ : ∃ P : Int, P = 1000000000 ^ D.length := ⟨_, rfl⟩
  rw [← hP] at h1 h2 b p
  have z1 : 0 ≤ z := by
    rcases Int.lt_or_le z 0 with hz | hz
    · have : P * z ≤ P * (-1) := Int.mul_le_mul_of_nonneg_left (by omega) (Int.le_of_lt p)
      omega
    · exact hz
  have z2 : z < 1000000000 := by
    rcases Int.lt_or_le z 1000000000 with hz | hz
    · exact hz
    · have : P * 1000000000 ≤ P * z := Int.mul_le_mul_of_nonneg_left hz (Int.le_of_lt p)
      omega
  simp [lok, z1, z2]
theorem lok_of_dropLast {T : List Int} (hne : T ≠ []) (h : lok T.dropLast = true) (h1 : 0 ≤ nval T) (h2 : nval T < 1000000000 ^ T.length) : lok T = true := by
  have e := List.dropLast_concat_getLast hne
  rw [← e] at h1 h2 ⊢
  refine lok_of_val h h1 ?_
  rw [List.length_append] at h2; exact h2
theorem pow_le_pow' {a b : Nat} (h : a ≤ b) : (1000000000 : Int) ^ a ≤ 1000000000 ^ b := by
  have e : b = a + (b - a) := by omega
  rw [e, Int.pow_add]
  have p := pow_pos' a
  have q := pow_pos' (b - a)
  have : (1000000000 : Int) ^ a * 1 ≤ 1000000000 ^ a * 1000000000 ^ (b - a) := Int.mul_le_mul_of_nonneg_left (by omega) (Int.le_of_lt p)
  omega

/-- Add. -/
def addV (xs ys : List Int) : Nat := if both xs ys then fitN (nval xs + nval ys).toNat else 0
def addE (xs ys : List Int) : Int := if both xs ys then fitE (nval xs + nval ys).toNat else 3
theorem laid_all {Z D : List Int} (h : D.length = Z.length) : laid Z 0 D = D := by
  rw [laid, List.take_zero, List.nil_append, List.drop_eq_nil_of_le (by omega), List.append_nil]
theorem addT_pad {xs ys : List Int} {n : Nat} {m : Int} (hx : lok xs = true) (hy : lok ys = true) (h1 : xs.length < n) (h2 : ys.length < n) (h0 : 0 ≤ nval xs + m * nval ys) (hlt : nval xs + m * nval ys < 1000000000 ^ n) :
    lok (addT (padL xs n) ys m 0) = true ∧ nval (addT (padL xs n) ys m 0) = nval xs + m * nval ys := by
  have hl : (padL xs n).length = n := padL_length (by omega)
  have hv : nval (addT (padL xs n) ys m 0) = nval xs + m * nval ys := by rw [addT_val _ _ _ _ (by omega), padL_val]; omega
  refine ⟨lok_of_dropLast ?_ (addT_lok _ _ _ _) (by rw [hv]; exact h0) (by rw [hv, addT_length, hl]; exact hlt), hv⟩
  intro h
  have := addT_length (padL xs n) ys m 0
  rw [h, hl] at this; simp at this; omega

set_option maxHeartbeats 1600000 in
theorem nat_Add (xs ys : List Int) (va vb : Value) (w : World) (ha : In w va xs) (hb : In w vb ys) :
    Calls Tryd.prog 98 #[va, vb] w (Res w (addV xs ys) (addE xs ys)) := by
  obtain ⟨A, c, rfl, hc, hm, hA⟩ := ha
  obtain ⟨B, d, rfl, hd, hn, hB⟩ := hb
  have HA := Lib.hid hA
  have HB := Lib.hid hB
  have hm1 : xs.length ≤ 9223372036854775807 := Nat.le_trans hc hm
  have hm2 : ys.length ≤ 9223372036854775807 := Nat.le_trans hd hn
  clear hA hB hm hn
  rcases both_cases xs ys with ⟨hx, hbo⟩ | ⟨hx, hy, hbo⟩ | ⟨hx, hy, hbo⟩
  · have HBO := Lib.hid hbo
    clear hbo
    go_enter Tryd.func98, Tryd.ntmps98
    go_wp2_with fail
    refine (nat_Valid xs A c _ _ w HA.out hm1).mono ?_
    rintro e w' ⟨rfl, rfl⟩
    go_wp2_with fail
    go_ret2
    exact Res.none (by rw [addV, HBO.out]; rfl) (by rw [addE, HBO.out]; rfl) rfl (Below.refl _ _)
  · have HBO := Lib.hid hbo
    clear hbo
    go_enter Tryd.func98, Tryd.ntmps98
    go_wp2_with fail
    refine (nat_Valid xs A c _ _ w HA.out hm1).mono ?_
    rintro e w' ⟨rfl, rfl⟩
    go_wp2_with fail
    refine (nat_Valid ys B d _ _ _ HB.out hm2).mono ?_
    rintro e w' ⟨rfl, rfl⟩
    go_wp2_with fail
    go_ret2
    exact Res.none (by rw [addV, HBO.out]; rfl) (by rw [addE, HBO.out]; rfl) rfl (Below.refl _ _)
  · have HBO := Lib.hid hbo
    have l1 := valid_len hx
    have l2 := valid_len hy
    obtain ⟨m, hmm⟩ : ∃ m, m = max xs.length ys.length := ⟨_, rfl⟩
    have hx1 : xs.length ≤ m := by omega
    have hy1 : ys.length ≤ m := by omega
    have hm48 : m ≤ 48 := by omega
    have hsum := addT_pad (n := m + 1) (m := 1) (valid_lok hx) (valid_lok hy) (by omega) (by omega) (by have := nval_nonneg (valid_lok hx); have := nval_nonneg (valid_lok hy); omega)
      (by have a := nval_lt (valid_lok hx); have b := nval_lt (valid_lok hy); have p := pow_le_pow' hx1; have q := pow_le_pow' hy1; have := pow_pos' m; rw [Int.pow_succ]; omega)
    have hz : lok xs = true := valid_lok hx
    have hz2 : lok ys = true := valid_lok hy
    have hlast : ∀ z, (padL xs (m + 1))[(padL xs (m + 1)).length - 1]? = some z → -4000000000000000000 < z ∧ z < 4000000000000000000 := by
      intro z h; have := lok_at (padL_lok hz _) h; omega
    have hdl : lok (padL xs (m + 1)).dropLast = true := by rw [List.dropLast_eq_take]; exact lok_take (padL_lok hz _) _
    have hpl : (padL xs (m + 1)).length = m + 1 := padL_length (by omega)
    have HMM := Lib.hid hmm
    have hmx : max (xs.length : Int) (ys.length : Int) = (m : Int) := by omega
    have HS := Lib.hid hsum
    have HL := Lib.hid hlast
    have HD := Lib.hid hdl
    have HP := Lib.hid hpl
    have HZ := Lib.hid hz
    have HZ2 := Lib.hid hz2
    clear hbo hsum hlast hdl hpl hmm hz hz2
    go_enter Tryd.func98, Tryd.ntmps98
    go_wp2_with fail
    refine (nat_Valid xs A c _ _ w HA.out hm1).mono ?_
    rintro e w' ⟨rfl, rfl⟩
    go_wp2_with fail
    refine (nat_Valid ys B d _ _ _ HB.out hm2).mono ?_
    rintro e w' ⟨rfl, rfl⟩
    go_wp2_with fail
    refine (nat_copied xs A c (m + 1) _ _ _ HA.out (Nat.le_refl _) (by omega) (by omega)).mono ?_
    rintro e w1 ⟨rfl, hrow, hbel⟩
    have hadd := nat_addTimes (padL xs (m + 1)) (padL xs (m + 1)) ys 1 w.heap.size 0 (m + 1) d _ _ B w1 hrow (by omega) (fun j _ => by rw [Nat.zero_add]) (Holds.below HB.out hbel (Nat.le_refl _)) (Or.inr (Nat.le_refl _)) (by rw [HP.out]; omega) (by rw [HP.out]; omega) HD.out HL.out HZ2.out (by omega) (by omega)
    rw [HP.out, laid_all (by rw [addT_length])] at hadd
    have HADD := Lib.hid hadd
    have HB1 := Lib.hid hbel
    clear hadd hrow hbel
    go_wp2_with fail
    refine HADD.out.mono ?_
    rintro e w2 ⟨rfl, hrow, honly⟩
    have hb2 : Below w.heap.size w w2 := HB1.out.trans (honly.toBelow (Nat.le_refl _))
    have hlen : (addT (padL xs (m + 1)) ys 1 0).length = m + 1 := by rw [addT_length, HP.out]
    have hlim := nat_limited (addT (padL xs (m + 1)) ys 1 0) (some ⟨w.heap.size, 0, none⟩) (m + 1) w.heap.size w2.heap.size w2 (hrow.holds (fun k z hz => by rw [Nat.zero_add]; exact hz) (Nat.le_refl _) hrow.lt) (by omega) (by unfold maxLen; omega) HS.out.1
    rw [hlen, HS.out.2, Int.one_mul] at hlim
    have HLIM := Lib.hid hlim
    have HB2 := Lib.hid hb2
    clear hlim hb2 hrow honly hlen
    go_wp2_with fail
    refine HLIM.out.mono ?_
    rintro e w3 ⟨v, rfl, hsl, rfl⟩
    go_wp2_with fail
    go_ret2
    refine ⟨v, ?_, ?_, HB2.out⟩
    · rw [addE, HBO.out]; rfl
    · rw [addV, HBO.out]; exact hsl
/-- Sub. -/
def subV (xs ys : List Int) : Nat := if both xs ys then (if nval xs < nval ys then 0 else fitN (nval xs - nval ys).toNat) else 0
def subE (xs ys : List Int) : Int := if both xs ys then (if nval xs < nval ys then 1 else fitE (nval xs - nval ys).toNat) else 3
theorem len_of_le {xs ys : List Int} (hx : nrm xs = true) (hy : nrm ys = true) (h : nval ys ≤ nval xs) : ys.length ≤ xs.length := by
  rcases Nat.lt_or_ge xs.length ys.length with h1 | h1
  · have := nrm_len hx hy h1; omega
  · exact h1

set_option maxHeartbeats 1600000 in
theorem nat_Sub (xs ys : List Int) (va vb : Value) (w : World) (ha : In w va xs) (hb : In w vb ys) :
    Calls Tryd.prog 99 #[va, vb] w (Res w (subV xs ys) (subE xs ys)) := by
  obtain ⟨A, c, rfl, hc, hm, hA⟩ := ha
  obtain ⟨B, d, rfl, hd, hn, hB⟩ := hb
  have HA := Lib.hid hA
  have HB := Lib.hid hB
  have hm1 : xs.length ≤ 9223372036854775807 := Nat.le_trans hc hm
  have hm2 : ys.length ≤ 9223372036854775807 := Nat.le_trans hd hn
  clear hA hB hm hn
  rcases both_cases xs ys with ⟨hx, hbo⟩ | ⟨hx, hy, hbo⟩ | ⟨hx, hy, hbo⟩
  · have HBO := Lib.hid hbo
    clear hbo
    go_enter Tryd.func99, Tryd.ntmps99
    go_wp2_with fail
    refine (nat_Valid xs A c _ _ w HA.out hm1).mono ?_
    rintro e w' ⟨rfl, rfl⟩
    go_wp2_with fail
    go_ret2
    exact Res.none (by rw [subV, HBO.out]; rfl) (by rw [subE, HBO.out]; rfl) rfl (Below.refl _ _)
  · have HBO := Lib.hid hbo
    clear hbo
    go_enter Tryd.func99, Tryd.ntmps99
    go_wp2_with fail
    refine (nat_Valid xs A c _ _ w HA.out hm1).mono ?_
    rintro e w' ⟨rfl, rfl⟩
    go_wp2_with fail
    refine (nat_Valid ys B d _ _ _ HB.out hm2).mono ?_
    rintro e w' ⟨rfl, rfl⟩
    go_wp2_with fail
    go_ret2
    exact Res.none (by rw [subV, HBO.out]; rfl) (by rw [subE, HBO.out]; rfl) rfl (Below.refl _ _)
  · have HBO := Lib.hid hbo
    have l1 := valid_len hx
    have l2 := valid_len hy
    have C := nat_compare xs ys A B c d _ _ _ _ w HA.out HB.out (Nat.le_refl _) (Nat.le_refl _) (valid_nrm hx) (valid_nrm hy) (by omega) (by omega)
    have HCC := Lib.hid C
    clear C
    rcases Int.lt_or_le (nval xs) (nval ys) with hlt | hge
    · have hcm : cmpI (nval xs) (nval ys) = -1 := cmpI_lt hlt
      have HLT := Lib.hid hlt
      clear hbo hlt
      go_enter Tryd.func99, Tryd.ntmps99
      go_wp2_with fail
      refine (nat_Valid xs A c _ _ w HA.out hm1).mono ?_
      rintro e w' ⟨rfl, rfl⟩
      go_wp2_with fail
      refine (nat_Valid ys B d _ _ _ HB.out hm2).mono ?_
      rintro e w' ⟨rfl, rfl⟩
      go_wp2_with fail
      refine HCC.out.mono ?_
      rintro e w' ⟨rfl, hbel⟩
      go_wp2_with fail
      go_ret2
      exact Res.none (by rw [subV, HBO.out, if_pos HLT.out]; rfl) (by rw [subE, HBO.out, if_pos HLT.out]; rfl) rfl hbel
    · have hcm : decide (cmpI (nval xs) (nval ys) < 0) = false := by
        refine decide_eq_false ?_
        rcases Int.lt_or_eq_of_le hge with h | h
        · rw [cmpI_gt h]; decide
        · rw [← h, cmpI_eq]; decide
      have hyx := len_of_le (valid_nrm hx) (valid_nrm hy) hge
      have hsum := addT_pad (n := xs.length + 1) (m := -1) (valid_lok hx) (valid_lok hy) (by omega) (by omega) (by omega)
        (by have a := nval_lt (valid_lok hx); have b := nval_nonneg (valid_lok hy); have := pow_pos' xs.length; rw [Int.pow_succ]; omega)
      have hz : lok xs = true := valid_lok hx
      have hz2 : lok ys = true := valid_lok hy
      have hlast : ∀ z, (padL xs (xs.length + 1))[(padL xs (xs.length + 1)).length - 1]? = some z → -4000000000000000000 < z ∧ z < 4000000000000000000 := by
        intro z h; have := lok_at (padL_lok hz _) h; omega
      have hdl : lok (padL xs (xs.length + 1)).dropLast = true := by rw [List.dropLast_eq_take]; exact lok_take (padL_lok hz _) _
      have hpl : (padL xs (xs.length + 1)).length = xs.length + 1 := padL_length (by omega)
      have HLT := Lib.hid (show ¬ nval xs < nval ys by omega)
      have HS := Lib.hid hsum
      have HL := Lib.hid hlast
      have HD := Lib.hid hdl
      have HP := Lib.hid hpl
      have HZ := Lib.hid hz
      have HZ2 := Lib.hid hz2
      clear hbo hsum hlast hdl hpl hz hz2 hge
      go_enter Tryd.func99, Tryd.ntmps99
      go_wp2_with fail
      refine (nat_Valid xs A c _ _ w HA.out hm1).mono ?_
      rintro e w' ⟨rfl, rfl⟩
      go_wp2_with fail
      refine (nat_Valid ys B d _ _ _ HB.out hm2).mono ?_
      rintro e w' ⟨rfl, rfl⟩
      go_wp2_with fail
      refine HCC.out.mono ?_
      rintro e w0 ⟨rfl, hbel0⟩
      have hsz := hbel0.size
      have HB0 := Lib.hid hbel0
      clear hbel0
      go_wp2_with fail
      refine (nat_copied xs A c (xs.length + 1) _ _ _ (Holds.below HA.out HB0.out (Nat.le_refl _)) hsz (by omega) (by omega)).mono ?_
      rintro e w1 ⟨rfl, hrow, hbel⟩
      have hadd := nat_addTimes (padL xs (xs.length + 1)) (padL xs (xs.length + 1)) ys (-1) w0.heap.size 0 (xs.length + 1) d _ _ B w1 hrow (by omega) (fun j _ => by rw [Nat.zero_add]) (Holds.below (Holds.below HB.out HB0.out (Nat.le_refl _)) hbel hsz) (Or.inr hsz) (by rw [HP.out]; omega) (by rw [HP.out]; omega) HD.out HL.out HZ2.out (by omega) (by omega)
      rw [HP.out, laid_all (by rw [addT_length])] at hadd
      have HADD := Lib.hid hadd
      have HB1 := Lib.hid hbel
      clear hadd hrow hbel
      go_wp2_with fail
      refine HADD.out.mono ?_
      rintro e w2 ⟨rfl, hrow, honly⟩
      have hb2 : Below w.heap.size w w2 := (HB0.out.trans (HB1.out.mono hsz)).trans (honly.toBelow hsz)
      have hlen : (addT (padL xs (xs.length + 1)) ys (-1) 0).length = xs.length + 1 := by rw [addT_length, HP.out]
      have hlim := nat_limited (addT (padL xs (xs.length + 1)) ys (-1) 0) (some ⟨w0.heap.size, 0, none⟩) (xs.length + 1) w.heap.size w2.heap.size w2 (hrow.holds (fun k z hz => by rw [Nat.zero_add]; exact hz) hsz hrow.lt) (by omega) (by unfold maxLen; omega) HS.out.1
      have ev : nval xs + -1 * nval ys = nval xs - nval ys := by omega
      rw [hlen, HS.out.2, ev] at hlim
      have HLIM := Lib.hid hlim
      have HB2 := Lib.hid hb2
      clear hlim hb2 hrow honly hlen ev
      go_wp2_with fail
      refine HLIM.out.mono ?_
      rintro e w3 ⟨v, rfl, hsl, rfl⟩
      go_wp2_with fail
      go_ret2
      refine ⟨v, ?_, ?_, HB2.out⟩
      · rw [subE, HBO.out, if_neg (Int.not_lt.mpr HLT.out)]; rfl
      · rw [subV, HBO.out, if_neg (Int.not_lt.mpr HLT.out)]; exact hsl
end Go.Proofs.YthkhaipbdphpeaaDoor
/- The contract of nat.Mul. -/
namespace Go.Proofs.YthkhaipbdphpeaaDoor
open Go.ChangeShapes Go.WideShapes Go.RowKit
set_option linter.unusedVariables false
set_option maxRecDepth 100000

/-- Mul. -/
def mulV (xs ys : List Int) : Nat := if both xs ys then fitN (nval xs * nval ys).toNat else 0
def mulE (xs ys : List Int) : Int := if both xs ys then fitE (nval xs * nval ys).toNat else 3
/-- The window of n limbs at place k. -/
def win (P : List Int) (k n : Nat) : List Int := (P.drop k).take n
theorem win_length {P : List Int} {k n : Nat} (h : k + n ≤ P.length) : (win P k n).length = n := by simp [win]; omega
theorem win_at {P : List Int} {k n : Nat} (h : k + n ≤ P.length) (j : Nat) (hj : j < n) : P[k + j]? = (win P k n)[j]? := by
  unfold win; rw [List.getElem?_take, if_pos hj, List.getElem?_drop]
theorem win_split {P : List Int} {k n : Nat} (h : k + n ≤ P.length) : nval P = nval (P.take k) + 1000000000 ^ k * (nval (win P k n) + 1000000000 ^ n * nval (P.drop (k + n))) := by
  have e : P = P.take k ++ (win P k n ++ P.drop (k + n)) := by
    have e1 : win P k n ++ P.drop (k + n) = P.drop k := by
      unfold win; rw [← List.drop_drop, List.take_append_drop]
    rw [e1, List.take_append_drop]
  have l1 : (P.take k).length = k := by rw [List.length_take]; omega
  have l2 := win_length h
  have := congrArg nval e
  rw [nval_append, nval_append, l1, l2] at this
  exact this
theorem laid_split {P T : List Int} {k n : Nat} (h : k + n ≤ P.length) (hT : T.length = n) : nval (laid P k T) = nval (P.take k) + 1000000000 ^ k * (nval T + 1000000000 ^ n * nval (P.drop (k + n))) := by
  have l1 : (P.take k).length = k := by rw [List.length_take]; omega
  unfold laid
  rw [nval_append, nval_append, l1, hT]
theorem laid_lok {P T : List Int} {k : Nat} (h : lok P = true) (hT : lok T = true) : lok (laid P k T) = true := by
  unfold laid; rw [lok_append, lok_append]; exact ⟨lok_take h _, hT, lok_drop h _⟩
theorem mul_step {P xs : List Int} {k m : Nat} {b : Int} (hP : lok P = true) (hk : k + (xs.length + 1) ≤ P.length) (hx : lok xs = true) (hb : 0 ≤ b) (hb2 : b < 1000000000)
    (hlt : nval P < 1000000000 ^ (xs.length + k)) :
    lok (addT (win P k (xs.length + 1)) xs b 0) = true ∧ nval (laid P k (addT (win P k (xs.length + 1)) xs b 0)) = nval P + 1000000000 ^ k * (b * nval xs) := by
  have hs := win_split hk
  have hw := nval_nonneg (lok_take (lok_drop hP k) (xs.length + 1))
  have h1 := nval_nonneg (lok_take hP k)
  have h2 := nval_nonneg (lok_drop hP (k + (xs.length + 1)))
  have p1 := pow_pos' k
  have p2 := pow_pos' (xs.length + 1)
  have hl := win_length hk
  have hv : nval (addT (win P k (xs.length + 1)) xs b 0) = nval (win P k (xs.length + 1)) + b * nval xs := by rw [addT_val _ _ _ _ (by omega)]; omega
  have hx1 := nval_lt hx
  have hx0 := nval_nonneg hx
  have hwlt : nval (win P k (xs.length + 1)) < 1000000000 ^ xs.length := by
    rcases Int.lt_or_le (nval (win P k (xs.length + 1))) (1000000000 ^ xs.length) with h | h
    · exact h
    · exfalso
      have e : (1000000000 : Int) ^ (xs.length + k) = 1000000000 ^ k * 1000000000 ^ xs.length := by rw [Int.pow_add, Int.mul_comm]
      have a1 : 1000000000 ^ k * 1000000000 ^ xs.length ≤ (1000000000 : Int) ^ k * (nval (win P k (xs.length + 1)) + 1000000000 ^ (xs.length + 1) * nval (P.drop (k + (xs.length + 1)))) :=
        Int.mul_le_mul_of_nonneg_left (by have := Int.mul_nonneg (Int.le_of_lt p2) h2; omega) (Int.le_of_lt p1)
      omega
  refine ⟨lok_of_dropLast ?_ (addT_lok _ _ _ _) ?_ ?_, ?_⟩
  · intro h; have := addT_length (win P k (xs.length + 1)) xs b 0; rw [h, hl] at this; simp at this
  · rw [hv]; have := Int.mul_nonneg hb hx0; change 0 ≤ nval (win P k (xs.length + 1)) at hw; omega
  · rw [hv, addT_length, hl, Int.pow_succ]
    have : b * nval xs ≤ 999999999 * nval xs := Int.mul_le_mul_of_nonneg_right (by omega) hx0
    omega
  · rw [laid_split hk (by rw [addT_length, hl]), hv, hs, Int.mul_add, Int.mul_add, Int.mul_add]; omega
theorem mul_round {P xs ys : List Int} {k : Nat} {b : Int} (hP : lok P = true) (hl : P.length = xs.length + ys.length) (hx : lok xs = true) (hy : lok ys = true) (hb : ys[k]? = some b) (hv : nval P = nval xs * nval (ys.take k)) :
    (lok (addT (win P k (xs.length + 1)) xs b 0) = true ∧ nval (laid P k (addT (win P k (xs.length + 1)) xs b 0)) = nval xs * nval (ys.take (k + 1))) ∧ k + (xs.length + 1) ≤ P.length := by
  have hk : k < ys.length := by
    rcases Nat.lt_or_ge k ys.length with h | h
    · exact h
    · rw [List.getElem?_eq_none h] at hb; cases hb
  have hkk : k + (xs.length + 1) ≤ P.length := by omega
  have hbb := lok_at hy hb
  have hlt : nval P < 1000000000 ^ (xs.length + k) := by
    have a := nval_lt hx
    have a0 := nval_nonneg hx
    have c := nval_lt (lok_take hy k)
    have c0 := nval_nonneg (lok_take hy k)
    rw [List.length_take, Nat.min_eq_left (by omega)] at c
    rw [hv, Int.pow_add]
    have p := pow_pos' xs.length
    have m1 : nval xs * nval (ys.take k) ≤ 1000000000 ^ xs.length * nval (ys.take k) := Int.mul_le_mul_of_nonneg_right (Int.le_of_lt a) c0
    have m2 : (1000000000 : Int) ^ xs.length * nval (ys.take k) < 1000000000 ^ xs.length * 1000000000 ^ k := Int.mul_lt_mul_of_pos_left c p
    omega
  have h := mul_step hP hkk hx hbb.1 hbb.2 hlt (m := 0)
  refine ⟨⟨h.1, ?_⟩, hkk⟩
  rw [h.2, hv, trim_step hb, nval_snoc, List.length_take, Nat.min_eq_left (by omega), Int.mul_add]
  congr 1
  rw [Int.mul_comm b, Int.mul_left_comm]

theorem wrap_id {n : Int} (h1 : -9223372036854775808 ≤ n) (h2 : n ≤ 9223372036854775807) : IntKind.i64.wrap n = n := by rw [IntKind.wrap_i64]; omega

set_option maxHeartbeats 1600000 in
theorem nat_Mul (xs ys : List Int) (va vb : Value) (w : World) (ha : In w va xs) (hb : In w vb ys) :
    Calls Tryd.prog 82 #[va, vb] w (Res w (mulV xs ys) (mulE xs ys)) := by
  obtain ⟨A, c, rfl, hc, hm, hA⟩ := ha
  obtain ⟨B, d, rfl, hd, hn, hB⟩ := hb
  have HA := Lib.hid hA
  have HB := Lib.hid hB
  have hm1 : xs.length ≤ 9223372036854775807 := Nat.le_trans hc hm
  have hm2 : ys.length ≤ 9223372036854775807 := Nat.le_trans hd hn
  clear hA hB hm hn
  rcases both_cases xs ys with ⟨hx, hbo⟩ | ⟨hx, hy, hbo⟩ | ⟨hx, hy, hbo⟩
  · have HBO := Lib.hid hbo
    clear hbo
    go_enter Tryd.func82, Tryd.ntmps82
    go_wp2_with fail
    refine (nat_Valid xs A c _ _ w HA.out hm1).mono ?_
    rintro e w' ⟨rfl, rfl⟩
    go_wp2_with fail
    go_ret2
    exact Res.none (by rw [mulV, HBO.out]; rfl) (by rw [mulE, HBO.out]; rfl) rfl (Below.refl _ _)
  · have HBO := Lib.hid hbo
    clear hbo
    go_enter Tryd.func82, Tryd.ntmps82
    go_wp2_with fail
    refine (nat_Valid xs A c _ _ w HA.out hm1).mono ?_
    rintro e w' ⟨rfl, rfl⟩
    go_wp2_with fail
    refine (nat_Valid ys B d _ _ _ HB.out hm2).mono ?_
    rintro e w' ⟨rfl, rfl⟩
    go_wp2_with fail
    go_ret2
    exact Res.none (by rw [mulV, HBO.out]; rfl) (by rw [mulE, HBO.out]; rfl) rfl (Below.refl _ _)
  · have HBO := Lib.hid hbo
    have l1 := valid_len hx
    have l2 := valid_len hy
    have HZ := Lib.hid (valid_lok hx)
    have HZ2 := Lib.hid (valid_lok hy)
    clear hbo
    obtain ⟨i0, hi0, hz0, hz1, hz2⟩ := info_parts info_int
    go_enter Tryd.func82, Tryd.ntmps82
    go_wp2_with fail
    refine (nat_Valid xs A c _ _ w HA.out hm1).mono ?_
    rintro e w' ⟨rfl, rfl⟩
    go_wp2_with fail
    refine (nat_Valid ys B d _ _ _ HB.out hm2).mono ?_
    rintro e w' ⟨rfl, rfl⟩
    go_wp2_with (first
      | (at_make; refine wpList_make_full _ rfl _ _ 23 rfl w.heap.size 3 i0 (.int .i64 0) 1 Tryd.underlying23 hi0 hz0 hz1 .i64 .i64 _ _ (xs.length + ys.length) rfl rfl (by omega) (by omega) (by rw [hz2]; omega) (by unfold maxLen; omega) (Nat.le_refl _) ?_; intro w1 hown hgrow)
      | fail)
    have hrow0 : Row w1 w.heap.size (List.replicate (xs.length + ys.length) 0) := row_of_heap (heap_of_made hown)
    have hbel0 : Below w.heap.size w w1 := (Below.refl _ _).grown hgrow (Nat.le_refl _) (fun k hk => by cases hk)
    have HR0 := Lib.hid hrow0
    have HB0 := Lib.hid hbel0
    clear hrow0 hbel0 hown hgrow
    go_loopw [24] (fun i wr => ∃ (k : Nat) (P : List Int), k ≤ ys.length ∧ i = .int .i64 k ∧ P.length = xs.length + ys.length ∧ lok P = true ∧ nval P = nval xs * nval (ys.take k) ∧ Row wr w.heap.size P ∧ Below w.heap.size w wr) (fun i _ => ys.length - (intOf i).toNat)
    case atStart => exact ⟨0, _, Nat.zero_le _, rfl, by simp, lok_zeros _, by rw [nval_zeros]; simp [nval], HR0.out, HB0.out⟩
    case round =>
      obtain ⟨k, P, hk, rfl, hP, hPk, hPv, hrow, hbel⟩ := hrel
      have HPK := Lib.hid hPk
      have HPV := Lib.hid hPv
      have HP := Lib.hid hP
      have HR := Lib.hid hrow
      have HBL := Lib.hid hbel
      clear hPk hPv hP hrow hbel
      rcases Nat.lt_or_ge k ys.length with hlt | hge
      · obtain ⟨b, hb⟩ : ∃ b, ys[k]? = some b := ⟨_, List.getElem?_eq_getElem hlt⟩
        obtain ⟨bb, off, rfl, _, _, hcell⟩ := (Holds.below HB.out HBL.out (Nat.le_refl _)) k b hb
        have hmr := mul_round HPK.out HP.out HZ.out HZ2.out hb HPV.out
        have hbb := lok_at HZ2.out hb
        have hcall : ∀ (W : World) (cap : Nat), W.heap = wr.heap → Calls Tryd.prog 96 #[.slice (some ⟨w.heap.size, k, none⟩) (xs.length + 1) cap, .slice A xs.length c, .int .i64 b] W
            fun e w' => e = .returned (.tuple #[]) ∧ Row w' w.heap.size (laid P k (addT (win P k (xs.length + 1)) xs b 0)) ∧ Only w.heap.size W w' := by
          intro W cap hW
          have hwl := win_length hmr.2
          have hwk : lok (win P k (xs.length + 1)) = true := lok_take (lok_drop HPK.out k) _
          have h := nat_addTimes P (win P k (xs.length + 1)) xs b w.heap.size k cap c 0 w.heap.size A W (HR.out.keep (by rw [hW])) (by rw [hwl]; exact hmr.2) (fun j hj => win_at hmr.2 j (by omega))
            ((Holds.below HA.out HBL.out (Nat.le_refl _)).keep fun i _ _ => by rw [hW]) (Or.inr (Nat.le_refl _)) (by omega) (by omega) (by rw [List.dropLast_eq_take]; exact lok_take hwk _) (fun z hz => by have := lok_at hwk hz; omega) HZ.out (by omega) (by omega)
          rw [hwl] at h; exact h
        have HCALL := Lib.hid hcall
        have HS := Lib.hid hmr
        have HBB := Lib.hid hb
        have hk2 : (k : Int) + xs.length + 1 ≤ (xs.length : Int) + ys.length := by omega
        have hk3 : (k : Int) ≤ (k : Int) + xs.length + 1 := by omega
        have hw1 : IntKind.i64.wrap ((k : Int) + xs.length) = (k : Int) + xs.length := wrap_id (by omega) (by omega)
        have hw2 : IntKind.i64.wrap ((k : Int) + xs.length + 1) = (k : Int) + xs.length + 1 := wrap_id (by omega) (by omega)
        have hk4 : (k : Int) < (ys.length : Int) := by omega
        have hk5 : ¬ xs.length + ys.length = k := by omega
        have hk6 : ((k : Int) + xs.length + 1).toNat - k = xs.length + 1 := by omega
        clear hb hcall hmr hbb
        go_wp2_with fail
        go_still_tail 13, (by kernel_rfl)
        change wpList _ _ _ _ _ wr.drew
        go_wp2_with fail
        refine (HCALL.out wr.drew _ rfl).mono ?_
        rintro e w' ⟨rfl, hr2, ho2⟩
        have HR2 := Lib.hid hr2
        have HO2 := Lib.hid ho2
        clear hr2 ho2 hcell
        go_wp2_with fail
        go_roundw
        case rel =>
          have hm := HS.out
          have hwl := win_length hm.2
          exact ⟨k + 1, _, by omega, by go_num, by rw [laid_length (by rw [addT_length, hwl]; exact hm.2), HP.out], laid_lok HPK.out hm.1.1, hm.1.2, HR2.out, (HBL.out.drew).trans (HO2.out.toBelow (Nat.le_refl _))⟩
        case measure => simp [intOf]; omega
      · obtain rfl : k = ys.length := by omega
        have hv := HPV.out
        rw [List.take_length] at hv
        have hsz := HR.out.lt
        have hlim := nat_limited P (some ⟨w.heap.size, 0, none⟩) (xs.length + ys.length) w.heap.size wr.heap.size wr (HR.out.holds (fun k z hz => by rw [Nat.zero_add]; exact hz) (Nat.le_refl _) hsz) (by have := HP.out; omega) (by unfold maxLen; omega) HPK.out
        rw [hv, HP.out] at hlim
        have HLIM := Lib.hid hlim
        clear hlim hv
        go_wp2_with fail
        refine HLIM.out.mono ?_
        rintro e w3 ⟨v, rfl, hsl, rfl⟩
        go_wp2_with fail
        go_ret2
        refine ⟨v, ?_, ?_, HBL.out⟩
        · rw [mulE, HBO.out]; rfl
        · rw [mulV, HBO.out]; exact hsl
end Go.Proofs.YthkhaipbdphpeaaDoor
/- The contract of nat.Text. -/
namespace Go.Proofs.YthkhaipbdphpeaaDoor
open Go.ChangeShapes Go.WideShapes Go.RowKit
set_option linter.unusedVariables false
set_option maxRecDepth 100000

/-- The table of powers of ten reads as it was laid. -/
def Tab (w : World) : Prop := Lib.TabBelow Tryd.prog w.heap.size w "internal/strconv.uint64pow10" .u64 Lib.pow10Tab
theorem Tab.on {w w' : World} (h : Tab w) (hb : Below w.heap.size w w') : Tab w' := fun w2 h2 => h w2 (hb.trans (h2.mono hb.size))
theorem Tab.here {w : World} (h : Tab w) : Lib.TabIs Tryd.prog w "internal/strconv.uint64pow10" .u64 Lib.pow10Tab := h w (Below.refl _ _)

def padD : Nat → Nat → List UInt8
  | 0, _ => []
  | k + 1, r => padD k (r / 10) ++ [UInt8.ofNat (48 + r % 10)]
theorem padD_length (k : Nat) : ∀ r, (padD k r).length = k := by
  induction k with
  | zero => intro r; rfl
  | succ k ih => intro r; rw [padD, List.length_append, ih]; rfl
theorem dec_pad (k : Nat) : ∀ (q r : Nat), 0 < q → r < 10 ^ k → Lib.decDigits (q * 10 ^ k + r) = Lib.decDigits q ++ padD k r := by
  induction k with
  | zero => intro q r hq hr; obtain rfl : r = 0 := by simpa using hr
            simp [padD]
  | succ k ih =>
    intro q r hq hr
    have p : 0 < 10 ^ k := Nat.pow_pos (by decide)
    rw [Nat.pow_succ] at hr ⊢
    have e1 : (q * (10 ^ k * 10) + r) / 10 = q * 10 ^ k + r / 10 := by
      rw [← Nat.mul_assoc, Nat.mul_comm (q * 10 ^ k) 10, Nat.mul_add_div (by decide)]
    have e2 : (q * (10 ^ k * 10) + r) % 10 = r % 10 := by
      rw [← Nat.mul_assoc, Nat.mul_comm (q * 10 ^ k) 10, Nat.mul_add_mod]
    have big : ¬ q * (10 ^ k * 10) + r < 10 := by
      have : 1 * (1 * 10) ≤ q * (10 ^ k * 10) := Nat.mul_le_mul hq (Nat.mul_le_mul_right 10 p)
      omega
    rw [Lib.decDigits, dif_neg big, e1, e2, ih q (r / 10) hq (by omega), padD, List.append_assoc]
theorem dec_limb {x : Nat} (h : x < 1000000000) : Lib.decDigits (1000000000 + x) = 49 :: padD 9 x := by
  have := dec_pad 9 1 x (by decide) (by simpa using h)
  have e : Lib.decDigits 1 = [49] := by rw [Lib.decDigits_one (by decide)]; rfl
  rw [e] at this
  simpa using this
theorem dec_next {x q : Nat} (h : x < 1000000000) (hq : 0 < q) : Lib.decDigits (x + 1000000000 * q) = Lib.decDigits q ++ padD 9 x := by
  have := dec_pad 9 q x hq (by simpa using h)
  rw [← this]; congr 1; omega
def decS (n : Nat) : ByteArray := ⟨(Lib.decDigits n).toArray⟩
def textV (xs : List Int) : ByteArray := if validB xs then decS (nval xs).toNat else ⟨#[]⟩
def oneE (xs : List Int) : Int := if validB xs then 0 else 3

theorem own_keep {w w' : World} {base e size n : Nat} {v : Value} {xs : List Value} (h : w.ownsRow base e size v n xs) (hb : Below w.heap.size w w') : w'.ownsRow base e size v n xs := by
  obtain ⟨h1, h2 | ⟨g, cap, cur, rfl, h3, h4, h5⟩⟩ := h
  · exact ⟨h1, Or.inl h2⟩
  · exact ⟨h1, Or.inr ⟨g, cap, cur, rfl, h3, (hb.block g (lt_of_block h4)).trans h4, h5⟩⟩
theorem grow_below' (w : World) (k : Nat) (os : Array Obj) : Below w.heap.size w (Sort.grow (w.drewN k) os) := by
  refine ⟨rfl, rfl, rfl, ?_, fun i hi => ?_⟩
  · show w.heap.size ≤ (w.heap ++ os).size; rw [Array.size_append]; omega
  · show (w.heap ++ os)[i]? = _; rw [Array.getElem?_append_left hi]
theorem info_byte : (Tryd.prog.info? 5).map (fun i => (i.zero, i.size, i.bytes)) = some (some (.int .u8 0), 1, 1) := by kernel_rfl
theorem itoa_nn {x : Int} (h : 0 ≤ x) : Lib.itoa x = Lib.decDigits x.toNat := by unfold Lib.itoa; rw [if_neg (by omega)]
theorem nval_pos_last {xs : List Int} (hn : nrm xs = true) {k : Nat} (hk : k < xs.length) : 0 < nval (xs.drop k) := by
  have hl := nrm_lok hn
  have hne : xs.drop k ≠ [] := by intro h; have := congrArg List.length h; simp at this; omega
  have e := List.dropLast_concat_getLast hne
  have h1 := nval_nonneg (lok_drop hl k)
  rcases Int.lt_or_eq_of_le h1 with h | h
  · exact h
  · exfalso
    have hz : (xs.drop k).getLast? = some ((xs.drop k).getLast hne) := List.getLast?_eq_some_getLast hne
    have hz2 : xs.getLast? = some ((xs.drop k).getLast hne) := by rw [← hz, List.getLast?_drop, if_neg (by omega)]
    have hlok := lok_drop hl k
    rw [← e, lok_append] at hlok
    have a := nval_nonneg hlok.1
    rw [← e, nval_snoc] at h
    have z0 : 0 ≤ (xs.drop k).getLast hne := (lok_cons.mp hlok.2).1.1
    have p := pow_pos' (xs.drop k).dropLast.length
    have hm := Int.mul_nonneg (Int.le_of_lt p) z0
    have hm0 : 1000000000 ^ (xs.drop k).dropLast.length * (xs.drop k).getLast hne = 0 := by omega
    rcases Int.mul_eq_zero.mp hm0 with h2 | h2
    · omega
    · rw [h2] at hz2; simp [nrm, hz2] at hn

theorem nval_last {xs : List Int} {z : Int} (hz : xs[xs.length - 1]? = some z) : nval (xs.drop (xs.length - 1)) = z := by
  have h := nval_drop_step hz
  have hp : 0 < xs.length := by
    rcases Nat.eq_zero_or_pos xs.length with h1 | h1
    · have : xs = [] := List.eq_nil_of_length_eq_zero h1
      subst this; simp at hz
    · exact h1
  rw [h, List.drop_eq_nil_of_le (by omega)]; simp [nval]
theorem text_start {xs : List Int} {z : Int} (hn : nrm xs = true) (hz : xs[xs.length - 1]? = some z) : Lib.itoa z = Lib.decDigits (nval (xs.drop (xs.length - 1 - 0))).toNat := by
  rw [Nat.sub_zero, nval_last hz, itoa_nn (lok_at (nrm_lok hn) hz).1]
theorem text_step {xs : List Int} {x : Int} {k : Nat} (hn : nrm xs = true) (hk : k < xs.length - 1) (hx : xs[xs.length - 1 - 1 - k]? = some x) :
    Lib.decDigits (nval (xs.drop (xs.length - 1 - (k + 1)))).toNat = Lib.decDigits (nval (xs.drop (xs.length - 1 - k))).toNat ++ padD 9 x.toNat := by
  have e0 : xs.length - 1 - (k + 1) = xs.length - 1 - 1 - k := by omega
  have h := nval_drop_step hx
  have e1 : xs.length - 1 - 1 - k + 1 = xs.length - 1 - k := by omega
  rw [e1] at h
  have p := nval_pos_last hn (k := xs.length - 1 - k) (by omega)
  have b := lok_at (nrm_lok hn) hx
  rw [e0, h, ← dec_next (x := x.toNat) (by omega) (q := (nval (xs.drop (xs.length - 1 - k))).toNat) (by omega)]
  congr 1; omega
theorem tail_bytes {x : Int} (h0 : 0 ≤ x) (h1 : x < 1000000000) : Lib.itoa (1000000000 + x) = 49 :: padD 9 x.toNat := by
  rw [itoa_nn (by omega), ← dec_limb (by omega)]; congr 1; omega

theorem itoa_call (x : Int) (h0 : 0 ≤ x) (h1 : x < 1000000000) (w : World) (ht : Lib.TabIs Tryd.prog w "internal/strconv.uint64pow10" .u64 Lib.pow10Tab) :
    Calls Tryd.prog 76 #[.int .i64 (1000000000 + x)] w fun e w' => ∃ S : ByteArray, e = .returned (.string S) ∧ Hid (S = ⟨(49 :: padD 9 x.toNat).toArray⟩) ∧ S.size = 10 ∧ Below w.heap.size w w' := by
  refine (Tryd.strconv_Itoa (1000000000 + x) (by omega) (by omega) w ht).mono ?_
  rintro e w' ⟨rfl, k, os, rfl⟩
  refine ⟨_, rfl, ?_, ?_, grow_below' w k os⟩
  · rw [tail_bytes h0 h1]; rfl
  · rw [tail_bytes h0 h1]; show (49 :: padD 9 x.toNat).toArray.size = 10; simp [padD_length]
theorem tail_cells {S : ByteArray} {x : Nat} (hS : S = ⟨(49 :: padD 9 x).toArray⟩) : Lib.strCells (S.extract 1 10) = Lib.byteCells (padD 9 x) ∧ (S.extract 1 10).size = 9 := by
  subst hS
  have h : (ByteArray.extract ⟨(49 :: padD 9 x).toArray⟩ 1 10).data.toList = padD 9 x := by
    rw [ByteArray.data_extract]
    simp [List.take_of_length_le (Nat.le_of_eq (padD_length 9 x))]
  refine ⟨by unfold Lib.strCells Lib.byteCells; rw [h], ?_⟩
  show (ByteArray.extract ⟨(49 :: padD 9 x).toArray⟩ 1 10).data.size = 9
  rw [← Array.length_toList, h, padD_length]

set_option maxHeartbeats 1600000 in
theorem nat_Text (xs : List Int) (va : Value) (w : World) (ha : In w va xs) (ht : Tab w) :
    Calls Tryd.prog 47 #[va] w fun e w' => e = .returned (.tuple #[.string (textV xs), .int .i64 (oneE xs)]) ∧ Below w.heap.size w w' := by
  obtain ⟨A, c, rfl, hc, hm, hA⟩ := ha
  have HA := Lib.hid hA
  have hm1 : xs.length ≤ 9223372036854775807 := Nat.le_trans hc hm
  clear hA hm
  have fin : ∀ {s : ByteArray} {n : Int} {w' : World}, s = textV xs → n = oneE xs → Below w.heap.size w w' → Ending.returned (.tuple #[.string s, .int .i64 n]) = Ending.returned (.tuple #[.string (textV xs), .int .i64 (oneE xs)]) ∧ Below w.heap.size w w' := by
    rintro _ _ _ rfl rfl h; exact ⟨rfl, h⟩
  cases hx : validB xs with
  | false =>
    go_enter Tryd.func47, Tryd.ntmps47
    go_wp2_with fail
    refine (nat_Valid xs A c _ _ w HA.out hm1).mono ?_
    rintro e w' ⟨rfl, rfl⟩
    go_wp2_with fail
    go_ret2
    exact fin (by rw [textV, hx]; rfl) (by rw [oneE, hx]; rfl) (Below.refl _ _)
  | true =>
    have l1 := valid_len hx
    rcases Nat.eq_zero_or_pos xs.length with h0 | hp
    · have hnil : xs = [] := List.eq_nil_of_length_eq_zero h0
      subst hnil
      have hz : decS (nval []).toNat = ⟨#[48]⟩ := by show decS 0 = _; unfold decS; rw [Lib.decDigits_one (by decide)]; rfl
      have HZ := Lib.hid hz
      clear hz
      go_enter Tryd.func47, Tryd.ntmps47
      go_wp2_with fail
      refine (nat_Valid [] A c _ _ w HA.out hm1).mono ?_
      rintro e w' ⟨rfl, rfl⟩
      go_wp2_with fail
      go_ret2
      exact fin (by rw [textV, if_pos validB_nil, HZ.out]) (by rw [oneE, if_pos validB_nil]) (Below.refl _ _)
    · obtain ⟨z, hz⟩ : ∃ z, xs[xs.length - 1]? = some z := ⟨_, List.getElem?_eq_getElem (by omega)⟩
      obtain ⟨b, off, rfl, _, _, hcell⟩ := HA.out _ z hz
      have hzb := lok_at (valid_lok hx) hz
      have hst := text_start (valid_nrm hx) hz
      have hne : ((xs.length : Int) == 0) = false := beq_false_of_ne (by omega)
      have e1 : (xs.length : Int) - 1 = ((xs.length - 1 : Nat) : Int) := by omega
      have HN := Lib.hid (valid_nrm hx)
      have HZ := Lib.hid hz
      have HT := Lib.hid ht
      have HST := Lib.hid hst
      clear hz ht hst
      obtain ⟨z0, z1⟩ := hzb
      obtain ⟨i0, hi0, hz0, hz1, hz2⟩ := info_parts info_byte
      go_enter Tryd.func47, Tryd.ntmps47
      go_wp2_with fail
      refine (nat_Valid xs _ c _ _ w HA.out hm1).mono ?_
      rintro e w' ⟨rfl, rfl⟩
      go_wp2_with (go_at_call 75; refine (Tryd.strconv_AppendInt_10 w.heap.size 0 z (by omega) (by omega) (.slice none 0 0) [] w (World.ownsRow_nil _ _ _ _) (Nat.le_refl _) (by omega) HT.out).mono ?_; rintro e w1 ⟨v1, rfl, hown1, hnx1, -⟩; refine Hid.out ?_)
      refine Lib.hid ?_
      rw [Nat.zero_add, List.nil_append, HST.out] at hown1
      have hl0 : (Lib.decDigits (nval (xs.drop (xs.length - 1 - 0))).toNat).length ≤ 21 + 9 * 0 := by rw [← HST.out]; exact Lib.itoa_length_le z (by omega) (by omega)
      have HO1 := Lib.hid hown1
      have HB1 := Lib.hid hnx1
      have HL0 := Lib.hid hl0
      clear hown1 hnx1 hl0 hcell
      go_wp2_with fail
      go_loopw [5, 22] (fun v i wr => ∃ (k : Nat) (ds : List UInt8), k ≤ xs.length - 1 ∧ i = .int .i64 k ∧ ds = Lib.decDigits (nval (xs.drop (xs.length - 1 - k))).toNat ∧ ds.length ≤ 21 + 9 * k ∧
        wr.ownsRow w.heap.size 5 1 v ds.length (Lib.byteCells ds) ∧ Below w.heap.size w wr) (fun _ i _ => xs.length - (intOf i).toNat)
      case atStart => exact ⟨0, _, Nat.zero_le _, rfl, rfl, HL0.out, HO1.out, HB1.out⟩
      case round =>
        obtain ⟨k, ds, hk, rfl, hds, hdl, hown, hbel⟩ := hrel
        have HD := Lib.hid hds
        have HOW := Lib.hid hown
        have HBL := Lib.hid hbel
        clear hds hown hbel
        rcases Nat.lt_or_ge k (xs.length - 1) with hlt | hge
        · obtain ⟨j, hj⟩ : ∃ j, j = xs.length - 1 - 1 - k := ⟨_, rfl⟩
          obtain ⟨x, hx'⟩ : ∃ x, xs[j]? = some x := ⟨_, List.getElem?_eq_getElem (by omega)⟩
          obtain ⟨b2, off2, hA2, _, _, hcell2⟩ := (Holds.below HA.out HBL.out (Nat.le_refl _)) j x hx'
          cases hA2
          have hxb := lok_at (nrm_lok HN.out) hx'
          have hstep := text_step (x := x) HN.out hlt (by rw [← hj]; exact hx')
          have e2 : ((xs.length - 1 : Nat) : Int) - 1 - k = (j : Int) := by omega
          have hjl : j < xs.length := by omega
          have HSTEP := Lib.hid hstep
          have HTW := Lib.hid (HT.out.on HBL.out)
          clear hstep hj hx'
          obtain ⟨x0, x1⟩ := hxb
          have hklt : (k : Int) < ((xs.length - 1 : Nat) : Int) := by omega
          go_wp2_with (go_at_call 76; refine (itoa_call x x0 x1 wr HTW.out.here).mono ?_; rintro e w2 ⟨S, rfl, hS, hsz, hb2⟩; refine Hid.out ?_)
          refine Lib.hid ?_
          have hown2 := own_keep HOW.out hb2
          have hcc := tail_cells hS.out
          have HCC := Lib.hid hcc
          have HB2 := Lib.hid hb2
          have HOW2 := Lib.hid hown2
          clear hcc hown2 hb2
          have hl9 := HCC.out.2
          have c3 : ds.length + (S.extract 1 10).size ≤ maxLen := by rw [hl9]; unfold maxLen; omega
          have c4 : ds.length + (S.extract 1 10).size ≤ 140737488355328 := by rw [hl9]; omega
          have c5 : w.heap.size ≤ w2.heap.size := Nat.le_trans HBL.out.size HB2.out.size
          have C3 := Lib.hid c3
          have C4 := Lib.hid c4
          have C5 := Lib.hid c5
          clear c3 c4 c5 hl9
          go_wp2_with (first
            | (at_builtin; refine Lib.wpList_append_own_string _ rfl _ _ 69 9 rfl w.heap.size 5 i0 Tryd.underlying69 Tryd.underlying9 hi0 hz0 hz1 hz2 _ _ _ rfl HOW2.out _ rfl C3.out C4.out C5.out ?_; intro v' w3 hown' hgrow _; refine Hid.out ?_)
            | fail)
          refine Lib.hid ?_
          have hb3 : Below w.heap.size w w3 := ((HBL.out.trans (HB2.out.mono HBL.out.size))).grown hgrow C5.out (own_block_ge HOW2.out)
          have hcc := HCC.out
          rw [hcc.1, hcc.2] at hown'
          have hl1 : ds.length + 9 = (ds ++ padD 9 x.toNat).length := by rw [List.length_append, padD_length]
          have hl2 : Lib.byteCells ds ++ Lib.byteCells (padD 9 x.toNat) = Lib.byteCells (ds ++ padD 9 x.toNat) := by simp [Lib.byteCells]
          rw [hl1, hl2] at hown'
          have HOWN := Lib.hid hown'
          have HB3 := Lib.hid hb3
          clear hown' hb3 hgrow hcc hl1 hl2 hcell2
          go_wp2_with fail
          go_roundw
          case rel =>
            refine ⟨k + 1, _, by omega, by go_num, ?_, ?_, HOWN.out, HB3.out⟩
            · rw [HD.out, HSTEP.out]
            · rw [List.length_append, padD_length]; omega
          case measure => simp [intOf]; omega
        · obtain rfl : k = xs.length - 1 := by omega
          have hds := HD.out
          rw [Nat.sub_self, List.drop_zero] at hds
          have hpos : 0 < ds.length := by rw [hds, Lib.decDigits_length, Lib.nDigits]; split <;> omega
          have htx : (⟨ds.toArray⟩ : ByteArray) = textV xs := by rw [textV, if_pos hx, hds]; rfl
          have HTX := Lib.hid htx
          have hown := HOW.out
          clear htx hds
          rcases hown.2 with ⟨-, h0⟩ | ⟨g, cap, cur, rfl, -, -, -, -, -, -⟩
          · omega
          · have hcv := run_convert_bytes_back (P := Tryd.prog) wr 69 9 5 ⟨g, 0, none⟩ cap ds Tryd.underlying69 Tryd.underlying5 Tryd.underlying9 (fun j hj => hown.cells (g := g) rfl j _ (by simp [Lib.byteCells, hj]))
            clear hown
            go_wp2_with fail
            go_ret2
            exact fin HTX.out (by rw [oneE, if_pos hx]) HBL.out
end Go.Proofs.YthkhaipbdphpeaaDoor
/- Contracts of nat.isDecimal and nat.Parse. -/
namespace Go.Proofs.YthkhaipbdphpeaaDoor
open Go.ChangeShapes Go.WideShapes Go.RowKit
set_option linter.unusedVariables false
set_option maxRecDepth 100000

def isD (b : UInt8) : Bool := decide (48 ≤ b.toNat) && decide (b.toNat ≤ 57)
/-- Digits, not none, without leading zeros. -/
def decOk (L : List UInt8) : Bool := L.all isD && (decide (L = [48]) || (!L.isEmpty && ((L.headD 0) != 48)))
theorem str_get? (s : ByteArray) {k : Nat} (h : k < s.size) : s.data.toList[k]? = some s[k] := by
  rw [Array.getElem?_toList]
  exact Array.getElem?_eq_getElem h
theorem str_len (s : ByteArray) : s.data.toList.length = s.size := by rw [Array.length_toList]; rfl
theorem all_snoc {L : List UInt8} {k : Nat} {b : UInt8} (h : (L.take k).all isD = true) (hb : L[k]? = some b) (h1 : isD b = true) : (L.take (k + 1)).all isD = true := by
  rw [List.take_add_one, hb, List.all_append, h]; simp [h1]
theorem decOk_bad {L : List UInt8} {k : Nat} {b : UInt8} (hb : L[k]? = some b) (h1 : isD b = false) : decOk L = false := by
  have : L.all isD = false := by
    rw [List.all_eq_false]; exact ⟨b, List.mem_of_getElem? hb, by simp [h1]⟩
  simp [decOk, this]
theorem isD_no {b : UInt8} (h : b.toNat < 48 ∨ 57 < b.toNat) : isD b = false := by
  unfold isD
  rcases h with h | h
  · rw [decide_eq_false (by omega)]; rfl
  · rw [decide_eq_false (p := b.toNat ≤ 57) (by omega), Bool.and_false]
theorem isD_yes {b : UInt8} (h1 : 48 ≤ b.toNat) (h2 : b.toNat ≤ 57) : isD b = true := by simp [isD, h1, h2]
theorem isD_iff {b : UInt8} (h : isD b = true) : 48 ≤ b.toNat ∧ b.toNat ≤ 57 := by simpa [isD] using h

theorem fin_dec {s : ByteArray} {w : World} {b : Bool} (h : b = decOk s.data.toList) : Ending.returned (.bool b) = Ending.returned (.bool (decOk s.data.toList)) ∧ w = w := by subst h; exact ⟨rfl, rfl⟩

end Go.Proofs.YthkhaipbdphpeaaDoor
/- The contract of nat.Parse. -/
namespace Go.Proofs.YthkhaipbdphpeaaDoor
open Go.ChangeShapes Go.WideShapes Go.RowKit
set_option linter.unusedVariables false
set_option maxRecDepth 100000

/-- What digits stand for. -/
def dval (L : List UInt8) : Nat := L.foldl (fun v b => v * 10 + (b.toNat - 48)) 0
theorem dval_snoc (L : List UInt8) (b : UInt8) : dval (L ++ [b]) = dval L * 10 + (b.toNat - 48) := by simp [dval]
def parN (L : List UInt8) : Nat := if decOk L then (if L.length ≤ 432 then dval L else 0) else 0
def parE (L : List UInt8) : Int := if decOk L then (if L.length ≤ 432 then 0 else 2) else 3

theorem nval_drop_getD (P : List Int) (t : Nat) : nval (P.drop t) = P.getD t 0 + 1000000000 * nval (P.drop (t + 1)) := by
  rcases Nat.lt_or_ge t P.length with h | h
  · have hz : P[t]? = some P[t] := List.getElem?_eq_getElem h
    rw [nval_drop_step hz, List.getD_eq_getElem?_getD, hz]; rfl
  · rw [List.drop_eq_nil_of_le h, List.drop_eq_nil_of_le (by omega), List.getD_eq_getElem?_getD, List.getElem?_eq_none h]; rfl
theorem lok_set {P : List Int} (h : lok P = true) (j : Nat) {v : Int} (h0 : 0 ≤ v) (h1 : v < 1000000000) : lok (P.set j v) = true := by
  simp only [lok, List.all_eq_true] at h ⊢
  intro x hx
  rcases List.mem_or_eq_of_mem_set hx with h2 | h2
  · exact h x h2
  · subst h2; simp [h0, h1]
structure PInv (L : List UInt8) (P : List Int) (k : Nat) : Prop where
  len : P.length = (L.length + 8) / 9
  ok : lok P = true
  low : ∀ j, j < (L.length - k) / 9 → P.getD j 0 = 0
  lt : P.getD ((L.length - k) / 9) 0 < 10 ^ (9 - (L.length - k) % 9)
  val : (dval (L.take k) : Int) = nval (P.drop ((L.length - k) / 9 + 1)) * 10 ^ (9 - (L.length - k) % 9) + P.getD ((L.length - k) / 9) 0
theorem getD_replicate (n j : Nat) : (List.replicate n (0 : Int)).getD j 0 = 0 := by
  rw [List.getD_eq_getElem?_getD, List.getElem?_replicate]; split <;> rfl
theorem pinv_start (L : List UInt8) : PInv L (List.replicate ((L.length + 8) / 9) 0) 0 := by
  refine ⟨by simp, lok_zeros _, fun j _ => getD_replicate _ _, ?_, ?_⟩
  · rw [getD_replicate]; exact Int.pow_pos (by decide)
  · rw [getD_replicate, List.drop_replicate, nval_zeros]; simp [dval]
theorem pinv_end {L : List UInt8} {P : List Int} (h : PInv L P L.length) : nval P = dval L := by
  have h1 := h.val
  rw [Nat.sub_self, List.take_length] at h1
  have h2 := nval_drop_getD P 0
  rw [List.drop_zero] at h2
  have e : ((10 : Int) ^ (9 - 0 % 9)) = 1000000000 := by decide
  rw [e] at h1
  simp only [Nat.zero_div, Nat.zero_add] at h1 h2
  omega
theorem getD_set_same {P : List Int} {j : Nat} (h : j < P.length) (v : Int) : (P.set j v).getD j 0 = v := by
  rw [List.getD_eq_getElem?_getD, List.getElem?_set_self h]; rfl
theorem getD_set_other {P : List Int} {i j : Nat} (h : i ≠ j) (v : Int) : (P.set i v).getD j 0 = P.getD j 0 := by
  rw [List.getD_eq_getElem?_getD, List.getElem?_set_ne h, List.getD_eq_getElem?_getD]
theorem drop_set_above {P : List Int} {i j : Nat} (h : i < j) (v : Int) : (P.set i v).drop j = P.drop j := by
  rw [List.drop_set, if_pos h]
theorem dval_take_succ {L : List UInt8} {k : Nat} {b : UInt8} (hb : L[k]? = some b) (hd : isD b = true) : (dval (L.take (k + 1)) : Int) = dval (L.take k) * 10 + ((b.toNat : Int) - 48) := by
  rw [List.take_add_one, hb]
  have := dval_snoc (L.take k) b
  have hb := isD_iff hd
  simp only [Option.toList_some]
  rw [this]; omega
theorem pinv_step {L : List UInt8} {P : List Int} {k : Nat} {b : UInt8} (h : PInv L P k) (hb : L[k]? = some b) (hd : isD b = true) :
    (L.length - 1 - k) / 9 < P.length ∧ 0 ≤ P.getD ((L.length - 1 - k) / 9) 0 ∧ P.getD ((L.length - 1 - k) / 9) 0 < 100000000 ∧
    PInv L (P.set ((L.length - 1 - k) / 9) (P.getD ((L.length - 1 - k) / 9) 0 * 10 + ((b.toNat : Int) - 48))) (k + 1) := by
  have hk : k < L.length := by
    rcases Nat.lt_or_ge k L.length with h1 | h1
    · exact h1
    · rw [List.getElem?_eq_none h1] at hb; cases hb
  have hbd := isD_iff hd
  have hv := dval_take_succ hb hd
  have hlen := h.len
  have e1 : L.length - (k + 1) = L.length - 1 - k := by omega
  have hj : (L.length - 1 - k) / 9 < P.length := by omega
  obtain ⟨j, hjj⟩ : ∃ j, j = (L.length - 1 - k) / 9 := ⟨_, rfl⟩
  have x0 := (lok_getD h.ok j).1
  by_cases hr : (L.length - k) % 9 = 0
  · have ej : (L.length - k) / 9 = j + 1 := by omega
    have er : (L.length - 1 - k) % 9 = 8 := by omega
    have hx : P.getD j 0 = 0 := h.low j (by omega)
    have h1 := h.val
    rw [hr, ej] at h1
    have e9 : ((10 : Int) ^ (9 - 0)) = 1000000000 := by decide
    have e8 : ((10 : Int) ^ (9 - 8)) = 10 := by decide
    rw [e9] at h1
    have h2 := nval_drop_getD P (j + 1)
    rw [← hjj, hx]
    rw [← hjj] at hj
    refine ⟨hj, by omega, by omega, by rw [List.length_set]; exact hlen, lok_set h.ok _ (by omega) (by omega), ?_, ?_, ?_⟩
    · intro i hi
      rw [e1, ← hjj] at hi
      rw [getD_set_other (by omega)]; exact h.low i (by omega)
    · rw [e1, ← hjj, er, e8, getD_set_same hj]; omega
    · rw [e1, ← hjj, er, e8, getD_set_same hj, hv, drop_set_above (by omega)]; omega
  · have ej : (L.length - k) / 9 = j := by omega
    have er : 9 - (L.length - 1 - k) % 9 = 9 - (L.length - k) % 9 + 1 := by omega
    have h1 := h.val
    have h3 := h.lt
    rw [ej] at h1 h3
    obtain ⟨q, hq⟩ : ∃ q, q = 9 - (L.length - k) % 9 := ⟨_, rfl⟩
    have hq8 : q ≤ 8 := by omega
    rw [← hq] at h1 h3 er
    have hp8 : (10 : Int) ^ q ≤ 100000000 := by
      have : ∀ q : Nat, q ≤ 8 → (10 : Int) ^ q ≤ 100000000 := by decide
      exact this q hq8
    rw [← hjj]
    rw [← hjj] at hj
    refine ⟨hj, x0, by omega, by rw [List.length_set]; exact hlen, lok_set h.ok _ (by omega) (by omega), ?_, ?_, ?_⟩
    · intro i hi
      rw [e1, ← hjj] at hi
      rw [getD_set_other (by omega)]; exact h.low i (by omega)
    · rw [e1, ← hjj, er, getD_set_same hj, Int.pow_succ]; omega
    · rw [e1, ← hjj, er, getD_set_same hj, hv, drop_set_above (by omega), Int.pow_succ, h1, ← Int.mul_assoc]; omega

end Go.Proofs.YthkhaipbdphpeaaDoor
/- Contracts of nat.divide of short numbers, of nat.DivMod, of nat.gcd of short numbers, of nat.Gcd. -/
namespace Go.Proofs.YthkhaipbdphpeaaDoor
open Go.ChangeShapes Go.WideShapes Go.RowKit
set_option linter.unusedVariables false
set_option maxRecDepth 100000

/-- What divide leaves: the limbs of the quotient and of the remainder. -/
def DivRes (w : World) (xs ys : List Int) (e : Ending) (w' : World) : Prop :=
  ∃ vq vr, e = .returned (.tuple #[vq, vr]) ∧ Sl w' w.heap.size w'.heap.size vq (limbs ((nval xs).toNat / (nval ys).toNat)) ∧ Sl w' w.heap.size w'.heap.size vr (limbs ((nval xs).toNat % (nval ys).toNat)) ∧ Below w.heap.size w w'
theorem nval_pos {ys : List Int} (hn : nrm ys = true) (hne : 0 < ys.length) : 0 < nval ys := by
  have := nval_pos_last hn (k := 0) hne
  rwa [List.drop_zero] at this
theorem padL_self (xs : List Int) : padL xs xs.length = xs := by simp [padL]

set_option maxHeartbeats 1600000 in
theorem divide_less (xs ys : List Int) (va vb : Value) (w : World) (ha : In w va xs) (hb : In w vb ys) (hx : nrm xs = true) (hy : nrm ys = true) (hlx : xs.length ≤ 100000) (hl : xs.length < ys.length) :
    Calls Tryd.prog 89 #[va, vb] w (DivRes w xs ys) := by
  obtain ⟨A, c, rfl, hc, hm, hA⟩ := ha
  obtain ⟨B, d, rfl, hd, hn, hB⟩ := hb
  have HA := Lib.hid hA
  have hlt := nrm_len hx hy hl
  have h0 := nval_nonneg (nrm_lok hx)
  have hxl := nrm_limbs hx
  have e1 : (nval xs).toNat / (nval ys).toNat = 0 := Nat.div_eq_of_lt (by omega)
  have e2 : (nval xs).toNat % (nval ys).toNat = (nval xs).toNat := Nat.mod_eq_of_lt (by omega)
  have E1 := Lib.hid e1
  have E2 := Lib.hid e2
  have HX := Lib.hid hxl
  have hl' : (xs.length : Int) < (ys.length : Int) := by omega
  clear hA hB hm hn hlt h0 hxl e1 e2 hx hy
  go_enter Tryd.func89, Tryd.ntmps89
  go_wp2_with fail
  refine (nat_copied xs A c xs.length _ _ w HA.out (Nat.le_refl _) (Nat.le_refl _) (by omega)).mono ?_
  rintro e w1 ⟨rfl, hrow, hbel⟩
  rw [padL_self] at hrow
  have HR := Lib.hid hrow
  have HB := Lib.hid hbel
  clear hrow hbel
  go_wp2_with fail
  go_ret2
  refine ⟨.slice none 0 0, .slice (some ⟨w.heap.size, 0, none⟩) xs.length xs.length, rfl, by rw [E1.out, limbs_zero]; exact Sl.nil _ _ _, ?_, HB.out⟩
  rw [E2.out, ← HX.out]
  exact ⟨_, _, rfl, Nat.le_refl _, by unfold maxLen; omega, HR.out.holds (fun k z hz => by rw [Nat.zero_add]; exact hz) (Nat.le_refl _) HR.out.lt⟩

set_option maxHeartbeats 1600000 in
theorem divide_two (xs ys : List Int) (va vb : Value) (w : World) (ha : In w va xs) (hb : In w vb ys) (hx : nrm xs = true) (hy : nrm ys = true) (hl2 : xs.length ≤ 2) (hp : 0 < ys.length) (hl : ys.length ≤ xs.length) :
    Calls Tryd.prog 89 #[va, vb] w (DivRes w xs ys) := by
  obtain ⟨A, c, rfl, hc, hm, hA⟩ := ha
  obtain ⟨B, d, rfl, hd, hn, hB⟩ := hb
  have WA := fun W => nat_word xs A c 0 w.heap.size W
  have hyl : ys.length ≤ 2 := by omega
  have hwa : Calls Tryd.prog 90 #[.slice A xs.length c] w fun e w' => e = .returned (.int .i64 (nval xs)) ∧ w = w' := nat_word xs A c _ _ w hA (nrm_lok hx) hl2
  have hwb : Calls Tryd.prog 90 #[.slice B ys.length d] w fun e w' => e = .returned (.int .i64 (nval ys)) ∧ w = w' := nat_word ys B d _ _ w hB (nrm_lok hy) hyl
  have hA' := hA
  have hB' := hB
  have sx := nval_small (nrm_lok hx) hl2
  have sy := nval_small (nrm_lok hy) hyl
  have py := nval_pos hy hp
  obtain ⟨M, hM⟩ : ∃ M, M = nval xs := ⟨_, rfl⟩
  obtain ⟨N, hN⟩ : ∃ N, N = nval ys := ⟨_, rfl⟩
  rw [← hM] at sx hwa
  rw [← hN] at sy py hwb
  have HM := Lib.hid hM
  have HN := Lib.hid hN
  have HWA := Lib.hid hwa
  have HWB := Lib.hid hwb
  have HAA := Lib.hid hA
  have HBB := Lib.hid hB
  have HXX := Lib.hid (nrm_lok hx)
  have HYY := Lib.hid (nrm_lok hy)
  have hl' : decide ((xs.length : Int) < (ys.length : Int)) = false := decide_eq_false (by omega)
  have hl2' : (xs.length : Int) ≤ 2 := by omega
  obtain ⟨sx0, sx1⟩ := sx
  obtain ⟨sy0, sy1⟩ := sy
  have n0 : ¬ N = 0 := by omega
  have n1 : (N == 0) = false := beq_false_of_ne n0
  have q0 : M.tdiv N = M / N := Int.tdiv_eq_ediv_of_nonneg sx0
  have r0 : M.tmod N = M % N := Int.tmod_eq_emod_of_nonneg sx0
  have q1 : 0 ≤ M / N := Int.ediv_nonneg sx0 sy0
  have q2 : M / N ≤ M := Int.ediv_le_self _ sx0
  have r1 : 0 ≤ M % N := Int.emod_nonneg _ n0
  have r2 : M % N < N := Int.emod_lt_of_pos _ py
  have eq1 : (M / N).toNat = M.toNat / N.toNat := by
    have e1 : M = (M.toNat : Int) := by omega
    have e2 : N = (N.toNat : Int) := by omega
    rw [e1, e2]; exact Int.toNat_natCast _
  have eq2 : (M % N).toNat = M.toNat % N.toNat := by
    have e1 : M = (M.toNat : Int) := by omega
    have e2 : N = (N.toNat : Int) := by omega
    rw [e1, e2]; exact Int.toNat_natCast _
  have EQ1 := Lib.hid eq1
  have EQ2 := Lib.hid eq2
  clear WA hA hB hA' hB' hM hN hwa hwb hx hy hm hn eq1 eq2
  go_enter Tryd.func89, Tryd.ntmps89
  go_wp2_with fail
  refine HWA.out.mono ?_
  rintro e w' ⟨rfl, rfl⟩
  go_wp2_with fail
  refine HWB.out.mono ?_
  rintro e w' ⟨rfl, rfl⟩
  go_wp2_with fail
  refine (nat_ofWord (M / N) w (by omega) (by omega)).mono ?_
  rintro e w1 ⟨vq, rfl, hsq, hb1⟩
  have hwa : Calls Tryd.prog 90 #[.slice A xs.length c] w1 fun e w' => e = .returned (.int .i64 M) ∧ w1 = w' := by
    rw [HM.out]; exact nat_word xs A c _ _ w1 (HAA.out.below hb1 (Nat.le_refl _)) HXX.out hl2
  have hwb : Calls Tryd.prog 90 #[.slice B ys.length d] w1 fun e w' => e = .returned (.int .i64 N) ∧ w1 = w' := by
    rw [HN.out]; exact nat_word ys B d _ _ w1 (HBB.out.below hb1 (Nat.le_refl _)) HYY.out hyl
  have HWA1 := Lib.hid hwa
  have HWB1 := Lib.hid hwb
  have HSQ := Lib.hid hsq
  have HB1 := Lib.hid hb1
  clear hwa hwb hsq hb1
  go_wp2_with fail
  refine HWA1.out.mono ?_
  rintro e w' ⟨rfl, rfl⟩
  go_wp2_with fail
  refine HWB1.out.mono ?_
  rintro e w' ⟨rfl, rfl⟩
  go_wp2_with fail
  refine (nat_ofWord (M % N) w1 (by omega) (by omega)).mono ?_
  rintro e w2 ⟨vr, rfl, hsr, hb2⟩
  have HSR := Lib.hid hsr
  have HB2 := Lib.hid hb2
  clear hsr hb2
  go_wp2_with fail
  go_ret2
  have hs := HB1.out.size
  have hs2 := HB2.out.size
  refine ⟨vq, vr, rfl, ?_, ?_, HB1.out.trans (HB2.out.mono hs)⟩
  · rw [← HM.out, ← HN.out, ← EQ1.out]; exact (HSQ.out.below HB2.out (Nat.le_refl _)).more (Nat.le_refl _) hs2
  · rw [← HM.out, ← HN.out, ← EQ2.out]; exact HSR.out.more hs (Nat.le_refl _)
end Go.Proofs.YthkhaipbdphpeaaDoor
/- Contracts of nat.DivMod and nat.Gcd out of those of divide and gcd; of nat.gcd where the second number is short. -/
namespace Go.Proofs.YthkhaipbdphpeaaDoor
open Go.ChangeShapes Go.WideShapes Go.RowKit
set_option linter.unusedVariables false
set_option maxRecDepth 100000

def divOk (xs ys : List Int) : Bool := both xs ys && !ys.isEmpty
def quoN (xs ys : List Int) : Nat := if divOk xs ys then (nval xs).toNat / (nval ys).toNat else 0
def remN (xs ys : List Int) : Nat := if divOk xs ys then (nval xs).toNat % (nval ys).toNat else 0
def divE (xs ys : List Int) : Int := if both xs ys then (if ys.isEmpty then 16 else 0) else 3
def DmRes (w : World) (xs ys : List Int) (e : Ending) (w' : World) : Prop :=
  ∃ vq vr, e = .returned (.tuple #[vq, vr, .int .i64 (divE xs ys)]) ∧ Sl w' w.heap.size w'.heap.size vq (limbs (quoN xs ys)) ∧ Sl w' w.heap.size w'.heap.size vr (limbs (remN xs ys)) ∧ Below w.heap.size w w'
theorem DmRes.none {w w' : World} {xs ys : List Int} {k : Int} {e : Ending} (hq : divOk xs ys = false) (hk : divE xs ys = k) (h : e = .returned (.tuple #[.slice none 0 0, .slice none 0 0, .int .i64 k])) (hb : Below w.heap.size w w') : DmRes w xs ys e w' := by
  subst hk h
  refine ⟨_, _, rfl, ?_, ?_, hb⟩
  · rw [quoN, hq]; exact (by show Sl _ _ _ _ (limbs 0); rw [limbs_zero]; exact Sl.nil _ _ _)
  · rw [remN, hq]; exact (by show Sl _ _ _ _ (limbs 0); rw [limbs_zero]; exact Sl.nil _ _ _)

set_option maxHeartbeats 1600000 in
theorem DivMod_of (xs ys : List Int) (va vb : Value) (w : World) (ha : In w va xs) (hb : In w vb ys)
    (hdiv : validB xs = true → validB ys = true → 0 < ys.length → Calls Tryd.prog 89 #[va, vb] w (DivRes w xs ys)) :
    Calls Tryd.prog 68 #[va, vb] w (DmRes w xs ys) := by
  obtain ⟨A, c, rfl, hc, hm, hA⟩ := ha
  obtain ⟨B, d, rfl, hd, hn, hB⟩ := hb
  have HA := Lib.hid hA
  have HB := Lib.hid hB
  have HDIV := Lib.hid hdiv
  have hm1 : xs.length ≤ 9223372036854775807 := Nat.le_trans hc hm
  have hm2 : ys.length ≤ 9223372036854775807 := Nat.le_trans hd hn
  clear hA hB hm hn hdiv
  rcases both_cases xs ys with ⟨hx, hbo⟩ | ⟨hx, hy, hbo⟩ | ⟨hx, hy, hbo⟩
  · have HBO := Lib.hid hbo
    clear hbo
    go_enter Tryd.func68, Tryd.ntmps68
    go_wp2_with fail
    refine (nat_Valid xs A c _ _ w HA.out hm1).mono ?_
    rintro e w' ⟨rfl, rfl⟩
    go_wp2_with fail
    go_ret3
    exact DmRes.none (by rw [divOk, HBO.out]; rfl) (by rw [divE, HBO.out]; rfl) rfl (Below.refl _ _)
  · have HBO := Lib.hid hbo
    clear hbo
    go_enter Tryd.func68, Tryd.ntmps68
    go_wp2_with fail
    refine (nat_Valid xs A c _ _ w HA.out hm1).mono ?_
    rintro e w' ⟨rfl, rfl⟩
    go_wp2_with fail
    refine (nat_Valid ys B d _ _ _ HB.out hm2).mono ?_
    rintro e w' ⟨rfl, rfl⟩
    go_wp2_with fail
    go_ret3
    exact DmRes.none (by rw [divOk, HBO.out]; rfl) (by rw [divE, HBO.out]; rfl) rfl (Below.refl _ _)
  · have HBO := Lib.hid hbo
    clear hbo
    rcases Nat.eq_zero_or_pos ys.length with h0 | hp
    · have hn : ys = [] := List.eq_nil_of_length_eq_zero h0
      subst hn
      go_enter Tryd.func68, Tryd.ntmps68
      go_wp2_with fail
      refine (nat_Valid xs A c _ _ w HA.out hm1).mono ?_
      rintro e w' ⟨rfl, rfl⟩
      go_wp2_with fail
      refine (nat_Valid [] B d _ _ _ HB.out hm2).mono ?_
      rintro e w' ⟨rfl, rfl⟩
      go_wp2_with fail
      go_ret3
      exact DmRes.none (by rw [divOk, HBO.out]; rfl) (by rw [divE, HBO.out]; rfl) rfl (Below.refl _ _)
    · have hne : ((ys.length : Int) == 0) = false := beq_false_of_ne (by omega)
      have he : ys.isEmpty = false := by cases ys with
        | nil => simp at hp
        | cons a l => rfl
      have HE := Lib.hid he
      have hcall := HDIV.out hx hy hp
      have HCALL := Lib.hid hcall
      clear he hcall
      go_enter Tryd.func68, Tryd.ntmps68
      go_wp2_with fail
      refine (nat_Valid xs A c _ _ w HA.out hm1).mono ?_
      rintro e w' ⟨rfl, rfl⟩
      go_wp2_with fail
      refine (nat_Valid ys B d _ _ _ HB.out hm2).mono ?_
      rintro e w' ⟨rfl, rfl⟩
      go_wp2_with fail
      refine HCALL.out.mono ?_
      rintro e w' ⟨vq, vr, rfl, hq, hr, hb⟩
      have HQ := Lib.hid hq
      have HR := Lib.hid hr
      have HBL := Lib.hid hb
      clear hq hr hb
      go_wp2_with fail
      go_ret3
      have ho : divOk xs ys = true := by rw [divOk, HBO.out, HE.out]; rfl
      have hk : divE xs ys = 0 := by rw [divE, HBO.out, HE.out]; rfl
      exact ⟨vq, vr, by rw [hk]; rfl, by rw [quoN, ho]; exact HQ.out, by rw [remN, ho]; exact HR.out, HBL.out⟩

/-- What gcd leaves. -/
def GcdRes (w : World) (N : Nat) (e : Ending) (w' : World) : Prop :=
  ∃ v, e = .returned v ∧ Sl w' w.heap.size w'.heap.size v (limbs N) ∧ Below w.heap.size w w'
theorem gcd_step (a b : Nat) : Nat.gcd b (a % b) = Nat.gcd a b := by rw [Nat.gcd_comm b, ← Nat.gcd_rec, Nat.gcd_comm]
theorem gcd_words (a b : Nat) (h : 0 < b) : Nat.gcd b (a % b) = Nat.gcd a b := gcd_step a b

set_option maxHeartbeats 1600000 in
theorem gcd_short (xs ys : List Int) (va vb : Value) (w : World) (ha : In w va xs) (hb : In w vb ys) (hx : nrm xs = true) (hy : nrm ys = true) (hlx : xs.length ≤ 100000) (hl2 : ys.length ≤ 2)
    (hdiv : 0 < ys.length → Calls Tryd.prog 89 #[va, vb] w (DivRes w xs ys)) :
    Calls Tryd.prog 78 #[va, vb] w (GcdRes w (Nat.gcd (nval xs).toNat (nval ys).toNat)) := by
  obtain ⟨A, c, rfl, hc, hm, hA⟩ := ha
  obtain ⟨B, d, rfl, hd, hn, hB⟩ := hb
  have HA := Lib.hid hA
  have HB := Lib.hid hB
  have hl2' : decide ((2 : Int) < (ys.length : Int)) = false := decide_eq_false (by omega)
  have HX := Lib.hid hx
  have HY := Lib.hid hy
  rcases Nat.eq_zero_or_pos ys.length with h0 | hp
  · have hnil : ys = [] := List.eq_nil_of_length_eq_zero h0
    subst hnil
    have HXL := Lib.hid (nrm_limbs hx)
    clear hA hB hm hn hdiv hx hy
    go_enter Tryd.func78, Tryd.ntmps78
    go_wp2_with fail
    refine wp_loop_rounds 1 ?_
    rw [rounds_succ]
    go_wp2_with fail
    refine (nat_copied xs A c xs.length _ _ w HA.out (Nat.le_refl _) (Nat.le_refl _) (by omega)).mono ?_
    rintro e w1 ⟨rfl, hrow, hbel⟩
    rw [padL_self] at hrow
    have HR := Lib.hid hrow
    have HBL := Lib.hid hbel
    clear hrow hbel
    go_wp2_with fail
    go_ret
    refine ⟨_, rfl, ?_, HBL.out⟩
    have e : (nval []).toNat = 0 := rfl
    rw [e, Nat.gcd_zero_right, ← HXL.out]
    exact ⟨_, _, rfl, Nat.le_refl _, by unfold maxLen; omega, HR.out.holds (fun k z hz => by rw [Nat.zero_add]; exact hz) (Nat.le_refl _) HR.out.lt⟩
  · have hne : ((ys.length : Int) == 0) = false := beq_false_of_ne (by omega)
    have HDIV := Lib.hid (hdiv hp)
    have sy := nval_small (nrm_lok hy) hl2
    have py := nval_pos hy hp
    obtain ⟨M, hM⟩ : ∃ M, M = (nval ys).toNat := ⟨_, rfl⟩
    obtain ⟨N, hN⟩ : ∃ N, N = (nval xs).toNat := ⟨_, rfl⟩
    have eM : nval ys = (M : Int) := by omega
    have hM1 : M < 1000000000000000000 := by omega
    have hM0 : 0 < M := by omega
    have hr2 : (limbs (N % M)).length ≤ 2 := limbs_len_le.mpr (by have := Nat.mod_lt N hM0; omega)
    have HM := Lib.hid hM
    have HN := Lib.hid hN
    have EM := Lib.hid eM
    have HR2 := Lib.hid hr2
    clear hA hB hm hn hdiv hx hy sy py hM hN eM hr2
    go_enter Tryd.func78, Tryd.ntmps78
    go_wp2_with fail
    refine wp_loop_rounds 1 ?_
    rw [rounds_succ]
    go_wp2_with fail
    refine HDIV.out.mono ?_
    rintro e w1 ⟨vq, vr, rfl, -, hr, hb⟩
    rw [← HM.out, ← HN.out] at hr
    obtain ⟨A2, c2, rfl, hc2, hm2, hA2⟩ := hr
    have hwb : Calls Tryd.prog 90 #[.slice B ys.length d] w1 fun e w' => e = .returned (.int .i64 M) ∧ w1 = w' := by
      rw [← EM.out]; exact nat_word ys B d _ _ w1 (Holds.below HB.out hb (Nat.le_refl _)) (nrm_lok HY.out) hl2
    have hwr : Calls Tryd.prog 90 #[.slice A2 (limbs (N % M)).length c2] w1 fun e w' => e = .returned (.int .i64 ((N % M : Nat) : Int)) ∧ w1 = w' := by
      have := nat_word (limbs (N % M)) A2 c2 _ _ w1 hA2 (lok_limbs _) HR2.out
      rw [nval_limbs] at this; exact this
    have HWB := Lib.hid hwb
    have HWR := Lib.hid hwr
    have HBL := Lib.hid hb
    clear hwb hwr hb hA2 hm2
    go_wp2_with fail
    refine HWB.out.mono ?_
    rintro e w' ⟨rfl, rfl⟩
    go_wp2_with fail
    refine HWR.out.mono ?_
    rintro e w' ⟨rfl, rfl⟩
    go_wp2_with fail
    go_loopw [7, 8] (fun m n wr => ∃ a b : Nat, m = .int .i64 a ∧ n = .int .i64 b ∧ a < 1000000000000000000 ∧ b < 1000000000000000000 ∧ Nat.gcd a b = Nat.gcd N M ∧ Below w.heap.size w wr) (fun _ n _ => (intOf n).toNat)
    case atStart => exact ⟨M, N % M, rfl, rfl, hM1, by have := Nat.mod_lt N hM0; omega, gcd_step _ _, HBL.out⟩
    case round =>
      obtain ⟨a, b, rfl, rfl, ha1, hb1, hg, hbel⟩ := hrel
      have HG := Lib.hid hg
      have HBL2 := Lib.hid hbel
      clear hg hbel
      rcases Nat.eq_zero_or_pos b with rfl | hb0
      · have hg := HG.out
        rw [Nat.gcd_zero_right] at hg
        have HG2 := Lib.hid hg
        clear hg
        go_wp2_with fail
        refine (nat_ofWord (a : Int) wr (by omega) (by omega)).mono ?_
        rintro e w2 ⟨v, rfl, hsl, hb2⟩
        rw [Int.toNat_natCast, HG2.out] at hsl
        have HSL := Lib.hid hsl
        have HB2 := Lib.hid hb2
        clear hsl hb2
        go_wp2_with fail
        go_ret
        have hs := HBL2.out.size
        refine ⟨_, rfl, ?_, HBL2.out.trans (HB2.out.mono hs)⟩
        rw [← HM.out, ← HN.out]
        exact HSL.out.more hs (Nat.le_refl _)
      · have hb2 : ((b : Int) != 0) = true := by simp; omega
        have hb3 : ¬ (b : Int) = 0 := by omega
        have hb4 : ((b : Int) == 0) = false := beq_false_of_ne hb3
        have hr : (a : Int).tmod (b : Int) = ((a % b : Nat) : Int) := by rw [Int.tmod_eq_emod_of_nonneg (by omega)]; rfl
        have hlt := Nat.mod_lt a hb0
        go_wp2_with fail
        go_quiet (fail)
        go_wp2_with fail
        go_roundw
        case rel => exact ⟨b, a % b, rfl, rfl, hb1, by omega, by rw [gcd_step]; exact HG.out, below_drewN HBL2.out _⟩
        case measure => simp [intOf]; omega
end Go.Proofs.YthkhaipbdphpeaaDoor
/- Contract of nat.Gcd out of that of gcd; Same at opaque slices; 'awake'. -/
namespace Go.Proofs.YthkhaipbdphpeaaDoor
open Go.ChangeShapes Go.WideShapes Go.RowKit
set_option linter.unusedVariables false
set_option maxRecDepth 100000

def gcdN (xs ys : List Int) : Nat := if both xs ys then Nat.gcd (nval xs).toNat (nval ys).toNat else 0

set_option maxHeartbeats 1600000 in
theorem Gcd_of (xs ys : List Int) (va vb : Value) (w : World) (ha : In w va xs) (hb : In w vb ys)
    (hgcd : validB xs = true → validB ys = true → Calls Tryd.prog 78 #[va, vb] w (GcdRes w (Nat.gcd (nval xs).toNat (nval ys).toNat))) :
    Calls Tryd.prog 51 #[va, vb] w (Res w (gcdN xs ys) (formE xs ys)) := by
  obtain ⟨A, c, rfl, hc, hm, hA⟩ := ha
  obtain ⟨B, d, rfl, hd, hn, hB⟩ := hb
  have HA := Lib.hid hA
  have HB := Lib.hid hB
  have HG := Lib.hid hgcd
  have hm1 : xs.length ≤ 9223372036854775807 := Nat.le_trans hc hm
  have hm2 : ys.length ≤ 9223372036854775807 := Nat.le_trans hd hn
  clear hA hB hm hn hgcd
  rcases both_cases xs ys with ⟨hx, hbo⟩ | ⟨hx, hy, hbo⟩ | ⟨hx, hy, hbo⟩
  · have HBO := Lib.hid hbo
    clear hbo
    go_enter Tryd.func51, Tryd.ntmps51
    go_wp2_with fail
    refine (nat_Valid xs A c _ _ w HA.out hm1).mono ?_
    rintro e w' ⟨rfl, rfl⟩
    go_wp2_with fail
    go_ret2
    exact Res.none (by rw [gcdN, HBO.out]; rfl) (by rw [formE, HBO.out]; rfl) rfl (Below.refl _ _)
  · have HBO := Lib.hid hbo
    clear hbo
    go_enter Tryd.func51, Tryd.ntmps51
    go_wp2_with fail
    refine (nat_Valid xs A c _ _ w HA.out hm1).mono ?_
    rintro e w' ⟨rfl, rfl⟩
    go_wp2_with fail
    refine (nat_Valid ys B d _ _ _ HB.out hm2).mono ?_
    rintro e w' ⟨rfl, rfl⟩
    go_wp2_with fail
    go_ret2
    exact Res.none (by rw [gcdN, HBO.out]; rfl) (by rw [formE, HBO.out]; rfl) rfl (Below.refl _ _)
  · have HBO := Lib.hid hbo
    have HCALL := Lib.hid (HG.out hx hy)
    clear hbo
    go_enter Tryd.func51, Tryd.ntmps51
    go_wp2_with fail
    refine (nat_Valid xs A c _ _ w HA.out hm1).mono ?_
    rintro e w' ⟨rfl, rfl⟩
    go_wp2_with fail
    refine (nat_Valid ys B d _ _ _ HB.out hm2).mono ?_
    rintro e w' ⟨rfl, rfl⟩
    go_wp2_with fail
    refine HCALL.out.mono ?_
    rintro e w' ⟨v, rfl, hs, hb⟩
    have HS := Lib.hid hs
    have HBL := Lib.hid hb
    clear hs hb
    go_wp2_with fail
    go_ret2
    exact ⟨v, by rw [formE, HBO.out]; rfl, by rw [gcdN, HBO.out]; exact HS.out, HBL.out⟩

theorem in_built (w : World) (t : TypeId) (zs : List Int) (hz : zs.length ≤ 1000) : In (w.alloc (.cells (zs.map (Value.int .i64)).toArray t)) (.slice (some ⟨w.heap.size, 0, none⟩) zs.length zs.length) zs := by
  refine ⟨_, _, rfl, Nat.le_refl _, by unfold maxLen; omega, ?_⟩
  have hr : Row (w.alloc (.cells (zs.map (Value.int .i64)).toArray t)) w.heap.size zs := row_of_heap (heap_alloc_new w _)
  exact hr.holds (fun k z hk => by rw [Nat.zero_add]; exact hk) (Nat.zero_le _) hr.lt
theorem below_alloc (w : World) (o : Obj) : Below w.heap.size w (w.alloc o) := (Below.refl _ _).alloc (Nat.le_refl _) _
theorem divide_short (xs ys : List Int) (va vb : Value) (w : World) (ha : In w va xs) (hb : In w vb ys) (hx : nrm xs = true) (hy : nrm ys = true) (hl2 : xs.length ≤ 2) (hp : 0 < ys.length) :
    Calls Tryd.prog 89 #[va, vb] w (DivRes w xs ys) := by
  rcases Nat.lt_or_ge xs.length ys.length with h | h
  · exact divide_less xs ys va vb w ha hb hx hy (by omega) h
  · exact divide_two xs ys va vb w ha hb hx hy hl2 hp h
theorem aw1 : limbs (1000000007 : Int).toNat = [7, 1] := by
  show limbs 1000000007 = _
  rw [limbs_pos (by decide), limbs_pos (by decide), limbs]; rfl
theorem aw2 : mulV [7, 1] [3] = 3000000021 := by decide +kernel
theorem aw3 : mulE [7, 1] [3] = 0 := by decide +kernel
theorem aw2' : limbs 3000000021 = [21, 3] := by
  rw [limbs_pos (by decide), limbs_pos (by decide), limbs]; rfl
theorem aw4 : quoN [21, 3] [4] = 750000005 := by decide +kernel
theorem aw5 : remN [21, 3] [4] = 1 := by decide +kernel
theorem aw6 : divE [21, 3] [4] = 0 := by decide +kernel
theorem aw4' : limbs 750000005 = [750000005] := by rw [limbs_pos (by decide), limbs]; rfl
theorem aw5' : limbs 1 = [1] := by rw [limbs_pos (by decide), limbs]; rfl
theorem aw7 : gcdN [12] [18] = 6 := by decide +kernel
theorem aw8 : formE [12] [18] = 0 := by decide +kernel
theorem aw7' : limbs 6 = [6] := by rw [limbs_pos (by decide), limbs]; rfl
theorem aw9 : textV [21, 3] = ⟨#[51, 48, 48, 48, 48, 48, 48, 48, 50, 49]⟩ := by
  have e : (nval [21, 3]).toNat = 3000000021 := by decide +kernel
  have v : validB [21, 3] = true := by decide +kernel
  rw [textV, v, e]
  show decS 3000000021 = _
  have h := dec_next (x := 21) (q := 3) (by decide) (by decide)
  have h3 : Lib.decDigits 3 = [51] := by rw [Lib.decDigits_one (by decide)]; rfl
  rw [h3] at h
  have e2 : (21 + 1000000000 * 3) = 3000000021 := by decide
  rw [e2] at h
  unfold decS
  rw [h]; rfl
theorem aw10 : oneE [21, 3] = 0 := by decide +kernel
theorem aw11 : parN [48, 48, 55] = 0 := by decide +kernel
theorem aw12 : parE [48, 48, 55] = 3 := by decide +kernel
end Go.Proofs.YthkhaipbdphpeaaDoor
/- The contract of 'awake'. -/
namespace Go.Proofs.YthkhaipbdphpeaaDoor
open Go.ChangeShapes Go.WideShapes Go.RowKit
set_option linter.unusedVariables false
set_option maxRecDepth 100000

theorem bstep {w0 w1 w2 : World} (h : Below w0.heap.size w0 w1) (k : Below w1.heap.size w1 w2) : Below w0.heap.size w0 w2 := h.trans (k.mono h.size)
theorem balloc {w0 w1 : World} (h : Below w0.heap.size w0 w1) (o : Obj) : Below w0.heap.size w0 (w1.alloc o) := h.alloc h.size _
theorem In.alloc {w : World} {v : Value} {zs : List Int} (h : In w v zs) (o : Obj) : In (w.alloc o) v zs := h.below (below_alloc _ _) (Nat.le_refl _)
theorem In.on {w w' : World} {v : Value} {zs : List Int} (h : In w v zs) (hb : Below w.heap.size w w') : In w' v zs := h.below hb (Nat.le_refl _)
theorem in_one (w : World) (t : TypeId) (x : Int) : In (w.alloc (.cells #[.int .i64 x] t)) (.slice (some ⟨w.heap.size, 0, none⟩) 1 1) [x] := in_built w t [x] (by simp)
theorem in_two (w : World) (t : TypeId) (x y : Int) : In (w.alloc (.cells #[.int .i64 x, .int .i64 y] t)) (.slice (some ⟨w.heap.size, 0, none⟩) 2 2) [x, y] := in_built w t [x, y] (by simp)

theorem aw_Of (w : World) : Calls Tryd.prog 57 #[.int .i64 1000000007] w fun e w' => ∃ v, e = .returned (.tuple #[v, .int .i64 0]) ∧ In w' v [7, 1] ∧ Below w.heap.size w w' := by
  refine (nat_Of 1000000007 w (by omega) (by omega)).mono ?_
  rintro e w1 ⟨va, rfl, hsa, hb1⟩
  rw [aw1] at hsa
  exact ⟨va, rfl, hsa.toIn, hb1⟩
theorem aw_Mul (w : World) (va : Value) (h : In w va [7, 1]) : Calls Tryd.prog 82 #[va, .slice (some ⟨w.heap.size, 0, none⟩) 1 1] (w.alloc (.cells #[.int .i64 3] 3)) fun e w' => ∃ v, e = .returned (.tuple #[v, .int .i64 0]) ∧ In w' v [21, 3] ∧ Below w.heap.size w w' := by
  refine (nat_Mul [7, 1] [3] _ _ _ (h.alloc _) (in_one _ _ 3)).mono ?_
  rintro e w2 ⟨vb, rfl, hsb, hb2⟩
  rw [aw2, aw2'] at hsb
  rw [aw3]
  exact ⟨vb, rfl, hsb.toIn, bstep (below_alloc _ _) hb2⟩
theorem nrm1 : nrm [21, 3] = true := by decide +kernel
theorem nrm2 : nrm [4] = true := by decide +kernel
theorem nrm3 : nrm [12] = true := by decide +kernel
theorem nrm4 : nrm [18] = true := by decide +kernel
theorem aw_DivMod (w : World) (va : Value) (h : In w va [21, 3]) : Calls Tryd.prog 68 #[va, .slice (some ⟨w.heap.size, 0, none⟩) 1 1] (w.alloc (.cells #[.int .i64 4] 3)) fun e w' => ∃ vq vr, e = .returned (.tuple #[vq, vr, .int .i64 0]) ∧ In w' vq [750000005] ∧ In w' vr [1] ∧ Below w.heap.size w w' := by
  refine (DivMod_of [21, 3] [4] _ _ _ (h.alloc _) (in_one _ _ 4) (fun _ _ _ => divide_short [21, 3] [4] _ _ _ (h.alloc _) (in_one _ _ 4) nrm1 nrm2 (by simp) (by simp))).mono ?_
  rintro e w3 ⟨vq, vr, rfl, hq, hr, hb3⟩
  rw [aw4, aw4'] at hq
  rw [aw5, aw5'] at hr
  rw [aw6]
  exact ⟨vq, vr, rfl, hq.toIn, hr.toIn, bstep (below_alloc _ _) hb3⟩
theorem aw_Gcd (w : World) : Calls Tryd.prog 51 #[.slice (some ⟨w.heap.size, 0, none⟩) 1 1, .slice (some ⟨w.heap.size + 1, 0, none⟩) 1 1] ((w.alloc (.cells #[.int .i64 12] 3)).alloc (.cells #[.int .i64 18] 3)) fun e w' => ∃ v, e = .returned (.tuple #[v, .int .i64 0]) ∧ In w' v [6] ∧ Below w.heap.size w w' := by
  have hi1 := (in_one w 3 12).alloc (.cells #[.int .i64 18] 3)
  have hi2 := in_one (w.alloc (.cells #[.int .i64 12] 3)) 3 18
  have hs : (w.alloc (.cells #[.int .i64 12] 3)).heap.size = w.heap.size + 1 := by simp
  rw [hs] at hi2
  refine (Gcd_of [12] [18] _ _ _ hi1 hi2 (fun _ _ => gcd_short [12] [18] _ _ _ hi1 hi2 nrm3 nrm4 (by simp) (by simp) (fun _ => divide_short [12] [18] _ _ _ hi1 hi2 nrm3 nrm4 (by simp) (by simp)))).mono ?_
  rintro e w4 ⟨vg, rfl, hg, hb4⟩
  rw [aw7, aw7'] at hg
  rw [aw8]
  exact ⟨vg, rfl, hg.toIn, bstep (balloc (below_alloc _ _) _) hb4⟩
theorem aw_Text (w : World) (va : Value) (h : In w va [21, 3]) (ht : Tab w) : Calls Tryd.prog 47 #[va] w fun e w' => e = .returned (.tuple #[.string ⟨#[51, 48, 48, 48, 48, 48, 48, 48, 50, 49]⟩, .int .i64 0]) ∧ Below w.heap.size w w' := by
  refine (nat_Text [21, 3] _ _ h ht).mono ?_
  rintro e w5 ⟨rfl, hb5⟩
  rw [aw9, aw10]
  exact ⟨rfl, hb5⟩
end Go.Proofs.YthkhaipbdphpeaaDoor
/- The walk of NatCompares; contracts of the reference's compare and Cmp. -/
namespace Go.Proofs.YthkhaipbdphpeaaDoor
open Go.ChangeShapes Go.WideShapes Go.RowKit
set_option linter.unusedVariables false
set_option maxRecDepth 100000

set_option maxHeartbeats 1600000 in
theorem ref_compare (xs ys : List Int) (A B : Option Addr) (c d : Nat) (lo hi lo' hi' : Nat) (w : World) (hS : Holds w lo hi A xs) (hT : Holds w lo' hi' B ys) (hh : hi ≤ w.heap.size) (hh' : hi' ≤ w.heap.size)
    (hx : nrm xs = true) (hy : nrm ys = true) (hm : xs.length ≤ 1000000) (hm2 : ys.length ≤ 1000000) :
    Calls Tryd.prog 88 #[.slice A xs.length c, .slice B ys.length d] w fun e w' => e = .returned (.int .i64 (cmpI (nval xs) (nval ys))) ∧ Below w.heap.size w w' := by
  have HS := Lib.hid hS
  have HT := Lib.hid hT
  have HX := Lib.hid hx
  have HY := Lib.hid hy
  clear hS hT hx hy
  by_cases hl : xs.length = ys.length
  · go_enter Tryd.func88, Tryd.ntmps88
    rw [← hl]
    have HL := Lib.hid hl
    clear hl hm2
    go_wp2_with fail
    go_loopw [5] (fun i wr => ∃ k : Nat, k ≤ xs.length ∧ i = .int .i64 ((xs.length : Int) - 1 - k) ∧ xs.drop (xs.length - k) = ys.drop (xs.length - k) ∧ Below w.heap.size w wr) (fun i _ => (intOf i + 1).toNat)
    case atStart => exact ⟨0, Nat.zero_le _, by simp, by rw [Nat.sub_zero, List.drop_length, HL.out, List.drop_length], Below.refl _ _⟩
    case round =>
      obtain ⟨k, hk, rfl, hz, hbel⟩ := hrel
      have HK := Lib.hid hz
      have HB := Lib.hid hbel
      clear hz hbel
      rcases Nat.lt_or_ge k xs.length with hlt | hge
      · obtain ⟨j, hj⟩ : ∃ j, j = xs.length - 1 - k := ⟨_, rfl⟩
        obtain ⟨z, hz⟩ : ∃ z, xs[j]? = some z := ⟨_, List.getElem?_eq_getElem (by omega)⟩
        obtain ⟨y, hy⟩ : ∃ y, ys[j]? = some y := ⟨_, List.getElem?_eq_getElem (by have := HL.out; omega)⟩
        obtain ⟨b, off, rfl, _, _, hcell⟩ := (HS.out.below HB.out hh) j z hz
        obtain ⟨b2, off2, rfl, _, _, hcell2⟩ := (HT.out.below HB.out hh') j y hy
        have e1 : (xs.length : Int) - 1 - k = (j : Int) := by omega
        have hjl : j < xs.length := by omega
        have hd : xs.drop (j + 1) = ys.drop (j + 1) := by have := HK.out; have e : xs.length - k = j + 1 := by omega
                                                          rwa [e] at this
        have HZ := Lib.hid hz
        have HYY := Lib.hid hy
        have HJ := Lib.hid hj
        have HD := Lib.hid hd
        clear hz hy hj hd
        rw [e1]
        have E1 := Lib.hid e1
        clear e1
        rcases Int.lt_or_le z y with h1 | h1
        · have hv : cmpI (nval xs) (nval ys) = -1 := cmpI_lt (nval_lt_at (nrm_lok HX.out) (nrm_lok HY.out) HZ.out HYY.out HD.out h1)
          have HV := Lib.hid hv
          clear hv
          go_wp2_with fail
          go_quiet (fail)
          go_wp2_with fail
          go_ret
          exact ⟨ret_int HV.out.symm, below_drewN HB.out _⟩
        · have h1' : decide (z < y) = false := decide_eq_false (by omega)
          rcases Int.lt_or_le y z with h2 | h2
          · have hv : cmpI (nval xs) (nval ys) = 1 := cmpI_gt (nval_lt_at (nrm_lok HY.out) (nrm_lok HX.out) HYY.out HZ.out HD.out.symm h2)
            have HV := Lib.hid hv
            clear hv
            go_wp2_with fail
            go_quiet (fail)
            go_wp2_with fail
            go_quiet (fail)
            go_wp2_with fail
            go_ret
            exact ⟨ret_int HV.out.symm, below_drewN (below_drewN HB.out _) _⟩
          · have h2' : decide (y < z) = false := decide_eq_false (by omega)
            obtain rfl : z = y := by omega
            go_wp2_with fail
            go_quiet (fail)
            go_wp2_with fail
            go_quiet (fail)
            go_wp2_with fail
            go_roundw
            case rel =>
              refine ⟨k + 1, by omega, ?_, ?_, below_drewN HB.out _⟩
              · have := E1.out; go_num
              · have e2 : xs.length - (k + 1) = j := by have := HJ.out; omega
                rw [e2, drop_step HZ.out, drop_step HYY.out, HD.out]
            case measure => simp [intOf] <;> omega
      · obtain rfl : k = xs.length := by omega
        have he : xs = ys := by have := HK.out; simpa using this
        have HE := Lib.hid he
        have e0 : (xs.length : Int) - 1 - xs.length = -1 := by omega
        clear he
        rw [e0]
        go_wp2_with fail
        go_ret
        refine ⟨ret_int ?_, HB.out⟩
        rw [← HE.out, cmpI_eq]
  · have hne : ((xs.length : Int) != (ys.length : Int)) = true := by simp; omega
    go_enter Tryd.func88, Tryd.ntmps88
    rcases Nat.lt_or_ge xs.length ys.length with h1 | h1
    · have hv := cmpI_lt (nrm_len HX.out HY.out h1)
      have h1' : (xs.length : Int) < (ys.length : Int) := by omega
      have HV := Lib.hid hv
      clear hv hl
      go_wp2_with fail
      go_ret
      exact ⟨ret_int HV.out.symm, Below.refl _ _⟩
    · have hv := cmpI_gt (nrm_len HY.out HX.out (by omega))
      have h1' : decide ((xs.length : Int) < (ys.length : Int)) = false := decide_eq_false (by omega)
      have HV := Lib.hid hv
      clear hv hl
      go_wp2_with fail
      go_ret
      exact ⟨ret_int HV.out.symm, Below.refl _ _⟩

set_option maxHeartbeats 800000 in
theorem ref_Cmp (xs ys : List Int) (va vb : Value) (w : World) (ha : In w va xs) (hb : In w vb ys) :
    Calls Tryd.prog 66 #[va, vb] w fun e w' => e = .returned (.tuple #[.int .i64 (cmpV xs ys), .int .i64 (formE xs ys)]) ∧ Below w.heap.size w w' := by
  obtain ⟨A, c, rfl, hc, hm, hA⟩ := ha
  obtain ⟨B, d, rfl, hd, hn, hB⟩ := hb
  have HA := Lib.hid hA
  have HB := Lib.hid hB
  have hm1 : xs.length ≤ 9223372036854775807 := Nat.le_trans hc hm
  have hm2 : ys.length ≤ 9223372036854775807 := Nat.le_trans hd hn
  clear hA hB hm hn
  rcases both_cases xs ys with ⟨hx, hbo⟩ | ⟨hx, hy, hbo⟩ | ⟨hx, hy, hbo⟩
  · have HBO := Lib.hid hbo
    clear hbo
    go_enter Tryd.func66, Tryd.ntmps66
    go_wp2_with fail
    refine (ref_Valid xs A c _ _ w HA.out hm1).mono ?_
    rintro e w' ⟨rfl, rfl⟩
    go_wp2_with fail
    go_ret2
    exact ⟨ret_two (by rw [cmpV, HBO.out]; rfl) (by rw [formE, HBO.out]; rfl), Below.refl _ _⟩
  · have HBO := Lib.hid hbo
    clear hbo
    go_enter Tryd.func66, Tryd.ntmps66
    go_wp2_with fail
    refine (ref_Valid xs A c _ _ w HA.out hm1).mono ?_
    rintro e w' ⟨rfl, rfl⟩
    go_wp2_with fail
    refine (ref_Valid ys B d _ _ _ HB.out hm2).mono ?_
    rintro e w' ⟨rfl, rfl⟩
    go_wp2_with fail
    go_ret2
    exact ⟨ret_two (by rw [cmpV, HBO.out]; rfl) (by rw [formE, HBO.out]; rfl), Below.refl _ _⟩
  · have HBO := Lib.hid hbo
    have l1 := valid_len hx
    have l2 := valid_len hy
    clear hbo
    go_enter Tryd.func66, Tryd.ntmps66
    go_wp2_with fail
    refine (ref_Valid xs A c _ _ w HA.out hm1).mono ?_
    rintro e w' ⟨rfl, rfl⟩
    go_wp2_with fail
    refine (ref_Valid ys B d _ _ _ HB.out hm2).mono ?_
    rintro e w' ⟨rfl, rfl⟩
    go_wp2_with fail
    refine (ref_compare xs ys A B c d _ _ _ _ _ HA.out HB.out (Nat.le_refl _) (Nat.le_refl _) (valid_nrm hx) (valid_nrm hy) (by omega) (by omega)).mono ?_
    rintro e w' ⟨rfl, hbel⟩
    go_wp2_with fail
    go_ret2
    exact ⟨ret_two (by rw [cmpV, HBO.out]; rfl) (by rw [formE, HBO.out]; rfl), hbel⟩

end Go.Proofs.YthkhaipbdphpeaaDoor
/- The walk of NatTexts. -/
namespace Go.Proofs.YthkhaipbdphpeaaDoor
open Go.ChangeShapes Go.WideShapes Go.RowKit
set_option linter.unusedVariables false
set_option maxRecDepth 100000

theorem dgt {d : Nat} (h : d < 10) : (UInt8.ofNat (48 + d)).toNat = 48 + d := by
  show (48 + d) % 256 = 48 + d
  omega
theorem rev_ind {P : List UInt8 → Prop} (h0 : P []) (h1 : ∀ l a, P l → P (l ++ [a])) (L : List UInt8) : P L := by
  have h : ∀ l : List UInt8, P l.reverse := by
    intro l
    induction l with
    | nil => exact h0
    | cons a l ih => rw [List.reverse_cons]; exact h1 _ _ ih
  have := h L.reverse
  rwa [List.reverse_reverse] at this
theorem dval_dec (n : Nat) : dval (Lib.decDigits n) = n := by
  induction n using Nat.strongRecOn with
  | ind n ih =>
    rw [Lib.decDigits]
    split
    · rename_i h
      have := dgt h
      show 0 * 10 + ((UInt8.ofNat (48 + n)).toNat - 48) = n
      omega
    · rename_i h
      have := dgt (d := n % 10) (by omega)
      rw [dval_snoc, ih _ (by omega), this]; omega
theorem dec_all (n : Nat) : (Lib.decDigits n).all isD = true := by
  induction n using Nat.strongRecOn with
  | ind n ih =>
    rw [Lib.decDigits]
    split
    · rename_i h
      have := dgt h
      rw [List.all_cons, isD_yes (by omega) (by omega)]; rfl
    · rename_i h
      have := dgt (d := n % 10) (by omega)
      rw [List.all_append, ih _ (by omega), List.all_cons, isD_yes (by omega) (by omega)]; rfl
theorem dec_ne (n : Nat) : Lib.decDigits n ≠ [] := by
  rw [Lib.decDigits]; split <;> simp
theorem dec_head {n : Nat} (h : 0 < n) : (Lib.decDigits n).headD 0 ≠ 48 := by
  induction n using Nat.strongRecOn with
  | ind n ih =>
    rw [Lib.decDigits]
    split
    · rename_i h10
      intro h2
      have h3 : (UInt8.ofNat (48 + n)).toNat = 48 := congrArg UInt8.toNat h2
      rw [dgt h10] at h3; omega
    · rename_i h10
      have h1 := ih (n / 10) (by omega) (by omega)
      cases hd : Lib.decDigits (n / 10) with
      | nil => exact absurd hd (dec_ne _)
      | cons a l => rw [hd] at h1; simpa using h1
theorem dec_ok (n : Nat) : decOk (Lib.decDigits n) = true := by
  unfold decOk
  rw [dec_all]
  rcases Nat.eq_zero_or_pos n with rfl | h
  · have : Lib.decDigits 0 = [48] := by rw [Lib.decDigits_one (by decide)]; rfl
    rw [this]; rfl
  · have h1 := dec_head h
    have h2 := dec_ne n
    have h3 : (Lib.decDigits n).isEmpty = false := by cases hd : Lib.decDigits n with
      | nil => exact absurd hd h2
      | cons a l => rfl
    rw [h3]
    have h4 : ((Lib.decDigits n).headD 0 != 48) = true := by simpa using h1
    rw [h4]; simp
theorem dec_len {k : Nat} : ∀ {n : Nat}, n < 10 ^ (k + 1) → (Lib.decDigits n).length ≤ k + 1 := by
  induction k with
  | zero => intro n h; rw [Lib.decDigits_one (by simpa using h)]; simp
  | succ k ih =>
    intro n h
    rw [Lib.decDigits]
    split
    · simp
    · rw [List.length_append]
      have := ih (n := n / 10) (by rw [Nat.pow_succ] at h; omega)
      simp; omega
theorem dval_lt (L : List UInt8) (h : L.all isD = true) : dval L < 10 ^ L.length := by
  revert h
  refine rev_ind (P := fun L => L.all isD = true → dval L < 10 ^ L.length) (by intro _; simp [dval]) ?_ L
  · intro L b ih h
    rw [List.all_append, Bool.and_eq_true] at h
    have i := ih h.1
    have hb : isD b = true := by simpa using h.2
    have := isD_iff hb
    rw [dval_snoc, List.length_append, List.length_singleton, Nat.pow_succ]; omega
theorem dval_pos {L : List UInt8} (h : L.all isD = true) (h1 : L ≠ []) (h2 : L.headD 0 ≠ 48) : 0 < dval L := by
  revert h h1 h2
  refine rev_ind (P := fun L => L.all isD = true → L ≠ [] → L.headD 0 ≠ 48 → 0 < dval L) (by intro _ h1; exact absurd rfl h1) ?_ L
  · intro L b ih h h1 h2
    rw [List.all_append, Bool.and_eq_true] at h
    have hb : isD b = true := by simpa using h.2
    have hbb := isD_iff hb
    rw [dval_snoc]
    cases L with
    | nil =>
      have : b.toNat ≠ 48 := by
        intro h3; apply h2; apply UInt8.toNat_inj.mp; simpa using h3
      simp [dval]; omega
    | cons a l =>
      have := ih h.1 (by simp) (by simpa using h2)
      omega
theorem dec_dval {L : List UInt8} (h : L.all isD = true) (h1 : L ≠ []) (h2 : L = [48] ∨ L.headD 0 ≠ 48) : Lib.decDigits (dval L) = L := by
  revert h h1 h2
  refine rev_ind (P := fun L => L.all isD = true → L ≠ [] → (L = [48] ∨ L.headD 0 ≠ 48) → Lib.decDigits (dval L) = L) (by intro _ h1; exact absurd rfl h1) ?_ L
  · intro L b ih h h1 h2
    rw [List.all_append, Bool.and_eq_true] at h
    have hb : isD b = true := by simpa using h.2
    have hbb := isD_iff hb
    have eb : UInt8.ofNat (48 + (b.toNat - 48)) = b := by
      apply UInt8.toNat_inj.mp; rw [dgt (by omega)]; omega
    rw [dval_snoc]
    cases L with
    | nil =>
      have e0 : dval [] = 0 := rfl
      rw [e0, Nat.zero_mul, Nat.zero_add, Lib.decDigits_one (by omega), eb]; rfl
    | cons a l =>
      have hh : (a :: l).headD 0 ≠ 48 := by
        rcases h2 with h3 | h3
        · simp at h3
        · simpa using h3
      have hp := dval_pos h.1 (by simp) hh
      rw [Lib.decDigits, dif_neg (by omega)]
      have e1 : (dval (a :: l) * 10 + (b.toNat - 48)) / 10 = dval (a :: l) := by omega
      have e2 : (dval (a :: l) * 10 + (b.toNat - 48)) % 10 = b.toNat - 48 := by omega
      rw [e1, e2, eb, ih h.1 (by simp) (Or.inr hh)]
theorem dec_dval_ok {L : List UInt8} (h : decOk L = true) : Lib.decDigits (dval L) = L := by
  simp only [decOk, Bool.and_eq_true, Bool.or_eq_true] at h
  obtain ⟨h1, h2⟩ := h
  rcases h2 with h2 | h2
  · have e : L = [48] := of_decide_eq_true h2
    exact dec_dval h1 (by rw [e]; simp) (Or.inl e)
  · refine dec_dval h1 ?_ (Or.inr (by simpa using h2.2))
    intro h3; rw [h3] at h2; simp at h2
theorem pow9 (k : Nat) : (1000000000 : Nat) ^ k = 10 ^ (9 * k) := by rw [Nat.pow_mul]
theorem lt_pow9 {n a k : Nat} (h : n < 10 ^ a) (h2 : a ≤ 9 * k) : n < 1000000000 ^ k := by rw [pow9]; exact Nat.lt_of_lt_of_le h (Nat.pow_le_pow_right (by decide) h2)
/-- What Text returns is parsed as the number. -/
theorem parse_text {xs : List Int} (h : validB xs = true) : parN (textV xs).data.toList = (nval xs).toNat ∧ parE (textV xs).data.toList = 0 ∧ limbs (nval xs).toNat = xs := by
  have ht : (textV xs).data.toList = Lib.decDigits (nval xs).toNat := by rw [textV, h]; rfl
  have hl := nrm_limbs (valid_nrm h)
  have hlt : (nval xs).toNat < 1000000000 ^ 48 := limbs_len_le.mp (by rw [← hl]; exact valid_len h)
  rw [pow9, show 9 * 48 = 431 + 1 from rfl] at hlt
  have hlen : (Lib.decDigits (nval xs).toNat).length ≤ 432 := dec_len (k := 431) hlt
  rw [ht, parN, parE, dec_ok, if_pos rfl, if_pos rfl, if_pos hlen, if_pos hlen, dval_dec]
  exact ⟨rfl, rfl, hl.symm⟩
/-- What is parsed is valid, and has this text. -/
theorem text_parse {L : List UInt8} (h : parE L = 0) : validB (limbs (parN L)) = true ∧ (textV (limbs (parN L))).data.toList = L := by
  unfold parE at h
  have h1 : decOk L = true := by
    cases hd : decOk L with
    | true => rfl
    | false => rw [hd] at h; simp at h
  rw [h1, if_pos rfl] at h
  have h2 : L.length ≤ 432 := by
    rcases Nat.lt_or_ge 432 L.length with h3 | h3
    · rw [if_neg (by omega)] at h; simp at h
    · exact h3
  have hN : parN L = dval L := by rw [parN, h1, if_pos rfl, if_pos h2]
  have hall : L.all isD = true := by simp only [decOk, Bool.and_eq_true] at h1; exact h1.1
  have hlt := dval_lt L hall
  have hv : validB (limbs (dval L)) = true := validB_iff.mpr ⟨limbs_len_le.mpr (lt_pow9 hlt (by omega)), nrm_of_limbs _⟩
  rw [hN]
  refine ⟨hv, ?_⟩
  rw [textV, hv]
  show (decS (nval (limbs (dval L))).toNat).data.toList = L
  rw [nval_limbs, Int.toNat_natCast]
  show (Lib.decDigits (dval L)).toArray.toList = L
  rw [List.toList_toArray, dec_dval_ok h1]
theorem parN_err {L : List UInt8} (h : parE L ≠ 0) : parN L = 0 := by
  unfold parE at h
  unfold parN
  split at h
  · split at h
    · exact absurd rfl h
    · rename_i h1 h2; rw [if_pos h1, if_neg h2]
  · rename_i h1; rw [if_neg h1]

theorem call_text (xs : List Int) (va : Value) (w : World) (ha : In w va xs) (hv : validB xs = true) (ht : Tab w) :
    Calls Tryd.prog 47 #[va] w fun e w' => e = .returned (.tuple #[.string (textV xs), .int .i64 0]) ∧ Below w.heap.size w w' := by
  refine (nat_Text xs va w ha ht).mono ?_
  rintro e w' ⟨rfl, hb⟩
  exact ⟨by rw [oneE, hv]; rfl, hb⟩
theorem text_size {xs : List Int} (hv : validB xs = true) : (textV xs).size ≤ 9223372036854775807 := by
  have h := parse_text hv
  have ht : (textV xs).data.toList = Lib.decDigits (nval xs).toNat := by rw [textV, hv]; rfl
  have hl := nrm_limbs (valid_nrm hv)
  have hlt : (nval xs).toNat < 1000000000 ^ 48 := limbs_len_le.mp (by rw [← hl]; exact valid_len hv)
  rw [pow9, show 9 * 48 = 431 + 1 from rfl] at hlt
  have hlen := dec_len (k := 431) hlt
  rw [← ht, str_len] at hlen
  omega
theorem valid_in (xs : List Int) (va : Value) (w : World) (ha : In w va xs) : Calls Tryd.prog 74 #[va] w fun e w' => e = .returned (.bool (validB xs)) ∧ w = w' := by
  obtain ⟨A, c, rfl, hc, hm, hA⟩ := ha
  exact nat_Valid xs A c _ _ w hA (Nat.le_trans hc hm)

end Go.Proofs.YthkhaipbdphpeaaDoor
/- Appending a slice that is there; contracts of nat.Int, and of Of, Int, fit of the reference. -/
namespace Go.Proofs.YthkhaipbdphpeaaDoor
open Go.ChangeShapes Go.WideShapes Go.RowKit
set_option linter.unusedVariables false
set_option maxRecDepth 100000

theorem run_append_empty {P : Program} {w : World} (base : Nat) (t ty e : TypeId) (i : TypeInfo) (size c : Nat) (ht : P.underlying t = some (.slice e)) (hi : P.info? e = some i)
    (v : Value) (n : Nat) (xs : List Value) (hown : w.ownsRow base e size v n xs) :
    (Builtin.append_ #[t, t] ty #[v, .slice none 0 c]).run P w = .ok v w := by
  rcases hown.2 with ⟨rfl, rfl⟩ | ⟨g, cap, cur, rfl, _, _, hnc, _⟩
  · simp [Builtin.append_, run_underlying ht, sizeOf, typeInfo, hi, Builtin.lenOf, Builtin.firstCells]
  · simp [Builtin.append_, run_underlying ht, sizeOf, typeInfo, hi, Builtin.lenOf, Builtin.firstCells, hnc, storeCells]
theorem wpList_append_empty {P : Program} {w : World} {ops : Array Oper} {rest : List Oper} {o : Oper} {a : Act} {Q : Exit → Act → World → Prop} (hgd : o.guard = none) (s x : Operand) (t : TypeId)
    (ho : o.op = .call { callee := .builtin .append, args := #[s, x], argTypes := #[t, t] })
    (base : Nat) (e : TypeId) (i : TypeInfo) (size c : Nat) (ht : P.underlying t = some (.slice e)) (hi : P.info? e = some i)
    (v : Value) (n : Nat) (xs : List Value) (hs : a.eval s = v) (hown : w.ownsRow base e size v n xs) (hx : a.eval x = .slice none 0 c)
    (h : wpList P ops Q rest (a.put o.dst v) w) : wpList P ops Q (o :: rest) a w := by
  refine wpList_plain hgd fun K hK => ?_
  have hrun := run_append_empty (P := P) (w := w) base t o.type e i size c ht hi v n xs hown
  unfold Oper.wp
  simp [execOp, ho, resolve, invoke, builtin, hs, hx, hrun, Result.andThen]
  exact hK _ _ h

/-- 'append(s, x...)', s the call's own, x a slice of integers that is there. -/
theorem append_holds {w : World} {ops : Array Oper} {rest : List Oper} {o : Oper} {a : Act} {Q : Exit → Act → World → Prop} (hgd : o.guard = none) (s x : Operand)
    (ho : o.op = .call { callee := .builtin .append, args := #[s, x], argTypes := #[23, 23] })
    (base : Nat) (v : Value) (ds : List Int) (hs : a.eval s = v) (hown : w.ownsRow base 3 1 v ds.length (ds.map (Value.int .i64)))
    (lo hi : Nat) (A : Option Addr) (c : Nat) (zs : List Int) (m : Nat) (hm : m = zs.length) (hx : a.eval x = .slice A m c) (hz : Holds w lo hi A zs)
    (hlen : ds.length + zs.length ≤ 1000000) (hbase : base ≤ w.heap.size)
    (h : ∀ v' w', w'.ownsRow base 3 1 v' (ds ++ zs).length ((ds ++ zs).map (Value.int .i64)) → w.grownBy w' v.ownBlock → wpList Tryd.prog ops Q rest (a.put o.dst v') w') : wpList Tryd.prog ops Q (o :: rest) a w := by
  subst hm
  obtain ⟨i0, hi0, hz0, hz1, hz2⟩ := info_parts info_int
  cases A with
  | none =>
    have hnil : zs = [] := by
      cases zs with
      | nil => rfl
      | cons z zs => obtain ⟨b, off, hA, _⟩ := hz 0 z rfl; cases hA
    subst hnil
    refine wpList_append_empty hgd s x _ ho base 3 i0 1 c Tryd.underlying23 hi0 v ds.length _ hs hown hx (h v w (by simpa using hown) ⟨rfl, rfl, rfl, Nat.le_refl _, fun _ _ _ => rfl⟩)
  | some ad =>
    refine wpList_append_own w hgd s x _ ho base 3 i0 (.int .i64 0) 1 8 Tryd.underlying23 hi0 hz0 hz1 hz2 rfl (by decide) v ds.length _ hs hown ad zs.length c (zs.map (Value.int .i64)) hx (by simp) ?_ cells_ints (by unfold maxLen; omega) (by omega) hbase ?_
    · intro j u hj
      rw [List.getElem?_map] at hj
      cases hzj : zs[j]? with
      | none => rw [hzj] at hj; cases hj
      | some z =>
        obtain ⟨ad', he, hc⟩ := holds_cells hz (by rw [List.length_map]; exact Nat.lt_of_le_of_lt (Nat.zero_le j) (by rcases Nat.lt_or_ge j zs.length with h1 | h1; exact h1; rw [List.getElem?_eq_none h1] at hzj; cases hzj))
        cases he
        exact hc j u (by rw [List.getElem?_map]; exact hj)
    · intro v' w' hown' hg _
      exact h v' w' (by rw [List.length_append, List.map_append]; exact hown') hg

theorem own_empty (w : World) : (w.alloc (.cells #[] 3)).ownsRow w.heap.size 3 1 (.slice (some ⟨w.heap.size, 0, none⟩) 0 0) ([] : List Int).length (([] : List Int).map (Value.int .i64)) :=
  World.ownsRow_lit (base := w.heap.size) (e := 3) (size := 1) w #[] 0 (Nat.le_refl _) (by unfold maxLen; omega) rfl

def intV (xs : List Int) : Int := if validB xs then (if nval xs ≤ 1125899906842624 then nval xs else 0) else 0
def intE (xs : List Int) : Int := if validB xs then (if nval xs ≤ 1125899906842624 then 0 else 2) else 3
theorem long_big {xs : List Int} (hn : nrm xs = true) (h : 2 < xs.length) : 1000000000000000000 ≤ nval xs := by
  have hl := nrm_limbs hn
  have h0 := nval_nonneg (nrm_lok hn)
  have h1 : ¬ (limbs (nval xs).toNat).length ≤ 2 := by rw [← hl]; omega
  rw [limbs_len_le] at h1
  omega

set_option maxHeartbeats 1600000 in
theorem nat_Int (xs : List Int) (va : Value) (w : World) (ha : In w va xs) :
    Calls Tryd.prog 69 #[va] w fun e w' => e = .returned (.tuple #[.int .i64 (intV xs), .int .i64 (intE xs)]) ∧ w = w' := by
  obtain ⟨A, c, rfl, hc, hm, hA⟩ := ha
  have HA := Lib.hid hA
  have hm1 : xs.length ≤ 9223372036854775807 := Nat.le_trans hc hm
  clear hA hm
  cases hx : validB xs with
  | false =>
    have HV := Lib.hid (show intV xs = 0 by rw [intV, hx]; rfl)
    have HE := Lib.hid (show intE xs = 3 by rw [intE, hx]; rfl)
    go_enter Tryd.func69, Tryd.ntmps69
    go_wp2_with fail
    refine (nat_Valid xs A c _ _ w HA.out hm1).mono ?_
    rintro e w' ⟨rfl, rfl⟩
    go_wp2_with fail
    go_ret2
    exact ⟨ret_two HV.out.symm HE.out.symm, rfl⟩
  | true =>
    have hn := valid_nrm hx
    rcases Nat.lt_or_ge 2 xs.length with hl | hl
    · have hb := long_big hn hl
      have HV := Lib.hid (show intV xs = 0 by rw [intV, hx, if_pos rfl, if_neg (by omega)])
      have HE := Lib.hid (show intE xs = 2 by rw [intE, hx, if_pos rfl, if_neg (by omega)])
      have hl' : (2 : Int) < (xs.length : Int) := by omega
      clear hb hn
      go_enter Tryd.func69, Tryd.ntmps69
      go_wp2_with fail
      refine (nat_Valid xs A c _ _ w HA.out hm1).mono ?_
      rintro e w' ⟨rfl, rfl⟩
      go_wp2_with fail
      go_ret2
      exact ⟨ret_two HV.out.symm HE.out.symm, rfl⟩
    · have hl' : decide ((2 : Int) < (xs.length : Int)) = false := decide_eq_false (by omega)
      have hw := nat_word xs A c _ _ w HA.out (nrm_lok hn) hl
      rcases Int.lt_or_le 1125899906842624 (nval xs) with hb | hb
      · have HV := Lib.hid (show intV xs = 0 by rw [intV, hx, if_pos rfl, if_neg (by omega)])
        have HE := Lib.hid (show intE xs = 2 by rw [intE, hx, if_pos rfl, if_neg (by omega)])
        have HW := Lib.hid hw
        clear hw hn
        go_enter Tryd.func69, Tryd.ntmps69
        go_wp2_with fail
        refine (nat_Valid xs A c _ _ w HA.out hm1).mono ?_
        rintro e w' ⟨rfl, rfl⟩
        go_wp2_with fail
        refine HW.out.mono ?_
        rintro e w' ⟨rfl, rfl⟩
        go_wp2_with fail
        go_ret2
        exact ⟨ret_two HV.out.symm HE.out.symm, rfl⟩
      · have hb' : decide (1125899906842624 < nval xs) = false := decide_eq_false (by omega)
        have HV := Lib.hid (show intV xs = nval xs by rw [intV, hx, if_pos rfl, if_pos hb])
        have HE := Lib.hid (show intE xs = 0 by rw [intE, hx, if_pos rfl, if_pos hb])
        have HW := Lib.hid hw
        clear hw hn hb
        go_enter Tryd.func69, Tryd.ntmps69
        go_wp2_with fail
        refine (nat_Valid xs A c _ _ w HA.out hm1).mono ?_
        rintro e w' ⟨rfl, rfl⟩
        go_wp2_with fail
        refine HW.out.mono ?_
        rintro e w' ⟨rfl, rfl⟩
        go_wp2_with fail
        refine HW.out.mono ?_
        rintro e w' ⟨rfl, rfl⟩
        go_wp2_with fail
        go_ret2
        exact ⟨ret_two HV.out.symm HE.out.symm, rfl⟩
end Go.Proofs.YthkhaipbdphpeaaDoor
/- Contracts of at, fit, Add, minus, Sub of the reference. -/
namespace Go.Proofs.YthkhaipbdphpeaaDoor
open Go.ChangeShapes Go.WideShapes Go.RowKit
set_option linter.unusedVariables false
set_option maxRecDepth 100000

theorem ref_at (zs : List Int) (A : Option Addr) (c i : Nat) (lo hi : Nat) (w : World) (hS : Holds w lo hi A zs) (hi : i ≤ 9223372036854775807) :
    Calls Tryd.prog 91 #[.slice A zs.length c, .int .i64 (i : Int)] w fun e w' => e = .returned (.int .i64 (zs.getD i 0)) ∧ w = w' := by
  rcases Nat.lt_or_ge i zs.length with h | h
  · have hz : zs[i]? = some zs[i] := List.getElem?_eq_getElem h
    obtain ⟨z, hz'⟩ : ∃ z, z = zs[i] := ⟨_, rfl⟩
    rw [← hz'] at hz
    obtain ⟨b, off, rfl, _, _, hcell⟩ := hS i z hz
    have hv : zs.getD i 0 = z := by rw [List.getD_eq_getElem?_getD, hz]; rfl
    have HV := Lib.hid hv
    have h' : (i : Int) < (zs.length : Int) := by omega
    clear hz hz' hS hv
    go_enter Tryd.func91, Tryd.ntmps91
    go_wp2
    go_ret
    exact ⟨ret_int HV.out.symm, rfl⟩
  · have hv : zs.getD i 0 = 0 := by rw [List.getD_eq_getElem?_getD, List.getElem?_eq_none h]; rfl
    have HV := Lib.hid hv
    have h' : decide ((i : Int) < (zs.length : Int)) = false := decide_eq_false (by omega)
    clear hS hv
    go_enter Tryd.func91, Tryd.ntmps91
    go_wp2
    go_ret
    exact ⟨ret_int HV.out.symm, rfl⟩

set_option maxHeartbeats 1600000 in
theorem ref_fit (zs : List Int) (va : Value) (w : World) (ha : In w va zs) (hk : lok zs = true) (hl : zs.length ≤ 100000) :
    Calls Tryd.prog 73 #[va] w (Res w (fitN (nval zs).toNat) (fitE (nval zs).toNat)) := by
  obtain ⟨A, c, rfl, hc, hm, hA⟩ := ha
  have HS := Lib.hid hA
  have hm' : c ≤ 9223372036854775807 := hm
  have hlm : trimL zs = limbs (nval zs).toNat := trimL_limbs hk
  have HLM := Lib.hid hlm
  clear hA hm hlm hk
  go_enter Tryd.func73, Tryd.ntmps73
  go_wp2_with fail
  go_loop [4] (fun v => ∃ k : Nat, k ≤ zs.length ∧ v = .int .i64 k ∧ trimL (zs.take k) = trimL zs) (fun v => (intOf v).toNat)
  case atStart => exact ⟨zs.length, Nat.le_refl _, rfl, by rw [List.take_length]⟩
  case round =>
    obtain ⟨k, hk, rfl, ht⟩ := hrel
    have HT := Lib.hid ht
    clear ht
    -- the loop's end, at k limbs
    have fin : trimL zs = zs.take k → (Hid (48 < k ∧ fitN (nval zs).toNat = 0 ∧ fitE (nval zs).toNat = 2)) ∨ Hid (k ≤ 48 ∧ zs.take k = limbs (fitN (nval zs).toNat) ∧ fitE (nval zs).toNat = 0) := by
      intro he
      have hlen : (limbs (nval zs).toNat).length = k := by rw [← HLM.out, he, List.length_take]; omega
      rcases Nat.lt_or_ge 48 k with h | h
      · left
        have : ¬ (nval zs).toNat < 1000000000 ^ 48 := fun h2 => by have := limbs_len_le.mpr h2; omega
        exact ⟨h, if_neg this, if_neg this⟩
      · right
        have : (nval zs).toNat < 1000000000 ^ 48 := limbs_len_le.mp (by omega)
        exact ⟨h, by rw [fitN, if_pos this, ← HLM.out, he], if_pos this⟩
    have FIN := Lib.hid fin
    have HAL := Lib.hid ((Holds.take HS.out k).below (below_alloc w (.cells #[] 3)) (Nat.le_refl _))
    have HOE := Lib.hid (own_empty w)
    have htl : (zs.take k).length = k := by rw [List.length_take]; omega
    have HTL := Lib.hid htl
    have HLEN := Lib.hid (show ([] : List Int).length + (zs.take k).length ≤ 1000000 by rw [htl]; simp; omega)
    have hkc : (k : Int) ≤ (c : Int) := by omega
    clear fin htl
    rcases Nat.eq_zero_or_pos k with rfl | hp
    · have he := HT.out
      rw [List.take_zero] at he
      rcases FIN.out (by rw [List.take_zero]; exact he.symm) with hf | hf
      · exact absurd hf.out.1 (by omega)
      · clear he
        go_wp2_with (first
          | (at_builtin; refine append_holds rfl (.tmp 21) (.tmp 24) rfl w.heap.size _ [] rfl HOE.out 0 w.heap.size A c (zs.take 0) 0 rfl rfl HAL.out HLEN.out (by simp) ?_; intro v' w5 hown hgrow; refine Hid.out ?_)
          | fail)
        refine Lib.hid ?_
        rw [List.nil_append] at hown
        have hb5 : Below w.heap.size w w5 := (below_alloc _ _).grown hgrow (by simp) (own_block_ge HOE.out)
        have HSL := Lib.hid (sl_of_owns hown)
        have HB5 := Lib.hid hb5
        clear hown hgrow hb5
        go_wp2_with fail
        go_ret2
        exact ⟨v', by rw [hf.out.2.2]; rfl, by rw [← hf.out.2.1]; exact HSL.out, HB5.out⟩
    · obtain ⟨k, rfl⟩ : ∃ j, k = j + 1 := ⟨k - 1, by omega⟩
      obtain ⟨z, hz⟩ : ∃ z, zs[k]? = some z := ⟨_, List.getElem?_eq_getElem (by omega)⟩
      obtain ⟨b, off, rfl, _, _, hcell⟩ := HS.out _ z hz
      have HZ := Lib.hid hz
      clear hz
      have e2 : ((k + 1 : Nat) : Int) - 1 = k := by omega
      by_cases h0 : z = 0
      · subst h0
        go_wp2_with fail
        go_round
        case rel =>
          refine ⟨k, by omega, by go_num, ?_⟩
          rw [← HT.out, trim_step HZ.out, trimL_snoc_zero]
        case measure => simp [intOf] <;> omega
      · have H0 := Lib.hid h0
        have he : trimL zs = zs.take (k + 1) := by rw [← HT.out, trim_step HZ.out, trimL_snoc H0.out]
        rcases FIN.out he with hf | hf
        · have h48 : (48 : Int) < ((k + 1 : Nat) : Int) := by have := hf.out.1; omega
          clear he
          go_wp2_with fail
          go_ret2
          exact Res.none hf.out.2.1 hf.out.2.2 rfl (Below.refl _ _)
        · have h48 : decide ((48 : Int) < (k : Int) + 1) = false := decide_eq_false (by have := hf.out.1; omega)
          clear he
          go_wp2_with (first
            | (at_builtin; refine append_holds rfl (.tmp 21) (.tmp 24) rfl w.heap.size _ [] rfl HOE.out 0 w.heap.size (some ⟨b, off, none⟩) c (zs.take (k + 1)) (k + 1) HTL.out.symm rfl HAL.out HLEN.out (by simp) ?_; intro v' w5 hown hgrow; refine Hid.out ?_)
            | fail)
          refine Lib.hid ?_
          rw [List.nil_append] at hown
          have hb5 : Below w.heap.size w w5 := (below_alloc _ _).grown hgrow (by simp) (own_block_ge HOE.out)
          have HSL := Lib.hid (sl_of_owns hown)
          have HB5 := Lib.hid hb5
          clear hown hgrow hb5
          go_wp2_with fail
          go_ret2
          exact ⟨v', by rw [hf.out.2.2]; rfl, by rw [← hf.out.2.1]; exact HSL.out, HB5.out⟩
end Go.Proofs.YthkhaipbdphpeaaDoor
