/- Contracts of nat.DivMod and nat.Gcd out of those of divide and gcd; of nat.gcd where the second number is short. -/
import Derived.Test.YtmbpcjnlniidkaaDoorNatM
namespace Go.Proofs.YtmbpcjnlniidkaaDoor
open Go.ChangeShapes Go.WideShapes Go.RowKit
set_option linter.unusedVariables false

def divOk (xs ys : List Int) : Bool := both xs ys && !ys.isEmpty
def quoN (xs ys : List Int) : Nat := if divOk xs ys then (nval xs).toNat / (nval ys).toNat else 0
def remN (xs ys : List Int) : Nat := if divOk xs ys then (nval xs).toNat % (nval ys).toNat else 0
def divE (xs ys : List Int) : Int := if both xs ys then (if ys.isEmpty then 16 else 0) else 3
def DmRes (w : World) (xs ys : List Int) (e : Ending) (w' : World) : Prop :=
  ∃ vq vr, e = .returned (.tuple #[vq, vr, .int .i64 (divE xs ys)]) ∧ Sl w' w.heap.size w'.heap.size vq (limbs (quoN xs ys)) ∧ Sl w' w.heap.size w'.heap.size vr (limbs (remN xs ys)) ∧ Below w.heap.size w w'
theorem DmRes.none {w w' : World} {xs ys : List Int} {k : Int} {e : Ending} (hq : divOk xs ys = false) (hk : divE xs ys = k) (h : e = .returned (.tuple #[.slice none 0 0, .slice none 0 0, .int .i64 k])) (hb : Below w.heap.size w w') : DmRes w xs ys e w' := by
  subst hk h
  refine ⟨_, _, rfl, ?_, ?_, hb⟩
  · rw [quoN, hq]; exact (by show Sl _ _ _ _ (limbs 0); rw [limbs_zero]; exact Sl.nil _ _ _)
  · rw [remN, hq]; exact (by show Sl _ _ _ _ (limbs 0); rw [limbs_zero]; exact Sl.nil _ _ _)

set_option maxHeartbeats 1600000 in
theorem DivMod_of (xs ys : List Int) (va vb : Value) (w : World) (ha : In w va xs) (hb : In w vb ys)
    (hdiv : validB xs = true → validB ys = true → 0 < ys.length → Calls Tryd.prog 53 #[va, vb] w (DivRes w xs ys)) :
    Calls Tryd.prog 33 #[va, vb] w (DmRes w xs ys) := by
  obtain ⟨A, c, rfl, hc, hm, hA⟩ := ha
  obtain ⟨B, d, rfl, hd, hn, hB⟩ := hb
  have HA := Lib.hid hA
  have HB := Lib.hid hB
  have HDIV := Lib.hid hdiv
  have hm1 : xs.length ≤ 9223372036854775807 := Nat.le_trans hc hm
  have hm2 : ys.length ≤ 9223372036854775807 := Nat.le_trans hd hn
  clear hA hB hm hn hdiv
  rcases both_cases xs ys with ⟨hx, hbo⟩ | ⟨hx, hy, hbo⟩ | ⟨hx, hy, hbo⟩
  · have HBO := Lib.hid hbo
    clear hbo
    go_enter Tryd.func33, Tryd.ntmps33
    go_wp2_with fail
    refine (nat_Valid xs A c _ _ w HA.out hm1).mono ?_
    rintro e w' ⟨rfl, rfl⟩
    go_wp2_with fail
    go_ret3
    exact DmRes.none (by rw [divOk, HBO.out]; rfl) (by rw [divE, HBO.out]; rfl) rfl (Below.refl _ _)
  · have HBO := Lib.hid hbo
    clear hbo
    go_enter Tryd.func33, Tryd.ntmps33
    go_wp2_with fail
    refine (nat_Valid xs A c _ _ w HA.out hm1).mono ?_
    rintro e w' ⟨rfl, rfl⟩
    go_wp2_with fail
    refine (nat_Valid ys B d _ _ _ HB.out hm2).mono ?_
    rintro e w' ⟨rfl, rfl⟩
    go_wp2_with fail
    go_ret3
    exact DmRes.none (by rw [divOk, HBO.out]; rfl) (by rw [divE, HBO.out]; rfl) rfl (Below.refl _ _)
  · have HBO := Lib.hid hbo
    clear hbo
    rcases Nat.eq_zero_or_pos ys.length with h0 | hp
    · have hn : ys = [] := List.eq_nil_of_length_eq_zero h0
      subst hn
      go_enter Tryd.func33, Tryd.ntmps33
      go_wp2_with fail
      refine (nat_Valid xs A c _ _ w HA.out hm1).mono ?_
      rintro e w' ⟨rfl, rfl⟩
      go_wp2_with fail
      refine (nat_Valid [] B d _ _ _ HB.out hm2).mono ?_
      rintro e w' ⟨rfl, rfl⟩
      go_wp2_with fail
      go_ret3
      exact DmRes.none (by rw [divOk, HBO.out]; rfl) (by rw [divE, HBO.out]; rfl) rfl (Below.refl _ _)
    · have hne : ((ys.length : Int) == 0) = false := beq_false_of_ne (by omega)
      have he : ys.isEmpty = false := by cases ys with
        | nil => simp at hp
        | cons a l => rfl
      have HE := Lib.hid he
      have hcall := HDIV.out hx hy hp
      have HCALL := Lib.hid hcall
      clear he hcall
      go_enter Tryd.func33, Tryd.ntmps33
      go_wp2_with fail
      refine (nat_Valid xs A c _ _ w HA.out hm1).mono ?_
      rintro e w' ⟨rfl, rfl⟩
      go_wp2_with fail
      refine (nat_Valid ys B d _ _ _ HB.out hm2).mono ?_
      rintro e w' ⟨rfl, rfl⟩
      go_wp2_with fail
      refine HCALL.out.mono ?_
      rintro e w' ⟨vq, vr, rfl, hq, hr, hb⟩
      have HQ := Lib.hid hq
      have HR := Lib.hid hr
      have HBL := Lib.hid hb
      clear hq hr hb
      go_wp2_with fail
      go_ret3
      have ho : divOk xs ys = true := by rw [divOk, HBO.out, HE.out]; rfl
      have hk : divE xs ys = 0 := by rw [divE, HBO.out, HE.out]; rfl
      exact ⟨vq, vr, by rw [hk]; rfl, by rw [quoN, ho]; exact HQ.out, by rw [remN, ho]; exact HR.out, HBL.out⟩

/-- What gcd leaves. -/
def GcdRes (w : World) (N : Nat) (e : Ending) (w' : World) : Prop :=
  ∃ v, e = .returned v ∧ Sl w' w.heap.size w'.heap.size v (limbs N) ∧ Below w.heap.size w w'
theorem gcd_step (a b : Nat) : Nat.gcd b (a % b) = Nat.gcd a b := by rw [Nat.gcd_comm b, ← Nat.gcd_rec, Nat.gcd_comm]
theorem gcd_words (a b : Nat) (h : 0 < b) : Nat.gcd b (a % b) = Nat.gcd a b := gcd_step a b

set_option maxHeartbeats 1600000 in
theorem gcd_short (xs ys : List Int) (va vb : Value) (w : World) (ha : In w va xs) (hb : In w vb ys) (hx : nrm xs = true) (hy : nrm ys = true) (hlx : xs.length ≤ 100000) (hl2 : ys.length ≤ 2)
    (hdiv : 0 < ys.length → Calls Tryd.prog 53 #[va, vb] w (DivRes w xs ys)) :
    Calls Tryd.prog 55 #[va, vb] w (GcdRes w (Nat.gcd (nval xs).toNat (nval ys).toNat)) := by
  obtain ⟨A, c, rfl, hc, hm, hA⟩ := ha
  obtain ⟨B, d, rfl, hd, hn, hB⟩ := hb
  have HA := Lib.hid hA
  have HB := Lib.hid hB
  have hl2' : decide ((2 : Int) < (ys.length : Int)) = false := decide_eq_false (by omega)
  have HX := Lib.hid hx
  have HY := Lib.hid hy
  rcases Nat.eq_zero_or_pos ys.length with h0 | hp
  · have hnil : ys = [] := List.eq_nil_of_length_eq_zero h0
    subst hnil
    have HXL := Lib.hid (nrm_limbs hx)
    clear hA hB hm hn hdiv hx hy
    go_enter Tryd.func55, Tryd.ntmps55
    go_wp2_with fail
    refine wp_loop_rounds 1 ?_
    rw [rounds_succ]
    go_wp2_with fail
    refine (nat_copied xs A c xs.length _ _ w HA.out (Nat.le_refl _) (Nat.le_refl _) (by omega)).mono ?_
    rintro e w1 ⟨rfl, hrow, hbel⟩
    rw [padL_self] at hrow
    have HR := Lib.hid hrow
    have HBL := Lib.hid hbel
    clear hrow hbel
    go_wp2_with fail
    go_ret
    refine ⟨_, rfl, ?_, HBL.out⟩
    have e : (nval []).toNat = 0 := rfl
    rw [e, Nat.gcd_zero_right, ← HXL.out]
    exact ⟨_, _, rfl, Nat.le_refl _, by unfold maxLen; omega, HR.out.holds (fun k z hz => by rw [Nat.zero_add]; exact hz) (Nat.le_refl _) HR.out.lt⟩
  · have hne : ((ys.length : Int) == 0) = false := beq_false_of_ne (by omega)
    have HDIV := Lib.hid (hdiv hp)
    have sy := nval_small (nrm_lok hy) hl2
    have py := nval_pos hy hp
    obtain ⟨M, hM⟩ : ∃ M, M = (nval ys).toNat := ⟨_, rfl⟩
    obtain ⟨N, hN⟩ : ∃ N, N = (nval xs).toNat := ⟨_, rfl⟩
    have eM : nval ys = (M : Int) := by omega
    have hM1 : M < 1000000000000000000 := by omega
    have hM0 : 0 < M := by omega
    have hr2 : (limbs (N % M)).length ≤ 2 := limbs_len_le.mpr (by have := Nat.mod_lt N hM0; omega)
    have HM := Lib.hid hM
    have HN := Lib.hid hN
    have EM := Lib.hid eM
    have HR2 := Lib.hid hr2
    clear hA hB hm hn hdiv hx hy sy py hM hN eM hr2
    go_enter Tryd.func55, Tryd.ntmps55
    go_wp2_with fail
    refine wp_loop_rounds 1 ?_
    rw [rounds_succ]
    go_wp2_with fail
    refine HDIV.out.mono ?_
    rintro e w1 ⟨vq, vr, rfl, -, hr, hb⟩
    rw [← HM.out, ← HN.out] at hr
    obtain ⟨A2, c2, rfl, hc2, hm2, hA2⟩ := hr
    have hwb : Calls Tryd.prog 38 #[.slice B ys.length d] w1 fun e w' => e = .returned (.int .i64 M) ∧ w1 = w' := by
      rw [← EM.out]; exact nat_word ys B d _ _ w1 (Holds.below HB.out hb (Nat.le_refl _)) (nrm_lok HY.out) hl2
    have hwr : Calls Tryd.prog 38 #[.slice A2 (limbs (N % M)).length c2] w1 fun e w' => e = .returned (.int .i64 ((N % M : Nat) : Int)) ∧ w1 = w' := by
      have := nat_word (limbs (N % M)) A2 c2 _ _ w1 hA2 (lok_limbs _) HR2.out
      rw [nval_limbs] at this; exact this
    have HWB := Lib.hid hwb
    have HWR := Lib.hid hwr
    have HBL := Lib.hid hb
    clear hwb hwr hb hA2 hm2
    go_wp2_with fail
    refine HWB.out.mono ?_
    rintro e w' ⟨rfl, rfl⟩
    go_wp2_with fail
    refine HWR.out.mono ?_
    rintro e w' ⟨rfl, rfl⟩
    go_wp2_with fail
    go_loopw [7, 8] (fun m n wr => ∃ a b : Nat, m = .int .i64 a ∧ n = .int .i64 b ∧ a < 1000000000000000000 ∧ b < 1000000000000000000 ∧ Nat.gcd a b = Nat.gcd N M ∧ Below w.heap.size w wr) (fun _ n _ => (intOf n).toNat)
    case atStart => exact ⟨M, N % M, rfl, rfl, hM1, by have := Nat.mod_lt N hM0; omega, gcd_step _ _, HBL.out⟩
    case round =>
      obtain ⟨a, b, rfl, rfl, ha1, hb1, hg, hbel⟩ := hrel
      have HG := Lib.hid hg
      have HBL2 := Lib.hid hbel
      clear hg hbel
      rcases Nat.eq_zero_or_pos b with rfl | hb0
      · have hg := HG.out
        rw [Nat.gcd_zero_right] at hg
        have HG2 := Lib.hid hg
        clear hg
        go_wp2_with fail
        refine (nat_ofWord (a : Int) wr (by omega) (by omega)).mono ?_
        rintro e w2 ⟨v, rfl, hsl, hb2⟩
        rw [Int.toNat_natCast, HG2.out] at hsl
        have HSL := Lib.hid hsl
        have HB2 := Lib.hid hb2
        clear hsl hb2
        go_wp2_with fail
        go_ret
        have hs := HBL2.out.size
        refine ⟨_, rfl, ?_, HBL2.out.trans (HB2.out.mono hs)⟩
        rw [← HM.out, ← HN.out]
        exact HSL.out.more hs (Nat.le_refl _)
      · have hb2 : ((b : Int) != 0) = true := by simp; omega
        have hb3 : ¬ (b : Int) = 0 := by omega
        have hb4 : ((b : Int) == 0) = false := beq_false_of_ne hb3
        have hr : (a : Int).tmod (b : Int) = ((a % b : Nat) : Int) := by rw [Int.tmod_eq_emod_of_nonneg (by omega)]; rfl
        have hlt := Nat.mod_lt a hb0
        go_wp2_with fail
        go_quiet (fail)
        go_wp2_with fail
        go_roundw
        case rel => exact ⟨b, a % b, rfl, rfl, hb1, by omega, by rw [gcd_step]; exact HG.out, below_drewN HBL2.out _⟩
        case measure => simp [intOf]; omega
#print axioms DivMod_of
#print axioms gcd_short
end Go.Proofs.YtmbpcjnlniidkaaDoor
