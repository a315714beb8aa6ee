/- Several texts in one: NatM, NatN, NatO, NatP, NatW1, NatW2, NatQ, NatR, NatS, NatT, NatU, NatV. -/
import Derived.Test.YtagjimdplmimoaaGreatPk9
import Derived.Laws.AppendOwnNone
/- Contracts of nat.divide of short numbers, of nat.DivMod, of nat.gcd of short numbers, of nat.Gcd. -/
namespace Go.Proofs.YtagjimdplmimoaaGreat
open Go.ChangeShapes Go.WideShapes Go.RowKit
set_option linter.unusedVariables false
set_option maxRecDepth 100000

/-- What divide leaves: the limbs of the quotient and of the remainder. -/
def DivRes (w : World) (xs ys : List Int) (e : Ending) (w' : World) : Prop :=
  ∃ vq vr, e = .returned (.tuple #[vq, vr]) ∧ Sl w' w.heap.size w'.heap.size vq (limbs ((nval xs).toNat / (nval ys).toNat)) ∧ Sl w' w.heap.size w'.heap.size vr (limbs ((nval xs).toNat % (nval ys).toNat)) ∧ Below w.heap.size w w'
theorem nval_pos {ys : List Int} (hn : nrm ys = true) (hne : 0 < ys.length) : 0 < nval ys := by
  have := nval_pos_last hn (k := 0) hne
  rwa [List.drop_zero] at this
theorem padL_self (xs : List Int) : padL xs xs.length = xs := by simp [padL]

set_option maxHeartbeats 1600000 in
theorem divide_less (xs ys : List Int) (va vb : Value) (w : World) (ha : In w va xs) (hb : In w vb ys) (hx : nrm xs = true) (hy : nrm ys = true) (hlx : xs.length ≤ 100000) (hl : xs.length < ys.length) :
    Calls Tryz.prog 92 #[va, vb] w (DivRes w xs ys) := by
  obtain ⟨A, c, rfl, hc, hm, hA⟩ := ha
  obtain ⟨B, d, rfl, hd, hn, hB⟩ := hb
  have HA := Lib.hid hA
  have hlt := nrm_len hx hy hl
  have h0 := nval_nonneg (nrm_lok hx)
  have hxl := nrm_limbs hx
  have e1 : (nval xs).toNat / (nval ys).toNat = 0 := Nat.div_eq_of_lt (by omega)
  have e2 : (nval xs).toNat % (nval ys).toNat = (nval xs).toNat := Nat.mod_eq_of_lt (by omega)
  have E1 := Lib.hid e1
  have E2 := Lib.hid e2
  have HX := Lib.hid hxl
  have hl' : (xs.length : Int) < (ys.length : Int) := by omega
  clear hA hB hm hn hlt h0 hxl e1 e2 hx hy
  go_enter Tryz.func92, Tryz.ntmps92
  go_wp2_with fail
  refine (nat_copied xs A c xs.length _ _ w HA.out (Nat.le_refl _) (Nat.le_refl _) (by omega)).mono ?_
  rintro e w1 ⟨rfl, hrow, hbel⟩
  rw [padL_self] at hrow
  have HR := Lib.hid hrow
  have HB := Lib.hid hbel
  clear hrow hbel
  go_wp2_with fail
  go_ret2
  refine ⟨.slice none 0 0, .slice (some ⟨w.heap.size, 0, none⟩) xs.length xs.length, rfl, by rw [E1.out, limbs_zero]; exact Sl.nil _ _ _, ?_, HB.out⟩
  rw [E2.out, ← HX.out]
  exact ⟨_, _, rfl, Nat.le_refl _, by unfold maxLen; omega, HR.out.holds (fun k z hz => by rw [Nat.zero_add]; exact hz) (Nat.le_refl _) HR.out.lt⟩

set_option maxHeartbeats 1600000 in
theorem divide_two (xs ys : List Int) (va vb : Value) (w : World) (ha : In w va xs) (hb : In w vb ys) (hx : nrm xs = true) (hy : nrm ys = true) (hl2 : xs.length ≤ 2) (hp : 0 < ys.length) (hl : ys.length ≤ xs.length) :
    Calls Tryz.prog 92 #[va, vb] w (DivRes w xs ys) := by
  obtain ⟨A, c, rfl, hc, hm, hA⟩ := ha
  obtain ⟨B, d, rfl, hd, hn, hB⟩ := hb
  have WA := fun W => nat_word xs A c 0 w.heap.size W
  have hyl : ys.length ≤ 2 := by omega
  have hwa : Calls Tryz.prog 93 #[.slice A xs.length c] w fun e w' => e = .returned (.int .i64 (nval xs)) ∧ w = w' := nat_word xs A c _ _ w hA (nrm_lok hx) hl2
  have hwb : Calls Tryz.prog 93 #[.slice B ys.length d] w fun e w' => e = .returned (.int .i64 (nval ys)) ∧ w = w' := nat_word ys B d _ _ w hB (nrm_lok hy) hyl
  have hA' := hA
  have hB' := hB
  have sx := nval_small (nrm_lok hx) hl2
  have sy := nval_small (nrm_lok hy) hyl
  have py := nval_pos hy hp
  obtain ⟨M, hM⟩ : ∃ M, M = nval xs := ⟨_, rfl⟩
  obtain ⟨N, hN⟩ : ∃ N, N = nval ys := ⟨_, rfl⟩
  rw [← hM] at sx hwa
  rw [← hN] at sy py hwb
  have HM := Lib.hid hM
  have HN := Lib.hid hN
  have HWA := Lib.hid hwa
  have HWB := Lib.hid hwb
  have HAA := Lib.hid hA
  have HBB := Lib.hid hB
  have HXX := Lib.hid (nrm_lok hx)
  have HYY := Lib.hid (nrm_lok hy)
  have hl' : decide ((xs.length : Int) < (ys.length : Int)) = false := decide_eq_false (by omega)
  have hl2' : (xs.length : Int) ≤ 2 := by omega
  obtain ⟨sx0, sx1⟩ := sx
  obtain ⟨sy0, sy1⟩ := sy
  have n0 : ¬ N = 0 := by omega
  have n1 : (N == 0) = false := beq_false_of_ne n0
  have q0 : M.tdiv N = M / N := Int.tdiv_eq_ediv_of_nonneg sx0
  have r0 : M.tmod N = M % N := Int.tmod_eq_emod_of_nonneg sx0
  have q1 : 0 ≤ M / N := Int.ediv_nonneg sx0 sy0
  have q2 : M / N ≤ M := Int.ediv_le_self _ sx0
  have r1 : 0 ≤ M % N := Int.emod_nonneg _ n0
  have r2 : M % N < N := Int.emod_lt_of_pos _ py
  have eq1 : (M / N).toNat = M.toNat / N.toNat := by
    have e1 : M = (M.toNat : Int) := by omega
    have e2 : N = (N.toNat : Int) := by omega
    rw [e1, e2]; exact Int.toNat_natCast _
  have eq2 : (M % N).toNat = M.toNat % N.toNat := by
    have e1 : M = (M.toNat : Int) := by omega
    have e2 : N = (N.toNat : Int) := by omega
    rw [e1, e2]; exact Int.toNat_natCast _
  have EQ1 := Lib.hid eq1
  have EQ2 := Lib.hid eq2
  clear WA hA hB hA' hB' hM hN hwa hwb hx hy hm hn eq1 eq2
  go_enter Tryz.func92, Tryz.ntmps92
  go_wp2_with fail
  refine HWA.out.mono ?_
  rintro e w' ⟨rfl, rfl⟩
  go_wp2_with fail
  refine HWB.out.mono ?_
  rintro e w' ⟨rfl, rfl⟩
  go_wp2_with fail
  refine (nat_ofWord (M / N) w (by omega) (by omega)).mono ?_
  rintro e w1 ⟨vq, rfl, hsq, hb1⟩
  have hwa : Calls Tryz.prog 93 #[.slice A xs.length c] w1 fun e w' => e = .returned (.int .i64 M) ∧ w1 = w' := by
    rw [HM.out]; exact nat_word xs A c _ _ w1 (HAA.out.below hb1 (Nat.le_refl _)) HXX.out hl2
  have hwb : Calls Tryz.prog 93 #[.slice B ys.length d] w1 fun e w' => e = .returned (.int .i64 N) ∧ w1 = w' := by
    rw [HN.out]; exact nat_word ys B d _ _ w1 (HBB.out.below hb1 (Nat.le_refl _)) HYY.out hyl
  have HWA1 := Lib.hid hwa
  have HWB1 := Lib.hid hwb
  have HSQ := Lib.hid hsq
  have HB1 := Lib.hid hb1
  clear hwa hwb hsq hb1
  go_wp2_with fail
  refine HWA1.out.mono ?_
  rintro e w' ⟨rfl, rfl⟩
  go_wp2_with fail
  refine HWB1.out.mono ?_
  rintro e w' ⟨rfl, rfl⟩
  go_wp2_with fail
  refine (nat_ofWord (M % N) w1 (by omega) (by omega)).mono ?_
  rintro e w2 ⟨vr, rfl, hsr, hb2⟩
  have HSR := Lib.hid hsr
  have HB2 := Lib.hid hb2
  clear hsr hb2
  go_wp2_with fail
  go_ret2
  have hs := HB1.out.size
  have hs2 := HB2.out.size
  refine ⟨vq, vr, rfl, ?_, ?_, HB1.out.trans (HB2.out.mono hs)⟩
  · rw [← HM.out, ← HN.out, ← EQ1.out]; exact (HSQ.out.below HB2.out (Nat.le_refl _)).more (Nat.le_refl _) hs2
  · rw [← HM.out, ← HN.out, ← EQ2.out]; exact HSR.out.more hs (Nat.le_refl _)
end Go.Proofs.YtagjimdplmimoaaGreat
/- Contracts of nat.DivMod and nat.Gcd out of those of divide and gcd; of nat.gcd where the second number is short. -/
namespace Go.Proofs.YtagjimdplmimoaaGreat
open Go.ChangeShapes Go.WideShapes Go.RowKit
set_option linter.unusedVariables false
set_option maxRecDepth 100000

def divOk (xs ys : List Int) : Bool := both xs ys && !ys.isEmpty
def quoN (xs ys : List Int) : Nat := if divOk xs ys then (nval xs).toNat / (nval ys).toNat else 0
def remN (xs ys : List Int) : Nat := if divOk xs ys then (nval xs).toNat % (nval ys).toNat else 0
def divE (xs ys : List Int) : Int := if both xs ys then (if ys.isEmpty then 16 else 0) else 3
def DmRes (w : World) (xs ys : List Int) (e : Ending) (w' : World) : Prop :=
  ∃ vq vr, e = .returned (.tuple #[vq, vr, .int .i64 (divE xs ys)]) ∧ Sl w' w.heap.size w'.heap.size vq (limbs (quoN xs ys)) ∧ Sl w' w.heap.size w'.heap.size vr (limbs (remN xs ys)) ∧ Below w.heap.size w w'
theorem DmRes.none {w w' : World} {xs ys : List Int} {k : Int} {e : Ending} (hq : divOk xs ys = false) (hk : divE xs ys = k) (h : e = .returned (.tuple #[.slice none 0 0, .slice none 0 0, .int .i64 k])) (hb : Below w.heap.size w w') : DmRes w xs ys e w' := by
  subst hk h
  refine ⟨_, _, rfl, ?_, ?_, hb⟩
  · rw [quoN, hq]; exact (by show Sl _ _ _ _ (limbs 0); rw [limbs_zero]; exact Sl.nil _ _ _)
  · rw [remN, hq]; exact (by show Sl _ _ _ _ (limbs 0); rw [limbs_zero]; exact Sl.nil _ _ _)

set_option maxHeartbeats 1600000 in
theorem DivMod_of (xs ys : List Int) (va vb : Value) (w : World) (ha : In w va xs) (hb : In w vb ys)
    (hdiv : validB xs = true → validB ys = true → 0 < ys.length → Calls Tryz.prog 92 #[va, vb] w (DivRes w xs ys)) :
    Calls Tryz.prog 68 #[va, vb] w (DmRes w xs ys) := by
  obtain ⟨A, c, rfl, hc, hm, hA⟩ := ha
  obtain ⟨B, d, rfl, hd, hn, hB⟩ := hb
  have HA := Lib.hid hA
  have HB := Lib.hid hB
  have HDIV := Lib.hid hdiv
  have hm1 : xs.length ≤ 9223372036854775807 := Nat.le_trans hc hm
  have hm2 : ys.length ≤ 9223372036854775807 := Nat.le_trans hd hn
  clear hA hB hm hn hdiv
  rcases both_cases xs ys with ⟨hx, hbo⟩ | ⟨hx, hy, hbo⟩ | ⟨hx, hy, hbo⟩
  · have HBO := Lib.hid hbo
    clear hbo
    go_enter Tryz.func68, Tryz.ntmps68
    go_wp2_with fail
    refine (nat_Valid xs A c _ _ w HA.out hm1).mono ?_
    rintro e w' ⟨rfl, rfl⟩
    go_wp2_with fail
    go_ret3
    exact DmRes.none (by rw [divOk, HBO.out]; rfl) (by rw [divE, HBO.out]; rfl) rfl (Below.refl _ _)
  · have HBO := Lib.hid hbo
    clear hbo
    go_enter Tryz.func68, Tryz.ntmps68
    go_wp2_with fail
    refine (nat_Valid xs A c _ _ w HA.out hm1).mono ?_
    rintro e w' ⟨rfl, rfl⟩
    go_wp2_with fail
    refine (nat_Valid ys B d _ _ _ HB.out hm2).mono ?_
    rintro e w' ⟨rfl, rfl⟩
    go_wp2_with fail
    go_ret3
    exact DmRes.none (by rw [divOk, HBO.out]; rfl) (by rw [divE, HBO.out]; rfl) rfl (Below.refl _ _)
  · have HBO := Lib.hid hbo
    clear hbo
    rcases Nat.eq_zero_or_pos ys.length with h0 | hp
    · have hn : ys = [] := List.eq_nil_of_length_eq_zero h0
      subst hn
      go_enter Tryz.func68, Tryz.ntmps68
      go_wp2_with fail
      refine (nat_Valid xs A c _ _ w HA.out hm1).mono ?_
      rintro e w' ⟨rfl, rfl⟩
      go_wp2_with fail
      refine (nat_Valid [] B d _ _ _ HB.out hm2).mono ?_
      rintro e w' ⟨rfl, rfl⟩
      go_wp2_with fail
      go_ret3
      exact DmRes.none (by rw [divOk, HBO.out]; rfl) (by rw [divE, HBO.out]; rfl) rfl (Below.refl _ _)
    · have hne : ((ys.length : Int) == 0) = false := beq_false_of_ne (by omega)
      have he : ys.isEmpty = false := by cases ys with
        | nil => simp at hp
        | cons a l => rfl
      have HE := Lib.hid he
      have hcall := HDIV.out hx hy hp
      have HCALL := Lib.hid hcall
      clear he hcall
      go_enter Tryz.func68, Tryz.ntmps68
      go_wp2_with fail
      refine (nat_Valid xs A c _ _ w HA.out hm1).mono ?_
      rintro e w' ⟨rfl, rfl⟩
      go_wp2_with fail
      refine (nat_Valid ys B d _ _ _ HB.out hm2).mono ?_
      rintro e w' ⟨rfl, rfl⟩
      go_wp2_with fail
      refine HCALL.out.mono ?_
      rintro e w' ⟨vq, vr, rfl, hq, hr, hb⟩
      have HQ := Lib.hid hq
      have HR := Lib.hid hr
      have HBL := Lib.hid hb
      clear hq hr hb
      go_wp2_with fail
      go_ret3
      have ho : divOk xs ys = true := by rw [divOk, HBO.out, HE.out]; rfl
      have hk : divE xs ys = 0 := by rw [divE, HBO.out, HE.out]; rfl
      exact ⟨vq, vr, by rw [hk]; rfl, by rw [quoN, ho]; exact HQ.out, by rw [remN, ho]; exact HR.out, HBL.out⟩

/-- What gcd leaves. -/
def GcdRes (w : World) (N : Nat) (e : Ending) (w' : World) : Prop :=
  ∃ v, e = .returned v ∧ Sl w' w.heap.size w'.heap.size v (limbs N) ∧ Below w.heap.size w w'
theorem gcd_step (a b : Nat) : Nat.gcd b (a % b) = Nat.gcd a b := by rw [Nat.gcd_comm b, ← Nat.gcd_rec, Nat.gcd_comm]
theorem gcd_words (a b : Nat) (h : 0 < b) : Nat.gcd b (a % b) = Nat.gcd a b := gcd_step a b

set_option maxHeartbeats 1600000 in
theorem gcd_short (xs ys : List Int) (va vb : Value) (w : World) (ha : In w va xs) (hb : In w vb ys) (hx : nrm xs = true) (hy : nrm ys = true) (hlx : xs.length ≤ 100000) (hl2 : ys.length ≤ 2)
    (hdiv : 0 < ys.length → Calls Tryz.prog 92 #[va, vb] w (DivRes w xs ys)) :
    Calls Tryz.prog 94 #[va, vb] w (GcdRes w (Nat.gcd (nval xs).toNat (nval ys).toNat)) := by
  obtain ⟨A, c, rfl, hc, hm, hA⟩ := ha
  obtain ⟨B, d, rfl, hd, hn, hB⟩ := hb
  have HA := Lib.hid hA
  have HB := Lib.hid hB
  have hl2' : decide ((2 : Int) < (ys.length : Int)) = false := decide_eq_false (by omega)
  have HX := Lib.hid hx
  have HY := Lib.hid hy
  rcases Nat.eq_zero_or_pos ys.length with h0 | hp
  · have hnil : ys = [] := List.eq_nil_of_length_eq_zero h0
    subst hnil
    have HXL := Lib.hid (nrm_limbs hx)
    clear hA hB hm hn hdiv hx hy
    go_enter Tryz.func94, Tryz.ntmps94
    go_wp2_with fail
    refine wp_loop_rounds 1 ?_
    rw [rounds_succ]
    go_wp2_with fail
    refine (nat_copied xs A c xs.length _ _ w HA.out (Nat.le_refl _) (Nat.le_refl _) (by omega)).mono ?_
    rintro e w1 ⟨rfl, hrow, hbel⟩
    rw [padL_self] at hrow
    have HR := Lib.hid hrow
    have HBL := Lib.hid hbel
    clear hrow hbel
    go_wp2_with fail
    go_ret
    refine ⟨_, rfl, ?_, HBL.out⟩
    have e : (nval []).toNat = 0 := rfl
    rw [e, Nat.gcd_zero_right, ← HXL.out]
    exact ⟨_, _, rfl, Nat.le_refl _, by unfold maxLen; omega, HR.out.holds (fun k z hz => by rw [Nat.zero_add]; exact hz) (Nat.le_refl _) HR.out.lt⟩
  · have hne : ((ys.length : Int) == 0) = false := beq_false_of_ne (by omega)
    have HDIV := Lib.hid (hdiv hp)
    have sy := nval_small (nrm_lok hy) hl2
    have py := nval_pos hy hp
    obtain ⟨M, hM⟩ : ∃ M, M = (nval ys).toNat := ⟨_, rfl⟩
    obtain ⟨N, hN⟩ : ∃ N, N = (nval xs).toNat := ⟨_, rfl⟩
    have eM : nval ys = (M : Int) := by omega
    have hM1 : M < 1000000000000000000 := by omega
    have hM0 : 0 < M := by omega
    have hr2 : (limbs (N % M)).length ≤ 2 := limbs_len_le.mpr (by have := Nat.mod_lt N hM0; omega)
    have HM := Lib.hid hM
    have HN := Lib.hid hN
    have EM := Lib.hid eM
    have HR2 := Lib.hid hr2
    clear hA hB hm hn hdiv hx hy sy py hM hN eM hr2
    go_enter Tryz.func94, Tryz.ntmps94
    go_wp2_with fail
    refine wp_loop_rounds 1 ?_
    rw [rounds_succ]
    go_wp2_with fail
    refine HDIV.out.mono ?_
    rintro e w1 ⟨vq, vr, rfl, -, hr, hb⟩
    rw [← HM.out, ← HN.out] at hr
    obtain ⟨A2, c2, rfl, hc2, hm2, hA2⟩ := hr
    have hwb : Calls Tryz.prog 93 #[.slice B ys.length d] w1 fun e w' => e = .returned (.int .i64 M) ∧ w1 = w' := by
      rw [← EM.out]; exact nat_word ys B d _ _ w1 (Holds.below HB.out hb (Nat.le_refl _)) (nrm_lok HY.out) hl2
    have hwr : Calls Tryz.prog 93 #[.slice A2 (limbs (N % M)).length c2] w1 fun e w' => e = .returned (.int .i64 ((N % M : Nat) : Int)) ∧ w1 = w' := by
      have := nat_word (limbs (N % M)) A2 c2 _ _ w1 hA2 (lok_limbs _) HR2.out
      rw [nval_limbs] at this; exact this
    have HWB := Lib.hid hwb
    have HWR := Lib.hid hwr
    have HBL := Lib.hid hb
    clear hwb hwr hb hA2 hm2
    go_wp2_with fail
    refine HWB.out.mono ?_
    rintro e w' ⟨rfl, rfl⟩
    go_wp2_with fail
    refine HWR.out.mono ?_
    rintro e w' ⟨rfl, rfl⟩
    go_wp2_with fail
    go_loopw [7, 8] (fun m n wr => ∃ a b : Nat, m = .int .i64 a ∧ n = .int .i64 b ∧ a < 1000000000000000000 ∧ b < 1000000000000000000 ∧ Nat.gcd a b = Nat.gcd N M ∧ Below w.heap.size w wr) (fun _ n _ => (intOf n).toNat)
    case atStart => exact ⟨M, N % M, rfl, rfl, hM1, by have := Nat.mod_lt N hM0; omega, gcd_step _ _, HBL.out⟩
    case round =>
      obtain ⟨a, b, rfl, rfl, ha1, hb1, hg, hbel⟩ := hrel
      have HG := Lib.hid hg
      have HBL2 := Lib.hid hbel
      clear hg hbel
      rcases Nat.eq_zero_or_pos b with rfl | hb0
      · have hg := HG.out
        rw [Nat.gcd_zero_right] at hg
        have HG2 := Lib.hid hg
        clear hg
        go_wp2_with fail
        refine (nat_ofWord (a : Int) wr (by omega) (by omega)).mono ?_
        rintro e w2 ⟨v, rfl, hsl, hb2⟩
        rw [Int.toNat_natCast, HG2.out] at hsl
        have HSL := Lib.hid hsl
        have HB2 := Lib.hid hb2
        clear hsl hb2
        go_wp2_with fail
        go_ret
        have hs := HBL2.out.size
        refine ⟨_, rfl, ?_, HBL2.out.trans (HB2.out.mono hs)⟩
        rw [← HM.out, ← HN.out]
        exact HSL.out.more hs (Nat.le_refl _)
      · have hb2 : ((b : Int) != 0) = true := by simp; omega
        have hb3 : ¬ (b : Int) = 0 := by omega
        have hb4 : ((b : Int) == 0) = false := beq_false_of_ne hb3
        have hr : (a : Int).tmod (b : Int) = ((a % b : Nat) : Int) := by rw [Int.tmod_eq_emod_of_nonneg (by omega)]; rfl
        have hlt := Nat.mod_lt a hb0
        go_wp2_with fail
        go_quiet (fail)
        go_wp2_with fail
        go_roundw
        case rel => exact ⟨b, a % b, rfl, rfl, hb1, by omega, by rw [gcd_step]; exact HG.out, below_drewN HBL2.out _⟩
        case measure => simp [intOf]; omega
end Go.Proofs.YtagjimdplmimoaaGreat
/- Contract of nat.Gcd out of that of gcd; Same at opaque slices; 'awake'. -/
namespace Go.Proofs.YtagjimdplmimoaaGreat
open Go.ChangeShapes Go.WideShapes Go.RowKit
set_option linter.unusedVariables false
set_option maxRecDepth 100000

def gcdN (xs ys : List Int) : Nat := if both xs ys then Nat.gcd (nval xs).toNat (nval ys).toNat else 0

set_option maxHeartbeats 1600000 in
theorem Gcd_of (xs ys : List Int) (va vb : Value) (w : World) (ha : In w va xs) (hb : In w vb ys)
    (hgcd : validB xs = true → validB ys = true → Calls Tryz.prog 94 #[va, vb] w (GcdRes w (Nat.gcd (nval xs).toNat (nval ys).toNat))) :
    Calls Tryz.prog 72 #[va, vb] w (Res w (gcdN xs ys) (formE xs ys)) := by
  obtain ⟨A, c, rfl, hc, hm, hA⟩ := ha
  obtain ⟨B, d, rfl, hd, hn, hB⟩ := hb
  have HA := Lib.hid hA
  have HB := Lib.hid hB
  have HG := Lib.hid hgcd
  have hm1 : xs.length ≤ 9223372036854775807 := Nat.le_trans hc hm
  have hm2 : ys.length ≤ 9223372036854775807 := Nat.le_trans hd hn
  clear hA hB hm hn hgcd
  rcases both_cases xs ys with ⟨hx, hbo⟩ | ⟨hx, hy, hbo⟩ | ⟨hx, hy, hbo⟩
  · have HBO := Lib.hid hbo
    clear hbo
    go_enter Tryz.func72, Tryz.ntmps72
    go_wp2_with fail
    refine (nat_Valid xs A c _ _ w HA.out hm1).mono ?_
    rintro e w' ⟨rfl, rfl⟩
    go_wp2_with fail
    go_ret2
    exact Res.none (by rw [gcdN, HBO.out]; rfl) (by rw [formE, HBO.out]; rfl) rfl (Below.refl _ _)
  · have HBO := Lib.hid hbo
    clear hbo
    go_enter Tryz.func72, Tryz.ntmps72
    go_wp2_with fail
    refine (nat_Valid xs A c _ _ w HA.out hm1).mono ?_
    rintro e w' ⟨rfl, rfl⟩
    go_wp2_with fail
    refine (nat_Valid ys B d _ _ _ HB.out hm2).mono ?_
    rintro e w' ⟨rfl, rfl⟩
    go_wp2_with fail
    go_ret2
    exact Res.none (by rw [gcdN, HBO.out]; rfl) (by rw [formE, HBO.out]; rfl) rfl (Below.refl _ _)
  · have HBO := Lib.hid hbo
    have HCALL := Lib.hid (HG.out hx hy)
    clear hbo
    go_enter Tryz.func72, Tryz.ntmps72
    go_wp2_with fail
    refine (nat_Valid xs A c _ _ w HA.out hm1).mono ?_
    rintro e w' ⟨rfl, rfl⟩
    go_wp2_with fail
    refine (nat_Valid ys B d _ _ _ HB.out hm2).mono ?_
    rintro e w' ⟨rfl, rfl⟩
    go_wp2_with fail
    refine HCALL.out.mono ?_
    rintro e w' ⟨v, rfl, hs, hb⟩
    have HS := Lib.hid hs
    have HBL := Lib.hid hb
    clear hs hb
    go_wp2_with fail
    go_ret2
    exact ⟨v, by rw [formE, HBO.out]; rfl, by rw [gcdN, HBO.out]; exact HS.out, HBL.out⟩

theorem in_built (w : World) (t : TypeId) (zs : List Int) (hz : zs.length ≤ 1000) : In (w.alloc (.cells (zs.map (Value.int .i64)).toArray t)) (.slice (some ⟨w.heap.size, 0, none⟩) zs.length zs.length) zs := by
  refine ⟨_, _, rfl, Nat.le_refl _, by unfold maxLen; omega, ?_⟩
  have hr : Row (w.alloc (.cells (zs.map (Value.int .i64)).toArray t)) w.heap.size zs := row_of_heap (heap_alloc_new w _)
  exact hr.holds (fun k z hk => by rw [Nat.zero_add]; exact hk) (Nat.zero_le _) hr.lt
theorem below_alloc (w : World) (o : Obj) : Below w.heap.size w (w.alloc o) := (Below.refl _ _).alloc (Nat.le_refl _) _
theorem divide_short (xs ys : List Int) (va vb : Value) (w : World) (ha : In w va xs) (hb : In w vb ys) (hx : nrm xs = true) (hy : nrm ys = true) (hl2 : xs.length ≤ 2) (hp : 0 < ys.length) :
    Calls Tryz.prog 92 #[va, vb] w (DivRes w xs ys) := by
  rcases Nat.lt_or_ge xs.length ys.length with h | h
  · exact divide_less xs ys va vb w ha hb hx hy (by omega) h
  · exact divide_two xs ys va vb w ha hb hx hy hl2 hp h
theorem aw1 : limbs (1000000007 : Int).toNat = [7, 1] := by
  show limbs 1000000007 = _
  rw [limbs_pos (by decide), limbs_pos (by decide), limbs]; rfl
theorem aw2 : mulV [7, 1] [3] = 3000000021 := by decide +kernel
theorem aw3 : mulE [7, 1] [3] = 0 := by decide +kernel
theorem aw2' : limbs 3000000021 = [21, 3] := by
  rw [limbs_pos (by decide), limbs_pos (by decide), limbs]; rfl
theorem aw4 : quoN [21, 3] [4] = 750000005 := by decide +kernel
theorem aw5 : remN [21, 3] [4] = 1 := by decide +kernel
theorem aw6 : divE [21, 3] [4] = 0 := by decide +kernel
theorem aw4' : limbs 750000005 = [750000005] := by rw [limbs_pos (by decide), limbs]; rfl
theorem aw5' : limbs 1 = [1] := by rw [limbs_pos (by decide), limbs]; rfl
theorem aw7 : gcdN [12] [18] = 6 := by decide +kernel
theorem aw8 : formE [12] [18] = 0 := by decide +kernel
theorem aw7' : limbs 6 = [6] := by rw [limbs_pos (by decide), limbs]; rfl
theorem aw9 : textV [21, 3] = ⟨#[51, 48, 48, 48, 48, 48, 48, 48, 50, 49]⟩ := by
  have e : (nval [21, 3]).toNat = 3000000021 := by decide +kernel
  have v : validB [21, 3] = true := by decide +kernel
  rw [textV, v, e]
  show decS 3000000021 = _
  have h := dec_next (x := 21) (q := 3) (by decide) (by decide)
  have h3 : Lib.decDigits 3 = [51] := by rw [Lib.decDigits_one (by decide)]; rfl
  rw [h3] at h
  have e2 : (21 + 1000000000 * 3) = 3000000021 := by decide
  rw [e2] at h
  unfold decS
  rw [h]; rfl
theorem aw10 : oneE [21, 3] = 0 := by decide +kernel
theorem aw11 : parN [48, 48, 55] = 0 := by decide +kernel
theorem aw12 : parE [48, 48, 55] = 3 := by decide +kernel
end Go.Proofs.YtagjimdplmimoaaGreat
/- The contract of 'awake'. -/
namespace Go.Proofs.YtagjimdplmimoaaGreat
open Go.ChangeShapes Go.WideShapes Go.RowKit
set_option linter.unusedVariables false
set_option maxRecDepth 100000

theorem bstep {w0 w1 w2 : World} (h : Below w0.heap.size w0 w1) (k : Below w1.heap.size w1 w2) : Below w0.heap.size w0 w2 := h.trans (k.mono h.size)
theorem balloc {w0 w1 : World} (h : Below w0.heap.size w0 w1) (o : Obj) : Below w0.heap.size w0 (w1.alloc o) := h.alloc h.size _
theorem In.alloc {w : World} {v : Value} {zs : List Int} (h : In w v zs) (o : Obj) : In (w.alloc o) v zs := h.below (below_alloc _ _) (Nat.le_refl _)
theorem In.on {w w' : World} {v : Value} {zs : List Int} (h : In w v zs) (hb : Below w.heap.size w w') : In w' v zs := h.below hb (Nat.le_refl _)
theorem in_one (w : World) (t : TypeId) (x : Int) : In (w.alloc (.cells #[.int .i64 x] t)) (.slice (some ⟨w.heap.size, 0, none⟩) 1 1) [x] := in_built w t [x] (by simp)
theorem in_two (w : World) (t : TypeId) (x y : Int) : In (w.alloc (.cells #[.int .i64 x, .int .i64 y] t)) (.slice (some ⟨w.heap.size, 0, none⟩) 2 2) [x, y] := in_built w t [x, y] (by simp)

theorem aw_Of (w : World) : Calls Tryz.prog 55 #[.int .i64 1000000007] w fun e w' => ∃ v, e = .returned (.tuple #[v, .int .i64 0]) ∧ In w' v [7, 1] ∧ Below w.heap.size w w' := by
  refine (nat_Of 1000000007 w (by omega) (by omega)).mono ?_
  rintro e w1 ⟨va, rfl, hsa, hb1⟩
  rw [aw1] at hsa
  exact ⟨va, rfl, hsa.toIn, hb1⟩
theorem aw_Mul (w : World) (va : Value) (h : In w va [7, 1]) : Calls Tryz.prog 76 #[va, .slice (some ⟨w.heap.size, 0, none⟩) 1 1] (w.alloc (.cells #[.int .i64 3] 3)) fun e w' => ∃ v, e = .returned (.tuple #[v, .int .i64 0]) ∧ In w' v [21, 3] ∧ Below w.heap.size w w' := by
  refine (nat_Mul [7, 1] [3] _ _ _ (h.alloc _) (in_one _ _ 3)).mono ?_
  rintro e w2 ⟨vb, rfl, hsb, hb2⟩
  rw [aw2, aw2'] at hsb
  rw [aw3]
  exact ⟨vb, rfl, hsb.toIn, bstep (below_alloc _ _) hb2⟩
theorem nrm1 : nrm [21, 3] = true := by decide +kernel
theorem nrm2 : nrm [4] = true := by decide +kernel
theorem nrm3 : nrm [12] = true := by decide +kernel
theorem nrm4 : nrm [18] = true := by decide +kernel
theorem aw_DivMod (w : World) (va : Value) (h : In w va [21, 3]) : Calls Tryz.prog 68 #[va, .slice (some ⟨w.heap.size, 0, none⟩) 1 1] (w.alloc (.cells #[.int .i64 4] 3)) fun e w' => ∃ vq vr, e = .returned (.tuple #[vq, vr, .int .i64 0]) ∧ In w' vq [750000005] ∧ In w' vr [1] ∧ Below w.heap.size w w' := by
  refine (DivMod_of [21, 3] [4] _ _ _ (h.alloc _) (in_one _ _ 4) (fun _ _ _ => divide_short [21, 3] [4] _ _ _ (h.alloc _) (in_one _ _ 4) nrm1 nrm2 (by simp) (by simp))).mono ?_
  rintro e w3 ⟨vq, vr, rfl, hq, hr, hb3⟩
  rw [aw4, aw4'] at hq
  rw [aw5, aw5'] at hr
  rw [aw6]
  exact ⟨vq, vr, rfl, hq.toIn, hr.toIn, bstep (below_alloc _ _) hb3⟩
theorem aw_Gcd (w : World) : Calls Tryz.prog 72 #[.slice (some ⟨w.heap.size, 0, none⟩) 1 1, .slice (some ⟨w.heap.size + 1, 0, none⟩) 1 1] ((w.alloc (.cells #[.int .i64 12] 3)).alloc (.cells #[.int .i64 18] 3)) fun e w' => ∃ v, e = .returned (.tuple #[v, .int .i64 0]) ∧ In w' v [6] ∧ Below w.heap.size w w' := by
  have hi1 := (in_one w 3 12).alloc (.cells #[.int .i64 18] 3)
  have hi2 := in_one (w.alloc (.cells #[.int .i64 12] 3)) 3 18
  have hs : (w.alloc (.cells #[.int .i64 12] 3)).heap.size = w.heap.size + 1 := by simp
  rw [hs] at hi2
  refine (Gcd_of [12] [18] _ _ _ hi1 hi2 (fun _ _ => gcd_short [12] [18] _ _ _ hi1 hi2 nrm3 nrm4 (by simp) (by simp) (fun _ => divide_short [12] [18] _ _ _ hi1 hi2 nrm3 nrm4 (by simp) (by simp)))).mono ?_
  rintro e w4 ⟨vg, rfl, hg, hb4⟩
  rw [aw7, aw7'] at hg
  rw [aw8]
  exact ⟨vg, rfl, hg.toIn, bstep (balloc (below_alloc _ _) _) hb4⟩
end Go.Proofs.YtagjimdplmimoaaGreat
/- The walk of NatCompares; contracts of the reference's compare and Cmp. -/
namespace Go.Proofs.YtagjimdplmimoaaGreat
open Go.ChangeShapes Go.WideShapes Go.RowKit
set_option linter.unusedVariables false
set_option maxRecDepth 100000

end Go.Proofs.YtagjimdplmimoaaGreat
/- The walk of NatTexts. -/
namespace Go.Proofs.YtagjimdplmimoaaGreat
open Go.ChangeShapes Go.WideShapes Go.RowKit
set_option linter.unusedVariables false
set_option maxRecDepth 100000

theorem dgt {d : Nat} (h : d < 10) : (UInt8.ofNat (48 + d)).toNat = 48 + d := by
  show (48 + d) % 256 = 48 + d
  omega
theorem rev_ind {P : List UInt8 → Prop} (h0 : P []) (h1 : ∀ l a, P l → P (l ++ [a])) (L : List UInt8) : P L := by
  have h : ∀ l : List UInt8, P l.reverse := by
    intro l
    induction l with
    | nil => exact h0
    | cons a l ih => rw [List.reverse_cons]; exact h1 _ _ ih
  have := h L.reverse
  rwa [List.reverse_reverse] at this
theorem dval_dec (n : Nat) : dval (Lib.decDigits n) = n := by
  induction n using Nat.strongRecOn with
  | ind n ih =>
    rw [Lib.decDigits]
    split
    · rename_i h
      have := dgt h
      show 0 * 10 + ((UInt8.ofNat (48 + n)).toNat - 48) = n
      omega
    · rename_i h
      have := dgt (d := n % 10) (by omega)
      rw [dval_snoc, ih _ (by omega), this]; omega
theorem dec_all (n : Nat) : (Lib.decDigits n).all isD = true := by
  induction n using Nat.strongRecOn with
  | ind n ih =>
    rw [Lib.decDigits]
    split
    · rename_i h
      have := dgt h
      rw [List.all_cons, isD_yes (by omega) (by omega)]; rfl
    · rename_i h
      have := dgt (d := n % 10) (by omega)
      rw [List.all_append, ih _ (by omega), List.all_cons, isD_yes (by omega) (by omega)]; rfl
theorem dec_ne (n : Nat) : Lib.decDigits n ≠ [] := by
  rw [Lib.decDigits]; split <;> simp
theorem dec_head {n : Nat} (h : 0 < n) : (Lib.decDigits n).headD 0 ≠ 48 := by
  induction n using Nat.strongRecOn with
  | ind n ih =>
    rw [Lib.decDigits]
    split
    · rename_i h10
      intro h2
      have h3 : (UInt8.ofNat (48 + n)).toNat = 48 := congrArg UInt8.toNat h2
      rw [dgt h10] at h3; omega
    · rename_i h10
      have h1 := ih (n / 10) (by omega) (by omega)
      cases hd : Lib.decDigits (n / 10) with
      | nil => exact absurd hd (dec_ne _)
      | cons a l => rw [hd] at h1; simpa using h1
theorem dec_ok (n : Nat) : decOk (Lib.decDigits n) = true := by
  unfold decOk
  rw [dec_all]
  rcases Nat.eq_zero_or_pos n with rfl | h
  · have : Lib.decDigits 0 = [48] := by rw [Lib.decDigits_one (by decide)]; rfl
    rw [this]; rfl
  · have h1 := dec_head h
    have h2 := dec_ne n
    have h3 : (Lib.decDigits n).isEmpty = false := by cases hd : Lib.decDigits n with
      | nil => exact absurd hd h2
      | cons a l => rfl
    rw [h3]
    have h4 : ((Lib.decDigits n).headD 0 != 48) = true := by simpa using h1
    rw [h4]; simp
theorem dec_len {k : Nat} : ∀ {n : Nat}, n < 10 ^ (k + 1) → (Lib.decDigits n).length ≤ k + 1 := by
  induction k with
  | zero => intro n h; rw [Lib.decDigits_one (by simpa using h)]; simp
  | succ k ih =>
    intro n h
    rw [Lib.decDigits]
    split
    · simp
    · rw [List.length_append]
      have := ih (n := n / 10) (by rw [Nat.pow_succ] at h; omega)
      simp; omega
theorem dval_lt (L : List UInt8) (h : L.all isD = true) : dval L < 10 ^ L.length := by
  revert h
  refine rev_ind (P := fun L => L.all isD = true → dval L < 10 ^ L.length) (by intro _; simp [dval]) ?_ L
  · intro L b ih h
    rw [List.all_append, Bool.and_eq_true] at h
    have i := ih h.1
    have hb : isD b = true := by simpa using h.2
    have := isD_iff hb
    rw [dval_snoc, List.length_append, List.length_singleton, Nat.pow_succ]; omega
theorem dval_pos {L : List UInt8} (h : L.all isD = true) (h1 : L ≠ []) (h2 : L.headD 0 ≠ 48) : 0 < dval L := by
  revert h h1 h2
  refine rev_ind (P := fun L => L.all isD = true → L ≠ [] → L.headD 0 ≠ 48 → 0 < dval L) (by intro _ h1; exact absurd rfl h1) ?_ L
  · intro L b ih h h1 h2
    rw [List.all_append, Bool.and_eq_true] at h
    have hb : isD b = true := by simpa using h.2
    have hbb := isD_iff hb
    rw [dval_snoc]
    cases L with
    | nil =>
      have : b.toNat ≠ 48 := by
        intro h3; apply h2; apply UInt8.toNat_inj.mp; simpa using h3
      simp [dval]; omega
    | cons a l =>
      have := ih h.1 (by simp) (by simpa using h2)
      omega
theorem dec_dval {L : List UInt8} (h : L.all isD = true) (h1 : L ≠ []) (h2 : L = [48] ∨ L.headD 0 ≠ 48) : Lib.decDigits (dval L) = L := by
  revert h h1 h2
  refine rev_ind (P := fun L => L.all isD = true → L ≠ [] → (L = [48] ∨ L.headD 0 ≠ 48) → Lib.decDigits (dval L) = L) (by intro _ h1; exact absurd rfl h1) ?_ L
  · intro L b ih h h1 h2
    rw [List.all_append, Bool.and_eq_true] at h
    have hb : isD b = true := by simpa using h.2
    have hbb := isD_iff hb
    have eb : UInt8.ofNat (48 + (b.toNat - 48)) = b := by
      apply UInt8.toNat_inj.mp; rw [dgt (by omega)]; omega
    rw [dval_snoc]
    cases L with
    | nil =>
      have e0 : dval [] = 0 := rfl
      rw [e0, Nat.zero_mul, Nat.zero_add, Lib.decDigits_one (by omega), eb]; rfl
    | cons a l =>
      have hh : (a :: l).headD 0 ≠ 48 := by
        rcases h2 with h3 | h3
        · simp at h3
        · simpa using h3
      have hp := dval_pos h.1 (by simp) hh
      rw [Lib.decDigits, dif_neg (by omega)]
      have e1 : (dval (a :: l) * 10 + (b.toNat - 48)) / 10 = dval (a :: l) := by omega
      have e2 : (dval (a :: l) * 10 + (b.toNat - 48)) % 10 = b.toNat - 48 := by omega
      rw [e1, e2, eb, ih h.1 (by simp) (Or.inr hh)]
theorem dec_dval_ok {L : List UInt8} (h : decOk L = true) : Lib.decDigits (dval L) = L := by
  simp only [decOk, Bool.and_eq_true, Bool.or_eq_true] at h
  obtain ⟨h1, h2⟩ := h
  rcases h2 with h2 | h2
  · have e : L = [48] := of_decide_eq_true h2
    exact dec_dval h1 (by rw [e]; simp) (Or.inl e)
  · refine dec_dval h1 ?_ (Or.inr (by simpa using h2.2))
    intro h3; rw [h3] at h2; simp at h2
theorem pow9 (k : Nat) : (1000000000 : Nat) ^ k = 10 ^ (9 * k) := by rw [Nat.pow_mul]
theorem lt_pow9 {n a k : Nat} (h : n < 10 ^ a) (h2 : a ≤ 9 * k) : n < 1000000000 ^ k := by rw [pow9]; exact Nat.lt_of_lt_of_le h (Nat.pow_le_pow_right (by decide) h2)
/-- What Text returns is parsed as the number. -/
theorem parse_text {xs : List Int} (h : validB xs = true) : parN (textV xs).data.toList = (nval xs).toNat ∧ parE (textV xs).data.toList = 0 ∧ limbs (nval xs).toNat = xs := by
  have ht : (textV xs).data.toList = Lib.decDigits (nval xs).toNat := by rw [textV, h]; rfl
  have hl := nrm_limbs (valid_nrm h)
  have hlt : (nval xs).toNat < 1000000000 ^ 48 := limbs_len_le.mp (by rw [← hl]; exact valid_len h)
  rw [pow9, show 9 * 48 = 431 + 1 from rfl] at hlt
  have hlen : (Lib.decDigits (nval xs).toNat).length ≤ 432 := dec_len (k := 431) hlt
  rw [ht, parN, parE, dec_ok, if_pos rfl, if_pos rfl, if_pos hlen, if_pos hlen, dval_dec]
  exact ⟨rfl, rfl, hl.symm⟩
/-- What is parsed is valid, and has this text. -/
theorem text_parse {L : List UInt8} (h : parE L = 0) : validB (limbs (parN L)) = true ∧ (textV (limbs (parN L))).data.toList = L := by
  unfold parE at h
  have h1 : decOk L = true := by
    cases hd : decOk L with
    | true => rfl
    | false => rw [hd] at h; simp at h
  rw [h1, if_pos rfl] at h
  have h2 : L.length ≤ 432 := by
    rcases Nat.lt_or_ge 432 L.length with h3 | h3
    · rw [if_neg (by omega)] at h; simp at h
    · exact h3
  have hN : parN L = dval L := by rw [parN, h1, if_pos rfl, if_pos h2]
  have hall : L.all isD = true := by simp only [decOk, Bool.and_eq_true] at h1; exact h1.1
  have hlt := dval_lt L hall
  have hv : validB (limbs (dval L)) = true := validB_iff.mpr ⟨limbs_len_le.mpr (lt_pow9 hlt (by omega)), nrm_of_limbs _⟩
  rw [hN]
  refine ⟨hv, ?_⟩
  rw [textV, hv]
  show (decS (nval (limbs (dval L))).toNat).data.toList = L
  rw [nval_limbs, Int.toNat_natCast]
  show (Lib.decDigits (dval L)).toArray.toList = L
  rw [List.toList_toArray, dec_dval_ok h1]
theorem parN_err {L : List UInt8} (h : parE L ≠ 0) : parN L = 0 := by
  unfold parE at h
  unfold parN
  split at h
  · split at h
    · exact absurd rfl h
    · rename_i h1 h2; rw [if_pos h1, if_neg h2]
  · rename_i h1; rw [if_neg h1]

theorem text_size {xs : List Int} (hv : validB xs = true) : (textV xs).size ≤ 9223372036854775807 := by
  have h := parse_text hv
  have ht : (textV xs).data.toList = Lib.decDigits (nval xs).toNat := by rw [textV, hv]; rfl
  have hl := nrm_limbs (valid_nrm hv)
  have hlt : (nval xs).toNat < 1000000000 ^ 48 := limbs_len_le.mp (by rw [← hl]; exact valid_len hv)
  rw [pow9, show 9 * 48 = 431 + 1 from rfl] at hlt
  have hlen := dec_len (k := 431) hlt
  rw [← ht, str_len] at hlen
  omega
theorem valid_in (xs : List Int) (va : Value) (w : World) (ha : In w va xs) : Calls Tryz.prog 79 #[va] w fun e w' => e = .returned (.bool (validB xs)) ∧ w = w' := by
  obtain ⟨A, c, rfl, hc, hm, hA⟩ := ha
  exact nat_Valid xs A c _ _ w hA (Nat.le_trans hc hm)

end Go.Proofs.YtagjimdplmimoaaGreat
/- Appending a slice that is there; contracts of nat.Int, and of Of, Int, fit of the reference. -/
namespace Go.Proofs.YtagjimdplmimoaaGreat
open Go.ChangeShapes Go.WideShapes Go.RowKit
set_option linter.unusedVariables false
set_option maxRecDepth 100000

theorem run_append_empty {P : Program} {w : World} (base : Nat) (t ty e : TypeId) (i : TypeInfo) (size c : Nat) (ht : P.underlying t = some (.slice e)) (hi : P.info? e = some i)
    (v : Value) (n : Nat) (xs : List Value) (hown : w.ownsRow base e size v n xs) :
    (Builtin.append_ #[t, t] ty #[v, .slice none 0 c]).run P w = .ok v w := by
  rcases hown.2 with ⟨rfl, rfl⟩ | ⟨g, cap, cur, rfl, _, _, hnc, _⟩
  · simp [Builtin.append_, run_underlying ht, sizeOf, typeInfo, hi, Builtin.lenOf, Builtin.firstCells]
  · simp [Builtin.append_, run_underlying ht, sizeOf, typeInfo, hi, Builtin.lenOf, Builtin.firstCells, hnc, storeCells]
theorem wpList_append_empty {P : Program} {w : World} {ops : Array Oper} {rest : List Oper} {o : Oper} {a : Act} {Q : Exit → Act → World → Prop} (hgd : o.guard = none) (s x : Operand) (t : TypeId)
    (ho : o.op = .call { callee := .builtin .append, args := #[s, x], argTypes := #[t, t] })
    (base : Nat) (e : TypeId) (i : TypeInfo) (size c : Nat) (ht : P.underlying t = some (.slice e)) (hi : P.info? e = some i)
    (v : Value) (n : Nat) (xs : List Value) (hs : a.eval s = v) (hown : w.ownsRow base e size v n xs) (hx : a.eval x = .slice none 0 c)
    (h : wpList P ops Q rest (a.put o.dst v) w) : wpList P ops Q (o :: rest) a w := by
  refine wpList_plain hgd fun K hK => ?_
  have hrun := run_append_empty (P := P) (w := w) base t o.type e i size c ht hi v n xs hown
  unfold Oper.wp
  simp [execOp, ho, resolve, invoke, builtin, hs, hx, hrun, Result.andThen]
  exact hK _ _ h

/-- 'append(s, x...)', s the call's own, x a slice of integers that is there. -/
theorem append_holds {w : World} {ops : Array Oper} {rest : List Oper} {o : Oper} {a : Act} {Q : Exit → Act → World → Prop} (hgd : o.guard = none) (s x : Operand)
    (ho : o.op = .call { callee := .builtin .append, args := #[s, x], argTypes := #[44, 44] })
    (base : Nat) (v : Value) (ds : List Int) (hs : a.eval s = v) (hown : w.ownsRow base 3 1 v ds.length (ds.map (Value.int .i64)))
    (lo hi : Nat) (A : Option Addr) (c : Nat) (zs : List Int) (m : Nat) (hm : m = zs.length) (hx : a.eval x = .slice A m c) (hz : Holds w lo hi A zs)
    (hlen : ds.length + zs.length ≤ 1000000) (hbase : base ≤ w.heap.size)
    (h : ∀ v' w', w'.ownsRow base 3 1 v' (ds ++ zs).length ((ds ++ zs).map (Value.int .i64)) → w.grownBy w' v.ownBlock → wpList Tryz.prog ops Q rest (a.put o.dst v') w') : wpList Tryz.prog ops Q (o :: rest) a w := by
  subst hm
  obtain ⟨i0, hi0, hz0, hz1, hz2⟩ := info_parts info_int
  cases A with
  | none =>
    have hnil : zs = [] := by
      cases zs with
      | nil => rfl
      | cons z zs => obtain ⟨b, off, hA, _⟩ := hz 0 z rfl; cases hA
    subst hnil
    refine wpList_append_empty hgd s x _ ho base 3 i0 1 c Tryz.underlying44 hi0 v ds.length _ hs hown hx (h v w (by simpa using hown) ⟨rfl, rfl, rfl, Nat.le_refl _, fun _ _ _ => rfl⟩)
  | some ad =>
    refine wpList_append_own w hgd s x _ ho base 3 i0 (.int .i64 0) 1 8 Tryz.underlying44 hi0 hz0 hz1 hz2 rfl (by decide) v ds.length _ hs hown ad zs.length c (zs.map (Value.int .i64)) hx (by simp) ?_ cells_ints (by unfold maxLen; omega) (by omega) hbase ?_
    · intro j u hj
      rw [List.getElem?_map] at hj
      cases hzj : zs[j]? with
      | none => rw [hzj] at hj; cases hj
      | some z =>
        obtain ⟨ad', he, hc⟩ := holds_cells hz (by rw [List.length_map]; exact Nat.lt_of_le_of_lt (Nat.zero_le j) (by rcases Nat.lt_or_ge j zs.length with h1 | h1; exact h1; rw [List.getElem?_eq_none h1] at hzj; cases hzj))
        cases he
        exact hc j u (by rw [List.getElem?_map]; exact hj)
    · intro v' w' hown' hg _
      exact h v' w' (by rw [List.length_append, List.map_append]; exact hown') hg

theorem own_empty (w : World) : (w.alloc (.cells #[] 3)).ownsRow w.heap.size 3 1 (.slice (some ⟨w.heap.size, 0, none⟩) 0 0) ([] : List Int).length (([] : List Int).map (Value.int .i64)) :=
  World.ownsRow_lit (base := w.heap.size) (e := 3) (size := 1) w #[] 0 (Nat.le_refl _) (by unfold maxLen; omega) rfl

def intV (xs : List Int) : Int := if validB xs then (if nval xs ≤ 1125899906842624 then nval xs else 0) else 0
def intE (xs : List Int) : Int := if validB xs then (if nval xs ≤ 1125899906842624 then 0 else 2) else 3
theorem long_big {xs : List Int} (hn : nrm xs = true) (h : 2 < xs.length) : 1000000000000000000 ≤ nval xs := by
  have hl := nrm_limbs hn
  have h0 := nval_nonneg (nrm_lok hn)
  have h1 : ¬ (limbs (nval xs).toNat).length ≤ 2 := by rw [← hl]; omega
  rw [limbs_len_le] at h1
  omega

set_option maxHeartbeats 1600000 in
theorem nat_Int (xs : List Int) (va : Value) (w : World) (ha : In w va xs) :
    Calls Tryz.prog 69 #[va] w fun e w' => e = .returned (.tuple #[.int .i64 (intV xs), .int .i64 (intE xs)]) ∧ w = w' := by
  obtain ⟨A, c, rfl, hc, hm, hA⟩ := ha
  have HA := Lib.hid hA
  have hm1 : xs.length ≤ 9223372036854775807 := Nat.le_trans hc hm
  clear hA hm
  cases hx : validB xs with
  | false =>
    have HV := Lib.hid (show intV xs = 0 by rw [intV, hx]; rfl)
    have HE := Lib.hid (show intE xs = 3 by rw [intE, hx]; rfl)
    go_enter Tryz.func69, Tryz.ntmps69
    go_wp2_with fail
    refine (nat_Valid xs A c _ _ w HA.out hm1).mono ?_
    rintro e w' ⟨rfl, rfl⟩
    go_wp2_with fail
    go_ret2
    exact ⟨ret_two HV.out.symm HE.out.symm, rfl⟩
  | true =>
    have hn := valid_nrm hx
    rcases Nat.lt_or_ge 2 xs.length with hl | hl
    · have hb := long_big hn hl
      have HV := Lib.hid (show intV xs = 0 by rw [intV, hx, if_pos rfl, if_neg (by omega)])
      have HE := Lib.hid (show intE xs = 2 by rw [intE, hx, if_pos rfl, if_neg (by omega)])
      have hl' : (2 : Int) < (xs.length : Int) := by omega
      clear hb hn
      go_enter Tryz.func69, Tryz.ntmps69
      go_wp2_with fail
      refine (nat_Valid xs A c _ _ w HA.out hm1).mono ?_
      rintro e w' ⟨rfl, rfl⟩
      go_wp2_with fail
      go_ret2
      exact ⟨ret_two HV.out.symm HE.out.symm, rfl⟩
    · have hl' : decide ((2 : Int) < (xs.length : Int)) = false := decide_eq_false (by omega)
      have hw := nat_word xs A c _ _ w HA.out (nrm_lok hn) hl
      rcases Int.lt_or_le 1125899906842624 (nval xs) with hb | hb
      · have HV := Lib.hid (show intV xs = 0 by rw [intV, hx, if_pos rfl, if_neg (by omega)])
        have HE := Lib.hid (show intE xs = 2 by rw [intE, hx, if_pos rfl, if_neg (by omega)])
        have HW := Lib.hid hw
        clear hw hn
        go_enter Tryz.func69, Tryz.ntmps69
        go_wp2_with fail
        refine (nat_Valid xs A c _ _ w HA.out hm1).mono ?_
        rintro e w' ⟨rfl, rfl⟩
        go_wp2_with fail
        refine HW.out.mono ?_
        rintro e w' ⟨rfl, rfl⟩
        go_wp2_with fail
        go_ret2
        exact ⟨ret_two HV.out.symm HE.out.symm, rfl⟩
      · have hb' : decide (1125899906842624 < nval xs) = false := decide_eq_false (by omega)
        have HV := Lib.hid (show intV xs = nval xs by rw [intV, hx, if_pos rfl, if_pos hb])
        have HE := Lib.hid (show intE xs = 0 by rw [intE, hx, if_pos rfl, if_pos hb])
        have HW := Lib.hid hw
        clear hw hn hb
        go_enter Tryz.func69, Tryz.ntmps69
        go_wp2_with fail
        refine (nat_Valid xs A c _ _ w HA.out hm1).mono ?_
        rintro e w' ⟨rfl, rfl⟩
        go_wp2_with fail
        refine HW.out.mono ?_
        rintro e w' ⟨rfl, rfl⟩
        go_wp2_with fail
        refine HW.out.mono ?_
        rintro e w' ⟨rfl, rfl⟩
        go_wp2_with fail
        go_ret2
        exact ⟨ret_two HV.out.symm HE.out.symm, rfl⟩
end Go.Proofs.YtagjimdplmimoaaGreat
/- Contracts of at, fit, Add, minus, Sub of the reference. -/
namespace Go.Proofs.YtagjimdplmimoaaGreat
open Go.ChangeShapes Go.WideShapes Go.RowKit
set_option linter.unusedVariables false
set_option maxRecDepth 100000

end Go.Proofs.YtagjimdplmimoaaGreat
/- Contracts of Add, minus, Sub of the reference; the walk of NatSums. -/
namespace Go.Proofs.YtagjimdplmimoaaGreat
open Go.ChangeShapes Go.WideShapes Go.RowKit
set_option linter.unusedVariables false
set_option maxRecDepth 100000

theorem lok_snoc {ds : List Int} {x : Int} (h : lok ds = true) (h0 : 0 ≤ x) (h1 : x < 1000000000) : lok (ds ++ [x]) = true := by
  rw [lok_append]; exact ⟨h, by simp [lok, h0, h1]⟩
theorem radd_step {xs ys ds : List Int} {k : Nat} {c T : Int} (hl : ds.length = k) (hv : nval ds + 1000000000 ^ k * (c + nval (xs.drop k) + nval (ys.drop k)) = T) :
    nval (ds ++ [(xs.getD k 0 + ys.getD k 0 + c) % 1000000000]) + 1000000000 ^ (k + 1) * ((xs.getD k 0 + ys.getD k 0 + c) / 1000000000 + nval (xs.drop (k + 1)) + nval (ys.drop (k + 1))) = T := by
  rw [nval_snoc, hl, ← hv, nval_drop_getD xs k, nval_drop_getD ys k, Int.pow_succ, Int.mul_assoc, Int.add_assoc, ← Int.mul_add]
  congr 2
  have e := Int.emod_add_mul_ediv (xs.getD k 0 + ys.getD k 0 + c) 1000000000
  omega
theorem drop_ge {xs : List Int} {k : Nat} (h : xs.length ≤ k) : nval (xs.drop k) = 0 := by rw [List.drop_eq_nil_of_le h]; rfl

end Go.Proofs.YtagjimdplmimoaaGreat
/- Contracts of minus and Sub of the reference; the walk of NatSums. -/
namespace Go.Proofs.YtagjimdplmimoaaGreat
open Go.ChangeShapes Go.WideShapes Go.RowKit
set_option linter.unusedVariables false
set_option maxRecDepth 100000

theorem rmin_step {xs ys ds : List Int} {k : Nat} {x y bo b' T : Int} (hl : ds.length = k) (hx : xs.getD k 0 = x) (hy : ys.getD k 0 = y) (hv : nval ds + 1000000000 ^ k * (nval (xs.drop k) - nval (ys.drop k) - bo) = T) :
    nval (ds ++ [x - y - bo + 1000000000 * b']) + 1000000000 ^ (k + 1) * (nval (xs.drop (k + 1)) - nval (ys.drop (k + 1)) - b') = T := by
  rw [nval_snoc, hl, ← hv, nval_drop_getD xs k, nval_drop_getD ys k, hx, hy, Int.pow_succ, Int.mul_assoc, Int.add_assoc, ← Int.mul_add]
  congr 2
  omega
theorem rmin_end {xs ys ds : List Int} {bo : Int} (hx : lok xs = true) (hy : lok ys = true) (hle : nval ys ≤ nval xs) (hdl : ds.length = xs.length) (hdk : lok ds = true) (b0 : 0 ≤ bo)
    (hv : nval ds + 1000000000 ^ xs.length * (nval (xs.drop xs.length) - nval (ys.drop xs.length) - bo) = nval xs - nval ys) : nval ds = nval xs - nval ys := by
  rw [List.drop_length] at hv
  have h1 := nval_nonneg (lok_drop hy xs.length)
  have h2 := nval_lt hdk
  rw [hdl] at h2
  have e0 : nval ([] : List Int) = 0 := rfl
  rw [e0] at hv
  rcases Int.lt_or_le 0 (nval (ys.drop xs.length) + bo) with h | h
  · exfalso
    have p := pow_pos' xs.length
    have : (1000000000 : Int) ^ xs.length * (0 - nval (ys.drop xs.length) - bo) ≤ 1000000000 ^ xs.length * (-1) := Int.mul_le_mul_of_nonneg_left (by omega) (Int.le_of_lt p)
    omega
  · have e : (0 : Int) - nval (ys.drop xs.length) - bo = 0 := by omega
    rw [e, Int.mul_zero] at hv
    omega

theorem one_cell (w : World) (t : TypeId) (x : Value) (j : Nat) (u : Value) (hj : [x][j]? = some u) : (w.alloc (.cells #[x] t)).cell? ((⟨w.heap.size, 0, none⟩ : Addr).add j) = some u := by
  match j, hj with
  | 0, hj =>
    obtain rfl : x = u := by simpa using hj
    show (w.alloc (.cells #[x] t)).cell? ⟨w.heap.size, 0, none⟩ = some x
    rw [cell_of_row _ w.heap.size 0 #[x] t (0, 0) (heap_alloc_new w _)]
    rfl

theorem sub_fit {xs ys : List Int} (hx : validB xs = true) (hy : validB ys = true) (hle : nval ys ≤ nval xs) : (nval xs - nval ys).toNat < 1000000000 ^ 48 := by
  have h0 := nval_nonneg (valid_lok hy)
  have hl := nrm_limbs (valid_nrm hx)
  have : (nval xs).toNat < 1000000000 ^ 48 := limbs_len_le.mp (by rw [← hl]; exact valid_len hx)
  exact Nat.lt_of_le_of_lt (by omega) this

theorem res_open {w w' : World} {N : Nat} {err : Int} {e : Ending} (h : Res w N err e w') : ∃ v, e = .returned (.tuple #[v, .int .i64 err]) ∧ In w' v (limbs N) ∧ Below w.heap.size w w' := by
  obtain ⟨v, h1, h2, h3⟩ := h; exact ⟨v, h1, h2.toIn, h3⟩
end Go.Proofs.YtagjimdplmimoaaGreat
/- Contracts of times and Mul of the reference. -/
namespace Go.Proofs.YtagjimdplmimoaaGreat
open Go.ChangeShapes Go.WideShapes Go.RowKit
set_option linter.unusedVariables false
set_option maxRecDepth 100000

theorem nval_set (P : List Int) : ∀ (j : Nat) (v : Int), j < P.length → nval (P.set j v) = nval P + 1000000000 ^ j * (v - P.getD j 0) := by
  induction P with
  | nil => intro j v h; simp at h
  | cons p P ih =>
    intro j v h
    cases j with
    | zero => simp [nval]; omega
    | succ j =>
      have i := ih j v (by simpa using h)
      have e : (p :: P).getD (j + 1) 0 = P.getD j 0 := by simp
      rw [List.set_cons_succ, nval, nval, i, e, Int.pow_succ, Int.mul_add, Int.mul_comm (1000000000 ^ j) 1000000000, Int.mul_assoc]; omega
theorem mul_bd2 {x y : Int} (h0 : 0 ≤ x) (h1 : x < 1000000000) (h2 : 0 ≤ y) (h3 : y < 1000000000) : 0 ≤ x * y ∧ x * y ≤ 999999998000000001 :=
  ⟨Int.mul_nonneg h0 h2, (mul_bd (by omega) h1 h2 h3).2⟩
theorem inner_step {P ys : List Int} {j k : Nat} {p x y c T : Int} (hj : j < P.length) (hp : P.getD j 0 = p) (hy : ys.getD k 0 = y) (hv : nval P + 1000000000 ^ j * (c + x * nval (ys.drop k)) = T) :
    nval (P.set j ((p + x * y + c) % 1000000000)) + 1000000000 ^ (j + 1) * ((p + x * y + c) / 1000000000 + x * nval (ys.drop (k + 1))) = T := by
  rw [nval_set P j _ hj, hp, ← hv, nval_drop_getD ys k, hy, Int.pow_succ, Int.mul_assoc, Int.add_assoc, ← Int.mul_add, Int.mul_add x]
  have e2 : x * (1000000000 * nval (ys.drop (k + 1))) = 1000000000 * (x * nval (ys.drop (k + 1))) := by rw [Int.mul_left_comm]
  rw [e2]
  congr 2
  have e := Int.emod_add_mul_ediv (p + x * y + c) 1000000000
  omega
/-- Behind the last limb nothing is carried. -/
theorem inner_top {P xs ys : List Int} {i k : Nat} {x c : Int} (hP : lok P = true) (hx : lok xs = true) (hy : lok ys = true) (hxi : xs[i]? = some x) (c0 : 0 ≤ c) (hk : ys.length ≤ k)
    (hv : nval P + 1000000000 ^ (i + k) * (c + x * nval (ys.drop k)) = nval (xs.take (i + 1)) * nval ys) : 0 < c → k = ys.length := by
  intro hc
  rw [drop_ge hk, Int.mul_zero, Int.add_zero] at hv
  have h0 := nval_nonneg hP
  have hi : i < xs.length := by
    rcases Nat.lt_or_ge i xs.length with h | h
    · exact h
    · rw [List.getElem?_eq_none h] at hxi; cases hxi
  have a := nval_lt (lok_take hx (i + 1))
  have a0 := nval_nonneg (lok_take hx (i + 1))
  have b := nval_lt hy
  have b0 := nval_nonneg hy
  rw [List.length_take, Nat.min_eq_left (by omega)] at a
  rcases Nat.lt_or_ge ys.length k with h | h
  · exfalso
    have p1 := pow_pos' (i + 1)
    have p2 := pow_pos' ys.length
    have m1 : nval (xs.take (i + 1)) * nval ys ≤ 1000000000 ^ (i + 1) * nval ys := Int.mul_le_mul_of_nonneg_right (Int.le_of_lt a) b0
    have m2 : (1000000000 : Int) ^ (i + 1) * nval ys < 1000000000 ^ (i + 1) * 1000000000 ^ ys.length := Int.mul_lt_mul_of_pos_left b p1
    rw [← Int.pow_add] at m2
    have m3 : (1000000000 : Int) ^ (i + 1 + ys.length) ≤ 1000000000 ^ (i + k) := pow_le_pow' (by omega)
    have m4 : (1000000000 : Int) ^ (i + k) * 1 ≤ 1000000000 ^ (i + k) * c := Int.mul_le_mul_of_nonneg_left (by omega) (Int.le_of_lt (pow_pos' _))
    omega
  · omega
theorem outer_next {P xs ys : List Int} {i : Nat} {x : Int} (hxi : xs[i]? = some x) (hv : nval P = nval (xs.take i) * nval ys) :
    nval P + 1000000000 ^ (i + 0) * (0 + x * nval (ys.drop 0)) = nval (xs.take (i + 1)) * nval ys := by
  have hi : i < xs.length := by
    rcases Nat.lt_or_ge i xs.length with h | h
    · exact h
    · rw [List.getElem?_eq_none h] at hxi; cases hxi
  rw [trim_step hxi, nval_snoc, List.length_take, Nat.min_eq_left (by omega), List.drop_zero, Nat.add_zero, Int.zero_add, hv, Int.add_mul, Int.mul_assoc]
theorem inner_end {P ys : List Int} {i k : Nat} {x c T : Int} (hk : ys.length ≤ k) (hc : c = 0) (hv : nval P + 1000000000 ^ (i + k) * (c + x * nval (ys.drop k)) = T) : nval P = T := by
  rw [drop_ge hk, hc] at hv; simpa using hv

end Go.Proofs.YtagjimdplmimoaaGreat
/- The contract of nat.takeOff. -/
namespace Go.Proofs.YtagjimdplmimoaaGreat
open Go.ChangeShapes Go.WideShapes Go.RowKit
set_option linter.unusedVariables false
set_option maxRecDepth 100000

/-- The last two limbs. -/
theorem nval_top {S : List Int} {l : Nat} {a0 a1 : Int} (hl : S.length = l + 2) (h0 : S[l]? = some a0) (h1 : S[l + 1]? = some a1) :
    nval S = nval (S.take l) + 1000000000 ^ l * (a0 + 1000000000 * a1) := by
  have e := nval_append (S.take l) (S.drop l)
  rw [List.take_append_drop, List.length_take, Nat.min_eq_left (by omega)] at e
  rw [e, nval_drop_step h0, nval_drop_step h1, List.drop_eq_nil_of_le (by omega)]
  simp [nval]
theorem nval_top1 {S : List Int} {l : Nat} {a0 : Int} (hl : S.length = l + 1) (h0 : S[l]? = some a0) :
    nval S = nval (S.take l) + 1000000000 ^ l * a0 := by
  have e := nval_append (S.take l) (S.drop l)
  rw [List.take_append_drop, List.length_take, Nat.min_eq_left (by omega)] at e
  rw [e, nval_drop_step h0, List.drop_eq_nil_of_le (by omega)]
  simp [nval]
/-- The guess is not too small. -/
theorem guess_ge {S ys : List Int} {l : Nat} {a0 a1 b1 : Int} (hS : lok S = true) (hy : lok ys = true) (hl : S.length = l + 2) (hly : ys.length = l + 1) (h0 : S[l]? = some a0) (h1 : S[l + 1]? = some a1) (hb : ys[l]? = some b1)
    (hb0 : 0 < b1) (hlt : nval S < 1000000000 * nval ys) :
    nval S / nval ys ≤ min ((a1 * 1000000000 + a0) / b1) 999999999 ∧ 0 ≤ nval S / nval ys ∧ 0 < nval ys := by
  have eS := nval_top hl h0 h1
  have eY := nval_top1 hly hb
  have s0 := nval_nonneg (lok_take hS l)
  have s1 := nval_lt (lok_take hS l)
  have y0 := nval_nonneg (lok_take hy l)
  rw [List.length_take, Nat.min_eq_left (by omega)] at s1
  have p := pow_pos' l
  obtain ⟨P, hP⟩ : ∃ P : Int, P = 1000000000 ^ l := ⟨_, rfl⟩
  rw [← hP] at eS eY s1 p
  have hpb : P * 1 ≤ P * b1 := Int.mul_le_mul_of_nonneg_left (by omega) (Int.le_of_lt p)
  have ypos : 0 < nval ys := by omega
  have snn := nval_nonneg hS
  have q0 : 0 ≤ nval S / nval ys := Int.ediv_nonneg snn (Int.le_of_lt ypos)
  obtain ⟨q, hq⟩ : ∃ q, q = nval S / nval ys := ⟨_, rfl⟩
  have hqS : q * nval ys ≤ nval S := by rw [hq]; exact Int.ediv_mul_le _ (by omega)
  rw [← hq] at q0 ⊢
  refine ⟨?_, q0, ypos⟩
  have h2 : q < 1000000000 := by
    rcases Int.lt_or_le q 1000000000 with h | h
    · exact h
    · have : 1000000000 * nval ys ≤ q * nval ys := Int.mul_le_mul_of_nonneg_right h (Int.le_of_lt ypos)
      omega
  have h3 : q ≤ (a1 * 1000000000 + a0) / b1 := by
    rw [Int.le_ediv_iff_mul_le hb0]
    have m1 : q * (P * b1) ≤ q * nval ys := Int.mul_le_mul_of_nonneg_left (by omega) q0
    have m2 : P * (q * b1) < P * (a1 * 1000000000 + a0 + 1) := by
      have e1 : P * (q * b1) = q * (P * b1) := by rw [Int.mul_left_comm]
      have e2 : P * (a1 * 1000000000 + a0 + 1) = P * (a0 + 1000000000 * a1) + P := by
        have : a1 * 1000000000 + a0 + 1 = (a0 + 1000000000 * a1) + 1 := by omega
        rw [this, Int.mul_add, Int.mul_one]
      omega
    have := Int.lt_of_mul_lt_mul_left m2 (Int.le_of_lt p)
    omega
  omega
/-- The last limb behind a subtraction. -/
theorem last_bd {T : List Int} {l : Nat} {z V : Int} (hd : lok T.dropLast = true) (hl : T.length = l + 1) (hz : T[l]? = some z) (hv : nval T = V) (h1 : -(1000000000 * 1000000000 ^ l) < V) (h2 : V < 1000000000 ^ (l + 1)) :
    -2000000000 < z ∧ z < 2000000000 ∧ (z < 0 ↔ V < 0) := by
  have e := nval_top1 hl hz
  have ht : T.take l = T.dropLast := by rw [List.dropLast_eq_take]; congr 1; omega
  have s0 := nval_nonneg hd
  have s1 := nval_lt hd
  have hdl : T.dropLast.length = l := by rw [List.length_dropLast]; omega
  rw [hdl] at s1
  rw [ht, hv] at e
  have p := pow_pos' l
  rw [Int.pow_succ] at h2
  obtain ⟨P, hP⟩ : ∃ P : Int, P = 1000000000 ^ l := ⟨_, rfl⟩
  rw [← hP] at e s1 p h1 h2
  have a1 : -2000000000 < z := by
    rcases Int.lt_or_le (-2000000000) z with h | h
    · exact h
    · have : P * z ≤ P * (-2000000000) := Int.mul_le_mul_of_nonneg_left h (Int.le_of_lt p)
      omega
  have a2 : z < 2000000000 := by
    rcases Int.lt_or_le z 2000000000 with h | h
    · exact h
    · have : P * 2000000000 ≤ P * z := Int.mul_le_mul_of_nonneg_left h (Int.le_of_lt p)
      omega
  refine ⟨a1, a2, ?_, ?_⟩
  · intro h
    have : P * z ≤ P * (-1) := Int.mul_le_mul_of_nonneg_left (by omega) (Int.le_of_lt p)
    omega
  · intro h
    rcases Int.lt_or_le z 0 with h3 | h3
    · exact h3
    · have := Int.mul_nonneg (Int.le_of_lt p) h3
      omega
theorem quo_of {S Y n : Int} (hy : 0 < Y) (hq : S / Y ≤ n) (hnn : 0 ≤ S - n * Y) : n = S / Y ∧ S - n * Y = S % Y := by
  have h1 : n ≤ S / Y := by rw [Int.le_ediv_iff_mul_le hy]; omega
  have e : n = S / Y := by omega
  refine ⟨e, ?_⟩
  have := Int.emod_add_mul_ediv S Y
  rw [e, Int.mul_comm]; omega
theorem take_state {S ys T : List Int} {l : Nat} {n z : Int} (hS : lok S = true) (hy : lok ys = true) (hl : S.length = l + 2) (hly : ys.length = l + 1) (hlt : nval S < 1000000000 * nval ys) (ypos : 0 < nval ys)
    (hT : T.length = l + 2) (hd : lok T.dropLast = true) (hv : nval T = nval S - n * nval ys) (hz : T[l + 1]? = some z) (n0 : 0 ≤ n) (n1 : n ≤ 999999999) :
    -2000000000 < z ∧ z < 2000000000 ∧ (z < 0 ↔ nval S - n * nval ys < 0) := by
  have y1 := nval_lt hy
  rw [hly] at y1
  have snn := nval_nonneg hS
  have s1 := nval_lt hS
  rw [hl] at s1
  have m : n * nval ys ≤ 999999999 * nval ys := Int.mul_le_mul_of_nonneg_right n1 (Int.le_of_lt ypos)
  have m0 : 0 ≤ n * nval ys := Int.mul_nonneg n0 (Int.le_of_lt ypos)
  have p := pow_pos' (l + 1)
  exact last_bd hd hT hz hv (by omega) (by rw [show l + 1 + 1 = l + 2 from rfl]; omega)
theorem take_last {S ys T : List Int} {l : Nat} (hy : lok ys = true) (hly : ys.length = l + 1) (ypos : 0 < nval ys) (hT : T.length = l + 2) (hd : lok T.dropLast = true) (hv : nval T = nval S % nval ys) : lok T = true := by
  have y1 := nval_lt hy
  rw [hly] at y1
  have h1 := Int.emod_nonneg (nval S) (show nval ys ≠ 0 by omega)
  have h2 := Int.emod_lt_of_pos (nval S) ypos
  refine lok_of_dropLast (by intro h; rw [h] at hT; simp at hT) hd (by omega) ?_
  rw [hT, hv]
  have : (1000000000 : Int) ^ (l + 1) ≤ 1000000000 ^ (l + 2) := pow_le_pow' (by omega)
  omega
end Go.Proofs.YtagjimdplmimoaaGreat
