/- Several texts in one: NatM, NatN, NatO, NatP, NatW1, NatW2, NatQ. -/
import Derived.Test.YtgmlccjjhmhgbaaPk3
import Derived.Laws.AppendOwnNone
/- Contracts of nat.divide of short numbers, of nat.DivMod, of nat.gcd of short numbers, of nat.Gcd. -/
namespace Go.Proofs.Ytgmlccjjhmhgbaa
open Go.ChangeShapes Go.WideShapes Go.RowKit
set_option linter.unusedVariables false
set_option maxRecDepth 100000

/-- What divide leaves: the limbs of the quotient and of the remainder. -/
def DivRes (w : World) (xs ys : List Int) (e : Ending) (w' : World) : Prop :=
  ∃ vq vr, e = .returned (.tuple #[vq, vr]) ∧ Sl w' w.heap.size w'.heap.size vq (limbs ((nval xs).toNat / (nval ys).toNat)) ∧ Sl w' w.heap.size w'.heap.size vr (limbs ((nval xs).toNat % (nval ys).toNat)) ∧ Below w.heap.size w w'
theorem nval_pos {ys : List Int} (hn : nrm ys = true) (hne : 0 < ys.length) : 0 < nval ys := by
  have := nval_pos_last hn (k := 0) hne
  rwa [List.drop_zero] at this
theorem padL_self (xs : List Int) : padL xs xs.length = xs := by simp [padL]

set_option maxHeartbeats 1600000 in
theorem divide_less (xs ys : List Int) (va vb : Value) (w : World) (ha : In w va xs) (hb : In w vb ys) (hx : nrm xs = true) (hy : nrm ys = true) (hlx : xs.length ≤ 100000) (hl : xs.length < ys.length) :
    Calls Try.prog 74 #[va, vb] w (DivRes w xs ys) := by
  obtain ⟨A, c, rfl, hc, hm, hA⟩ := ha
  obtain ⟨B, d, rfl, hd, hn, hB⟩ := hb
  have HA := Lib.hid hA
  have hlt := nrm_len hx hy hl
  have h0 := nval_nonneg (nrm_lok hx)
  have hxl := nrm_limbs hx
  have e1 : (nval xs).toNat / (nval ys).toNat = 0 := Nat.div_eq_of_lt (by omega)
  have e2 : (nval xs).toNat % (nval ys).toNat = (nval xs).toNat := Nat.mod_eq_of_lt (by omega)
  have E1 := Lib.hid e1
  have E2 := Lib.hid e2
  have HX := Lib.hid hxl
  have hl' : (xs.length : Int) < (ys.length : Int) := by omega
  clear hA hB hm hn hlt h0 hxl e1 e2 hx hy
  go_enter Try.func74, Try.ntmps74
  go_wp2_with fail
  refine (nat_copied xs A c xs.length _ _ w HA.out (Nat.le_refl _) (Nat.le_refl _) (by omega)).mono ?_
  rintro e w1 ⟨rfl, hrow, hbel⟩
  rw [padL_self] at hrow
  have HR := Lib.hid hrow
  have HB := Lib.hid hbel
  clear hrow hbel
  go_wp2_with fail
  go_ret2
  refine ⟨.slice none 0 0, .slice (some ⟨w.heap.size, 0, none⟩) xs.length xs.length, rfl, by rw [E1.out, limbs_zero]; exact Sl.nil _ _ _, ?_, HB.out⟩
  rw [E2.out, ← HX.out]
  exact ⟨_, _, rfl, Nat.le_refl _, by unfold maxLen; omega, HR.out.holds (fun k z hz => by rw [Nat.zero_add]; exact hz) (Nat.le_refl _) HR.out.lt⟩

set_option maxHeartbeats 1600000 in
theorem divide_two (xs ys : List Int) (va vb : Value) (w : World) (ha : In w va xs) (hb : In w vb ys) (hx : nrm xs = true) (hy : nrm ys = true) (hl2 : xs.length ≤ 2) (hp : 0 < ys.length) (hl : ys.length ≤ xs.length) :
    Calls Try.prog 74 #[va, vb] w (DivRes w xs ys) := by
  obtain ⟨A, c, rfl, hc, hm, hA⟩ := ha
  obtain ⟨B, d, rfl, hd, hn, hB⟩ := hb
  have WA := fun W => nat_word xs A c 0 w.heap.size W
  have hyl : ys.length ≤ 2 := by omega
  have hwa : Calls Try.prog 75 #[.slice A xs.length c] w fun e w' => e = .returned (.int .i64 (nval xs)) ∧ w = w' := nat_word xs A c _ _ w hA (nrm_lok hx) hl2
  have hwb : Calls Try.prog 75 #[.slice B ys.length d] w fun e w' => e = .returned (.int .i64 (nval ys)) ∧ w = w' := nat_word ys B d _ _ w hB (nrm_lok hy) hyl
  have hA' := hA
  have hB' := hB
  have sx := nval_small (nrm_lok hx) hl2
  have sy := nval_small (nrm_lok hy) hyl
  have py := nval_pos hy hp
  obtain ⟨M, hM⟩ : ∃ M, M = nval xs := ⟨_, rfl⟩
  obtain ⟨N, hN⟩ : ∃ N, N = nval ys := ⟨_, rfl⟩
  rw [← hM] at sx hwa
  rw [← hN] at sy py hwb
  have HM := Lib.hid hM
  have HN := Lib.hid hN
  have HWA := Lib.hid hwa
  have HWB := Lib.hid hwb
  have HAA := Lib.hid hA
  have HBB := Lib.hid hB
  have HXX := Lib.hid (nrm_lok hx)
  have HYY := Lib.hid (nrm_lok hy)
  have hl' : decide ((xs.length : Int) < (ys.length : Int)) = false := decide_eq_false (by omega)
  have hl2' : (xs.length : Int) ≤ 2 := by omega
  obtain ⟨sx0, sx1⟩ := sx
  obtain ⟨sy0, sy1⟩ := sy
  have n0 : ¬ N = 0 := by omega
  have n1 : (N == 0) = false := beq_false_of_ne n0
  have q0 : M.tdiv N = M / N := Int.tdiv_eq_ediv_of_nonneg sx0
  have r0 : M.tmod N = M % N := Int.tmod_eq_emod_of_nonneg sx0
  have q1 : 0 ≤ M / N := Int.ediv_nonneg sx0 sy0
  have q2 : M / N ≤ M := Int.ediv_le_self _ sx0
  have r1 : 0 ≤ M % N := Int.emod_nonneg _ n0
  have r2 : M % N < N := Int.emod_lt_of_pos _ py
  have eq1 : (M / N).toNat = M.toNat / N.toNat := by
    have e1 : M = (M.toNat : Int) := by omega
    have e2 : N = (N.toNat : Int) := by omega
    rw [e1, e2]; exact Int.toNat_natCast _
  have eq2 : (M % N).toNat = M.toNat % N.toNat := by
    have e1 : M = (M.toNat : Int) := by omega
    have e2 : N = (N.toNat : Int) := by omega
    rw [e1, e2]; exact Int.toNat_natCast _
  have EQ1 := Lib.hid eq1
  have EQ2 := Lib.hid eq2
  clear WA hA hB hA' hB' hM hN hwa hwb hx hy hm hn eq1 eq2
  go_enter Try.func74, Try.ntmps74
  go_wp2_with fail
  refine HWA.out.mono ?_
  rintro e w' ⟨rfl, rfl⟩
  go_wp2_with fail
  refine HWB.out.mono ?_
  rintro e w' ⟨rfl, rfl⟩
  go_wp2_with fail
  refine (nat_ofWord (M / N) w (by omega) (by omega)).mono ?_
  rintro e w1 ⟨vq, rfl, hsq, hb1⟩
  have hwa : Calls Try.prog 75 #[.slice A xs.length c] w1 fun e w' => e = .returned (.int .i64 M) ∧ w1 = w' := by
    rw [HM.out]; exact nat_word xs A c _ _ w1 (HAA.out.below hb1 (Nat.le_refl _)) HXX.out hl2
  have hwb : Calls Try.prog 75 #[.slice B ys.length d] w1 fun e w' => e = .returned (.int .i64 N) ∧ w1 = w' := by
    rw [HN.out]; exact nat_word ys B d _ _ w1 (HBB.out.below hb1 (Nat.le_refl _)) HYY.out hyl
  have HWA1 := Lib.hid hwa
  have HWB1 := Lib.hid hwb
  have HSQ := Lib.hid hsq
  have HB1 := Lib.hid hb1
  clear hwa hwb hsq hb1
  go_wp2_with fail
  refine HWA1.out.mono ?_
  rintro e w' ⟨rfl, rfl⟩
  go_wp2_with fail
  refine HWB1.out.mono ?_
  rintro e w' ⟨rfl, rfl⟩
  go_wp2_with fail
  refine (nat_ofWord (M % N) w1 (by omega) (by omega)).mono ?_
  rintro e w2 ⟨vr, rfl, hsr, hb2⟩
  have HSR := Lib.hid hsr
  have HB2 := Lib.hid hb2
  clear hsr hb2
  go_wp2_with fail
  go_ret2
  have hs := HB1.out.size
  have hs2 := HB2.out.size
  refine ⟨vq, vr, rfl, ?_, ?_, HB1.out.trans (HB2.out.mono hs)⟩
  · rw [← HM.out, ← HN.out, ← EQ1.out]; exact (HSQ.out.below HB2.out (Nat.le_refl _)).more (Nat.le_refl _) hs2
  · rw [← HM.out, ← HN.out, ← EQ2.out]; exact HSR.out.more hs (Nat.le_refl _)
end Go.Proofs.Ytgmlccjjhmhgbaa
/- Contracts of nat.DivMod and nat.Gcd out of those of divide and gcd; of nat.gcd where the second number is short. -/
namespace Go.Proofs.Ytgmlccjjhmhgbaa
open Go.ChangeShapes Go.WideShapes Go.RowKit
set_option linter.unusedVariables false
set_option maxRecDepth 100000

def divOk (xs ys : List Int) : Bool := both xs ys && !ys.isEmpty
def quoN (xs ys : List Int) : Nat := if divOk xs ys then (nval xs).toNat / (nval ys).toNat else 0
def remN (xs ys : List Int) : Nat := if divOk xs ys then (nval xs).toNat % (nval ys).toNat else 0
def divE (xs ys : List Int) : Int := if both xs ys then (if ys.isEmpty then 16 else 0) else 3
def DmRes (w : World) (xs ys : List Int) (e : Ending) (w' : World) : Prop :=
  ∃ vq vr, e = .returned (.tuple #[vq, vr, .int .i64 (divE xs ys)]) ∧ Sl w' w.heap.size w'.heap.size vq (limbs (quoN xs ys)) ∧ Sl w' w.heap.size w'.heap.size vr (limbs (remN xs ys)) ∧ Below w.heap.size w w'
theorem DmRes.none {w w' : World} {xs ys : List Int} {k : Int} {e : Ending} (hq : divOk xs ys = false) (hk : divE xs ys = k) (h : e = .returned (.tuple #[.slice none 0 0, .slice none 0 0, .int .i64 k])) (hb : Below w.heap.size w w') : DmRes w xs ys e w' := by
  subst hk h
  refine ⟨_, _, rfl, ?_, ?_, hb⟩
  · rw [quoN, hq]; exact (by show Sl _ _ _ _ (limbs 0); rw [limbs_zero]; exact Sl.nil _ _ _)
  · rw [remN, hq]; exact (by show Sl _ _ _ _ (limbs 0); rw [limbs_zero]; exact Sl.nil _ _ _)

set_option maxHeartbeats 1600000 in
theorem DivMod_of (xs ys : List Int) (va vb : Value) (w : World) (ha : In w va xs) (hb : In w vb ys)
    (hdiv : validB xs = true → validB ys = true → 0 < ys.length → Calls Try.prog 74 #[va, vb] w (DivRes w xs ys)) :
    Calls Try.prog 52 #[va, vb] w (DmRes w xs ys) := by
  obtain ⟨A, c, rfl, hc, hm, hA⟩ := ha
  obtain ⟨B, d, rfl, hd, hn, hB⟩ := hb
  have HA := Lib.hid hA
  have HB := Lib.hid hB
  have HDIV := Lib.hid hdiv
  have hm1 : xs.length ≤ 9223372036854775807 := Nat.le_trans hc hm
  have hm2 : ys.length ≤ 9223372036854775807 := Nat.le_trans hd hn
  clear hA hB hm hn hdiv
  rcases both_cases xs ys with ⟨hx, hbo⟩ | ⟨hx, hy, hbo⟩ | ⟨hx, hy, hbo⟩
  · have HBO := Lib.hid hbo
    clear hbo
    go_enter Try.func52, Try.ntmps52
    go_wp2_with fail
    refine (nat_Valid xs A c _ _ w HA.out hm1).mono ?_
    rintro e w' ⟨rfl, rfl⟩
    go_wp2_with fail
    go_ret3
    exact DmRes.none (by rw [divOk, HBO.out]; rfl) (by rw [divE, HBO.out]; rfl) rfl (Below.refl _ _)
  · have HBO := Lib.hid hbo
    clear hbo
    go_enter Try.func52, Try.ntmps52
    go_wp2_with fail
    refine (nat_Valid xs A c _ _ w HA.out hm1).mono ?_
    rintro e w' ⟨rfl, rfl⟩
    go_wp2_with fail
    refine (nat_Valid ys B d _ _ _ HB.out hm2).mono ?_
    rintro e w' ⟨rfl, rfl⟩
    go_wp2_with fail
    go_ret3
    exact DmRes.none (by rw [divOk, HBO.out]; rfl) (by rw [divE, HBO.out]; rfl) rfl (Below.refl _ _)
  · have HBO := Lib.hid hbo
    clear hbo
    rcases Nat.eq_zero_or_pos ys.length with h0 | hp
    · have hn : ys = [] := List.eq_nil_of_length_eq_zero h0
      subst hn
      go_enter Try.func52, Try.ntmps52
      go_wp2_with fail
      refine (nat_Valid xs A c _ _ w HA.out hm1).mono ?_
      rintro e w' ⟨rfl, rfl⟩
      go_wp2_with fail
      refine (nat_Valid [] B d _ _ _ HB.out hm2).mono ?_
      rintro e w' ⟨rfl, rfl⟩
      go_wp2_with fail
      go_ret3
      exact DmRes.none (by rw [divOk, HBO.out]; rfl) (by rw [divE, HBO.out]; rfl) rfl (Below.refl _ _)
    · have hne : ((ys.length : Int) == 0) = false := beq_false_of_ne (by omega)
      have he : ys.isEmpty = false := by cases ys with
        | nil => simp at hp
        | cons a l => rfl
      have HE := Lib.hid he
      have hcall := HDIV.out hx hy hp
      have HCALL := Lib.hid hcall
      clear he hcall
      go_enter Try.func52, Try.ntmps52
      go_wp2_with fail
      refine (nat_Valid xs A c _ _ w HA.out hm1).mono ?_
      rintro e w' ⟨rfl, rfl⟩
      go_wp2_with fail
      refine (nat_Valid ys B d _ _ _ HB.out hm2).mono ?_
      rintro e w' ⟨rfl, rfl⟩
      go_wp2_with fail
      refine HCALL.out.mono ?_
      rintro e w' ⟨vq, vr, rfl, hq, hr, hb⟩
      have HQ := Lib.hid hq
      have HR := Lib.hid hr
      have HBL := Lib.hid hb
      clear hq hr hb
      go_wp2_with fail
      go_ret3
      have ho : divOk xs ys = true := by rw [divOk, HBO.out, HE.out]; rfl
      have hk : divE xs ys = 0 := by rw [divE, HBO.out, HE.out]; rfl
      exact ⟨vq, vr, by rw [hk]; rfl, by rw [quoN, ho]; exact HQ.out, by rw [remN, ho]; exact HR.out, HBL.out⟩

/-- What gcd leaves. -/
def GcdRes (w : World) (N : Nat) (e : Ending) (w' : World) : Prop :=
  ∃ v, e = .returned v ∧ Sl w' w.heap.size w'.heap.size v (limbs N) ∧ Below w.heap.size w w'
theorem gcd_step (a b : Nat) : Nat.gcd b (a % b) = Nat.gcd a b := by rw [Nat.gcd_comm b, ← Nat.gcd_rec, Nat.gcd_comm]
theorem gcd_words (a b : Nat) (h : 0 < b) : Nat.gcd b (a % b) = Nat.gcd a b := gcd_step a b

set_option maxHeartbeats 1600000 in
theorem gcd_short (xs ys : List Int) (va vb : Value) (w : World) (ha : In w va xs) (hb : In w vb ys) (hx : nrm xs = true) (hy : nrm ys = true) (hlx : xs.length ≤ 100000) (hl2 : ys.length ≤ 2)
    (hdiv : 0 < ys.length → Calls Try.prog 74 #[va, vb] w (DivRes w xs ys)) :
    Calls Try.prog 76 #[va, vb] w (GcdRes w (Nat.gcd (nval xs).toNat (nval ys).toNat)) := by
  obtain ⟨A, c, rfl, hc, hm, hA⟩ := ha
  obtain ⟨B, d, rfl, hd, hn, hB⟩ := hb
  have HA := Lib.hid hA
  have HB := Lib.hid hB
  have hl2' : decide ((2 : Int) < (ys.length : Int)) = false := decide_eq_false (by omega)
  have HX := Lib.hid hx
  have HY := Lib.hid hy
  rcases Nat.eq_zero_or_pos ys.length with h0 | hp
  · have hnil : ys = [] := List.eq_nil_of_length_eq_zero h0
    subst hnil
    have HXL := Lib.hid (nrm_limbs hx)
    clear hA hB hm hn hdiv hx hy
    go_enter Try.func76, Try.ntmps76
    go_wp2_with fail
    refine wp_loop_rounds 1 ?_
    rw [rounds_succ]
    go_wp2_with fail
    refine (nat_copied xs A c xs.length _ _ w HA.out (Nat.le_refl _) (Nat.le_refl _) (by omega)).mono ?_
    rintro e w1 ⟨rfl, hrow, hbel⟩
    rw [padL_self] at hrow
    have HR := Lib.hid hrow
    have HBL := Lib.hid hbel
    clear hrow hbel
    go_wp2_with fail
    go_ret
    refine ⟨_, rfl, ?_, HBL.out⟩
    have e : (nval []).toNat = 0 := rfl
    rw [e, Nat.gcd_zero_right, ← HXL.out]
    exact ⟨_, _, rfl, Nat.le_refl _, by unfold maxLen; omega, HR.out.holds (fun k z hz => by rw [Nat.zero_add]; exact hz) (Nat.le_refl _) HR.out.lt⟩
  · have hne : ((ys.length : Int) == 0) = false := beq_false_of_ne (by omega)
    have HDIV := Lib.hid (hdiv hp)
    have sy := nval_small (nrm_lok hy) hl2
    have py := nval_pos hy hp
    obtain ⟨M, hM⟩ : ∃ M, M = (nval ys).toNat := ⟨_, rfl⟩
    obtain ⟨N, hN⟩ : ∃ N, N = (nval xs).toNat := ⟨_, rfl⟩
    have eM : nval ys = (M : Int) := by omega
    have hM1 : M < 1000000000000000000 := by omega
    have hM0 : 0 < M := by omega
    have hr2 : (limbs (N % M)).length ≤ 2 := limbs_len_le.mpr (by have := Nat.mod_lt N hM0; omega)
    have HM := Lib.hid hM
    have HN := Lib.hid hN
    have EM := Lib.hid eM
    have HR2 := Lib.hid hr2
    clear hA hB hm hn hdiv hx hy sy py hM hN eM hr2
    go_enter Try.func76, Try.ntmps76
    go_wp2_with fail
    refine wp_loop_rounds 1 ?_
    rw [rounds_succ]
    go_wp2_with fail
    refine HDIV.out.mono ?_
    rintro e w1 ⟨vq, vr, rfl, -, hr, hb⟩
    rw [← HM.out, ← HN.out] at hr
    obtain ⟨A2, c2, rfl, hc2, hm2, hA2⟩ := hr
    have hwb : Calls Try.prog 75 #[.slice B ys.length d] w1 fun e w' => e = .returned (.int .i64 M) ∧ w1 = w' := by
      rw [← EM.out]; exact nat_word ys B d _ _ w1 (Holds.below HB.out hb (Nat.le_refl _)) (nrm_lok HY.out) hl2
    have hwr : Calls Try.prog 75 #[.slice A2 (limbs (N % M)).length c2] w1 fun e w' => e = .returned (.int .i64 ((N % M : Nat) : Int)) ∧ w1 = w' := by
      have := nat_word (limbs (N % M)) A2 c2 _ _ w1 hA2 (lok_limbs _) HR2.out
      rw [nval_limbs] at this; exact this
    have HWB := Lib.hid hwb
    have HWR := Lib.hid hwr
    have HBL := Lib.hid hb
    clear hwb hwr hb hA2 hm2
    go_wp2_with fail
    refine HWB.out.mono ?_
    rintro e w' ⟨rfl, rfl⟩
    go_wp2_with fail
    refine HWR.out.mono ?_
    rintro e w' ⟨rfl, rfl⟩
    go_wp2_with fail
    go_loopw [7, 8] (fun m n wr => ∃ a b : Nat, m = .int .i64 a ∧ n = .int .i64 b ∧ a < 1000000000000000000 ∧ b < 1000000000000000000 ∧ Nat.gcd a b = Nat.gcd N M ∧ Below w.heap.size w wr) (fun _ n _ => (intOf n).toNat)
    case atStart => exact ⟨M, N % M, rfl, rfl, hM1, by have := Nat.mod_lt N hM0; omega, gcd_step _ _, HBL.out⟩
    case round =>
      obtain ⟨a, b, rfl, rfl, ha1, hb1, hg, hbel⟩ := hrel
      have HG := Lib.hid hg
      have HBL2 := Lib.hid hbel
      clear hg hbel
      rcases Nat.eq_zero_or_pos b with rfl | hb0
      · have hg := HG.out
        rw [Nat.gcd_zero_right] at hg
        have HG2 := Lib.hid hg
        clear hg
        go_wp2_with fail
        refine (nat_ofWord (a : Int) wr (by omega) (by omega)).mono ?_
        rintro e w2 ⟨v, rfl, hsl, hb2⟩
        rw [Int.toNat_natCast, HG2.out] at hsl
        have HSL := Lib.hid hsl
        have HB2 := Lib.hid hb2
        clear hsl hb2
        go_wp2_with fail
        go_ret
        have hs := HBL2.out.size
        refine ⟨_, rfl, ?_, HBL2.out.trans (HB2.out.mono hs)⟩
        rw [← HM.out, ← HN.out]
        exact HSL.out.more hs (Nat.le_refl _)
      · have hb2 : ((b : Int) != 0) = true := by simp; omega
        have hb3 : ¬ (b : Int) = 0 := by omega
        have hb4 : ((b : Int) == 0) = false := beq_false_of_ne hb3
        have hr : (a : Int).tmod (b : Int) = ((a % b : Nat) : Int) := by rw [Int.tmod_eq_emod_of_nonneg (by omega)]; rfl
        have hlt := Nat.mod_lt a hb0
        go_wp2_with fail
        go_quiet (fail)
        go_wp2_with fail
        go_roundw
        case rel => exact ⟨b, a % b, rfl, rfl, hb1, by omega, by rw [gcd_step]; exact HG.out, below_drewN HBL2.out _⟩
        case measure => simp [intOf]; omega
end Go.Proofs.Ytgmlccjjhmhgbaa
/- Contract of nat.Gcd out of that of gcd; Same at opaque slices; 'awake'. -/
namespace Go.Proofs.Ytgmlccjjhmhgbaa
open Go.ChangeShapes Go.WideShapes Go.RowKit
set_option linter.unusedVariables false
set_option maxRecDepth 100000

def gcdN (xs ys : List Int) : Nat := if both xs ys then Nat.gcd (nval xs).toNat (nval ys).toNat else 0

set_option maxHeartbeats 1600000 in
theorem Gcd_of (xs ys : List Int) (va vb : Value) (w : World) (ha : In w va xs) (hb : In w vb ys)
    (hgcd : validB xs = true → validB ys = true → Calls Try.prog 76 #[va, vb] w (GcdRes w (Nat.gcd (nval xs).toNat (nval ys).toNat))) :
    Calls Try.prog 55 #[va, vb] w (Res w (gcdN xs ys) (formE xs ys)) := by
  obtain ⟨A, c, rfl, hc, hm, hA⟩ := ha
  obtain ⟨B, d, rfl, hd, hn, hB⟩ := hb
  have HA := Lib.hid hA
  have HB := Lib.hid hB
  have HG := Lib.hid hgcd
  have hm1 : xs.length ≤ 9223372036854775807 := Nat.le_trans hc hm
  have hm2 : ys.length ≤ 9223372036854775807 := Nat.le_trans hd hn
  clear hA hB hm hn hgcd
  rcases both_cases xs ys with ⟨hx, hbo⟩ | ⟨hx, hy, hbo⟩ | ⟨hx, hy, hbo⟩
  · have HBO := Lib.hid hbo
    clear hbo
    go_enter Try.func55, Try.ntmps55
    go_wp2_with fail
    refine (nat_Valid xs A c _ _ w HA.out hm1).mono ?_
    rintro e w' ⟨rfl, rfl⟩
    go_wp2_with fail
    go_ret2
    exact Res.none (by rw [gcdN, HBO.out]; rfl) (by rw [formE, HBO.out]; rfl) rfl (Below.refl _ _)
  · have HBO := Lib.hid hbo
    clear hbo
    go_enter Try.func55, Try.ntmps55
    go_wp2_with fail
    refine (nat_Valid xs A c _ _ w HA.out hm1).mono ?_
    rintro e w' ⟨rfl, rfl⟩
    go_wp2_with fail
    refine (nat_Valid ys B d _ _ _ HB.out hm2).mono ?_
    rintro e w' ⟨rfl, rfl⟩
    go_wp2_with fail
    go_ret2
    exact Res.none (by rw [gcdN, HBO.out]; rfl) (by rw [formE, HBO.out]; rfl) rfl (Below.refl _ _)
  · have HBO := Lib.hid hbo
    have HCALL := Lib.hid (HG.out hx hy)
    clear hbo
    go_enter Try.func55, Try.ntmps55
    go_wp2_with fail
    refine (nat_Valid xs A c _ _ w HA.out hm1).mono ?_
    rintro e w' ⟨rfl, rfl⟩
    go_wp2_with fail
    refine (nat_Valid ys B d _ _ _ HB.out hm2).mono ?_
    rintro e w' ⟨rfl, rfl⟩
    go_wp2_with fail
    refine HCALL.out.mono ?_
    rintro e w' ⟨v, rfl, hs, hb⟩
    have HS := Lib.hid hs
    have HBL := Lib.hid hb
    clear hs hb
    go_wp2_with fail
    go_ret2
    exact ⟨v, by rw [formE, HBO.out]; rfl, by rw [gcdN, HBO.out]; exact HS.out, HBL.out⟩

theorem same_in (xs ys : List Int) (va vb : Value) (w : World) (ha : In w va xs) (hb : In w vb ys) :
    Calls Try.prog 26 #[va, vb] w fun e w' => e = .returned (.bool (decide (xs = ys))) ∧ Below w.heap.size w w' := by
  obtain ⟨A, c, rfl, hc, hm, hA⟩ := ha
  obtain ⟨B, d, rfl, hd, hn, hB⟩ := hb
  exact ref_Same xs ys A B c d _ _ _ _ w hA hB (Nat.le_refl _) (Nat.le_refl _) (Nat.le_trans hc hm) (Nat.le_trans hd hn)
theorem in_built (w : World) (t : TypeId) (zs : List Int) (hz : zs.length ≤ 1000) : In (w.alloc (.cells (zs.map (Value.int .i64)).toArray t)) (.slice (some ⟨w.heap.size, 0, none⟩) zs.length zs.length) zs := by
  refine ⟨_, _, rfl, Nat.le_refl _, by unfold maxLen; omega, ?_⟩
  have hr : Row (w.alloc (.cells (zs.map (Value.int .i64)).toArray t)) w.heap.size zs := row_of_heap (heap_alloc_new w _)
  exact hr.holds (fun k z hk => by rw [Nat.zero_add]; exact hk) (Nat.zero_le _) hr.lt
theorem below_alloc (w : World) (o : Obj) : Below w.heap.size w (w.alloc o) := (Below.refl _ _).alloc (Nat.le_refl _) _
theorem divide_short (xs ys : List Int) (va vb : Value) (w : World) (ha : In w va xs) (hb : In w vb ys) (hx : nrm xs = true) (hy : nrm ys = true) (hl2 : xs.length ≤ 2) (hp : 0 < ys.length) :
    Calls Try.prog 74 #[va, vb] w (DivRes w xs ys) := by
  rcases Nat.lt_or_ge xs.length ys.length with h | h
  · exact divide_less xs ys va vb w ha hb hx hy (by omega) h
  · exact divide_two xs ys va vb w ha hb hx hy hl2 hp h
theorem aw1 : limbs (1000000007 : Int).toNat = [7, 1] := by
  show limbs 1000000007 = _
  rw [limbs_pos (by decide), limbs_pos (by decide), limbs]; rfl
theorem aw2 : mulV [7, 1] [3] = 3000000021 := by decide +kernel
theorem aw3 : mulE [7, 1] [3] = 0 := by decide +kernel
theorem aw2' : limbs 3000000021 = [21, 3] := by
  rw [limbs_pos (by decide), limbs_pos (by decide), limbs]; rfl
theorem aw4 : quoN [21, 3] [4] = 750000005 := by decide +kernel
theorem aw5 : remN [21, 3] [4] = 1 := by decide +kernel
theorem aw6 : divE [21, 3] [4] = 0 := by decide +kernel
theorem aw4' : limbs 750000005 = [750000005] := by rw [limbs_pos (by decide), limbs]; rfl
theorem aw5' : limbs 1 = [1] := by rw [limbs_pos (by decide), limbs]; rfl
theorem aw7 : gcdN [12] [18] = 6 := by decide +kernel
theorem aw8 : formE [12] [18] = 0 := by decide +kernel
theorem aw7' : limbs 6 = [6] := by rw [limbs_pos (by decide), limbs]; rfl
theorem aw9 : textV [21, 3] = ⟨#[51, 48, 48, 48, 48, 48, 48, 48, 50, 49]⟩ := by
  have e : (nval [21, 3]).toNat = 3000000021 := by decide +kernel
  have v : validB [21, 3] = true := by decide +kernel
  rw [textV, v, e]
  show decS 3000000021 = _
  have h := dec_next (x := 21) (q := 3) (by decide) (by decide)
  have h3 : Lib.decDigits 3 = [51] := by rw [Lib.decDigits_one (by decide)]; rfl
  rw [h3] at h
  have e2 : (21 + 1000000000 * 3) = 3000000021 := by decide
  rw [e2] at h
  unfold decS
  rw [h]; rfl
theorem aw10 : oneE [21, 3] = 0 := by decide +kernel
theorem aw11 : parN [48, 48, 55] = 0 := by decide +kernel
theorem aw12 : parE [48, 48, 55] = 3 := by decide +kernel
end Go.Proofs.Ytgmlccjjhmhgbaa
/- The contract of 'awake'. -/
namespace Go.Proofs.Ytgmlccjjhmhgbaa
open Go.ChangeShapes Go.WideShapes Go.RowKit
set_option linter.unusedVariables false
set_option maxRecDepth 100000

theorem bstep {w0 w1 w2 : World} (h : Below w0.heap.size w0 w1) (k : Below w1.heap.size w1 w2) : Below w0.heap.size w0 w2 := h.trans (k.mono h.size)
theorem balloc {w0 w1 : World} (h : Below w0.heap.size w0 w1) (o : Obj) : Below w0.heap.size w0 (w1.alloc o) := h.alloc h.size _
theorem In.alloc {w : World} {v : Value} {zs : List Int} (h : In w v zs) (o : Obj) : In (w.alloc o) v zs := h.below (below_alloc _ _) (Nat.le_refl _)
theorem In.on {w w' : World} {v : Value} {zs : List Int} (h : In w v zs) (hb : Below w.heap.size w w') : In w' v zs := h.below hb (Nat.le_refl _)
theorem in_one (w : World) (t : TypeId) (x : Int) : In (w.alloc (.cells #[.int .i64 x] t)) (.slice (some ⟨w.heap.size, 0, none⟩) 1 1) [x] := in_built w t [x] (by simp)
theorem in_two (w : World) (t : TypeId) (x y : Int) : In (w.alloc (.cells #[.int .i64 x, .int .i64 y] t)) (.slice (some ⟨w.heap.size, 0, none⟩) 2 2) [x, y] := in_built w t [x, y] (by simp)

theorem aw_Of (w : World) : Calls Try.prog 63 #[.int .i64 1000000007] w fun e w' => ∃ v, e = .returned (.tuple #[v, .int .i64 0]) ∧ In w' v [7, 1] ∧ Below w.heap.size w w' := by
  refine (nat_Of 1000000007 w (by omega) (by omega)).mono ?_
  rintro e w1 ⟨va, rfl, hsa, hb1⟩
  rw [aw1] at hsa
  exact ⟨va, rfl, hsa.toIn, hb1⟩
theorem aw_Mul (w : World) (va : Value) (h : In w va [7, 1]) : Calls Try.prog 59 #[va, .slice (some ⟨w.heap.size, 0, none⟩) 1 1] (w.alloc (.cells #[.int .i64 3] 3)) fun e w' => ∃ v, e = .returned (.tuple #[v, .int .i64 0]) ∧ In w' v [21, 3] ∧ Below w.heap.size w w' := by
  refine (nat_Mul [7, 1] [3] _ _ _ (h.alloc _) (in_one _ _ 3)).mono ?_
  rintro e w2 ⟨vb, rfl, hsb, hb2⟩
  rw [aw2, aw2'] at hsb
  rw [aw3]
  exact ⟨vb, rfl, hsb.toIn, bstep (below_alloc _ _) hb2⟩
theorem nrm1 : nrm [21, 3] = true := by decide +kernel
theorem nrm2 : nrm [4] = true := by decide +kernel
theorem nrm3 : nrm [12] = true := by decide +kernel
theorem nrm4 : nrm [18] = true := by decide +kernel
theorem aw_DivMod (w : World) (va : Value) (h : In w va [21, 3]) : Calls Try.prog 52 #[va, .slice (some ⟨w.heap.size, 0, none⟩) 1 1] (w.alloc (.cells #[.int .i64 4] 3)) fun e w' => ∃ vq vr, e = .returned (.tuple #[vq, vr, .int .i64 0]) ∧ In w' vq [750000005] ∧ In w' vr [1] ∧ Below w.heap.size w w' := by
  refine (DivMod_of [21, 3] [4] _ _ _ (h.alloc _) (in_one _ _ 4) (fun _ _ _ => divide_short [21, 3] [4] _ _ _ (h.alloc _) (in_one _ _ 4) nrm1 nrm2 (by simp) (by simp))).mono ?_
  rintro e w3 ⟨vq, vr, rfl, hq, hr, hb3⟩
  rw [aw4, aw4'] at hq
  rw [aw5, aw5'] at hr
  rw [aw6]
  exact ⟨vq, vr, rfl, hq.toIn, hr.toIn, bstep (below_alloc _ _) hb3⟩
theorem aw_Gcd (w : World) : Calls Try.prog 55 #[.slice (some ⟨w.heap.size, 0, none⟩) 1 1, .slice (some ⟨w.heap.size + 1, 0, none⟩) 1 1] ((w.alloc (.cells #[.int .i64 12] 3)).alloc (.cells #[.int .i64 18] 3)) fun e w' => ∃ v, e = .returned (.tuple #[v, .int .i64 0]) ∧ In w' v [6] ∧ Below w.heap.size w w' := by
  have hi1 := (in_one w 3 12).alloc (.cells #[.int .i64 18] 3)
  have hi2 := in_one (w.alloc (.cells #[.int .i64 12] 3)) 3 18
  have hs : (w.alloc (.cells #[.int .i64 12] 3)).heap.size = w.heap.size + 1 := by simp
  rw [hs] at hi2
  refine (Gcd_of [12] [18] _ _ _ hi1 hi2 (fun _ _ => gcd_short [12] [18] _ _ _ hi1 hi2 nrm3 nrm4 (by simp) (by simp) (fun _ => divide_short [12] [18] _ _ _ hi1 hi2 nrm3 nrm4 (by simp) (by simp)))).mono ?_
  rintro e w4 ⟨vg, rfl, hg, hb4⟩
  rw [aw7, aw7'] at hg
  rw [aw8]
  exact ⟨vg, rfl, hg.toIn, bstep (balloc (below_alloc _ _) _) hb4⟩
theorem aw_Same1 (w : World) (va : Value) (x : Int) (h : In w va [x]) : Calls Try.prog 26 #[va, .slice (some ⟨w.heap.size, 0, none⟩) 1 1] (w.alloc (.cells #[.int .i64 x] 3)) fun e w' => e = .returned (.bool true) ∧ Below w.heap.size w w' := by
  refine (same_in [x] [x] _ _ _ (h.alloc _) (in_one _ _ x)).mono ?_
  rintro e w1 ⟨rfl, hb⟩
  exact ⟨by rw [decide_eq_true rfl], bstep (below_alloc _ _) hb⟩
theorem aw_Same2 (w : World) (va : Value) (x y : Int) (h : In w va [x, y]) : Calls Try.prog 26 #[va, .slice (some ⟨w.heap.size, 0, none⟩) 2 2] (w.alloc (.cells #[.int .i64 x, .int .i64 y] 3)) fun e w' => e = .returned (.bool true) ∧ Below w.heap.size w w' := by
  refine (same_in [x, y] [x, y] _ _ _ (h.alloc _) (in_two _ _ x y)).mono ?_
  rintro e w1 ⟨rfl, hb⟩
  exact ⟨by rw [decide_eq_true rfl], bstep (below_alloc _ _) hb⟩

end Go.Proofs.Ytgmlccjjhmhgbaa
/- The walk of NatCompares; contracts of the reference's compare and Cmp. -/
namespace Go.Proofs.Ytgmlccjjhmhgbaa
open Go.ChangeShapes Go.WideShapes Go.RowKit
set_option linter.unusedVariables false
set_option maxRecDepth 100000

set_option maxHeartbeats 1600000 in
theorem ref_compare (xs ys : List Int) (A B : Option Addr) (c d : Nat) (lo hi lo' hi' : Nat) (w : World) (hS : Holds w lo hi A xs) (hT : Holds w lo' hi' B ys) (hh : hi ≤ w.heap.size) (hh' : hi' ≤ w.heap.size)
    (hx : nrm xs = true) (hy : nrm ys = true) (hm : xs.length ≤ 1000000) (hm2 : ys.length ≤ 1000000) :
    Calls Try.prog 83 #[.slice A xs.length c, .slice B ys.length d] w fun e w' => e = .returned (.int .i64 (cmpI (nval xs) (nval ys))) ∧ Below w.heap.size w w' := by
  have HS := Lib.hid hS
  have HT := Lib.hid hT
  have HX := Lib.hid hx
  have HY := Lib.hid hy
  clear hS hT hx hy
  by_cases hl : xs.length = ys.length
  · go_enter Try.func83, Try.ntmps83
    rw [← hl]
    have HL := Lib.hid hl
    clear hl hm2
    go_wp2_with fail
    go_loopw [5] (fun i wr => ∃ k : Nat, k ≤ xs.length ∧ i = .int .i64 ((xs.length : Int) - 1 - k) ∧ xs.drop (xs.length - k) = ys.drop (xs.length - k) ∧ Below w.heap.size w wr) (fun i _ => (intOf i + 1).toNat)
    case atStart => exact ⟨0, Nat.zero_le _, by simp, by rw [Nat.sub_zero, List.drop_length, HL.out, List.drop_length], Below.refl _ _⟩
    case round =>
      obtain ⟨k, hk, rfl, hz, hbel⟩ := hrel
      have HK := Lib.hid hz
      have HB := Lib.hid hbel
      clear hz hbel
      rcases Nat.lt_or_ge k xs.length with hlt | hge
      · obtain ⟨j, hj⟩ : ∃ j, j = xs.length - 1 - k := ⟨_, rfl⟩
        obtain ⟨z, hz⟩ : ∃ z, xs[j]? = some z := ⟨_, List.getElem?_eq_getElem (by omega)⟩
        obtain ⟨y, hy⟩ : ∃ y, ys[j]? = some y := ⟨_, List.getElem?_eq_getElem (by have := HL.out; omega)⟩
        obtain ⟨b, off, rfl, _, _, hcell⟩ := (HS.out.below HB.out hh) j z hz
        obtain ⟨b2, off2, rfl, _, _, hcell2⟩ := (HT.out.below HB.out hh') j y hy
        have e1 : (xs.length : Int) - 1 - k = (j : Int) := by omega
        have hjl : j < xs.length := by omega
        have hd : xs.drop (j + 1) = ys.drop (j + 1) := by have := HK.out; have e : xs.length - k = j + 1 := by omega
                                                          rwa [e] at this
        have HZ := Lib.hid hz
        have HYY := Lib.hid hy
        have HJ := Lib.hid hj
        have HD := Lib.hid hd
        clear hz hy hj hd
        rw [e1]
        have E1 := Lib.hid e1
        clear e1
        rcases Int.lt_or_le z y with h1 | h1
        · have hv : cmpI (nval xs) (nval ys) = -1 := cmpI_lt (nval_lt_at (nrm_lok HX.out) (nrm_lok HY.out) HZ.out HYY.out HD.out h1)
          have HV := Lib.hid hv
          clear hv
          go_wp2_with fail
          go_quiet (fail)
          go_wp2_with fail
          go_ret
          exact ⟨ret_int HV.out.symm, below_drewN HB.out _⟩
        · have h1' : decide (z < y) = false := decide_eq_false (by omega)
          rcases Int.lt_or_le y z with h2 | h2
          · have hv : cmpI (nval xs) (nval ys) = 1 := cmpI_gt (nval_lt_at (nrm_lok HY.out) (nrm_lok HX.out) HYY.out HZ.out HD.out.symm h2)
            have HV := Lib.hid hv
            clear hv
            go_wp2_with fail
            go_quiet (fail)
            go_wp2_with fail
            go_quiet (fail)
            go_wp2_with fail
            go_ret
            exact ⟨ret_int HV.out.symm, below_drewN (below_drewN HB.out _) _⟩
          · have h2' : decide (y < z) = false := decide_eq_false (by omega)
            obtain rfl : z = y := by omega
            go_wp2_with fail
            go_quiet (fail)
            go_wp2_with fail
            go_quiet (fail)
            go_wp2_with fail
            go_roundw
            case rel =>
              refine ⟨k + 1, by omega, ?_, ?_, below_drewN HB.out _⟩
              · have := E1.out; go_num
              · have e2 : xs.length - (k + 1) = j := by have := HJ.out; omega
                rw [e2, drop_step HZ.out, drop_step HYY.out, HD.out]
            case measure => simp [intOf] <;> omega
      · obtain rfl : k = xs.length := by omega
        have he : xs = ys := by have := HK.out; simpa using this
        have HE := Lib.hid he
        have e0 : (xs.length : Int) - 1 - xs.length = -1 := by omega
        clear he
        rw [e0]
        go_wp2_with fail
        go_ret
        refine ⟨ret_int ?_, HB.out⟩
        rw [← HE.out, cmpI_eq]
  · have hne : ((xs.length : Int) != (ys.length : Int)) = true := by simp; omega
    go_enter Try.func83, Try.ntmps83
    rcases Nat.lt_or_ge xs.length ys.length with h1 | h1
    · have hv := cmpI_lt (nrm_len HX.out HY.out h1)
      have h1' : (xs.length : Int) < (ys.length : Int) := by omega
      have HV := Lib.hid hv
      clear hv hl
      go_wp2_with fail
      go_ret
      exact ⟨ret_int HV.out.symm, Below.refl _ _⟩
    · have hv := cmpI_gt (nrm_len HY.out HX.out (by omega))
      have h1' : decide ((xs.length : Int) < (ys.length : Int)) = false := decide_eq_false (by omega)
      have HV := Lib.hid hv
      clear hv hl
      go_wp2_with fail
      go_ret
      exact ⟨ret_int HV.out.symm, Below.refl _ _⟩

end Go.Proofs.Ytgmlccjjhmhgbaa
/- The walk of NatTexts. -/
namespace Go.Proofs.Ytgmlccjjhmhgbaa
open Go.ChangeShapes Go.WideShapes Go.RowKit
set_option linter.unusedVariables false
set_option maxRecDepth 100000

theorem dgt {d : Nat} (h : d < 10) : (UInt8.ofNat (48 + d)).toNat = 48 + d := by
  show (48 + d) % 256 = 48 + d
  omega
theorem rev_ind {P : List UInt8 → Prop} (h0 : P []) (h1 : ∀ l a, P l → P (l ++ [a])) (L : List UInt8) : P L := by
  have h : ∀ l : List UInt8, P l.reverse := by
    intro l
    induction l with
    | nil => exact h0
    | cons a l ih => rw [List.reverse_cons]; exact h1 _ _ ih
  have := h L.reverse
  rwa [List.reverse_reverse] at this
theorem dval_dec (n : Nat) : dval (Lib.decDigits n) = n := by
  induction n using Nat.strongRecOn with
  | ind n ih =>
    rw [Lib.decDigits]
    split
    · rename_i h
      have := dgt h
      show 0 * 10 + ((UInt8.ofNat (48 + n)).toNat - 48) = n
      omega
    · rename_i h
      have := dgt (d := n % 10) (by omega)
      rw [dval_snoc, ih _ (by omega), this]; omega
theorem dec_all (n : Nat) : (Lib.decDigits n).all isD = true := by
  induction n using Nat.strongRecOn with
  | ind n ih =>
    rw [Lib.decDigits]
    split
    · rename_i h
      have := dgt h
      rw [List.all_cons, isD_yes (by omega) (by omega)]; rfl
    · rename_i h
      have := dgt (d := n % 10) (by omega)
      rw [List.all_append, ih _ (by omega), List.all_cons, isD_yes (by omega) (by omega)]; rfl
theorem dec_ne (n : Nat) : Lib.decDigits n ≠ [] := by
  rw [Lib.decDigits]; split <;> simp
theorem dec_head {n : Nat} (h : 0 < n) : (Lib.decDigits n).headD 0 ≠ 48 := by
  induction n using Nat.strongRecOn with
  | ind n ih =>
    rw [Lib.decDigits]
    split
    · rename_i h10
      intro h2
      have h3 : (UInt8.ofNat (48 + n)).toNat = 48 := congrArg UInt8.toNat h2
      rw [dgt h10] at h3; omega
    · rename_i h10
      have h1 := ih (n / 10) (by omega) (by omega)
      cases hd : Lib.decDigits (n / 10) with
      | nil => exact absurd hd (dec_ne _)
      | cons a l => rw [hd] at h1; simpa using h1
theorem dec_ok (n : Nat) : decOk (Lib.decDigits n) = true := by
  unfold decOk
  rw [dec_all]
  rcases Nat.eq_zero_or_pos n with rfl | h
  · have : Lib.decDigits 0 = [48] := by rw [Lib.decDigits_one (by decide)]; rfl
    rw [this]; rfl
  · have h1 := dec_head h
    have h2 := dec_ne n
    have h3 : (Lib.decDigits n).isEmpty = false := by cases hd : Lib.decDigits n with
      | nil => exact absurd hd h2
      | cons a l => rfl
    rw [h3]
    have h4 : ((Lib.decDigits n).headD 0 != 48) = true := by simpa using h1
    rw [h4]; simp
theorem dec_len {k : Nat} : ∀ {n : Nat}, n < 10 ^ (k + 1) → (Lib.decDigits n).length ≤ k + 1 := by
  induction k with
  | zero => intro n h; rw [Lib.decDigits_one (by simpa using h)]; simp
  | succ k ih =>
    intro n h
    rw [Lib.decDigits]
    split
    · simp
    · rw [List.length_append]
      have := ih (n := n / 10) (by rw [Nat.pow_succ] at h; omega)
      simp; omega
theorem dval_lt (L : List UInt8) (h : L.all isD = true) : dval L < 10 ^ L.length := by
  revert h
  refine rev_ind (P := fun L => L.all isD = true → dval L < 10 ^ L.length) (by intro _; simp [dval]) ?_ L
  · intro L b ih h
    rw [List.all_append, Bool.and_eq_true] at h
    have i := ih h.1
    have hb : isD b = true := by simpa using h.2
    have := isD_iff hb
    rw [dval_snoc, List.length_append, List.length_singleton, Nat.pow_succ]; omega
theorem dval_pos {L : List UInt8} (h : L.all isD = true) (h1 : L ≠ []) (h2 : L.headD 0 ≠ 48) : 0 < dval L := by
  revert h h1 h2
  refine rev_ind (P := fun L => L.all isD = true → L ≠ [] → L.headD 0 ≠ 48 → 0 < dval L) (by intro _ h1; exact absurd rfl h1) ?_ L
  · intro L b ih h h1 h2
    rw [List.all_append, Bool.and_eq_true] at h
    have hb : isD b = true := by simpa using h.2
    have hbb := isD_iff hb
    rw [dval_snoc]
    cases L with
    | nil =>
      have : b.toNat ≠ 48 := by
        intro h3; apply h2; apply UInt8.toNat_inj.mp; simpa using h3
      simp [dval]; omega
    | cons a l =>
      have := ih h.1 (by simp) (by simpa using h2)
      omega
theorem dec_dval {L : List UInt8} (h : L.all isD = true) (h1 : L ≠ []) (h2 : L = [48] ∨ L.headD 0 ≠ 48) : Lib.decDigits (dval L) = L := by
  revert h h1 h2
  refine rev_ind (P := fun L => L.all isD = true → L ≠ [] → (L = [48] ∨ L.headD 0 ≠ 48) → Lib.decDigits (dval L) = L) (by intro _ h1; exact absurd rfl h1) ?_ L
  · intro L b ih h h1 h2
    rw [List.all_append, Bool.and_eq_true] at h
    have hb : isD b = true := by simpa using h.2
    have hbb := isD_iff hb
    have eb : UInt8.ofNat (48 + (b.toNat - 48)) = b := by
      apply UInt8.toNat_inj.mp; rw [dgt (by omega)]; omega
    rw [dval_snoc]
    cases L with
    | nil =>
      have e0 : dval [] = 0 := rfl
      rw [e0, Nat.zero_mul, Nat.zero_add, Lib.decDigits_one (by omega), eb]; rfl
    | cons a l =>
      have hh : (a :: l).headD 0 ≠ 48 := by
        rcases h2 with h3 | h3
        · simp at h3
        · simpa using h3
      have hp := dval_pos h.1 (by simp) hh
      rw [Lib.decDigits, dif_neg (by omega)]
      have e1 : (dval (a :: l) * 10 + (b.toNat - 48)) / 10 = dval (a :: l) := by omega
      have e2 : (dval (a :: l) * 10 + (b.toNat - 48)) % 10 = b.toNat - 48 := by omega
      rw [e1, e2, eb, ih h.1 (by simp) (Or.inr hh)]
theorem dec_dval_ok {L : List UInt8} (h : decOk L = true) : Lib.decDigits (dval L) = L := by
  simp only [decOk, Bool.and_eq_true, Bool.or_eq_true] at h
  obtain ⟨h1, h2⟩ := h
  rcases h2 with h2 | h2
  · have e : L = [48] := of_decide_eq_true h2
    exact dec_dval h1 (by rw [e]; simp) (Or.inl e)
  · refine dec_dval h1 ?_ (Or.inr (by simpa using h2.2))
    intro h3; rw [h3] at h2; simp at h2
theorem pow9 (k : Nat) : (1000000000 : Nat) ^ k = 10 ^ (9 * k) := by rw [Nat.pow_mul]
theorem lt_pow9 {n a k : Nat} (h : n < 10 ^ a) (h2 : a ≤ 9 * k) : n < 1000000000 ^ k := by rw [pow9]; exact Nat.lt_of_lt_of_le h (Nat.pow_le_pow_right (by decide) h2)
/-- What Text returns is parsed as the number. -/
theorem parse_text {xs : List Int} (h : validB xs = true) : parN (textV xs).data.toList = (nval xs).toNat ∧ parE (textV xs).data.toList = 0 ∧ limbs (nval xs).toNat = xs := by
  have ht : (textV xs).data.toList = Lib.decDigits (nval xs).toNat := by rw [textV, h]; rfl
  have hl := nrm_limbs (valid_nrm h)
  have hlt : (nval xs).toNat < 1000000000 ^ 48 := limbs_len_le.mp (by rw [← hl]; exact valid_len h)
  rw [pow9, show 9 * 48 = 431 + 1 from rfl] at hlt
  have hlen : (Lib.decDigits (nval xs).toNat).length ≤ 432 := dec_len (k := 431) hlt
  rw [ht, parN, parE, dec_ok, if_pos rfl, if_pos rfl, if_pos hlen, if_pos hlen, dval_dec]
  exact ⟨rfl, rfl, hl.symm⟩
/-- What is parsed is valid, and has this text. -/
theorem text_parse {L : List UInt8} (h : parE L = 0) : validB (limbs (parN L)) = true ∧ (textV (limbs (parN L))).data.toList = L := by
  unfold parE at h
  have h1 : decOk L = true := by
    cases hd : decOk L with
    | true => rfl
    | false => rw [hd] at h; simp at h
  rw [h1, if_pos rfl] at h
  have h2 : L.length ≤ 432 := by
    rcases Nat.lt_or_ge 432 L.length with h3 | h3
    · rw [if_neg (by omega)] at h; simp at h
    · exact h3
  have hN : parN L = dval L := by rw [parN, h1, if_pos rfl, if_pos h2]
  have hall : L.all isD = true := by simp only [decOk, Bool.and_eq_true] at h1; exact h1.1
  have hlt := dval_lt L hall
  have hv : validB (limbs (dval L)) = true := validB_iff.mpr ⟨limbs_len_le.mpr (lt_pow9 hlt (by omega)), nrm_of_limbs _⟩
  rw [hN]
  refine ⟨hv, ?_⟩
  rw [textV, hv]
  show (decS (nval (limbs (dval L))).toNat).data.toList = L
  rw [nval_limbs, Int.toNat_natCast]
  show (Lib.decDigits (dval L)).toArray.toList = L
  rw [List.toList_toArray, dec_dval_ok h1]
theorem parN_err {L : List UInt8} (h : parE L ≠ 0) : parN L = 0 := by
  unfold parE at h
  unfold parN
  split at h
  · split at h
    · exact absurd rfl h
    · rename_i h1 h2; rw [if_pos h1, if_neg h2]
  · rename_i h1; rw [if_neg h1]

theorem text_size {xs : List Int} (hv : validB xs = true) : (textV xs).size ≤ 9223372036854775807 := by
  have h := parse_text hv
  have ht : (textV xs).data.toList = Lib.decDigits (nval xs).toNat := by rw [textV, hv]; rfl
  have hl := nrm_limbs (valid_nrm hv)
  have hlt : (nval xs).toNat < 1000000000 ^ 48 := limbs_len_le.mp (by rw [← hl]; exact valid_len hv)
  rw [pow9, show 9 * 48 = 431 + 1 from rfl] at hlt
  have hlen := dec_len (k := 431) hlt
  rw [← ht, str_len] at hlen
  omega
theorem valid_in (xs : List Int) (va : Value) (w : World) (ha : In w va xs) : Calls Try.prog 64 #[va] w fun e w' => e = .returned (.bool (validB xs)) ∧ w = w' := by
  obtain ⟨A, c, rfl, hc, hm, hA⟩ := ha
  exact nat_Valid xs A c _ _ w hA (Nat.le_trans hc hm)

end Go.Proofs.Ytgmlccjjhmhgbaa
/- Appending a slice that is there; contracts of nat.Int, and of Of, Int, fit of the reference. -/
namespace Go.Proofs.Ytgmlccjjhmhgbaa
open Go.ChangeShapes Go.WideShapes Go.RowKit
set_option linter.unusedVariables false
set_option maxRecDepth 100000

theorem run_append_empty {P : Program} {w : World} (base : Nat) (t ty e : TypeId) (i : TypeInfo) (size c : Nat) (ht : P.underlying t = some (.slice e)) (hi : P.info? e = some i)
    (v : Value) (n : Nat) (xs : List Value) (hown : w.ownsRow base e size v n xs) :
    (Builtin.append_ #[t, t] ty #[v, .slice none 0 c]).run P w = .ok v w := by
  rcases hown.2 with ⟨rfl, rfl⟩ | ⟨g, cap, cur, rfl, _, _, hnc, _⟩
  · simp [Builtin.append_, run_underlying ht, sizeOf, typeInfo, hi, Builtin.lenOf, Builtin.firstCells]
  · simp [Builtin.append_, run_underlying ht, sizeOf, typeInfo, hi, Builtin.lenOf, Builtin.firstCells, hnc, storeCells]
theorem wpList_append_empty {P : Program} {w : World} {ops : Array Oper} {rest : List Oper} {o : Oper} {a : Act} {Q : Exit → Act → World → Prop} (hgd : o.guard = none) (s x : Operand) (t : TypeId)
    (ho : o.op = .call { callee := .builtin .append, args := #[s, x], argTypes := #[t, t] })
    (base : Nat) (e : TypeId) (i : TypeInfo) (size c : Nat) (ht : P.underlying t = some (.slice e)) (hi : P.info? e = some i)
    (v : Value) (n : Nat) (xs : List Value) (hs : a.eval s = v) (hown : w.ownsRow base e size v n xs) (hx : a.eval x = .slice none 0 c)
    (h : wpList P ops Q rest (a.put o.dst v) w) : wpList P ops Q (o :: rest) a w := by
  refine wpList_plain hgd fun K hK => ?_
  have hrun := run_append_empty (P := P) (w := w) base t o.type e i size c ht hi v n xs hown
  unfold Oper.wp
  simp [execOp, ho, resolve, invoke, builtin, hs, hx, hrun, Result.andThen]
  exact hK _ _ h

/-- 'append(s, x...)', s the call's own, x a slice of integers that is there. -/
theorem append_holds {w : World} {ops : Array Oper} {rest : List Oper} {o : Oper} {a : Act} {Q : Exit → Act → World → Prop} (hgd : o.guard = none) (s x : Operand)
    (ho : o.op = .call { callee := .builtin .append, args := #[s, x], argTypes := #[31, 31] })
    (base : Nat) (v : Value) (ds : List Int) (hs : a.eval s = v) (hown : w.ownsRow base 3 1 v ds.length (ds.map (Value.int .i64)))
    (lo hi : Nat) (A : Option Addr) (c : Nat) (zs : List Int) (m : Nat) (hm : m = zs.length) (hx : a.eval x = .slice A m c) (hz : Holds w lo hi A zs)
    (hlen : ds.length + zs.length ≤ 1000000) (hbase : base ≤ w.heap.size)
    (h : ∀ v' w', w'.ownsRow base 3 1 v' (ds ++ zs).length ((ds ++ zs).map (Value.int .i64)) → w.grownBy w' v.ownBlock → wpList Try.prog ops Q rest (a.put o.dst v') w') : wpList Try.prog ops Q (o :: rest) a w := by
  subst hm
  obtain ⟨i0, hi0, hz0, hz1, hz2⟩ := info_parts info_int
  cases A with
  | none =>
    have hnil : zs = [] := by
      cases zs with
      | nil => rfl
      | cons z zs => obtain ⟨b, off, hA, _⟩ := hz 0 z rfl; cases hA
    subst hnil
    refine wpList_append_empty hgd s x _ ho base 3 i0 1 c Try.underlying31 hi0 v ds.length _ hs hown hx (h v w (by simpa using hown) ⟨rfl, rfl, rfl, Nat.le_refl _, fun _ _ _ => rfl⟩)
  | some ad =>
    refine wpList_append_own w hgd s x _ ho base 3 i0 (.int .i64 0) 1 8 Try.underlying31 hi0 hz0 hz1 hz2 rfl (by decide) v ds.length _ hs hown ad zs.length c (zs.map (Value.int .i64)) hx (by simp) ?_ cells_ints (by unfold maxLen; omega) (by omega) hbase ?_
    · intro j u hj
      rw [List.getElem?_map] at hj
      cases hzj : zs[j]? with
      | none => rw [hzj] at hj; cases hj
      | some z =>
        obtain ⟨ad', he, hc⟩ := holds_cells hz (by rw [List.length_map]; exact Nat.lt_of_le_of_lt (Nat.zero_le j) (by rcases Nat.lt_or_ge j zs.length with h1 | h1; exact h1; rw [List.getElem?_eq_none h1] at hzj; cases hzj))
        cases he
        exact hc j u (by rw [List.getElem?_map]; exact hj)
    · intro v' w' hown' hg _
      exact h v' w' (by rw [List.length_append, List.map_append]; exact hown') hg

theorem own_empty (w : World) : (w.alloc (.cells #[] 3)).ownsRow w.heap.size 3 1 (.slice (some ⟨w.heap.size, 0, none⟩) 0 0) ([] : List Int).length (([] : List Int).map (Value.int .i64)) :=
  World.ownsRow_lit (base := w.heap.size) (e := 3) (size := 1) w #[] 0 (Nat.le_refl _) (by unfold maxLen; omega) rfl

def intV (xs : List Int) : Int := if validB xs then (if nval xs ≤ 1125899906842624 then nval xs else 0) else 0
def intE (xs : List Int) : Int := if validB xs then (if nval xs ≤ 1125899906842624 then 0 else 2) else 3
theorem long_big {xs : List Int} (hn : nrm xs = true) (h : 2 < xs.length) : 1000000000000000000 ≤ nval xs := by
  have hl := nrm_limbs hn
  have h0 := nval_nonneg (nrm_lok hn)
  have h1 : ¬ (limbs (nval xs).toNat).length ≤ 2 := by rw [← hl]; omega
  rw [limbs_len_le] at h1
  omega

set_option maxHeartbeats 1600000 in
theorem nat_Int (xs : List Int) (va : Value) (w : World) (ha : In w va xs) :
    Calls Try.prog 53 #[va] w fun e w' => e = .returned (.tuple #[.int .i64 (intV xs), .int .i64 (intE xs)]) ∧ w = w' := by
  obtain ⟨A, c, rfl, hc, hm, hA⟩ := ha
  have HA := Lib.hid hA
  have hm1 : xs.length ≤ 9223372036854775807 := Nat.le_trans hc hm
  clear hA hm
  cases hx : validB xs with
  | false =>
    have HV := Lib.hid (show intV xs = 0 by rw [intV, hx]; rfl)
    have HE := Lib.hid (show intE xs = 3 by rw [intE, hx]; rfl)
    go_enter Try.func53, Try.ntmps53
    go_wp2_with fail
    refine (nat_Valid xs A c _ _ w HA.out hm1).mono ?_
    rintro e w' ⟨rfl, rfl⟩
    go_wp2_with fail
    go_ret2
    exact ⟨ret_two HV.out.symm HE.out.symm, rfl⟩
  | true =>
    have hn := valid_nrm hx
    rcases Nat.lt_or_ge 2 xs.length with hl | hl
    · have hb := long_big hn hl
      have HV := Lib.hid (show intV xs = 0 by rw [intV, hx, if_pos rfl, if_neg (by omega)])
      have HE := Lib.hid (show intE xs = 2 by rw [intE, hx, if_pos rfl, if_neg (by omega)])
      have hl' : (2 : Int) < (xs.length : Int) := by omega
      clear hb hn
      go_enter Try.func53, Try.ntmps53
      go_wp2_with fail
      refine (nat_Valid xs A c _ _ w HA.out hm1).mono ?_
      rintro e w' ⟨rfl, rfl⟩
      go_wp2_with fail
      go_ret2
      exact ⟨ret_two HV.out.symm HE.out.symm, rfl⟩
    · have hl' : decide ((2 : Int) < (xs.length : Int)) = false := decide_eq_false (by omega)
      have hw := nat_word xs A c _ _ w HA.out (nrm_lok hn) hl
      rcases Int.lt_or_le 1125899906842624 (nval xs) with hb | hb
      · have HV := Lib.hid (show intV xs = 0 by rw [intV, hx, if_pos rfl, if_neg (by omega)])
        have HE := Lib.hid (show intE xs = 2 by rw [intE, hx, if_pos rfl, if_neg (by omega)])
        have HW := Lib.hid hw
        clear hw hn
        go_enter Try.func53, Try.ntmps53
        go_wp2_with fail
        refine (nat_Valid xs A c _ _ w HA.out hm1).mono ?_
        rintro e w' ⟨rfl, rfl⟩
        go_wp2_with fail
        refine HW.out.mono ?_
        rintro e w' ⟨rfl, rfl⟩
        go_wp2_with fail
        go_ret2
        exact ⟨ret_two HV.out.symm HE.out.symm, rfl⟩
      · have hb' : decide (1125899906842624 < nval xs) = false := decide_eq_false (by omega)
        have HV := Lib.hid (show intV xs = nval xs by rw [intV, hx, if_pos rfl, if_pos hb])
        have HE := Lib.hid (show intE xs = 0 by rw [intE, hx, if_pos rfl, if_pos hb])
        have HW := Lib.hid hw
        clear hw hn hb
        go_enter Try.func53, Try.ntmps53
        go_wp2_with fail
        refine (nat_Valid xs A c _ _ w HA.out hm1).mono ?_
        rintro e w' ⟨rfl, rfl⟩
        go_wp2_with fail
        refine HW.out.mono ?_
        rintro e w' ⟨rfl, rfl⟩
        go_wp2_with fail
        refine HW.out.mono ?_
        rintro e w' ⟨rfl, rfl⟩
        go_wp2_with fail
        go_ret2
        exact ⟨ret_two HV.out.symm HE.out.symm, rfl⟩
end Go.Proofs.Ytgmlccjjhmhgbaa
