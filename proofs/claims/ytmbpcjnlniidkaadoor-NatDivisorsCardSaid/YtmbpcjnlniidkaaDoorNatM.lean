/- Contracts of nat.divide of short numbers, of nat.DivMod, of nat.gcd of short numbers, of nat.Gcd. -/
import Derived.Test.YtmbpcjnlniidkaaDoorNatL
namespace Go.Proofs.YtmbpcjnlniidkaaDoor
open Go.ChangeShapes Go.WideShapes Go.RowKit
set_option linter.unusedVariables false

/-- What divide leaves: the limbs of the quotient and of the remainder. -/
def DivRes (w : World) (xs ys : List Int) (e : Ending) (w' : World) : Prop :=
  ∃ vq vr, e = .returned (.tuple #[vq, vr]) ∧ Sl w' w.heap.size w'.heap.size vq (limbs ((nval xs).toNat / (nval ys).toNat)) ∧ Sl w' w.heap.size w'.heap.size vr (limbs ((nval xs).toNat % (nval ys).toNat)) ∧ Below w.heap.size w w'
theorem nval_pos {ys : List Int} (hn : nrm ys = true) (hne : 0 < ys.length) : 0 < nval ys := by
  have := nval_pos_last hn (k := 0) hne
  rwa [List.drop_zero] at this
theorem padL_self (xs : List Int) : padL xs xs.length = xs := by simp [padL]

set_option maxHeartbeats 1600000 in
theorem divide_less (xs ys : List Int) (va vb : Value) (w : World) (ha : In w va xs) (hb : In w vb ys) (hx : nrm xs = true) (hy : nrm ys = true) (hlx : xs.length ≤ 100000) (hl : xs.length < ys.length) :
    Calls Tryd.prog 53 #[va, vb] w (DivRes w xs ys) := by
  obtain ⟨A, c, rfl, hc, hm, hA⟩ := ha
  obtain ⟨B, d, rfl, hd, hn, hB⟩ := hb
  have HA := Lib.hid hA
  have hlt := nrm_len hx hy hl
  have h0 := nval_nonneg (nrm_lok hx)
  have hxl := nrm_limbs hx
  have e1 : (nval xs).toNat / (nval ys).toNat = 0 := Nat.div_eq_of_lt (by omega)
  have e2 : (nval xs).toNat % (nval ys).toNat = (nval xs).toNat := Nat.mod_eq_of_lt (by omega)
  have E1 := Lib.hid e1
  have E2 := Lib.hid e2
  have HX := Lib.hid hxl
  have hl' : (xs.length : Int) < (ys.length : Int) := by omega
  clear hA hB hm hn hlt h0 hxl e1 e2 hx hy
  go_enter Tryd.func53, Tryd.ntmps53
  go_wp2_with fail
  refine (nat_copied xs A c xs.length _ _ w HA.out (Nat.le_refl _) (Nat.le_refl _) (by omega)).mono ?_
  rintro e w1 ⟨rfl, hrow, hbel⟩
  rw [padL_self] at hrow
  have HR := Lib.hid hrow
  have HB := Lib.hid hbel
  clear hrow hbel
  go_wp2_with fail
  go_ret2
  refine ⟨.slice none 0 0, .slice (some ⟨w.heap.size, 0, none⟩) xs.length xs.length, rfl, by rw [E1.out, limbs_zero]; exact Sl.nil _ _ _, ?_, HB.out⟩
  rw [E2.out, ← HX.out]
  exact ⟨_, _, rfl, Nat.le_refl _, by unfold maxLen; omega, HR.out.holds (fun k z hz => by rw [Nat.zero_add]; exact hz) (Nat.le_refl _) HR.out.lt⟩

set_option maxHeartbeats 1600000 in
theorem divide_two (xs ys : List Int) (va vb : Value) (w : World) (ha : In w va xs) (hb : In w vb ys) (hx : nrm xs = true) (hy : nrm ys = true) (hl2 : xs.length ≤ 2) (hp : 0 < ys.length) (hl : ys.length ≤ xs.length) :
    Calls Tryd.prog 53 #[va, vb] w (DivRes w xs ys) := by
  obtain ⟨A, c, rfl, hc, hm, hA⟩ := ha
  obtain ⟨B, d, rfl, hd, hn, hB⟩ := hb
  have WA := fun W => nat_word xs A c 0 w.heap.size W
  have hyl : ys.length ≤ 2 := by omega
  have hwa : Calls Tryd.prog 38 #[.slice A xs.length c] w fun e w' => e = .returned (.int .i64 (nval xs)) ∧ w = w' := nat_word xs A c _ _ w hA (nrm_lok hx) hl2
  have hwb : Calls Tryd.prog 38 #[.slice B ys.length d] w fun e w' => e = .returned (.int .i64 (nval ys)) ∧ w = w' := nat_word ys B d _ _ w hB (nrm_lok hy) hyl
  have hA' := hA
  have hB' := hB
  have sx := nval_small (nrm_lok hx) hl2
  have sy := nval_small (nrm_lok hy) hyl
  have py := nval_pos hy hp
  obtain ⟨M, hM⟩ : ∃ M, M = nval xs := ⟨_, rfl⟩
  obtain ⟨N, hN⟩ : ∃ N, N = nval ys := ⟨_, rfl⟩
  rw [← hM] at sx hwa
  rw [← hN] at sy py hwb
  have HM := Lib.hid hM
  have HN := Lib.hid hN
  have HWA := Lib.hid hwa
  have HWB := Lib.hid hwb
  have HAA := Lib.hid hA
  have HBB := Lib.hid hB
  have HXX := Lib.hid (nrm_lok hx)
  have HYY := Lib.hid (nrm_lok hy)
  have hl' : decide ((xs.length : Int) < (ys.length : Int)) = false := decide_eq_false (by omega)
  have hl2' : (xs.length : Int) ≤ 2 := by omega
  obtain ⟨sx0, sx1⟩ := sx
  obtain ⟨sy0, sy1⟩ := sy
  have n0 : ¬ N = 0 := by omega
  have n1 : (N == 0) = false := beq_false_of_ne n0
  have q0 : M.tdiv N = M / N := Int.tdiv_eq_ediv_of_nonneg sx0
  have r0 : M.tmod N = M % N := Int.tmod_eq_emod_of_nonneg sx0
  have q1 : 0 ≤ M / N := Int.ediv_nonneg sx0 sy0
  have q2 : M / N ≤ M := Int.ediv_le_self _ sx0
  have r1 : 0 ≤ M % N := Int.emod_nonneg _ n0
  have r2 : M % N < N := Int.emod_lt_of_pos _ py
  have eq1 : (M / N).toNat = M.toNat / N.toNat := by
    have e1 : M = (M.toNat : Int) := by omega
    have e2 : N = (N.toNat : Int) := by omega
    rw [e1, e2]; exact Int.toNat_natCast _
  have eq2 : (M % N).toNat = M.toNat % N.toNat := by
    have e1 : M = (M.toNat : Int) := by omega
    have e2 : N = (N.toNat : Int) := by omega
    rw [e1, e2]; exact Int.toNat_natCast _
  have EQ1 := Lib.hid eq1
  have EQ2 := Lib.hid eq2
  clear WA hA hB hA' hB' hM hN hwa hwb hx hy hm hn eq1 eq2
  go_enter Tryd.func53, Tryd.ntmps53
  go_wp2_with fail
  refine HWA.out.mono ?_
  rintro e w' ⟨rfl, rfl⟩
  go_wp2_with fail
  refine HWB.out.mono ?_
  rintro e w' ⟨rfl, rfl⟩
  go_wp2_with fail
  refine (nat_ofWord (M / N) w (by omega) (by omega)).mono ?_
  rintro e w1 ⟨vq, rfl, hsq, hb1⟩
  have hwa : Calls Tryd.prog 38 #[.slice A xs.length c] w1 fun e w' => e = .returned (.int .i64 M) ∧ w1 = w' := by
    rw [HM.out]; exact nat_word xs A c _ _ w1 (HAA.out.below hb1 (Nat.le_refl _)) HXX.out hl2
  have hwb : Calls Tryd.prog 38 #[.slice B ys.length d] w1 fun e w' => e = .returned (.int .i64 N) ∧ w1 = w' := by
    rw [HN.out]; exact nat_word ys B d _ _ w1 (HBB.out.below hb1 (Nat.le_refl _)) HYY.out hyl
  have HWA1 := Lib.hid hwa
  have HWB1 := Lib.hid hwb
  have HSQ := Lib.hid hsq
  have HB1 := Lib.hid hb1
  clear hwa hwb hsq hb1
  go_wp2_with fail
  refine HWA1.out.mono ?_
  rintro e w' ⟨rfl, rfl⟩
  go_wp2_with fail
  refine HWB1.out.mono ?_
  rintro e w' ⟨rfl, rfl⟩
  go_wp2_with fail
  refine (nat_ofWord (M % N) w1 (by omega) (by omega)).mono ?_
  rintro e w2 ⟨vr, rfl, hsr, hb2⟩
  have HSR := Lib.hid hsr
  have HB2 := Lib.hid hb2
  clear hsr hb2
  go_wp2_with fail
  go_ret2
  have hs := HB1.out.size
  have hs2 := HB2.out.size
  refine ⟨vq, vr, rfl, ?_, ?_, HB1.out.trans (HB2.out.mono hs)⟩
  · rw [← HM.out, ← HN.out, ← EQ1.out]; exact (HSQ.out.below HB2.out (Nat.le_refl _)).more (Nat.le_refl _) hs2
  · rw [← HM.out, ← HN.out, ← EQ2.out]; exact HSR.out.more hs (Nat.le_refl _)
#print axioms divide_less
#print axioms divide_two
end Go.Proofs.YtmbpcjnlniidkaaDoor
