/- The contract of nat.shortened. -/
import Derived.Test.YtmbpcjnlniidkaaDoorNatZ4
import Derived.Deep.RegionHeld3
namespace Go.Proofs.YtmbpcjnlniidkaaDoor
open Go.ChangeShapes Go.WideShapes Go.RowKit
set_option linter.unusedVariables false

set_option maxHeartbeats 6400000 in
theorem nat_shortened (xs ys : List Int) (va vb : Value) (w : World) (ha : In w va xs) (hb : In w vb ys) (hx : nrm xs = true) (hy : nrm ys = true) (hly : 2 < ys.length) (hlx : xs.length ≤ 1000) (hly2 : ys.length ≤ 1000) :
    Calls Tryd.prog 63 #[va, vb] w (ShortRes w xs ys) := by
  have HIA := Lib.hid ha
  have HIB := Lib.hid hb
  obtain ⟨A, ca, rfl, hc, hm, hA⟩ := ha
  obtain ⟨B, cb, rfl, hd, hn, hB⟩ := hb
  have hfs := nat_foreseen xs ys A B ca cb w hA hB (nrm_lok hx) (nrm_lok hy) hly hc hd hlx hly2
  have HFS := Lib.hid hfs
  have HA := Lib.hid hA
  have HB := Lib.hid hB
  have HX := Lib.hid hx
  have HY := Lib.hid hy
  clear hA hB hx hy hfs hm hn
  go_enter Tryd.func63, Tryd.ntmps63
  go_wp2_with (go_at_call 67; refine HFS.out.mono ?_; rintro e w1 ⟨a, b, c, d, u, v, u0, v0, rfl, hinv, hle, hb1⟩; refine Hid.out ?_)
  refine Lib.hid ?_
  have HI := Lib.hid hinv
  have HLE := Lib.hid hle
  have HB1 := Lib.hid hb1
  have bd := hinv.bd
  clear hinv hle hb1
  by_cases hb0 : b = 0
  · subst hb0
    have HB2 := Lib.hid (balloc HB1.out (.cells #[.int .i64 a, .int .i64 0, .int .i64 c, .int .i64 d] 66))
    go_wp2_with fail
    refine (nat_divide xs ys _ _ _ (HIA.out.on HB2.out) (HIB.out.on HB2.out) HX.out HY.out hlx (by omega)).mono ?_
    rintro e w3 ⟨vq, vr, rfl, -, hr, hb3⟩
    have HR := Lib.hid hr.toIn
    have HB3 := Lib.hid (bstep HB2.out hb3)
    clear hr hb3
    go_wp2_with fail
    go_ret2
    have y0 := nval_pos HY.out (by omega)
    have x0 := nval_nonneg (nrm_lok HX.out)
    have hlt : (nval xs).toNat % (nval ys).toNat < (nval ys).toNat := Nat.mod_lt _ (by omega)
    refine ⟨_, _, ys, limbs ((nval xs).toNat % (nval ys).toNat), rfl, HIB.out.on HB3.out, HR.out, HY.out, nrm_of_limbs _, Nat.le_refl _, len_le_of HY.out (by omega), ?_, ?_, HB3.out⟩
    · rw [nval_limbs, Int.toNat_natCast]; exact gcd_step _ _
    · rw [nval_limbs]; omega
  · have hbn : (b == 0) = false := beq_false_of_ne hb0
    have hfc := short_facts HI.out hb0 HX.out HY.out
    have hlen := HLE.out hb0
    obtain ⟨f1, f2, f3, f4, f5⟩ := hfc
    have hc1 : ∀ W, Below w.heap.size w W → Calls Tryd.prog 68 #[.slice A xs.length ca, .int .i64 a, .slice B ys.length cb, .int .i64 b] W (GcdRes W (a * nval xs + b * nval ys).toNat) :=
      fun W hW => nat_combined xs ys A B ca cb a b W ((HA.out.below hW (Nat.le_refl _)).more (Nat.le_refl _) hW.size) ((HB.out.below hW (Nat.le_refl _)).more (Nat.le_refl _) hW.size) (nrm_lok HX.out) (nrm_lok HY.out) hlen hlx (by omega) (by omega) (by omega) (by omega) f1 f2
    have hc2 : ∀ W, Below w.heap.size w W → Calls Tryd.prog 68 #[.slice A xs.length ca, .int .i64 c, .slice B ys.length cb, .int .i64 d] W (GcdRes W (c * nval xs + d * nval ys).toNat) :=
      fun W hW => nat_combined xs ys A B ca cb c d W ((HA.out.below hW (Nat.le_refl _)).more (Nat.le_refl _) hW.size) ((HB.out.below hW (Nat.le_refl _)).more (Nat.le_refl _) hW.size) (nrm_lok HX.out) (nrm_lok HY.out) hlen hlx (by omega) (by omega) (by omega) (by omega) f3 (by omega)
    have HC1 := Lib.hid hc1
    have HC2 := Lib.hid hc2
    have F2 := Lib.hid f2
    have F4 := Lib.hid f4
    have F5 := Lib.hid f5
    have F1 := Lib.hid f1
    have F3 := Lib.hid f3
    obtain ⟨W2, hW2⟩ : ∃ W2, W2 = w1.alloc (.cells #[.int .i64 a, .int .i64 b, .int .i64 c, .int .i64 d] 66) := ⟨_, rfl⟩
    have hfour : Four W2 w1.heap.size a b c d := by rw [hW2]; exact Four.new _ _ _ _ _ _
    have hbw : Below w.heap.size w W2 := by rw [hW2]; exact balloc HB1.out _
    have four_on : ∀ (W W' : World), Four W w1.heap.size a b c d → Below W.heap.size W W' → W'.cell? ⟨w1.heap.size, 0, none⟩ = some (.int .i64 a) ∧ W'.cell? ⟨w1.heap.size, 1, none⟩ = some (.int .i64 b) ∧ W'.cell? ⟨w1.heap.size, 2, none⟩ = some (.int .i64 c) ∧ W'.cell? ⟨w1.heap.size, 3, none⟩ = some (.int .i64 d) := by
      intro W W' h hb
      have h' := (h.keep (hb.block _ h.lt)).row
      exact ⟨h'.cell (i := 0) rfl, h'.cell (i := 1) rfl, h'.cell (i := 2) rfl, h'.cell (i := 3) rfl⟩
    have FO := Lib.hid four_on
    have HF := Lib.hid hfour
    have HBW := Lib.hid hbw
    clear hc1 hc2 f1 f2 f3 f4 f5 four_on hfour hbw hlen
    go_wp2_with fail
    rw [← hW2]
    obtain ⟨g0, g1, g2, g3⟩ := FO.out W2 W2 HF.out (Below.refl _ _)
    clear hW2
    go_region_held3 (fun W' => W'.cell? ⟨w1.heap.size, 0, none⟩ = some (.int .i64 a) ∧ W'.cell? ⟨w1.heap.size, 1, none⟩ = some (.int .i64 b) ∧ W'.cell? ⟨w1.heap.size, 2, none⟩ = some (.int .i64 c) ∧ W'.cell? ⟨w1.heap.size, 3, none⟩ = some (.int .i64 d))
      (first | exact ⟨g0, g1, g2, g3⟩ | exact FO.out W2.drew _ (HF.out.keep rfl) (by assumption) | exact FO.out W2.drew _ (HF.out.keep rfl) (bstep hb3 (by assumption)))
      (first | (go_at_call 68; (with_reducible refine (HC1.out _ HBW.out.drew).mono ?_); rintro e w3 ⟨v1, rfl, hs1, hb3⟩) | (go_at_call 68; (with_reducible refine (HC2.out _ (bstep HBW.out.drew hb3)).mono ?_); rintro e w4 ⟨v2, rfl, hs2, hb4⟩))
    all_goals go_wp2_with fail
    all_goals go_ret2
    all_goals have hb34 := bstep (bstep HBW.out.drew hb3) hb4
    all_goals exact ⟨v1, v2, limbs (a * nval xs + b * nval ys).toNat, limbs (c * nval xs + d * nval ys).toNat, rfl, hs1.toIn.on hb4, hs2.toIn, nrm_of_limbs _, nrm_of_limbs _, len_le_of HY.out (by have := F2.out; omega), len_le_of HY.out (by have := F4.out; omega), (by rw [nval_limbs, nval_limbs, Int.toNat_natCast, Int.toNat_natCast]; exact F5.out), (by rw [nval_limbs]; have := F3.out; have := F4.out; omega), hb34⟩
#print axioms nat_shortened
end Go.Proofs.YtmbpcjnlniidkaaDoor
