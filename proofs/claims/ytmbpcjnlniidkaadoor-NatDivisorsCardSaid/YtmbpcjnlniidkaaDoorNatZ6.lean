/- The contract of nat.gcd, out of that of shortened. -/
import Derived.Test.YtmbpcjnlniidkaaDoorNatZ4
namespace Go.Proofs.YtmbpcjnlniidkaaDoor
open Go.ChangeShapes Go.WideShapes Go.RowKit
set_option linter.unusedVariables false

/-- The integers that a slice holds, read off the world: for a loop's measure. -/
def readL (w : World) : Value → List Int
  | .slice (some a) n _ => (List.range n).map fun i => ((w.cell? ⟨a.block, a.off + i, none⟩).map intOf).getD 0
  | _ => []
theorem readL_in {w : World} {v : Value} {zs : List Int} (h : In w v zs) : readL w v = zs := by
  obtain ⟨A, c, rfl, _, _, hS⟩ := h
  cases A with
  | none =>
    cases zs with
    | nil => rfl
    | cons z zs => obtain ⟨b, off, hA, _⟩ := hS 0 z rfl; cases hA
  | some a =>
    apply List.ext_getElem?
    intro i
    show ((List.range zs.length).map fun i => ((w.cell? ⟨a.block, a.off + i, none⟩).map intOf).getD 0)[i]? = zs[i]?
    rw [List.getElem?_map]
    rcases Nat.lt_or_ge i zs.length with h | h
    · have hz : zs[i]? = some zs[i] := List.getElem?_eq_getElem h
      obtain ⟨b, off, hA, _, _, hc⟩ := hS i zs[i] hz
      cases hA
      rw [List.getElem?_range h, hz]
      simp [hc, intOf]
    · rw [List.getElem?_eq_none h, List.getElem?_eq_none (by simpa using h)]; rfl

set_option maxHeartbeats 6400000 in
theorem gcd_of_short (HSH : ∀ (xs ys : List Int) (va vb : Value) (W : World), In W va xs → In W vb ys → nrm xs = true → nrm ys = true → 2 < ys.length → xs.length ≤ 1000 → ys.length ≤ 1000 → Calls Tryd.prog 63 #[va, vb] W (ShortRes W xs ys))
    (xs ys : List Int) (va vb : Value) (w : World) (ha : In w va xs) (hb : In w vb ys) (hx : nrm xs = true) (hy : nrm ys = true) (hlx : xs.length ≤ 1000) (hly : ys.length ≤ 1000) :
    Calls Tryd.prog 55 #[va, vb] w (GcdRes w (Nat.gcd (nval xs).toNat (nval ys).toNat)) := by
  obtain ⟨G, hG⟩ : ∃ G, G = Nat.gcd (nval xs).toNat (nval ys).toNat := ⟨_, rfl⟩
  rw [← hG]
  have HA := Lib.hid ha
  have HB := Lib.hid hb
  have HX := Lib.hid hx
  have HY := Lib.hid hy
  have HG := Lib.hid hG
  have HSHH := Lib.hid HSH
  clear ha hb hx hy hG HSH
  go_enter Tryd.func55, Tryd.ntmps55
  go_wp2_with fail
  go_loopw [0, 1] (fun xv yv wr => ∃ xs' ys' : List Int, In wr xv xs' ∧ In wr yv ys' ∧ nrm xs' = true ∧ nrm ys' = true ∧ xs'.length ≤ 1000 ∧ ys'.length ≤ 1000 ∧ Nat.gcd (nval xs').toNat (nval ys').toNat = G ∧ Below w.heap.size w wr) (fun _ yv wr => (nval (readL wr yv)).toNat)
  case atStart => exact ⟨xs, ys, HA.out, HB.out, HX.out, HY.out, hlx, hly, HG.out.symm, Below.refl _ _⟩
  case round =>
    obtain ⟨xs', ys', hax, hby, hnx, hny, hl1, hl2, hg, hbel⟩ := hrel
    have HAX := Lib.hid hax
    have HBY := Lib.hid hby
    have HNX := Lib.hid hnx
    have HNY := Lib.hid hny
    have HGG := Lib.hid hg
    have HBL := Lib.hid hbel
    obtain ⟨A, ca, rfl, hca, hma, hAh⟩ := hax
    obtain ⟨B, cb, rfl, hcb, hmb, hBh⟩ := hby
    have HAH := Lib.hid hAh
    have HBH := Lib.hid hBh
    clear hnx hny hg hbel hAh hBh hma hmb
    rcases Nat.lt_or_ge 2 ys'.length with hlong | hshort
    · have hl' : (2 : Int) < (ys'.length : Int) := by omega
      go_wp2_with fail
      refine (HSHH.out xs' ys' _ _ wr HAX.out HBY.out HNX.out HNY.out hlong hl1 hl2).mono ?_
      rintro e w1 ⟨vx, vy, xs2, ys2, rfl, hi1, hi2, hn1, hn2, hle1, hle2, hgg, hlt, hb1⟩
      have I1 := Lib.hid hi1
      have I2 := Lib.hid hi2
      have N1 := Lib.hid hn1
      have N2 := Lib.hid hn2
      have GG := Lib.hid hgg
      have LT := Lib.hid hlt
      have B1 := Lib.hid (bstep HBL.out hb1)
      have R2 := Lib.hid (readL_in hi2)
      have R0 := Lib.hid (readL_in HBY.out)
      clear hi1 hi2 hn1 hn2 hgg hlt hb1
      go_wp2_with fail
      go_roundw
      case rel => exact ⟨xs2, ys2, I1.out, I2.out, N1.out, N2.out, by omega, by omega, GG.out.trans HGG.out, B1.out⟩
      case measure =>
        have h1 := R2.out
        have h2 := R0.out
        have h3 := LT.out
        have h4 := nval_nonneg (nrm_lok N2.out)
        rw [h1, h2]; omega
    · have hl2' : decide ((2 : Int) < (ys'.length : Int)) = false := decide_eq_false (by omega)
      rcases Nat.eq_zero_or_pos ys'.length with h0 | hp
      · have hnil : ys' = [] := List.eq_nil_of_length_eq_zero h0
        subst hnil
        have hg0 : (nval xs').toNat = G := by have := HGG.out; rw [show (nval []).toNat = 0 from rfl, Nat.gcd_zero_right] at this; exact this
        have HXL := Lib.hid (nrm_limbs HNX.out)
        have HG0 := Lib.hid hg0
        clear hg0
        go_wp2_with fail
        refine (nat_copied xs' A ca xs'.length _ _ wr HAH.out (Nat.le_refl _) (Nat.le_refl _) (by omega)).mono ?_
        rintro e w1 ⟨rfl, hrow, hb1⟩
        rw [padL_self] at hrow
        have HR := Lib.hid hrow
        have HB1 := Lib.hid (bstep HBL.out hb1)
        clear hrow hb1
        go_wp2_with fail
        go_ret
        have hs := HBL.out.size
        refine ⟨_, rfl, ?_, HB1.out⟩
        rw [← HG0.out, ← HXL.out]
        exact ⟨_, _, rfl, Nat.le_refl _, by unfold maxLen; omega, HR.out.holds (fun k z hz => by rw [Nat.zero_add]; exact hz) hs HR.out.lt⟩
      · have hne : ((ys'.length : Int) == 0) = false := beq_false_of_ne (by omega)
        have sy := nval_small (nrm_lok HNY.out) hshort
        have py := nval_pos HNY.out hp
        obtain ⟨M, hM⟩ : ∃ M, M = (nval ys').toNat := ⟨_, rfl⟩
        obtain ⟨N, hN⟩ : ∃ N, N = (nval xs').toNat := ⟨_, rfl⟩
        have eM : nval ys' = (M : Int) := by omega
        have hM1 : M < 1000000000000000000 := by omega
        have hM0 : 0 < M := by omega
        have hr2 : (limbs (N % M)).length ≤ 2 := limbs_len_le.mpr (by have := Nat.mod_lt N hM0; omega)
        have hdv := nat_divide xs' ys' _ _ wr HAX.out HBY.out HNX.out HNY.out hl1 hp
        have hgg := HGG.out
        rw [← hM, ← hN] at hgg
        have HGN := Lib.hid hgg
        have HM := Lib.hid hM
        have HN := Lib.hid hN
        have EM := Lib.hid eM
        have HR2 := Lib.hid hr2
        have HDV := Lib.hid hdv
        clear sy py hM hN eM hr2 hdv hgg
        go_wp2_with fail
        refine HDV.out.mono ?_
        rintro e w1 ⟨vq, vr, rfl, -, hr, hb⟩
        rw [← HM.out, ← HN.out] at hr
        obtain ⟨A2, c2, rfl, hc2, hm2, hA2⟩ := hr
        have hwb : Calls Tryd.prog 38 #[.slice B ys'.length cb] w1 fun e w' => e = .returned (.int .i64 M) ∧ w1 = w' := by
          rw [← EM.out]; exact nat_word ys' B cb _ _ w1 (Holds.below HBH.out hb (Nat.le_refl _)) (nrm_lok HNY.out) hshort
        have hwr : Calls Tryd.prog 38 #[.slice A2 (limbs (N % M)).length c2] w1 fun e w' => e = .returned (.int .i64 ((N % M : Nat) : Int)) ∧ w1 = w' := by
          have := nat_word (limbs (N % M)) A2 c2 _ _ w1 hA2 (lok_limbs _) HR2.out
          rw [nval_limbs] at this; exact this
        have HWB := Lib.hid hwb
        have HWR := Lib.hid hwr
        have HBL1 := Lib.hid (bstep HBL.out hb)
        clear hwb hwr hb hA2 hm2
        go_wp2_with fail
        refine HWB.out.mono ?_
        rintro e w' ⟨rfl, rfl⟩
        go_wp2_with fail
        refine HWR.out.mono ?_
        rintro e w' ⟨rfl, rfl⟩
        go_wp2_with fail
        go_loopw [7, 8] (fun m n wr2 => ∃ a b : Nat, m = .int .i64 a ∧ n = .int .i64 b ∧ a < 1000000000000000000 ∧ b < 1000000000000000000 ∧ Nat.gcd a b = G ∧ Below w.heap.size w wr2) (fun _ n _ => (intOf n).toNat)
        case atStart => exact ⟨M, N % M, rfl, rfl, hM1, by have := Nat.mod_lt N hM0; omega, (gcd_step _ _).trans HGN.out, HBL1.out⟩
        case round =>
          obtain ⟨a, b, rfl, rfl, ha1, hb1, hg, hbel⟩ := hrel
          have HG2 := Lib.hid hg
          have HBL2 := Lib.hid hbel
          clear hg hbel
          rcases Nat.eq_zero_or_pos b with rfl | hb0
          · have hg := HG2.out
            rw [Nat.gcd_zero_right] at hg
            have HG3 := Lib.hid hg
            clear hg
            go_wp2_with fail
            refine (nat_ofWord (a : Int) wr (by omega) (by omega)).mono ?_
            rintro e w2 ⟨v, rfl, hsl, hb2⟩
            rw [Int.toNat_natCast, HG3.out] at hsl
            have HSL := Lib.hid hsl
            have HB2 := Lib.hid hb2
            clear hsl hb2
            go_wp2_with fail
            go_ret
            have hs := HBL2.out.size
            exact ⟨_, rfl, HSL.out.more hs (Nat.le_refl _), HBL2.out.trans (HB2.out.mono hs)⟩
          · have hb2 : ((b : Int) != 0) = true := by simp; omega
            have hb3 : ¬ (b : Int) = 0 := by omega
            have hb4 : ((b : Int) == 0) = false := beq_false_of_ne hb3
            have hr : (a : Int).tmod (b : Int) = ((a % b : Nat) : Int) := by rw [Int.tmod_eq_emod_of_nonneg (by omega)]; rfl
            have hlt := Nat.mod_lt a hb0
            go_wp2_with fail
            go_quiet (fail)
            go_wp2_with fail
            go_roundw
            case rel => exact ⟨b, a % b, rfl, rfl, hb1, by omega, by rw [gcd_step]; exact HG2.out, below_drewN HBL2.out _⟩
            case measure => simp [intOf]; omega
#print axioms gcd_of_short
end Go.Proofs.YtmbpcjnlniidkaaDoor
