/- The contract of Gcd of the reference; the walk of NatDivisors, out of the contract of shortened. -/
import Derived.Test.YtmbpcjnlniidkaaDoorNatZ6
import Derived.Test.YtmbpcjnlniidkaaDoorNatX3
namespace Go.Proofs.YtmbpcjnlniidkaaDoor
open Go.ChangeShapes Go.WideShapes Go.RowKit
set_option linter.unusedVariables false

def ResIn (w : World) (N : Nat) (err : Int) (e : Ending) (w' : World) : Prop :=
  ∃ v, e = .returned (.tuple #[v, .int .i64 err]) ∧ In w' v (limbs N) ∧ Below w.heap.size w w'
theorem ResIn.none {w w' : World} {N : Nat} {err err' : Int} {e : Ending} (hN : N = 0) (he : err = err') (h : e = .returned (.tuple #[.slice none 0 0, .int .i64 err'])) (hb : Below w.heap.size w w') : ResIn w N err e w' := by
  subst hN he h
  exact ⟨_, rfl, by rw [limbs_zero]; exact In.nil _, hb⟩
theorem valid_back {xs : List Int} (h : validB xs = true) : limbs (nval xs).toNat = xs := (nrm_limbs (valid_nrm h)).symm

set_option maxHeartbeats 3200000 in
theorem ref_Gcd (xs ys : List Int) (va vb : Value) (w : World) (ha : In w va xs) (hb : In w vb ys) :
    Calls Tryd.prog 36 #[va, vb] w (ResIn w (gcdN xs ys) (formE xs ys)) := by
  obtain ⟨A, c, rfl, hc, hm, hA⟩ := ha
  obtain ⟨B, d, rfl, hd, hn, hB⟩ := hb
  have HIB := Lib.hid (show In w (.slice B ys.length d) ys from ⟨B, d, rfl, hd, hn, hB⟩)
  have HA := Lib.hid hA
  have HB := Lib.hid hB
  have hm1 : xs.length ≤ 9223372036854775807 := Nat.le_trans hc hm
  have hm2 : ys.length ≤ 9223372036854775807 := Nat.le_trans hd hn
  clear hA hB hm hn
  rcases both_cases xs ys with ⟨hx, hbo⟩ | ⟨hx, hy, hbo⟩ | ⟨hx, hy, hbo⟩
  · have HBO := Lib.hid hbo
    clear hbo
    go_enter Tryd.func36, Tryd.ntmps36
    go_wp2_with fail
    refine (ref_Valid xs A c _ _ w HA.out hm1).mono ?_
    rintro e w' ⟨rfl, rfl⟩
    go_wp2_with fail
    go_ret2
    exact ResIn.none (by rw [gcdN, HBO.out]; rfl) (by rw [formE, HBO.out]; rfl) rfl (Below.refl _ _)
  · have HBO := Lib.hid hbo
    clear hbo
    go_enter Tryd.func36, Tryd.ntmps36
    go_wp2_with fail
    refine (ref_Valid xs A c _ _ w HA.out hm1).mono ?_
    rintro e w' ⟨rfl, rfl⟩
    go_wp2_with fail
    refine (ref_Valid ys B d _ _ _ HB.out hm2).mono ?_
    rintro e w' ⟨rfl, rfl⟩
    go_wp2_with fail
    go_ret2
    exact ResIn.none (by rw [gcdN, HBO.out]; rfl) (by rw [formE, HBO.out]; rfl) rfl (Below.refl _ _)
  · have HGN := Lib.hid (show gcdN xs ys = Nat.gcd (nval xs).toNat (nval ys).toNat by rw [gcdN, hbo]; rfl)
    have HFE := Lib.hid (show formE xs ys = 0 by rw [formE, hbo]; rfl)
    have HX := Lib.hid hx
    have HY := Lib.hid hy
    have l1 := valid_len hx
    have HAL := Lib.hid (Holds.below HA.out (below_alloc w (.cells #[] 3)) (Nat.le_refl _))
    have HOE := Lib.hid (own_empty w)
    have HLEN := Lib.hid (show ([] : List Int).length + xs.length ≤ 1000000 by simp; omega)
    clear hx hy hbo
    go_enter Tryd.func36, Tryd.ntmps36
    go_wp2_with fail
    refine (ref_Valid xs A c _ _ w HA.out hm1).mono ?_
    rintro e w' ⟨rfl, rfl⟩
    rw [HX.out]
    go_wp2_with fail
    refine (ref_Valid ys B d _ _ _ HB.out hm2).mono ?_
    rintro e w' ⟨rfl, rfl⟩
    rw [HY.out]
    go_wp2_with (first
      | (at_builtin; refine append_holds rfl (.tmp 17) (.tmp 18) rfl w.heap.size _ [] rfl HOE.out 0 w.heap.size A c xs _ rfl rfl HAL.out HLEN.out (by simp) ?_; intro v' w1 hown hgrow; refine Hid.out ?_)
      | fail)
    refine Lib.hid ?_
    rw [List.nil_append] at hown
    have hb1 : Below w.heap.size w w1 := (below_alloc _ _).grown hgrow (by simp) (own_block_ge HOE.out)
    have HI1 := Lib.hid (sl_of_owns hown).toIn
    have HIB1 := Lib.hid (HIB.out.on hb1)
    have HB1 := Lib.hid hb1
    clear hown hgrow hb1
    go_wp2_with fail
    go_loopw [0, 1] (fun xv yv wr => ∃ xs' ys' : List Int, In wr xv xs' ∧ In wr yv ys' ∧ validB xs' = true ∧ validB ys' = true ∧ Nat.gcd (nval xs').toNat (nval ys').toNat = gcdN xs ys ∧ Below w.heap.size w wr) (fun _ yv wr => (nval (readL wr yv)).toNat)
    case atStart => exact ⟨xs, ys, HI1.out, HIB1.out, HX.out, HY.out, HGN.out.symm, HB1.out⟩
    case round =>
      obtain ⟨xs', ys', hax, hby, hvx, hvy, hg, hbel⟩ := hrel
      have HAX := Lib.hid hax
      have HBY := Lib.hid hby
      have HVX := Lib.hid hvx
      have HVY := Lib.hid hvy
      have HGG := Lib.hid hg
      have HBL := Lib.hid hbel
      obtain ⟨B2, cb, rfl, hcb, hmb, hBh⟩ := hby
      have HBH := Lib.hid hBh
      have l2 := valid_len hvy
      clear hax hvx hvy hg hbel hBh hmb
      rcases Nat.eq_zero_or_pos ys'.length with h0 | hp
      · have hnil : ys' = [] := List.eq_nil_of_length_eq_zero h0
        subst hnil
        have hg0 : (nval xs').toNat = gcdN xs ys := by have := HGG.out; rw [show (nval []).toNat = 0 from rfl, Nat.gcd_zero_right] at this; exact this
        have HG0 := Lib.hid hg0
        clear hg0
        go_wp2_with fail
        go_ret2
        refine ⟨_, by rw [HFE.out]; rfl, ?_, HBL.out⟩
        rw [← HG0.out, valid_back HVX.out]; exact HAX.out
      · have hp' : (0 : Int) < (ys'.length : Int) := by omega
        have hbt : both xs' ys' = true := by rw [both, HVX.out, HVY.out]; rfl
        have hie : ys'.isEmpty = false := by cases ys' with
          | nil => simp at hp
          | cons a l => rfl
        have hrem : remN xs' ys' = (nval xs').toNat % (nval ys').toNat := by rw [remN, divOk, hbt, hie]; rfl
        have hpos := nval_pos (valid_nrm HVY.out) hp
        have hlt : remN xs' ys' < (nval ys').toNat := by rw [hrem]; exact Nat.mod_lt _ (by omega)
        have hvr : validB (limbs (remN xs' ys')) = true := valid_limbs (Nat.lt_trans hlt (valid_lt HVY.out))
        have hgn : Nat.gcd (nval ys').toNat (remN xs' ys') = gcdN xs ys := by rw [hrem, gcd_step]; exact HGG.out
        have HLT := Lib.hid hlt
        have HVR := Lib.hid hvr
        have HGN2 := Lib.hid hgn
        clear hbt hie hrem hpos hlt hvr hgn
        go_wp2_with fail
        refine (ref_DivMod xs' ys' _ _ wr HAX.out HBY.out).mono ?_
        rintro e w2 ⟨vq, vr, rfl, -, hr2, hb2⟩
        have HR2 := Lib.hid hr2
        have HAL2 := Lib.hid (Holds.below (Holds.below HBH.out hb2 (Nat.le_refl _)) (below_alloc w2 (.cells #[] 3)) hb2.size)
        have HOE2 := Lib.hid (own_empty w2)
        have HLEN2 := Lib.hid (show ([] : List Int).length + ys'.length ≤ 1000000 by simp; omega)
        have HB2 := Lib.hid (bstep HBL.out hb2)
        have R0 := Lib.hid (readL_in HBY.out)
        clear hr2 hb2
        go_wp2_with (first
          | (at_builtin; refine append_holds rfl (.tmp 30) (.tmp 31) rfl w2.heap.size _ [] rfl HOE2.out 0 wr.heap.size B2 cb ys' _ rfl rfl HAL2.out HLEN2.out (by simp) ?_; intro v' w3 hown hgrow; refine Hid.out ?_)
          | fail)
        refine Lib.hid ?_
        rw [List.nil_append] at hown
        have hb3 : Below w2.heap.size w2 w3 := (below_alloc _ _).grown hgrow (by simp) (own_block_ge HOE2.out)
        have HI3 := Lib.hid (sl_of_owns hown).toIn
        have HR3 := Lib.hid (HR2.out.on hb3)
        have HB3 := Lib.hid (bstep HB2.out hb3)
        have RD3 := Lib.hid (readL_in (HR2.out.on hb3))
        clear hown hgrow hb3
        go_wp2_with fail
        go_roundw
        case rel => exact ⟨ys', limbs (remN xs' ys'), HI3.out, HR3.out, HVY.out, HVR.out, by rw [nval_limbs, Int.toNat_natCast]; exact HGN2.out, HB3.out⟩
        case measure =>
          have h1 := RD3.out
          have h2 := R0.out
          have h3 := HLT.out
          rw [h1, h2, nval_limbs]; omega
#print axioms ref_Gcd
end Go.Proofs.YtmbpcjnlniidkaaDoor
