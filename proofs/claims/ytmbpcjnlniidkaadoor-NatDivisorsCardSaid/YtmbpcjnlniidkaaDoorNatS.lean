/- Contracts of Add, minus, Sub of the reference; the walk of NatSums. -/
import Derived.Test.YtmbpcjnlniidkaaDoorNatR
namespace Go.Proofs.YtmbpcjnlniidkaaDoor
open Go.ChangeShapes Go.WideShapes Go.RowKit
set_option linter.unusedVariables false

theorem lok_snoc {ds : List Int} {x : Int} (h : lok ds = true) (h0 : 0 ≤ x) (h1 : x < 1000000000) : lok (ds ++ [x]) = true := by
  rw [lok_append]; exact ⟨h, by simp [lok, h0, h1]⟩
theorem radd_step {xs ys ds : List Int} {k : Nat} {c T : Int} (hl : ds.length = k) (hv : nval ds + 1000000000 ^ k * (c + nval (xs.drop k) + nval (ys.drop k)) = T) :
    nval (ds ++ [(xs.getD k 0 + ys.getD k 0 + c) % 1000000000]) + 1000000000 ^ (k + 1) * ((xs.getD k 0 + ys.getD k 0 + c) / 1000000000 + nval (xs.drop (k + 1)) + nval (ys.drop (k + 1))) = T := by
  rw [nval_snoc, hl, ← hv, nval_drop_getD xs k, nval_drop_getD ys k, Int.pow_succ, Int.mul_assoc, Int.add_assoc, ← Int.mul_add]
  congr 2
  have e := Int.emod_add_mul_ediv (xs.getD k 0 + ys.getD k 0 + c) 1000000000
  omega
theorem drop_ge {xs : List Int} {k : Nat} (h : xs.length ≤ k) : nval (xs.drop k) = 0 := by rw [List.drop_eq_nil_of_le h]; rfl

set_option maxHeartbeats 3200000 in
theorem ref_Add (xs ys : List Int) (va vb : Value) (w : World) (ha : In w va xs) (hb : In w vb ys) :
    Calls Tryd.prog 28 #[va, vb] w (Res w (addV xs ys) (addE xs ys)) := by
  obtain ⟨A, c, rfl, hc, hm, hA⟩ := ha
  obtain ⟨B, d, rfl, hd, hn, hB⟩ := hb
  have HA := Lib.hid hA
  have HB := Lib.hid hB
  have hm1 : xs.length ≤ 9223372036854775807 := Nat.le_trans hc hm
  have hm2 : ys.length ≤ 9223372036854775807 := Nat.le_trans hd hn
  clear hA hB hm hn
  rcases both_cases xs ys with ⟨hx, hbo⟩ | ⟨hx, hy, hbo⟩ | ⟨hx, hy, hbo⟩
  · have HBO := Lib.hid hbo
    clear hbo
    go_enter Tryd.func28, Tryd.ntmps28
    go_wp2_with fail
    refine (ref_Valid xs A c _ _ w HA.out hm1).mono ?_
    rintro e w' ⟨rfl, rfl⟩
    go_wp2_with fail
    go_ret2
    exact Res.none (by rw [addV, HBO.out]; rfl) (by rw [addE, HBO.out]; rfl) rfl (Below.refl _ _)
  · have HBO := Lib.hid hbo
    clear hbo
    go_enter Tryd.func28, Tryd.ntmps28
    go_wp2_with fail
    refine (ref_Valid xs A c _ _ w HA.out hm1).mono ?_
    rintro e w' ⟨rfl, rfl⟩
    go_wp2_with fail
    refine (ref_Valid ys B d _ _ _ HB.out hm2).mono ?_
    rintro e w' ⟨rfl, rfl⟩
    go_wp2_with fail
    go_ret2
    exact Res.none (by rw [addV, HBO.out]; rfl) (by rw [addE, HBO.out]; rfl) rfl (Below.refl _ _)
  · have HBO := Lib.hid hbo
    have l1 := valid_len hx
    have l2 := valid_len hy
    have HX := Lib.hid (valid_lok hx)
    have HY := Lib.hid (valid_lok hy)
    obtain ⟨i0, hi0, hz0, hz1, hz2⟩ := info_parts info_int
    obtain ⟨M, hM⟩ : ∃ M, M = max xs.length ys.length := ⟨_, rfl⟩
    have m1 : xs.length ≤ M := by omega
    have m2 : ys.length ≤ M := by omega
    have m3 : M ≤ 48 := by omega
    have hMM : ∀ k, M ≤ k → xs.length ≤ k ∧ ys.length ≤ k := by intro k hk; omega
    have HMM := Lib.hid hMM
    clear hbo hM hMM
    go_enter Tryd.func28, Tryd.ntmps28
    go_wp2_with fail
    refine (ref_Valid xs A c _ _ w HA.out hm1).mono ?_
    rintro e w' ⟨rfl, rfl⟩
    go_wp2_with fail
    refine (ref_Valid ys B d _ _ _ HB.out hm2).mono ?_
    rintro e w' ⟨rfl, rfl⟩
    go_wp2_with fail
    go_loopw [6, 7, 8] (fun v cv i wr => ∃ (k : Nat) (cc : Int) (ds : List Int), i = .int .i64 k ∧ cv = .int .i64 cc ∧ 0 ≤ cc ∧ cc ≤ 1 ∧ (k : Int) + cc ≤ M + 1 ∧ ds.length = k ∧ lok ds = true ∧
        nval ds + 1000000000 ^ k * (cc + nval (xs.drop k) + nval (ys.drop k)) = nval xs + nval ys ∧ wr.ownsRow w.heap.size 3 1 v ds.length (ds.map (Value.int .i64)) ∧ Below w.heap.size w wr)
      (fun _ cv i _ => (M - (intOf i).toNat) * 2 + (intOf cv).toNat)
    case atStart => exact ⟨0, 0, [], rfl, rfl, by omega, by omega, by omega, rfl, rfl, by simp [nval], World.ownsRow_nil _ _ _ _, Below.refl _ _⟩
    case round =>
      obtain ⟨k, cc, ds, rfl, rfl, c0, c1, hkc, hdl, hdk, hdv, hown, hbel⟩ := hrel
      have HDL := Lib.hid hdl
      have HDK := Lib.hid hdk
      have HDV := Lib.hid hdv
      have HOW := Lib.hid hown
      have HBL := Lib.hid hbel
      have xb := lok_getD HX.out k
      have yb := lok_getD HY.out k
      have hst := radd_step HDL.out HDV.out
      have hca := fun W => ref_at xs A c k 0 w.heap.size W
      obtain ⟨x, hxe⟩ : ∃ x, x = xs.getD k 0 := ⟨_, rfl⟩
      obtain ⟨y, hye⟩ : ∃ y, y = ys.getD k 0 := ⟨_, rfl⟩
      have hax : Calls Tryd.prog 50 #[.slice A xs.length c, .int .i64 (k : Int)] wr fun e w' => e = .returned (.int .i64 x) ∧ wr = w' := by rw [hxe]; exact ref_at xs A c k _ _ wr (HA.out.below HBL.out (Nat.le_refl _)) (by omega)
      have hay : Calls Tryd.prog 50 #[.slice B ys.length d, .int .i64 (k : Int)] wr fun e w' => e = .returned (.int .i64 y) ∧ wr = w' := by rw [hye]; exact ref_at ys B d k _ _ wr (HB.out.below HBL.out (Nat.le_refl _)) (by omega)
      rw [← hxe, ← hye] at hst
      rw [← hxe] at xb
      rw [← hye] at yb
      have HAX := Lib.hid hax
      have HAY := Lib.hid hay
      have HST := Lib.hid hst
      obtain ⟨x0, x1⟩ := xb
      obtain ⟨y0, y1⟩ := yb
      have hq := tdiv_nonneg' (n := x + y + cc) (by omega)
      have hr := tmod_nonneg' (n := x + y + cc) (by omega)
      have q0 : 0 ≤ (x + y + cc) / 1000000000 := by omega
      have q1 : (x + y + cc) / 1000000000 ≤ 1 := by omega
      have HXE := Lib.hid hxe
      have HYE := Lib.hid hye
      clear hdl hdk hdv hown hbel hst hca hax hay hxe hye
      have go : (k < xs.length ∨ (xs.length ≤ k ∧ k < ys.length) ∨ (xs.length ≤ k ∧ ys.length ≤ k ∧ 0 < cc)) ∨ (xs.length ≤ k ∧ ys.length ≤ k ∧ decide (0 < cc) = false) := by
        rcases Nat.lt_or_ge k xs.length with h1 | h1
        · left; left; exact h1
        · rcases Nat.lt_or_ge k ys.length with h2 | h2
          · left; right; left; exact ⟨h1, h2⟩
          · rcases Int.lt_or_le 0 cc with h3 | h3
            · left; right; right; exact ⟨h1, h2, h3⟩
            · right; exact ⟨h1, h2, decide_eq_false (by omega)⟩
      rcases go with go | ⟨g1, g2, g3⟩
      · have hkM : (k : Int) + ((x + y + cc) / 1000000000) ≤ M ∨ (k = M ∧ (x + y + cc) / 1000000000 = 0) := by
          rcases Nat.lt_or_ge k M with h | h
          · left; omega
          · right
            have hkk := HMM.out k h
            have e1 : x = 0 := by rw [HXE.out, List.getD_eq_getElem?_getD, List.getElem?_eq_none hkk.1]; rfl
            have e2 : y = 0 := by rw [HYE.out, List.getD_eq_getElem?_getD, List.getElem?_eq_none hkk.2]; rfl
            have hcc : cc = 1 ∨ cc = 0 := by omega
            have : cc = 1 := by
              rcases hcc with h | h
              · exact h
              · exfalso
                rcases go with g | ⟨_, g⟩ | ⟨_, _, g⟩ <;> omega
            omega
        have hcm : (k : Int) + 1 + (x + y + cc) / 1000000000 ≤ M + 1 := by omega
        have hms : (M - (k + 1)) * 2 + ((x + y + cc) / 1000000000).toNat < (M - k) * 2 + cc.toNat := by
          rcases Nat.lt_or_ge k M with h | h
          · omega
          · have hkk := HMM.out k h
            have hcc1 : cc = 1 := by
              rcases go with g | ⟨_, g⟩ | ⟨_, _, g⟩ <;> omega
            omega
        have HCM := Lib.hid hcm
        have HMS := Lib.hid hms
        have hk49 : k ≤ 49 := by omega
        have hdlen : ds.length ≤ 49 := by rw [HDL.out]; exact hk49
        clear hkM hcm hms
        rcases go with g | ⟨g, g'⟩ | ⟨g, g', g''⟩
        all_goals
          go_wp2_with fail
          refine HAX.out.mono ?_
          rintro e w' ⟨rfl, rfl⟩
          go_wp2_with fail
          refine HAY.out.mono ?_
          rintro e w' ⟨rfl, rfl⟩
          go_wp2_with (first
            | (at_builtin; refine wpList_append_own _ rfl _ _ 23 rfl w.heap.size 3 i0 (.int .i64 0) 1 8 Tryd.underlying23 hi0 hz0 hz1 hz2 rfl (by decide) _ _ _ rfl (HOW.out.alloc _) ⟨wr.heap.size, 0, none⟩ 1 1 [.int .i64 ((x + y + cc) % 1000000000)] rfl rfl (by intro j u hj; match j, hj with | 0, hj => simp at hj; subst hj; simp [Addr.add]) (by intro u hu; simp at hu; subst hu; rfl) (by unfold maxLen; omega) (by omega) (by have := HBL.out.size; simp; omega) ?_; intro v' w1 hown' hgrow _; refine Hid.out ?_)
            | fail)
          refine Lib.hid ?_
          have hb1 : Below w.heap.size w w1 := (HBL.out.alloc HBL.out.size _).grown hgrow (by have := HBL.out.size; simp; omega) (own_block_ge HOW.out)
          have HOW1 := Lib.hid (own_snoc hown')
          have HB1 := Lib.hid hb1
          clear hown' hgrow hb1
          go_wp2_with fail
          go_roundw
          case rel => exact ⟨k + 1, _, ds ++ [(x + y + cc) % 1000000000], by go_num, rfl, q0, q1, by have := HCM.out; omega, by rw [List.length_append, HDL.out]; rfl, lok_snoc HDK.out (by omega) (by omega), HST.out, HOW1.out, HB1.out⟩
          case measure =>
            have h1 := HMS.out
            simp only [intOf]
            have e : ((k : Int) + 1).toNat = k + 1 := by omega
            have e2 : ((k : Int)).toNat = k := by omega
            rw [e, e2]; exact h1
      · have hv := HDV.out
        have h3 : cc = 0 := by have := of_decide_eq_false g3; omega
        rw [drop_ge g1, drop_ge g2, h3] at hv
        have hv' : nval ds = nval xs + nval ys := by simpa using hv
        have hk49 : ds.length ≤ 49 := by rw [HDL.out]; omega
        have hfit := ref_fit ds _ wr (sl_of_owns HOW.out).toIn HDK.out (by omega)
        rw [hv'] at hfit
        have HFIT := Lib.hid hfit
        clear hv hv' h3 hfit
        go_wp2_with fail
        refine HFIT.out.mono ?_
        rintro e w5 ⟨v5, rfl, hs5, hb5⟩
        have HS5 := Lib.hid hs5
        have HB5 := Lib.hid hb5
        clear hs5 hb5
        go_wp2_with fail
        go_ret2
        exact ⟨v5, by rw [addE, HBO.out]; rfl, by rw [addV, HBO.out]; exact HS5.out.more HBL.out.size (Nat.le_refl _), bstep HBL.out HB5.out⟩
#print axioms ref_Add
end Go.Proofs.YtmbpcjnlniidkaaDoor
