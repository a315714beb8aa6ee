/- Several texts in one: NatS, NatT, NatU, NatV, NatV2, NatV3, NatV4, NatV5, NatW5, NatX, NatX2. -/
import Derived.Test.YthkhaipbdphpeaaDoorPk2
/- Contracts of Add, minus, Sub of the reference; the walk of NatSums. -/
namespace Go.Proofs.YthkhaipbdphpeaaDoor
open Go.ChangeShapes Go.WideShapes Go.RowKit
set_option linter.unusedVariables false
set_option maxRecDepth 100000

theorem lok_snoc {ds : List Int} {x : Int} (h : lok ds = true) (h0 : 0 ≤ x) (h1 : x < 1000000000) : lok (ds ++ [x]) = true := by
  rw [lok_append]; exact ⟨h, by simp [lok, h0, h1]⟩
theorem radd_step {xs ys ds : List Int} {k : Nat} {c T : Int} (hl : ds.length = k) (hv : nval ds + 1000000000 ^ k * (c + nval (xs.drop k) + nval (ys.drop k)) = T) :
    nval (ds ++ [(xs.getD k 0 + ys.getD k 0 + c) % 1000000000]) + 1000000000 ^ (k + 1) * ((xs.getD k 0 + ys.getD k 0 + c) / 1000000000 + nval (xs.drop (k + 1)) + nval (ys.drop (k + 1))) = T := by
  rw [nval_snoc, hl, ← hv, nval_drop_getD xs k, nval_drop_getD ys k, Int.pow_succ, Int.mul_assoc, Int.add_assoc, ← Int.mul_add]
  congr 2
  have e := Int.emod_add_mul_ediv (xs.getD k 0 + ys.getD k 0 + c) 1000000000
  omega
theorem drop_ge {xs : List Int} {k : Nat} (h : xs.length ≤ k) : nval (xs.drop k) = 0 := by rw [List.drop_eq_nil_of_le h]; rfl

set_option maxHeartbeats 3200000 in
theorem ref_Add (xs ys : List Int) (va vb : Value) (w : World) (ha : In w va xs) (hb : In w vb ys) :
    Calls Tryd.prog 85 #[va, vb] w (Res w (addV xs ys) (addE xs ys)) := by
  obtain ⟨A, c, rfl, hc, hm, hA⟩ := ha
  obtain ⟨B, d, rfl, hd, hn, hB⟩ := hb
  have HA := Lib.hid hA
  have HB := Lib.hid hB
  have hm1 : xs.length ≤ 9223372036854775807 := Nat.le_trans hc hm
  have hm2 : ys.length ≤ 9223372036854775807 := Nat.le_trans hd hn
  clear hA hB hm hn
  rcases both_cases xs ys with ⟨hx, hbo⟩ | ⟨hx, hy, hbo⟩ | ⟨hx, hy, hbo⟩
  · have HBO := Lib.hid hbo
    clear hbo
    go_enter Tryd.func85, Tryd.ntmps85
    go_wp2_with fail
    refine (ref_Valid xs A c _ _ w HA.out hm1).mono ?_
    rintro e w' ⟨rfl, rfl⟩
    go_wp2_with fail
    go_ret2
    exact Res.none (by rw [addV, HBO.out]; rfl) (by rw [addE, HBO.out]; rfl) rfl (Below.refl _ _)
  · have HBO := Lib.hid hbo
    clear hbo
    go_enter Tryd.func85, Tryd.ntmps85
    go_wp2_with fail
    refine (ref_Valid xs A c _ _ w HA.out hm1).mono ?_
    rintro e w' ⟨rfl, rfl⟩
    go_wp2_with fail
    refine (ref_Valid ys B d _ _ _ HB.out hm2).mono ?_
    rintro e w' ⟨rfl, rfl⟩
    go_wp2_with fail
    go_ret2
    exact Res.none (by rw [addV, HBO.out]; rfl) (by rw [addE, HBO.out]; rfl) rfl (Below.refl _ _)
  · have HBO := Lib.hid hbo
    have l1 := valid_len hx
    have l2 := valid_len hy
    have HX := Lib.hid (valid_lok hx)
    have HY := Lib.hid (valid_lok hy)
    obtain ⟨i0, hi0, hz0, hz1, hz2⟩ := info_parts info_int
    obtain ⟨M, hM⟩ : ∃ M, M = max xs.length ys.length := ⟨_, rfl⟩
    have m1 : xs.length ≤ M := by omega
    have m2 : ys.length ≤ M := by omega
    have m3 : M ≤ 48 := by omega
    have hMM : ∀ k, M ≤ k → xs.length ≤ k ∧ ys.length ≤ k := by intro k hk; omega
    have HMM := Lib.hid hMM
    clear hbo hM hMM
    go_enter Tryd.func85, Tryd.ntmps85
    go_wp2_with fail
    refine (ref_Valid xs A c _ _ w HA.out hm1).mono ?_
    rintro e w' ⟨rfl, rfl⟩
    go_wp2_with fail
    refine (ref_Valid ys B d _ _ _ HB.out hm2).mono ?_
    rintro e w' ⟨rfl, rfl⟩
    go_wp2_with fail
    go_loopw [6, 7, 8] (fun v cv i wr => ∃ (k : Nat) (cc : Int) (ds : List Int), i = .int .i64 k ∧ cv = .int .i64 cc ∧ 0 ≤ cc ∧ cc ≤ 1 ∧ (k : Int) + cc ≤ M + 1 ∧ ds.length = k ∧ lok ds = true ∧
        nval ds + 1000000000 ^ k * (cc + nval (xs.drop k) + nval (ys.drop k)) = nval xs + nval ys ∧ wr.ownsRow w.heap.size 3 1 v ds.length (ds.map (Value.int .i64)) ∧ Below w.heap.size w wr)
      (fun _ cv i _ => (M - (intOf i).toNat) * 2 + (intOf cv).toNat)
    case atStart => exact ⟨0, 0, [], rfl, rfl, by omega, by omega, by omega, rfl, rfl, by simp [nval], World.ownsRow_nil _ _ _ _, Below.refl _ _⟩
    case round =>
      obtain ⟨k, cc, ds, rfl, rfl, c0, c1, hkc, hdl, hdk, hdv, hown, hbel⟩ := hrel
      have HDL := Lib.hid hdl
      have HDK := Lib.hid hdk
      have HDV := Lib.hid hdv
      have HOW := Lib.hid hown
      have HBL := Lib.hid hbel
      have xb := lok_getD HX.out k
      have yb := lok_getD HY.out k
      have hst := radd_step HDL.out HDV.out
      have hca := fun W => ref_at xs A c k 0 w.heap.size W
      obtain ⟨x, hxe⟩ : ∃ x, x = xs.getD k 0 := ⟨_, rfl⟩
      obtain ⟨y, hye⟩ : ∃ y, y = ys.getD k 0 := ⟨_, rfl⟩
      have hax : Calls Tryd.prog 91 #[.slice A xs.length c, .int .i64 (k : Int)] wr fun e w' => e = .returned (.int .i64 x) ∧ wr = w' := by rw [hxe]; exact ref_at xs A c k _ _ wr (HA.out.below HBL.out (Nat.le_refl _)) (by omega)
      have hay : Calls Tryd.prog 91 #[.slice B ys.length d, .int .i64 (k : Int)] wr fun e w' => e = .returned (.int .i64 y) ∧ wr = w' := by rw [hye]; exact ref_at ys B d k _ _ wr (HB.out.below HBL.out (Nat.le_refl _)) (by omega)
      rw [← hxe, ← hye] at hst
      rw [← hxe] at xb
      rw [← hye] at yb
      have HAX := Lib.hid hax
      have HAY := Lib.hid hay
      have HST := Lib.hid hst
      obtain ⟨x0, x1⟩ := xb
      obtain ⟨y0, y1⟩ := yb
      have hq := tdiv_nonneg' (n := x + y + cc) (by omega)
      have hr := tmod_nonneg' (n := x + y + cc) (by omega)
      have q0 : 0 ≤ (x + y + cc) / 1000000000 := by omega
      have q1 : (x + y + cc) / 1000000000 ≤ 1 := by omega
      have HXE := Lib.hid hxe
      have HYE := Lib.hid hye
      clear hdl hdk hdv hown hbel hst hca hax hay hxe hye
      have go : (k < xs.length ∨ (xs.length ≤ k ∧ k < ys.length) ∨ (xs.length ≤ k ∧ ys.length ≤ k ∧ 0 < cc)) ∨ (xs.length ≤ k ∧ ys.length ≤ k ∧ decide (0 < cc) = false) := by
        rcases Nat.lt_or_ge k xs.length with h1 | h1
        · left; left; exact h1
        · rcases Nat.lt_or_ge k ys.length with h2 | h2
          · left; right; left; exact ⟨h1, h2⟩
          · rcases Int.lt_or_le 0 cc with h3 | h3
            · left; right; right; exact ⟨h1, h2, h3⟩
            · right; exact ⟨h1, h2, decide_eq_false (by omega)⟩
      rcases go with go | ⟨g1, g2, g3⟩
      · have hkM : (k : Int) + ((x + y + cc) / 1000000000) ≤ M ∨ (k = M ∧ (x + y + cc) / 1000000000 = 0) := by
          rcases Nat.lt_or_ge k M with h | h
          · left; omega
          · right
            have hkk := HMM.out k h
            have e1 : x = 0 := by rw [HXE.out, List.getD_eq_getElem?_getD, List.getElem?_eq_none hkk.1]; rfl
            have e2 : y = 0 := by rw [HYE.out, List.getD_eq_getElem?_getD, List.getElem?_eq_none hkk.2]; rfl
            have hcc : cc = 1 ∨ cc = 0 := by omega
            have : cc = 1 := by
              rcases hcc with h | h
              · exact h
              · exfalso
                rcases go with g | ⟨_, g⟩ | ⟨_, _, g⟩ <;> omega
            omega
        have hcm : (k : Int) + 1 + (x + y + cc) / 1000000000 ≤ M + 1 := by omega
        have hms : (M - (k + 1)) * 2 + ((x + y + cc) / 1000000000).toNat < (M - k) * 2 + cc.toNat := by
          rcases Nat.lt_or_ge k M with h | h
          · omega
          · have hkk := HMM.out k h
            have hcc1 : cc = 1 := by
              rcases go with g | ⟨_, g⟩ | ⟨_, _, g⟩ <;> omega
            omega
        have HCM := Lib.hid hcm
        have HMS := Lib.hid hms
        have hk49 : k ≤ 49 := by omega
        have hdlen : ds.length ≤ 49 := by rw [HDL.out]; exact hk49
        clear hkM hcm hms
        rcases go with g | ⟨g, g'⟩ | ⟨g, g', g''⟩
        all_goals
          go_wp2_with fail
          refine HAX.out.mono ?_
          rintro e w' ⟨rfl, rfl⟩
          go_wp2_with fail
          refine HAY.out.mono ?_
          rintro e w' ⟨rfl, rfl⟩
          go_wp2_with (first
            | (at_builtin; refine wpList_append_own _ rfl _ _ 23 rfl w.heap.size 3 i0 (.int .i64 0) 1 8 Tryd.underlying23 hi0 hz0 hz1 hz2 rfl (by decide) _ _ _ rfl (HOW.out.alloc _) ⟨wr.heap.size, 0, none⟩ 1 1 [.int .i64 ((x + y + cc) % 1000000000)] rfl rfl (by intro j u hj; match j, hj with | 0, hj => simp at hj; subst hj; simp [Addr.add]) (by intro u hu; simp at hu; subst hu; rfl) (by unfold maxLen; omega) (by omega) (by have := HBL.out.size; simp; omega) ?_; intro v' w1 hown' hgrow _; refine Hid.out ?_)
            | fail)
          refine Lib.hid ?_
          have hb1 : Below w.heap.size w w1 := (HBL.out.alloc HBL.out.size _).grown hgrow (by have := HBL.out.size; simp; omega) (own_block_ge HOW.out)
          have HOW1 := Lib.hid (own_snoc hown')
          have HB1 := Lib.hid hb1
          clear hown' hgrow hb1
          go_wp2_with fail
          go_roundw
          case rel => exact ⟨k + 1, _, ds ++ [(x + y + cc) % 1000000000], by go_num, rfl, q0, q1, by have := HCM.out; omega, by rw [List.length_append, HDL.out]; rfl, lok_snoc HDK.out (by omega) (by omega), HST.out, HOW1.out, HB1.out⟩
          case measure =>
            have h1 := HMS.out
            simp only [intOf]
            have e : ((k : Int) + 1).toNat = k + 1 := by omega
            have e2 : ((k : Int)).toNat = k := by omega
            rw [e, e2]; exact h1
      · have hv := HDV.out
        have h3 : cc = 0 := by have := of_decide_eq_false g3; omega
        rw [drop_ge g1, drop_ge g2, h3] at hv
        have hv' : nval ds = nval xs + nval ys := by simpa using hv
        have hk49 : ds.length ≤ 49 := by rw [HDL.out]; omega
        have hfit := ref_fit ds _ wr (sl_of_owns HOW.out).toIn HDK.out (by omega)
        rw [hv'] at hfit
        have HFIT := Lib.hid hfit
        clear hv hv' h3 hfit
        go_wp2_with fail
        refine HFIT.out.mono ?_
        rintro e w5 ⟨v5, rfl, hs5, hb5⟩
        have HS5 := Lib.hid hs5
        have HB5 := Lib.hid hb5
        clear hs5 hb5
        go_wp2_with fail
        go_ret2
        exact ⟨v5, by rw [addE, HBO.out]; rfl, by rw [addV, HBO.out]; exact HS5.out.more HBL.out.size (Nat.le_refl _), bstep HBL.out HB5.out⟩
end Go.Proofs.YthkhaipbdphpeaaDoor
/- Contracts of minus and Sub of the reference; the walk of NatSums. -/
namespace Go.Proofs.YthkhaipbdphpeaaDoor
open Go.ChangeShapes Go.WideShapes Go.RowKit
set_option linter.unusedVariables false
set_option maxRecDepth 100000

theorem rmin_step {xs ys ds : List Int} {k : Nat} {x y bo b' T : Int} (hl : ds.length = k) (hx : xs.getD k 0 = x) (hy : ys.getD k 0 = y) (hv : nval ds + 1000000000 ^ k * (nval (xs.drop k) - nval (ys.drop k) - bo) = T) :
    nval (ds ++ [x - y - bo + 1000000000 * b']) + 1000000000 ^ (k + 1) * (nval (xs.drop (k + 1)) - nval (ys.drop (k + 1)) - b') = T := by
  rw [nval_snoc, hl, ← hv, nval_drop_getD xs k, nval_drop_getD ys k, hx, hy, Int.pow_succ, Int.mul_assoc, Int.add_assoc, ← Int.mul_add]
  congr 2
  omega
theorem rmin_end {xs ys ds : List Int} {bo : Int} (hx : lok xs = true) (hy : lok ys = true) (hle : nval ys ≤ nval xs) (hdl : ds.length = xs.length) (hdk : lok ds = true) (b0 : 0 ≤ bo)
    (hv : nval ds + 1000000000 ^ xs.length * (nval (xs.drop xs.length) - nval (ys.drop xs.length) - bo) = nval xs - nval ys) : nval ds = nval xs - nval ys := by
  rw [List.drop_length] at hv
  have h1 := nval_nonneg (lok_drop hy xs.length)
  have h2 := nval_lt hdk
  rw [hdl] at h2
  have e0 : nval ([] : List Int) = 0 := rfl
  rw [e0] at hv
  rcases Int.lt_or_le 0 (nval (ys.drop xs.length) + bo) with h | h
  · exfalso
    have p := pow_pos' xs.length
    have : (1000000000 : Int) ^ xs.length * (0 - nval (ys.drop xs.length) - bo) ≤ 1000000000 ^ xs.length * (-1) := Int.mul_le_mul_of_nonneg_left (by omega) (Int.le_of_lt p)
    omega
  · have e : (0 : Int) - nval (ys.drop xs.length) - bo = 0 := by omega
    rw [e, Int.mul_zero] at hv
    omega

theorem one_cell (w : World) (t : TypeId) (x : Value) (j : Nat) (u : Value) (hj : [x][j]? = some u) : (w.alloc (.cells #[x] t)).cell? ((⟨w.heap.size, 0, none⟩ : Addr).add j) = some u := by
  match j, hj with
  | 0, hj =>
    obtain rfl : x = u := by simpa using hj
    show (w.alloc (.cells #[x] t)).cell? ⟨w.heap.size, 0, none⟩ = some x
    rw [cell_of_row _ w.heap.size 0 #[x] t (0, 0) (heap_alloc_new w _)]
    rfl

set_option maxHeartbeats 3200000 in
theorem ref_minus (xs ys : List Int) (va vb : Value) (w : World) (ha : In w va xs) (hb : In w vb ys) (hx : lok xs = true) (hy : lok ys = true) (hl : xs.length ≤ 1000)
    (hle : nval ys ≤ nval xs) (hfit : (nval xs - nval ys).toNat < 1000000000 ^ 48) :
    Calls Tryd.prog 71 #[va, vb] w (GcdRes w (nval xs - nval ys).toNat) := by
  obtain ⟨A, c, rfl, hc, hm, hA⟩ := ha
  obtain ⟨B, d, rfl, hd, hn, hB⟩ := hb
  have HA := Lib.hid hA
  have HB := Lib.hid hB
  have HX := Lib.hid hx
  have HY := Lib.hid hy
  have HLE := Lib.hid hle
  have HF := Lib.hid (show fitN (nval xs - nval ys).toNat = (nval xs - nval ys).toNat from if_pos hfit)
  obtain ⟨i0, hi0, hz0, hz1, hz2⟩ := info_parts info_int
  clear hA hB hm hn hx hy hle hfit
  go_enter Tryd.func71, Tryd.ntmps71
  go_wp2_with fail
  go_loopw [5, 6, 7] (fun v bv i wr => ∃ (k : Nat) (bo : Int) (ds : List Int), k ≤ xs.length ∧ i = .int .i64 k ∧ bv = .int .i64 bo ∧ 0 ≤ bo ∧ bo ≤ 1 ∧ ds.length = k ∧ lok ds = true ∧
      nval ds + 1000000000 ^ k * (nval (xs.drop k) - nval (ys.drop k) - bo) = nval xs - nval ys ∧ wr.ownsRow w.heap.size 3 1 v ds.length (ds.map (Value.int .i64)) ∧ Below w.heap.size w wr)
    (fun _ _ i _ => xs.length - (intOf i).toNat)
  case atStart => exact ⟨0, 0, [], Nat.zero_le _, rfl, rfl, by omega, by omega, rfl, rfl, by simp [nval], World.ownsRow_nil _ _ _ _, Below.refl _ _⟩
  case round =>
    obtain ⟨k, bo, ds, hk, rfl, rfl, b0, b1, hdl, hdk, hdv, hown, hbel⟩ := hrel
    have HDL := Lib.hid hdl
    have HDK := Lib.hid hdk
    have HDV := Lib.hid hdv
    have HOW := Lib.hid hown
    have HBL := Lib.hid hbel
    clear hdl hdk hdv hown hbel
    rcases Nat.lt_or_ge k xs.length with hlt | hge
    · obtain ⟨x, hx⟩ : ∃ x, xs[k]? = some x := ⟨_, List.getElem?_eq_getElem hlt⟩
      obtain ⟨b, off, rfl, _, _, hcell⟩ := (HA.out.below HBL.out (Nat.le_refl _)) k x hx
      have xb := lok_at HX.out hx
      have hxg : xs.getD k 0 = x := by rw [List.getD_eq_getElem?_getD, hx]; rfl
      obtain ⟨y, hye⟩ : ∃ y, ys.getD k 0 = y := ⟨_, rfl⟩
      have yb := lok_getD HY.out k
      rw [hye] at yb
      have hay : ∀ n, Calls Tryd.prog 91 #[.slice B ys.length d, .int .i64 (k : Int)] (wr.drewN n) fun e w' => e = .returned (.int .i64 y) ∧ w' = wr.drewN n := by
        intro n
        rw [← hye]
        exact (ref_at ys B d k _ _ (wr.drewN n) ((HB.out.below HBL.out (Nat.le_refl _)).keep fun _ _ _ => rfl) (by omega)).mono fun _ _ h => ⟨h.1, h.2.symm⟩
      have HAY := Lib.hid hay
      have HXG := Lib.hid hxg
      have HYE := Lib.hid hye
      have hdlen : ds.length ≤ 1000 := by rw [HDL.out]; omega
      obtain ⟨x0, x1⟩ := xb
      obtain ⟨y0, y1⟩ := yb
      clear hx hxg hye hay
      rcases Int.lt_or_le (x - y - bo) 0 with hs | hs
      · have HST := Lib.hid (rmin_step (b' := 1) HDL.out HXG.out HYE.out HDV.out)
        go_wp2_with fail
        go_quiet ((go_at_call 91; exact Calls.quiet_of_same (HAY.out _)))
        have hown2 : (wr.drewN nq).ownsRow w.heap.size 3 1 _ ds.length (ds.map (Value.int .i64)) := own_keep HOW.out (below_drewN (Below.refl _ _) _)
        have HOW2 := Lib.hid hown2
        have HBL2 := Lib.hid (below_drewN HBL.out nq)
        clear hown2
        go_wp2_with (first
          | (at_builtin; refine wpList_append_own _ rfl _ _ 23 rfl w.heap.size 3 i0 (.int .i64 0) 1 8 Tryd.underlying23 hi0 hz0 hz1 hz2 rfl (by decide) _ _ _ rfl (HOW2.out.alloc _) ⟨(wr.drewN nq).heap.size, 0, none⟩ 1 1 [.int .i64 (x - y - bo + 1000000000)] rfl rfl (one_cell _ _ _) (by intro u hu; simp at hu; subst hu; rfl) (by unfold maxLen; omega) (by omega) (by have := HBL2.out.size; simp at this ⊢; omega) ?_; intro v' w1 hown' hgrow _; refine Hid.out ?_)
          | fail)
        refine Lib.hid ?_
        have hb1 : Below w.heap.size w w1 := (HBL2.out.alloc HBL2.out.size _).grown hgrow (by have := HBL2.out.size; simp at this ⊢; omega) (own_block_ge HOW2.out)
        have HOW1 := Lib.hid (own_snoc hown')
        have HB1 := Lib.hid hb1
        clear hown' hgrow hb1
        go_wp2_with fail
        go_roundw
        case rel =>
          have e : x - y - bo + 1000000000 = x - y - bo + 1000000000 * 1 := by omega
          refine ⟨k + 1, 1, ds ++ [x - y - bo + 1000000000], by omega, by go_num, rfl, by omega, by omega, by rw [List.length_append, HDL.out]; rfl, lok_snoc HDK.out (by omega) (by omega), ?_, HOW1.out, HB1.out⟩
          rw [e]; exact HST.out
        case measure => simp [intOf]; omega
      · have HST := Lib.hid (rmin_step (b' := 0) HDL.out HXG.out HYE.out HDV.out)
        go_wp2_with fail
        go_quiet ((go_at_call 91; exact Calls.quiet_of_same (HAY.out _)))
        have hown2 : (wr.drewN nq).ownsRow w.heap.size 3 1 _ ds.length (ds.map (Value.int .i64)) := own_keep HOW.out (below_drewN (Below.refl _ _) _)
        have HOW2 := Lib.hid hown2
        have HBL2 := Lib.hid (below_drewN HBL.out nq)
        have hs' : decide (x - y - bo < 0) = false := decide_eq_false (by omega)
        clear hown2
        go_wp2_with (first
          | (at_builtin; refine wpList_append_own _ rfl _ _ 23 rfl w.heap.size 3 i0 (.int .i64 0) 1 8 Tryd.underlying23 hi0 hz0 hz1 hz2 rfl (by decide) _ _ _ rfl (HOW2.out.alloc _) ⟨(wr.drewN nq).heap.size, 0, none⟩ 1 1 [.int .i64 (x - y - bo)] rfl rfl (one_cell _ _ _) (by intro u hu; simp at hu; subst hu; rfl) (by unfold maxLen; omega) (by omega) (by have := HBL2.out.size; simp at this ⊢; omega) ?_; intro v' w1 hown' hgrow _; refine Hid.out ?_)
          | fail)
        refine Lib.hid ?_
        have hb1 : Below w.heap.size w w1 := (HBL2.out.alloc HBL2.out.size _).grown hgrow (by have := HBL2.out.size; simp at this ⊢; omega) (own_block_ge HOW2.out)
        have HOW1 := Lib.hid (own_snoc hown')
        have HB1 := Lib.hid hb1
        clear hown' hgrow hb1
        go_wp2_with fail
        go_roundw
        case rel =>
          have e : x - y - bo = x - y - bo + 1000000000 * 0 := by omega
          refine ⟨k + 1, 0, ds ++ [x - y - bo], by omega, by go_num, rfl, by omega, by omega, by rw [List.length_append, HDL.out]; rfl, lok_snoc HDK.out hs (by omega), ?_, HOW1.out, HB1.out⟩
          rw [e]; exact HST.out
        case measure => simp [intOf]; omega
    · obtain rfl : k = xs.length := by omega
      have hv := rmin_end HX.out HY.out HLE.out HDL.out HDK.out b0 HDV.out
      have hfit := ref_fit ds _ wr (sl_of_owns HOW.out).toIn HDK.out (by rw [HDL.out]; omega)
      rw [hv, HF.out] at hfit
      have HFIT := Lib.hid hfit
      clear hv hfit
      go_wp2_with fail
      refine HFIT.out.mono ?_
      rintro e w5 ⟨v5, rfl, hs5, hb5⟩
      have HS5 := Lib.hid hs5
      have HB5 := Lib.hid hb5
      clear hs5 hb5
      go_wp2_with fail
      go_ret
      exact ⟨v5, rfl, HS5.out.more HBL.out.size (Nat.le_refl _), bstep HBL.out HB5.out⟩

theorem sub_fit {xs ys : List Int} (hx : validB xs = true) (hy : validB ys = true) (hle : nval ys ≤ nval xs) : (nval xs - nval ys).toNat < 1000000000 ^ 48 := by
  have h0 := nval_nonneg (valid_lok hy)
  have hl := nrm_limbs (valid_nrm hx)
  have : (nval xs).toNat < 1000000000 ^ 48 := limbs_len_le.mp (by rw [← hl]; exact valid_len hx)
  exact Nat.lt_of_le_of_lt (by omega) this

set_option maxHeartbeats 1600000 in
theorem ref_Sub (xs ys : List Int) (va vb : Value) (w : World) (ha : In w va xs) (hb : In w vb ys) :
    Calls Tryd.prog 86 #[va, vb] w (Res w (subV xs ys) (subE xs ys)) := by
  obtain ⟨A, c, rfl, hc, hm, hA⟩ := ha
  obtain ⟨B, d, rfl, hd, hn, hB⟩ := hb
  have HIA := Lib.hid (show In w (.slice A xs.length c) xs from ⟨A, c, rfl, hc, hm, hA⟩)
  have HIB := Lib.hid (show In w (.slice B ys.length d) ys from ⟨B, d, rfl, hd, hn, hB⟩)
  have HA := Lib.hid hA
  have HB := Lib.hid hB
  have hm1 : xs.length ≤ 9223372036854775807 := Nat.le_trans hc hm
  have hm2 : ys.length ≤ 9223372036854775807 := Nat.le_trans hd hn
  clear hA hB hm hn
  rcases both_cases xs ys with ⟨hx, hbo⟩ | ⟨hx, hy, hbo⟩ | ⟨hx, hy, hbo⟩
  · have HBO := Lib.hid hbo
    clear hbo
    go_enter Tryd.func86, Tryd.ntmps86
    go_wp2_with fail
    refine (ref_Valid xs A c _ _ w HA.out hm1).mono ?_
    rintro e w' ⟨rfl, rfl⟩
    go_wp2_with fail
    go_ret2
    exact Res.none (by rw [subV, HBO.out]; rfl) (by rw [subE, HBO.out]; rfl) rfl (Below.refl _ _)
  · have HBO := Lib.hid hbo
    clear hbo
    go_enter Tryd.func86, Tryd.ntmps86
    go_wp2_with fail
    refine (ref_Valid xs A c _ _ w HA.out hm1).mono ?_
    rintro e w' ⟨rfl, rfl⟩
    go_wp2_with fail
    refine (ref_Valid ys B d _ _ _ HB.out hm2).mono ?_
    rintro e w' ⟨rfl, rfl⟩
    go_wp2_with fail
    go_ret2
    exact Res.none (by rw [subV, HBO.out]; rfl) (by rw [subE, HBO.out]; rfl) rfl (Below.refl _ _)
  · have HBO := Lib.hid hbo
    have l1 := valid_len hx
    have l2 := valid_len hy
    have HX := Lib.hid hx
    have HY := Lib.hid hy
    have HCC := Lib.hid (ref_compare xs ys A B c d _ _ _ _ w HA.out HB.out (Nat.le_refl _) (Nat.le_refl _) (valid_nrm hx) (valid_nrm hy) (by omega) (by omega))
    rcases Int.lt_or_le (nval xs) (nval ys) with hlt | hge
    · have hcm : cmpI (nval xs) (nval ys) = -1 := cmpI_lt hlt
      have HLT := Lib.hid hlt
      clear hbo hlt
      go_enter Tryd.func86, Tryd.ntmps86
      go_wp2_with fail
      refine (ref_Valid xs A c _ _ w HA.out hm1).mono ?_
      rintro e w' ⟨rfl, rfl⟩
      go_wp2_with fail
      refine (ref_Valid ys B d _ _ _ HB.out hm2).mono ?_
      rintro e w' ⟨rfl, rfl⟩
      go_wp2_with fail
      refine HCC.out.mono ?_
      rintro e w' ⟨rfl, hbel⟩
      go_wp2_with fail
      go_ret2
      exact Res.none (by rw [subV, HBO.out, if_pos rfl, if_pos HLT.out]) (by rw [subE, HBO.out, if_pos rfl, if_pos HLT.out]) rfl hbel
    · have hcm : decide (cmpI (nval xs) (nval ys) < 0) = false := by
        refine decide_eq_false ?_
        rcases Int.lt_or_eq_of_le hge with h | h
        · rw [cmpI_gt h]; decide
        · rw [← h, cmpI_eq]; decide
      have HGE := Lib.hid hge
      clear hbo hge
      go_enter Tryd.func86, Tryd.ntmps86
      go_wp2_with fail
      refine (ref_Valid xs A c _ _ w HA.out hm1).mono ?_
      rintro e w' ⟨rfl, rfl⟩
      go_wp2_with fail
      refine (ref_Valid ys B d _ _ _ HB.out hm2).mono ?_
      rintro e w' ⟨rfl, rfl⟩
      go_wp2_with fail
      refine HCC.out.mono ?_
      rintro e w1 ⟨rfl, hbel⟩
      have HB1 := Lib.hid hbel
      clear hbel
      go_wp2_with fail
      refine (ref_minus xs ys _ _ w1 (HIA.out.on HB1.out) (HIB.out.on HB1.out) (valid_lok HX.out) (valid_lok HY.out) (by omega) HGE.out (sub_fit HX.out HY.out HGE.out)).mono ?_
      rintro e w2 ⟨v, rfl, hs, hb2⟩
      have HS := Lib.hid hs
      have HB2 := Lib.hid hb2
      clear hs hb2
      go_wp2_with fail
      go_ret2
      have hf : fitN (nval xs - nval ys).toNat = (nval xs - nval ys).toNat := if_pos (sub_fit HX.out HY.out HGE.out)
      have hf2 : fitE (nval xs - nval ys).toNat = 0 := if_pos (sub_fit HX.out HY.out HGE.out)
      refine ⟨v, ?_, ?_, bstep HB1.out HB2.out⟩
      · rw [subE, HBO.out, if_pos rfl, if_neg (Int.not_lt.mpr HGE.out), hf2]; rfl
      · rw [subV, HBO.out, if_pos rfl, if_neg (Int.not_lt.mpr HGE.out), hf]; exact HS.out.more HB1.out.size (Nat.le_refl _)

theorem res_open {w w' : World} {N : Nat} {err : Int} {e : Ending} (h : Res w N err e w') : ∃ v, e = .returned (.tuple #[v, .int .i64 err]) ∧ In w' v (limbs N) ∧ Below w.heap.size w w' := by
  obtain ⟨v, h1, h2, h3⟩ := h; exact ⟨v, h1, h2.toIn, h3⟩
end Go.Proofs.YthkhaipbdphpeaaDoor
/- Contracts of times and Mul of the reference. -/
namespace Go.Proofs.YthkhaipbdphpeaaDoor
open Go.ChangeShapes Go.WideShapes Go.RowKit
set_option linter.unusedVariables false
set_option maxRecDepth 100000

theorem nval_set (P : List Int) : ∀ (j : Nat) (v : Int), j < P.length → nval (P.set j v) = nval P + 1000000000 ^ j * (v - P.getD j 0) := by
  induction P with
  | nil => intro j v h; simp at h
  | cons p P ih =>
    intro j v h
    cases j with
    | zero => simp [nval]; omega
    | succ j =>
      have i := ih j v (by simpa using h)
      have e : (p :: P).getD (j + 1) 0 = P.getD j 0 := by simp
      rw [List.set_cons_succ, nval, nval, i, e, Int.pow_succ, Int.mul_add, Int.mul_comm (1000000000 ^ j) 1000000000, Int.mul_assoc]; omega
theorem mul_bd2 {x y : Int} (h0 : 0 ≤ x) (h1 : x < 1000000000) (h2 : 0 ≤ y) (h3 : y < 1000000000) : 0 ≤ x * y ∧ x * y ≤ 999999998000000001 :=
  ⟨Int.mul_nonneg h0 h2, (mul_bd (by omega) h1 h2 h3).2⟩
theorem inner_step {P ys : List Int} {j k : Nat} {p x y c T : Int} (hj : j < P.length) (hp : P.getD j 0 = p) (hy : ys.getD k 0 = y) (hv : nval P + 1000000000 ^ j * (c + x * nval (ys.drop k)) = T) :
    nval (P.set j ((p + x * y + c) % 1000000000)) + 1000000000 ^ (j + 1) * ((p + x * y + c) / 1000000000 + x * nval (ys.drop (k + 1))) = T := by
  rw [nval_set P j _ hj, hp, ← hv, nval_drop_getD ys k, hy, Int.pow_succ, Int.mul_assoc, Int.add_assoc, ← Int.mul_add, Int.mul_add x]
  have e2 : x * (1000000000 * nval (ys.drop (k + 1))) = 1000000000 * (x * nval (ys.drop (k + 1))) := by rw [Int.mul_left_comm]
  rw [e2]
  congr 2
  have e := Int.emod_add_mul_ediv (p + x * y + c) 1000000000
  omega
/-- Behind the last limb nothing is carried. -/
theorem inner_top {P xs ys : List Int} {i k : Nat} {x c : Int} (hP : lok P = true) (hx : lok xs = true) (hy : lok ys = true) (hxi : xs[i]? = some x) (c0 : 0 ≤ c) (hk : ys.length ≤ k)
    (hv : nval P + 1000000000 ^ (i + k) * (c + x * nval (ys.drop k)) = nval (xs.take (i + 1)) * nval ys) : 0 < c → k = ys.length := by
  intro hc
  rw [drop_ge hk, Int.mul_zero, Int.add_zero] at hv
  have h0 := nval_nonneg hP
  have hi : i < xs.length := by
    rcases Nat.lt_or_ge i xs.length with h | h
    · exact h
    · rw [List.getElem?_eq_none h] at hxi; cases hxi
  have a := nval_lt (lok_take hx (i + 1))
  have a0 := nval_nonneg (lok_take hx (i + 1))
  have b := nval_lt hy
  have b0 := nval_nonneg hy
  rw [List.length_take, Nat.min_eq_left (by omega)] at a
  rcases Nat.lt_or_ge ys.length k with h | h
  · exfalso
    have p1 := pow_pos' (i + 1)
    have p2 := pow_pos' ys.length
    have m1 : nval (xs.take (i + 1)) * nval ys ≤ 1000000000 ^ (i + 1) * nval ys := Int.mul_le_mul_of_nonneg_right (Int.le_of_lt a) b0
    have m2 : (1000000000 : Int) ^ (i + 1) * nval ys < 1000000000 ^ (i + 1) * 1000000000 ^ ys.length := Int.mul_lt_mul_of_pos_left b p1
    rw [← Int.pow_add] at m2
    have m3 : (1000000000 : Int) ^ (i + 1 + ys.length) ≤ 1000000000 ^ (i + k) := pow_le_pow' (by omega)
    have m4 : (1000000000 : Int) ^ (i + k) * 1 ≤ 1000000000 ^ (i + k) * c := Int.mul_le_mul_of_nonneg_left (by omega) (Int.le_of_lt (pow_pos' _))
    omega
  · omega
theorem outer_next {P xs ys : List Int} {i : Nat} {x : Int} (hxi : xs[i]? = some x) (hv : nval P = nval (xs.take i) * nval ys) :
    nval P + 1000000000 ^ (i + 0) * (0 + x * nval (ys.drop 0)) = nval (xs.take (i + 1)) * nval ys := by
  have hi : i < xs.length := by
    rcases Nat.lt_or_ge i xs.length with h | h
    · exact h
    · rw [List.getElem?_eq_none h] at hxi; cases hxi
  rw [trim_step hxi, nval_snoc, List.length_take, Nat.min_eq_left (by omega), List.drop_zero, Nat.add_zero, Int.zero_add, hv, Int.add_mul, Int.mul_assoc]
theorem inner_end {P ys : List Int} {i k : Nat} {x c T : Int} (hk : ys.length ≤ k) (hc : c = 0) (hv : nval P + 1000000000 ^ (i + k) * (c + x * nval (ys.drop k)) = T) : nval P = T := by
  rw [drop_ge hk, hc] at hv; simpa using hv

set_option maxHeartbeats 3200000 in
theorem ref_times (xs ys : List Int) (va vb : Value) (w : World) (ha : In w va xs) (hb : In w vb ys) (hx : lok xs = true) (hy : lok ys = true) (hl1 : xs.length ≤ 1000) (hl2 : ys.length ≤ 1000) :
    Calls Tryd.prog 72 #[va, vb] w (GcdRes w (nval xs * nval ys).toNat) := by
  obtain ⟨A, c, rfl, hc, hm, hA⟩ := ha
  obtain ⟨B, d, rfl, hd, hn, hB⟩ := hb
  have HA := Lib.hid hA
  have HB := Lib.hid hB
  have HX := Lib.hid hx
  have HY := Lib.hid hy
  obtain ⟨i0, hi0, hz0, hz1, hz2⟩ := info_parts info_int
  clear hA hB hm hn hx hy
  go_enter Tryd.func72, Tryd.ntmps72
  go_wp2_with (first
    | (at_make; refine wpList_make_full _ rfl _ _ 23 rfl w.heap.size 3 i0 (.int .i64 0) 1 Tryd.underlying23 hi0 hz0 hz1 .i64 .i64 _ _ (xs.length + ys.length) rfl rfl (by omega) (by omega) (by rw [hz2]; omega) (by unfold maxLen; omega) (Nat.le_refl _) ?_; intro w1 hown hgrow; refine Hid.out ?_)
    | fail)
  refine Lib.hid ?_
  have HR0 := Lib.hid (show Row w1 w.heap.size (List.replicate (xs.length + ys.length) 0) from row_of_heap (heap_of_made hown))
  have HB0 := Lib.hid (show Below w.heap.size w w1 from (Below.refl _ _).grown hgrow (Nat.le_refl _) (fun k hk => by cases hk))
  clear hown hgrow
  go_wp2_with fail
  go_loopw [6] (fun iv wr => ∃ (i : Nat) (P : List Int), i ≤ xs.length ∧ iv = .int .i64 i ∧ P.length = xs.length + ys.length ∧ lok P = true ∧ nval P = nval (xs.take i) * nval ys ∧ Row wr w.heap.size P ∧ Below w.heap.size w wr) (fun iv _ => xs.length - (intOf iv).toNat)
  case atStart => exact ⟨0, _, Nat.zero_le _, rfl, by simp, lok_zeros _, by rw [nval_zeros]; simp [nval], HR0.out, HB0.out⟩
  case round =>
    obtain ⟨i, P, hi, rfl, hP, hPk, hPv, hrow, hbel⟩ := hrel
    have HPK := Lib.hid hPk
    have HPV := Lib.hid hPv
    have HP := Lib.hid hP
    have HR := Lib.hid hrow
    have HBL := Lib.hid hbel
    clear hPk hPv hP hrow hbel
    rcases Nat.lt_or_ge i xs.length with hlt | hge
    · obtain ⟨x, hxi⟩ : ∃ x, xs[i]? = some x := ⟨_, List.getElem?_eq_getElem hlt⟩
      have HXI := Lib.hid hxi
      obtain ⟨x0, x1⟩ := lok_at HX.out hxi
      clear hxi
      go_wp2_with fail
      go_loopw [7, 8] (fun cv kv wr2 => ∃ (k : Nat) (cc : Int) (Q : List Int), k ≤ ys.length + 1 ∧ kv = .int .i64 k ∧ cv = .int .i64 cc ∧ 0 ≤ cc ∧ cc < 1000000000 ∧ Q.length = xs.length + ys.length ∧ lok Q = true ∧
          nval Q + 1000000000 ^ (i + k) * (cc + x * nval (ys.drop k)) = nval (xs.take (i + 1)) * nval ys ∧ Row wr2 w.heap.size Q ∧ Below w.heap.size w wr2) (fun _ kv _ => ys.length + 1 - (intOf kv).toNat)
      case atStart => exact ⟨0, 0, P, by omega, rfl, rfl, by omega, by omega, HP.out, HPK.out, outer_next HXI.out HPV.out, HR.out, HBL.out⟩
      case round =>
        obtain ⟨k, cc, Q, hk, rfl, rfl, c0, c1, hQ, hQk, hQv, hrow, hbel⟩ := hrel
        have HQ := Lib.hid hQ
        have HQK := Lib.hid hQk
        have HQV := Lib.hid hQv
        have HR2 := Lib.hid hrow
        have HB2 := Lib.hid hbel
        clear hQ hQk hQv hrow hbel
        have go : (k < ys.length ∨ (ys.length ≤ k ∧ 0 < cc ∧ k = ys.length)) ∨ (ys.length ≤ k ∧ decide (0 < cc) = false ∧ cc = 0) := by
          rcases Nat.lt_or_ge k ys.length with h1 | h1
          · left; left; exact h1
          · rcases Int.lt_or_le 0 cc with h3 | h3
            · left; right; exact ⟨h1, h3, inner_top HQK.out HX.out HY.out HXI.out c0 h1 HQV.out h3⟩
            · right; exact ⟨h1, decide_eq_false (by omega), by omega⟩
        rcases go with go | ⟨g1, g2, g3⟩
        · have hkl : k ≤ ys.length := by rcases go with h | ⟨_, _, h⟩ <;> omega
          have hj : i + k < Q.length := by rw [HQ.out]; omega
          obtain ⟨b, off, rfl, _, _, hcell⟩ := (HA.out.below HB2.out (Nat.le_refl _)) i x HXI.out
          obtain ⟨p, hp⟩ : ∃ p, Q.getD (i + k) 0 = p := ⟨_, rfl⟩
          obtain ⟨y, hy⟩ : ∃ y, ys.getD k 0 = y := ⟨_, rfl⟩
          have hcellp := HR2.out.cell (i := i + k) (z := p) (by rw [← hp, List.getD_eq_getElem?_getD, List.getElem?_eq_getElem hj]; rfl)
          have hfr := HR2.out.frozen (i + k)
          have pb := lok_getD HQK.out (i + k)
          have yb := lok_getD HY.out k
          rw [hp] at pb
          rw [hy] at yb
          have xy := mul_bd2 x0 x1 yb.1 yb.2
          have HST := Lib.hid (inner_step hj hp hy HQV.out)
          have hay : ∀ n, Calls Tryd.prog 91 #[.slice B ys.length d, .int .i64 (k : Int)] (wr.drewN n) fun e w' => e = .returned (.int .i64 y) ∧ w' = wr.drewN n := by
            intro n
            rw [← hy]
            exact (ref_at ys B d k _ _ (wr.drewN n) ((HB.out.below HB2.out (Nat.le_refl _)).keep fun _ _ _ => rfl) (by omega)).mono fun _ _ h => ⟨h.1, h.2.symm⟩
          have HAY := Lib.hid hay
          have HJ := Lib.hid hj
          have hj1 : (i : Int) + (k : Int) < (xs.length : Int) + (ys.length : Int) := by have := HQ.out; omega
          have hj2 : i + k < xs.length + ys.length := by omega
          obtain ⟨p0, p1⟩ := pb
          obtain ⟨xy0, xy1⟩ := xy
          have hq := tdiv_nonneg' (n := p + x * y + cc) (by omega)
          have hr := tmod_nonneg' (n := p + x * y + cc) (by omega)
          have q0 : 0 ≤ (p + x * y + cc) / 1000000000 := by omega
          have q1 : (p + x * y + cc) / 1000000000 < 1000000000 := by omega
          clear hp hy hay yb hj
          rcases go with go | ⟨go, go', -⟩
          all_goals
            go_wp2_with fail
            go_quiet ((go_at_call 91; exact Calls.quiet_of_same (HAY.out _)))
            have hcp2 : (wr.drewN nq).cell? ⟨w.heap.size, i + k, none⟩ = some (.int .i64 p) := hcellp
            have hfr2 : (wr.drewN nq).frozen? ⟨w.heap.size, i + k, none⟩ = false := hfr
            have HR3 := Lib.hid (Row.store (w := wr.drewN nq) (HR2.out.keep rfl) (i + k) ((p + x * y + cc) % 1000000000))
            have HB3 := Lib.hid ((below_drewN HB2.out nq).setCell (p := ⟨w.heap.size, i + k, none⟩) (Nat.le_refl _) (.int .i64 ((p + x * y + cc) % 1000000000)))
            go_wp2_with fail
            go_roundw
            case rel => exact ⟨k + 1, _, _, by omega, by go_num, rfl, q0, q1, by rw [List.length_set]; exact HQ.out, lok_set HQK.out _ (by omega) (by omega), HST.out, HR3.out, HB3.out⟩
            case measure => simp [intOf]; omega
        · have hv := inner_end g1 g3 HQV.out
          have HV := Lib.hid hv
          clear hv g3
          go_wp2_with fail
          go_roundw
          case rel => exact ⟨i + 1, Q, by omega, by go_num, HQ.out, HQK.out, HV.out, HR2.out, HB2.out⟩
          case measure => simp [intOf]; omega
    · obtain rfl : i = xs.length := by omega
      have hv := HPV.out
      rw [List.take_length] at hv
      have HV := Lib.hid hv
      clear hv
      have HPL := Lib.hid HP.out
      go_wp2_with fail
      go_loop [10] (fun v => ∃ k : Nat, k ≤ P.length ∧ v = .int .i64 k ∧ trimL (P.take k) = trimL P) (fun v => (intOf v).toNat)
      case atStart => exact ⟨P.length, Nat.le_refl _, by rw [HP.out]; go_num, by rw [List.take_length]⟩
      case round =>
        obtain ⟨k, hk, rfl, ht⟩ := hrel
        have HT := Lib.hid ht
        have hk' : k ≤ xs.length + ys.length := by have := HP.out; omega
        have hk2 : (k : Int) ≤ (xs.length : Int) + (ys.length : Int) := by omega
        clear ht hk
        have fin : trimL P = P.take k → Sl wr w.heap.size wr.heap.size (.slice (some ⟨w.heap.size, 0, none⟩) k (xs.length + ys.length)) (limbs (nval xs * nval ys).toNat) := by
          intro he
          have e : limbs (nval xs * nval ys).toNat = P.take k := by rw [← HV.out, ← trimL_limbs HPK.out, he]
          have hl : (P.take k).length = k := by rw [List.length_take]; have := HP.out; omega
          rw [e]
          have := hl
          refine ⟨some ⟨w.heap.size, 0, none⟩, xs.length + ys.length, by rw [hl], by rw [hl]; exact hk', by unfold maxLen; omega, ?_⟩
          exact (HR.out.take k).holds (fun j z hz => by rw [Nat.zero_add]; exact hz) (Nat.le_refl _) HR.out.lt
        have FIN := Lib.hid fin
        clear fin
        rcases Nat.eq_zero_or_pos k with rfl | hp
        · have he : trimL P = P.take 0 := by rw [← HT.out, List.take_zero]; rfl
          have HE := Lib.hid he
          clear he
          go_wp2_with fail
          go_ret
          exact ⟨_, rfl, FIN.out HE.out, HBL.out⟩
        · obtain ⟨k, rfl⟩ : ∃ j, k = j + 1 := ⟨k - 1, by omega⟩
          obtain ⟨z, hz⟩ : ∃ z, P[k]? = some z := ⟨_, List.getElem?_eq_getElem (by have := HP.out; omega)⟩
          have hcell := HR.out.cell hz
          have HZ := Lib.hid hz
          have e2 : ((k + 1 : Nat) : Int) - 1 = k := by omega
          have hkl : (k : Int) < (xs.length : Int) + (ys.length : Int) := by omega
          have hkl2 : k < xs.length + ys.length := by omega
          clear hz
          by_cases h0 : z = 0
          · subst h0
            go_wp2_with fail
            go_round
            case rel =>
              refine ⟨k, by have := HP.out; omega, by go_num, ?_⟩
              rw [← HT.out, trim_step HZ.out, trimL_snoc_zero]
            case measure => simp [intOf] <;> omega
          · have H0 := Lib.hid h0
            have he : trimL P = P.take (k + 1) := by rw [← HT.out, trim_step HZ.out, trimL_snoc H0.out]
            have HE := Lib.hid he
            clear he
            go_wp2_with fail
            go_ret
            exact ⟨_, rfl, FIN.out HE.out, HBL.out⟩

set_option maxHeartbeats 1600000 in
theorem ref_Mul (xs ys : List Int) (va vb : Value) (w : World) (ha : In w va xs) (hb : In w vb ys) :
    Calls Tryd.prog 62 #[va, vb] w (Res w (mulV xs ys) (mulE xs ys)) := by
  obtain ⟨A, c, rfl, hc, hm, hA⟩ := ha
  obtain ⟨B, d, rfl, hd, hn, hB⟩ := hb
  have HIA := Lib.hid (show In w (.slice A xs.length c) xs from ⟨A, c, rfl, hc, hm, hA⟩)
  have HIB := Lib.hid (show In w (.slice B ys.length d) ys from ⟨B, d, rfl, hd, hn, hB⟩)
  have HA := Lib.hid hA
  have HB := Lib.hid hB
  have hm1 : xs.length ≤ 9223372036854775807 := Nat.le_trans hc hm
  have hm2 : ys.length ≤ 9223372036854775807 := Nat.le_trans hd hn
  clear hA hB hm hn
  rcases both_cases xs ys with ⟨hx, hbo⟩ | ⟨hx, hy, hbo⟩ | ⟨hx, hy, hbo⟩
  · have HBO := Lib.hid hbo
    clear hbo
    go_enter Tryd.func62, Tryd.ntmps62
    go_wp2_with fail
    refine (ref_Valid xs A c _ _ w HA.out hm1).mono ?_
    rintro e w' ⟨rfl, rfl⟩
    go_wp2_with fail
    go_ret2
    exact Res.none (by rw [mulV, HBO.out]; rfl) (by rw [mulE, HBO.out]; rfl) rfl (Below.refl _ _)
  · have HBO := Lib.hid hbo
    clear hbo
    go_enter Tryd.func62, Tryd.ntmps62
    go_wp2_with fail
    refine (ref_Valid xs A c _ _ w HA.out hm1).mono ?_
    rintro e w' ⟨rfl, rfl⟩
    go_wp2_with fail
    refine (ref_Valid ys B d _ _ _ HB.out hm2).mono ?_
    rintro e w' ⟨rfl, rfl⟩
    go_wp2_with fail
    go_ret2
    exact Res.none (by rw [mulV, HBO.out]; rfl) (by rw [mulE, HBO.out]; rfl) rfl (Below.refl _ _)
  · have HBO := Lib.hid hbo
    have l1 := valid_len hx
    have l2 := valid_len hy
    have HX := Lib.hid (valid_lok hx)
    have HY := Lib.hid (valid_lok hy)
    have hlen : (limbs (nval xs * nval ys).toNat).length ≤ 96 := by
      refine limbs_len_le.mpr ?_
      have a := nval_lt (valid_lok hx)
      have b := nval_lt (valid_lok hy)
      have a0 := nval_nonneg (valid_lok hx)
      have b0 := nval_nonneg (valid_lok hy)
      have p1 : nval xs < 1000000000 ^ 48 := Int.lt_of_lt_of_le a (pow_le_pow' l1)
      have p2 : nval ys ≤ 1000000000 ^ 48 := Int.le_of_lt (Int.lt_of_lt_of_le b (pow_le_pow' l2))
      have m1 : nval xs * nval ys ≤ nval xs * 1000000000 ^ 48 := Int.mul_le_mul_of_nonneg_left p2 a0
      have m2 : nval xs * (1000000000 : Int) ^ 48 < 1000000000 ^ 48 * 1000000000 ^ 48 := Int.mul_lt_mul_of_pos_right p1 (pow_pos' _)
      have m3 : ((1000000000 ^ 96 : Nat) : Int) = 1000000000 ^ 48 * 1000000000 ^ 48 := by rw [← Int.pow_add, Int.natCast_pow]; rfl
      have m4 : nval xs * nval ys < ((1000000000 ^ 96 : Nat) : Int) := by rw [m3]; exact Int.lt_of_le_of_lt m1 m2
      exact (Int.toNat_lt (Int.mul_nonneg a0 b0)).mpr m4
    have HL := Lib.hid hlen
    clear hbo hlen
    go_enter Tryd.func62, Tryd.ntmps62
    go_wp2_with fail
    refine (ref_Valid xs A c _ _ w HA.out hm1).mono ?_
    rintro e w' ⟨rfl, rfl⟩
    go_wp2_with fail
    refine (ref_Valid ys B d _ _ _ HB.out hm2).mono ?_
    rintro e w' ⟨rfl, rfl⟩
    go_wp2_with fail
    refine (ref_times xs ys _ _ w HIA.out HIB.out HX.out HY.out (by omega) (by omega)).mono ?_
    rintro e w1 ⟨v, rfl, hs, hb⟩
    have HS := Lib.hid hs.toIn
    have HB1 := Lib.hid hb
    clear hs hb
    go_wp2_with fail
    refine (ref_fit (limbs (nval xs * nval ys).toNat) v w1 HS.out (lok_limbs _) (by have := HL.out; omega)).mono ?_
    rintro e w2 ⟨v2, rfl, hs, hb⟩
    rw [nval_limbs, Int.toNat_natCast] at hs ⊢
    have HS2 := Lib.hid hs
    have HB2 := Lib.hid hb
    clear hs hb
    go_wp2_with fail
    go_ret2
    exact ⟨v2, by rw [mulE, HBO.out]; rfl, by rw [mulV, HBO.out]; exact HS2.out.more HB1.out.size (Nat.le_refl _), bstep HB1.out HB2.out⟩

end Go.Proofs.YthkhaipbdphpeaaDoor
/- The contract of nat.takeOff. -/
namespace Go.Proofs.YthkhaipbdphpeaaDoor
open Go.ChangeShapes Go.WideShapes Go.RowKit
set_option linter.unusedVariables false
set_option maxRecDepth 100000

/-- The last two limbs. -/
theorem nval_top {S : List Int} {l : Nat} {a0 a1 : Int} (hl : S.length = l + 2) (h0 : S[l]? = some a0) (h1 : S[l + 1]? = some a1) :
    nval S = nval (S.take l) + 1000000000 ^ l * (a0 + 1000000000 * a1) := by
  have e := nval_append (S.take l) (S.drop l)
  rw [List.take_append_drop, List.length_take, Nat.min_eq_left (by omega)] at e
  rw [e, nval_drop_step h0, nval_drop_step h1, List.drop_eq_nil_of_le (by omega)]
  simp [nval]
theorem nval_top1 {S : List Int} {l : Nat} {a0 : Int} (hl : S.length = l + 1) (h0 : S[l]? = some a0) :
    nval S = nval (S.take l) + 1000000000 ^ l * a0 := by
  have e := nval_append (S.take l) (S.drop l)
  rw [List.take_append_drop, List.length_take, Nat.min_eq_left (by omega)] at e
  rw [e, nval_drop_step h0, List.drop_eq_nil_of_le (by omega)]
  simp [nval]
/-- The guess is not too small. -/
theorem guess_ge {S ys : List Int} {l : Nat} {a0 a1 b1 : Int} (hS : lok S = true) (hy : lok ys = true) (hl : S.length = l + 2) (hly : ys.length = l + 1) (h0 : S[l]? = some a0) (h1 : S[l + 1]? = some a1) (hb : ys[l]? = some b1)
    (hb0 : 0 < b1) (hlt : nval S < 1000000000 * nval ys) :
    nval S / nval ys ≤ min ((a1 * 1000000000 + a0) / b1) 999999999 ∧ 0 ≤ nval S / nval ys ∧ 0 < nval ys := by
  have eS := nval_top hl h0 h1
  have eY := nval_top1 hly hb
  have s0 := nval_nonneg (lok_take hS l)
  have s1 := nval_lt (lok_take hS l)
  have y0 := nval_nonneg (lok_take hy l)
  rw [List.length_take, Nat.min_eq_left (by omega)] at s1
  have p := pow_pos' l
  obtain ⟨P, hP⟩ : ∃ P : Int, P = 1000000000 ^ l := ⟨_, rfl⟩
  rw [← hP] at eS eY s1 p
  have hpb : P * 1 ≤ P * b1 := Int.mul_le_mul_of_nonneg_left (by omega) (Int.le_of_lt p)
  have ypos : 0 < nval ys := by omega
  have snn := nval_nonneg hS
  have q0 : 0 ≤ nval S / nval ys := Int.ediv_nonneg snn (Int.le_of_lt ypos)
  obtain ⟨q, hq⟩ : ∃ q, q = nval S / nval ys := ⟨_, rfl⟩
  have hqS : q * nval ys ≤ nval S := by rw [hq]; exact Int.ediv_mul_le _ (by omega)
  rw [← hq] at q0 ⊢
  refine ⟨?_, q0, ypos⟩
  have h2 : q < 1000000000 := by
    rcases Int.lt_or_le q 1000000000 with h | h
    · exact h
    · have : 1000000000 * nval ys ≤ q * nval ys := Int.mul_le_mul_of_nonneg_right h (Int.le_of_lt ypos)
      omega
  have h3 : q ≤ (a1 * 1000000000 + a0) / b1 := by
    rw [Int.le_ediv_iff_mul_le hb0]
    have m1 : q * (P * b1) ≤ q * nval ys := Int.mul_le_mul_of_nonneg_left (by omega) q0
    have m2 : P * (q * b1) < P * (a1 * 1000000000 + a0 + 1) := by
      have e1 : P * (q * b1) = q * (P * b1) := by rw [Int.mul_left_comm]
      have e2 : P * (a1 * 1000000000 + a0 + 1) = P * (a0 + 1000000000 * a1) + P := by
        have : a1 * 1000000000 + a0 + 1 = (a0 + 1000000000 * a1) + 1 := by omega
        rw [this, Int.mul_add, Int.mul_one]
      omega
    have := Int.lt_of_mul_lt_mul_left m2 (Int.le_of_lt p)
    omega
  omega
/-- The last limb behind a subtraction. -/
theorem last_bd {T : List Int} {l : Nat} {z V : Int} (hd : lok T.dropLast = true) (hl : T.length = l + 1) (hz : T[l]? = some z) (hv : nval T = V) (h1 : -(1000000000 * 1000000000 ^ l) < V) (h2 : V < 1000000000 ^ (l + 1)) :
    -2000000000 < z ∧ z < 2000000000 ∧ (z < 0 ↔ V < 0) := by
  have e := nval_top1 hl hz
  have ht : T.take l = T.dropLast := by rw [List.dropLast_eq_take]; congr 1; omega
  have s0 := nval_nonneg hd
  have s1 := nval_lt hd
  have hdl : T.dropLast.length = l := by rw [List.length_dropLast]; omega
  rw [hdl] at s1
  rw [ht, hv] at e
  have p := pow_pos' l
  rw [Int.pow_succ] at h2
  obtain ⟨P, hP⟩ : ∃ P : Int, P = 1000000000 ^ l := ⟨_, rfl⟩
  rw [← hP] at e s1 p h1 h2
  have a1 : -2000000000 < z := by
    rcases Int.lt_or_le (-2000000000) z with h | h
    · exact h
    · have : P * z ≤ P * (-2000000000) := Int.mul_le_mul_of_nonneg_left h (Int.le_of_lt p)
      omega
  have a2 : z < 2000000000 := by
    rcases Int.lt_or_le z 2000000000 with h | h
    · exact h
    · have : P * 2000000000 ≤ P * z := Int.mul_le_mul_of_nonneg_left h (Int.le_of_lt p)
      omega
  refine ⟨a1, a2, ?_, ?_⟩
  · intro h
    have : P * z ≤ P * (-1) := Int.mul_le_mul_of_nonneg_left (by omega) (Int.le_of_lt p)
    omega
  · intro h
    rcases Int.lt_or_le z 0 with h3 | h3
    · exact h3
    · have := Int.mul_nonneg (Int.le_of_lt p) h3
      omega
theorem quo_of {S Y n : Int} (hy : 0 < Y) (hq : S / Y ≤ n) (hnn : 0 ≤ S - n * Y) : n = S / Y ∧ S - n * Y = S % Y := by
  have h1 : n ≤ S / Y := by rw [Int.le_ediv_iff_mul_le hy]; omega
  have e : n = S / Y := by omega
  refine ⟨e, ?_⟩
  have := Int.emod_add_mul_ediv S Y
  rw [e, Int.mul_comm]; omega
theorem take_state {S ys T : List Int} {l : Nat} {n z : Int} (hS : lok S = true) (hy : lok ys = true) (hl : S.length = l + 2) (hly : ys.length = l + 1) (hlt : nval S < 1000000000 * nval ys) (ypos : 0 < nval ys)
    (hT : T.length = l + 2) (hd : lok T.dropLast = true) (hv : nval T = nval S - n * nval ys) (hz : T[l + 1]? = some z) (n0 : 0 ≤ n) (n1 : n ≤ 999999999) :
    -2000000000 < z ∧ z < 2000000000 ∧ (z < 0 ↔ nval S - n * nval ys < 0) := by
  have y1 := nval_lt hy
  rw [hly] at y1
  have snn := nval_nonneg hS
  have s1 := nval_lt hS
  rw [hl] at s1
  have m : n * nval ys ≤ 999999999 * nval ys := Int.mul_le_mul_of_nonneg_right n1 (Int.le_of_lt ypos)
  have m0 : 0 ≤ n * nval ys := Int.mul_nonneg n0 (Int.le_of_lt ypos)
  have p := pow_pos' (l + 1)
  exact last_bd hd hT hz hv (by omega) (by rw [show l + 1 + 1 = l + 2 from rfl]; omega)
theorem take_last {S ys T : List Int} {l : Nat} (hy : lok ys = true) (hly : ys.length = l + 1) (ypos : 0 < nval ys) (hT : T.length = l + 2) (hd : lok T.dropLast = true) (hv : nval T = nval S % nval ys) : lok T = true := by
  have y1 := nval_lt hy
  rw [hly] at y1
  have h1 := Int.emod_nonneg (nval S) (show nval ys ≠ 0 by omega)
  have h2 := Int.emod_lt_of_pos (nval S) ypos
  refine lok_of_dropLast (by intro h; rw [h] at hT; simp at hT) hd (by omega) ?_
  rw [hT, hv]
  have : (1000000000 : Int) ^ (l + 1) ≤ 1000000000 ^ (l + 2) := pow_le_pow' (by omega)
  omega
end Go.Proofs.YthkhaipbdphpeaaDoor
/- The contract of nat.takeOff: the walk. -/
namespace Go.Proofs.YthkhaipbdphpeaaDoor
open Go.ChangeShapes Go.WideShapes Go.RowKit
set_option linter.unusedVariables false
set_option maxRecDepth 100000

theorem Only.drewN {g : Nat} {a w : World} (h : Only g a w) (n : Nat) : Only g a (w.drewN n) := h.trans ⟨rfl, rfl, rfl, rfl, fun _ _ => rfl⟩

theorem laid_laid {Z D E : List Int} {off : Nat} (h : off + D.length ≤ Z.length) (he : E.length = D.length) : laid (laid Z off D) off E = laid Z off E := by
  have h1 : (laid Z off D).take off = Z.take off := by
    unfold laid; rw [List.take_left' (by rw [List.length_take]; omega)]
  have h2 : (laid Z off D).drop (off + D.length) = Z.drop (off + D.length) := by
    unfold laid
    rw [← List.append_assoc, List.drop_left' (by rw [List.length_append, List.length_take]; omega)]
  unfold laid at h1 h2 ⊢
  rw [he, h1, h2]
theorem add_call (Z T ys : List Int) (l g off c c2 lo hi : Nat) (B : Option Addr) (w : World) (n : Int) (hR : Row w g Z) (hZ : off + (l + 2) ≤ Z.length) (hS : ∀ j, j < l + 2 → Z[off + j]? = T[j]?) (hB : Holds w lo hi B ys) (hg : g < lo ∨ hi ≤ g)
    (hT : T.length = l + 2) (hly : ys.length = l + 1) (hl1 : l ≤ 1000) (hd : lok T.dropLast = true) (hyk : lok ys = true) (hz : ∀ z, T[l + 1]? = some z → -4000000000000000000 < z ∧ z < 4000000000000000000) (n1 : -1000000000 < n) (n2 : n < 1000000000) :
    Calls Tryd.prog 96 #[.slice (some ⟨g, off, none⟩) (l + 2) c, .slice B (l + 1) c2, .int .i64 n] w
      fun e w' => e = .returned (.tuple #[]) ∧ Row w' g (laid Z off (addT T ys n 0)) ∧ Only g w w' := by
  have h := nat_addTimes Z T ys n g off c c2 lo hi B w hR (by rw [hT]; exact hZ) (fun j hj => hS j (by omega)) hB hg (by omega) (by omega) hd (fun z hz' => hz z (by rw [hT] at hz'; exact hz')) hyk n1 n2
  rw [hT, hly] at h; exact h

set_option maxHeartbeats 3200000 in
theorem nat_takeOff (Z S ys : List Int) (l g off c c2 lo hi : Nat) (B : Option Addr) (w : World) (b1 : Int)
    (hR : Row w g Z) (hZ : off + (l + 2) ≤ Z.length) (hS : ∀ j, j < l + 2 → Z[off + j]? = S[j]?) (hB : Holds w lo hi B ys) (hg : g < lo ∨ hi ≤ g)
    (hl : S.length = l + 2) (hly : ys.length = l + 1) (hl1 : l ≤ 1000) (hSk : lok S = true) (hyk : lok ys = true) (hb : ys[l]? = some b1) (hb0 : 0 < b1) (hlt : nval S < 1000000000 * nval ys) :
    Calls Tryd.prog 102 #[.slice (some ⟨g, off, none⟩) (l + 2) c, .slice B (l + 1) c2] w
      fun e w' => e = .returned (.int .i64 (nval S / nval ys)) ∧ ∃ T, T.length = l + 2 ∧ lok T = true ∧ nval T = nval S % nval ys ∧ Row w' g (laid Z off T) ∧ Only g w w' := by
  obtain ⟨a0, h0⟩ : ∃ a0, S[l]? = some a0 := ⟨_, List.getElem?_eq_getElem (by omega)⟩
  obtain ⟨a1, h1⟩ : ∃ a1, S[l + 1]? = some a1 := ⟨_, List.getElem?_eq_getElem (by omega)⟩
  have hgs := guess_ge hSk hyk hl hly h0 h1 hb hb0 hlt
  have hc0 := hR.cell (i := off + l) (z := a0) (by rw [hS l (by omega), h0])
  have hc1 := hR.cell (i := off + (l + 1)) (z := a1) (by rw [hS (l + 1) (by omega), h1])
  obtain ⟨b, offb, hBe, _, _, hcb⟩ := hB l b1 hb
  have ab0 := lok_at hSk h0
  have ab1 := lok_at hSk h1
  have bb1 := lok_at hyk hb
  obtain ⟨G, hG⟩ : ∃ G, (a1 * 1000000000 + a0) / b1 = G := ⟨_, rfl⟩
  have hGt : (a1 * 1000000000 + a0).tdiv b1 = G := by rw [Int.tdiv_eq_ediv_of_nonneg (by omega), hG]
  have G0 : 0 ≤ G := by rw [← hG]; exact Int.ediv_nonneg (by omega) (by omega)
  have G1 : G ≤ 999999999999999999 := by
    have h1 : (a1 * 1000000000 + a0) / b1 ≤ a1 * 1000000000 + a0 := Int.ediv_le_self _ (by omega)
    omega
  rw [hG] at hgs
  obtain ⟨N, hN⟩ : ∃ N, min G 999999999 = N := ⟨_, rfl⟩
  rw [hN] at hgs
  have N0 : 0 ≤ N := by omega
  have N1 : N ≤ 999999999 := by omega
  have n0 : ¬ b1 = 0 := by omega
  have n1 : (b1 == 0) = false := beq_false_of_ne n0
  obtain ⟨a00, a01⟩ := ab0
  obtain ⟨a10, a11⟩ := ab1
  obtain ⟨b10, b11⟩ := bb1
  have HR := Lib.hid hR
  have HB := Lib.hid hB
  have HZ := Lib.hid hZ
  have HS := Lib.hid hS
  have HSK := Lib.hid hSk
  have HYK := Lib.hid hyk
  have HL := Lib.hid hl
  have HLY := Lib.hid hly
  have HLT := Lib.hid hlt
  have HGS := Lib.hid hgs
  subst hBe
  clear hR hB hZ hS hSk hyk hl hly hlt hgs h0 h1 hb hG
  go_enter Tryd.func102, Tryd.ntmps102
  go_wp2_with fail
  go_quiet (fail)
  go_wp2_with fail
  refine (add_call Z S ys l g off c c2 lo hi _ (w.drewN nq) (-N) (HR.out.keep rfl) HZ.out HS.out (HB.out.keep fun _ _ _ => rfl) hg HL.out HLY.out hl1 (by rw [List.dropLast_eq_take]; exact lok_take HSK.out _) HYK.out (fun z hz => by have := lok_at HSK.out hz; omega) (by omega) (by omega)).mono ?_
  rintro e w1 ⟨rfl, hr1, ho1⟩
  have HR1 := Lib.hid hr1
  have HO1 := Lib.hid (((Only.refl g w).drewN nq).trans ho1)
  have HT1 := Lib.hid (show (addT S ys (-N) 0).length = l + 2 by rw [addT_length, HL.out])
  have HV1 := Lib.hid (show nval (addT S ys (-N) 0) = nval S - N * nval ys by rw [addT_val _ _ _ _ (by rw [HL.out, HLY.out]; omega), Int.neg_mul]; omega)
  clear hr1 ho1 hc0 hc1 hcb
  go_wp2_with fail
  go_loopw [6] (fun nv wr => ∃ (nn : Int) (T : List Int), nv = .int .i64 nn ∧ nval S / nval ys ≤ nn ∧ 0 ≤ nn ∧ nn ≤ 999999999 ∧ T.length = l + 2 ∧ lok T.dropLast = true ∧ nval T = nval S - nn * nval ys ∧ Row wr g (laid Z off T) ∧ Only g w wr) (fun nv _ => (intOf nv).toNat)
  case atStart => exact ⟨N, _, rfl, HGS.out.1, N0, N1, HT1.out, addT_lok _ _ _ _, HV1.out, HR1.out, HO1.out⟩
  case round =>
    obtain ⟨nn, T, rfl, hq, nn0, nn1, hT, hd, hv, hrow, hon⟩ := hrel
    obtain ⟨z, hz⟩ : ∃ z, T[l + 1]? = some z := ⟨_, List.getElem?_eq_getElem (by omega)⟩
    have hcell := hrow.cell (i := off + (l + 1)) (z := z) (by rw [laid_in (by rw [hT]; exact HZ.out) (by omega)]; exact hz)
    have hst := take_state HSK.out HYK.out HL.out HLY.out HLT.out HGS.out.2.2 hT hd hv hz nn0 nn1
    have HQ := Lib.hid hq
    have HT := Lib.hid hT
    have HD := Lib.hid hd
    have HV := Lib.hid hv
    have HRW := Lib.hid hrow
    have HON := Lib.hid hon
    have HZZ := Lib.hid hz
    obtain ⟨z0, z1, z2⟩ := hst
    clear hq hT hd hv hrow hon hz
    rcases Int.lt_or_le z 0 with hneg | hnn
    · have hlt2 := z2.mp hneg
      have hq1 : nval S / nval ys ≤ nn - 1 := by
        rcases Int.lt_or_le (nval S / nval ys) nn with h | h
        · omega
        · exfalso
          have e : nn = nval S / nval ys := by have := HQ.out; omega
          have := Int.ediv_mul_le (nval S) (show nval ys ≠ 0 by have := HGS.out.2.2; omega)
          rw [← e] at this; omega
      have hq0 : 0 ≤ nn - 1 := by have := HGS.out.2.1; omega
      have HQ1 := Lib.hid hq1
      clear hlt2 hq1 z2
      go_wp2_with fail
      refine (add_call (laid Z off T) T ys l g off c c2 lo hi _ _ 1 HRW.out (by rw [laid_length (by rw [HT.out]; exact HZ.out)]; exact HZ.out) (fun j hj => laid_in (by rw [HT.out]; exact HZ.out) (by rw [HT.out]; exact hj)) (HON.out.holds HB.out hg) hg HT.out HLY.out hl1 HD.out HYK.out (fun z' hz' => by rw [HZZ.out] at hz'; cases hz'; omega) (by omega) (by omega)).mono ?_
      rintro e w2 ⟨rfl, hr2, ho2⟩
      have HR2 := Lib.hid (show Row w2 g (laid Z off (addT T ys 1 0)) by rw [← laid_laid (D := T) (by rw [HT.out]; exact HZ.out) (addT_length _ _ _ _)]; exact hr2)
      have HO2 := Lib.hid (HON.out.trans ho2)
      clear hr2 ho2 hcell
      go_wp2_with fail
      go_roundw
      case rel =>
        refine ⟨nn - 1, _, rfl, HQ1.out, hq0, by omega, by rw [addT_length, HT.out], addT_lok _ _ _ _, ?_, HR2.out, HO2.out⟩
        rw [addT_val _ _ _ _ (by rw [HT.out, HLY.out]; omega), HV.out, Int.sub_mul]; omega
      case measure => simp [intOf]; omega
    · have hge : 0 ≤ nval S - nn * nval ys := by
        rcases Int.lt_or_le (nval S - nn * nval ys) 0 with h | h
        · have := z2.mpr h; omega
        · exact h
      have hqq := quo_of HGS.out.2.2 HQ.out hge
      have HQQ := Lib.hid hqq
      have hz' : decide (z < 0) = false := decide_eq_false (by omega)
      clear hge hqq z2
      go_wp2_with fail
      go_ret
      exact ⟨ret_int HQQ.out.1, T, HT.out, take_last (S := S) HYK.out HLY.out HGS.out.2.2 HT.out HD.out (by rw [HV.out, HQQ.out.2]), by rw [HV.out, HQQ.out.2], HRW.out, HON.out⟩
end Go.Proofs.YthkhaipbdphpeaaDoor
/- The contract of nat.divided. -/
namespace Go.Proofs.YthkhaipbdphpeaaDoor
open Go.ChangeShapes Go.WideShapes Go.RowKit
set_option linter.unusedVariables false
set_option maxRecDepth 100000

theorem divd_step {Q zs : List Int} {j : Nat} {z r n : Int} (hj : j < Q.length) (hz : zs[j]? = some z) (hn : 0 < n) (hv : nval (Q.drop (j + 1)) * n + r = nval (zs.drop (j + 1))) :
    nval ((Q.set j ((r * 1000000000 + z) / n)).drop j) * n + (r * 1000000000 + z) % n = nval (zs.drop j) := by
  have e1 : (Q.set j ((r * 1000000000 + z) / n))[j]? = some ((r * 1000000000 + z) / n) := List.getElem?_set_self hj
  rw [nval_drop_step e1, nval_drop_step hz, drop_set_above (by omega), ← hv, Int.add_mul, Int.mul_assoc]
  have e := Int.emod_add_mul_ediv (r * 1000000000 + z) n
  rw [Int.mul_comm ((r * 1000000000 + z) / n) n]
  omega
theorem divd_bd {z r n : Int} (hn : 0 < n) (h0 : 0 ≤ r) (h1 : r < n) (z0 : 0 ≤ z) (z1 : z < 1000000000) : 0 ≤ (r * 1000000000 + z) / n ∧ (r * 1000000000 + z) / n < 1000000000 ∧ 0 ≤ (r * 1000000000 + z) % n ∧ (r * 1000000000 + z) % n < n := by
  refine ⟨Int.ediv_nonneg (by omega) (by omega), ?_, Int.emod_nonneg _ (by omega), Int.emod_lt_of_pos _ hn⟩
  rw [Int.ediv_lt_iff_lt_mul hn]
  have : 1000000000 * (r + 1) ≤ 1000000000 * n := Int.mul_le_mul_of_nonneg_left (by omega) (by omega)
  omega
theorem divd_end {V W r n : Int} (hn : 0 < n) (h0 : 0 ≤ r) (h1 : r < n) (h : W * n + r = V) : W = V / n := by
  rw [← h, Int.add_comm, Int.add_mul_ediv_right _ _ (by omega), Int.ediv_eq_zero_of_lt h0 h1, Int.zero_add]

set_option maxHeartbeats 1600000 in
theorem nat_divided (zs : List Int) (A : Option Addr) (c lo hi : Nat) (n : Int) (w : World) (hS : Holds w lo hi A zs) (hh : hi ≤ w.heap.size) (hk : lok zs = true) (hl : zs.length ≤ 100000) (n0 : 0 < n) (n1 : n < 1000000000) :
    Calls Tryd.prog 104 #[.slice A zs.length c, .int .i64 n] w
      fun e w' => e = .returned (.slice (some ⟨w.heap.size, 0, none⟩) zs.length zs.length) ∧ ∃ Q, Q.length = zs.length ∧ lok Q = true ∧ nval Q = nval zs / n ∧ Row w' w.heap.size Q ∧ Below w.heap.size w w' := by
  obtain ⟨i0, hi0, hz0, hz1, hz2⟩ := info_parts info_int
  have HS := Lib.hid hS
  have HK := Lib.hid hk
  have m0 : ¬ n = 0 := by omega
  have m1 : (n == 0) = false := beq_false_of_ne m0
  clear hS hk
  go_enter Tryd.func104, Tryd.ntmps104
  go_wp2_with (first
    | (at_make; refine wpList_make_full _ rfl _ _ 23 rfl w.heap.size 3 i0 (.int .i64 0) 1 Tryd.underlying23 hi0 hz0 hz1 .i64 .i64 _ _ zs.length rfl rfl rfl rfl (by rw [hz2]; omega) (by unfold maxLen; omega) (Nat.le_refl _) ?_; intro w1 hown hgrow; refine Hid.out ?_)
    | fail)
  refine Lib.hid ?_
  have HR0 := Lib.hid (show Row w1 w.heap.size (List.replicate zs.length 0) from row_of_heap (heap_of_made hown))
  have HB0 := Lib.hid (show Below w.heap.size w w1 from (Below.refl _ _).grown hgrow (Nat.le_refl _) (fun k hk => by cases hk))
  clear hown hgrow
  go_wp2_with fail
  go_loopw [6, 14] (fun rv i wr => ∃ (k : Nat) (r : Int) (Q : List Int), k ≤ zs.length ∧ i = .int .i64 k ∧ rv = .int .i64 r ∧ 0 ≤ r ∧ r < n ∧ Q.length = zs.length ∧ lok Q = true ∧ nval (Q.drop (zs.length - k)) * n + r = nval (zs.drop (zs.length - k)) ∧ Row wr w.heap.size Q ∧ Below w.heap.size w wr) (fun _ i _ => zs.length - (intOf i).toNat)
  case atStart => exact ⟨0, 0, _, Nat.zero_le _, rfl, rfl, by omega, n0, by simp, lok_zeros _, by simp [nval], HR0.out, HB0.out⟩
  case round =>
    obtain ⟨k, r, Q, hk, rfl, rfl, r0, r1, hQ, hQk, hQv, hrow, hbel⟩ := hrel
    have HQ := Lib.hid hQ
    have HQK := Lib.hid hQk
    have HQV := Lib.hid hQv
    have HR := Lib.hid hrow
    have HB := Lib.hid hbel
    clear hQ hQk hQv hrow hbel
    rcases Nat.lt_or_ge k zs.length with hlt | hge
    · obtain ⟨j, hj⟩ : ∃ j, j = zs.length - 1 - k := ⟨_, rfl⟩
      obtain ⟨z, hz⟩ : ∃ z, zs[j]? = some z := ⟨_, List.getElem?_eq_getElem (by omega)⟩
      obtain ⟨b, off, rfl, _, _, hcell⟩ := (HS.out.below HB.out hh) j z hz
      have zb := lok_at HK.out hz
      have hb := divd_bd n0 r0 r1 zb.1 zb.2
      have hjQ : j < Q.length := by rw [HQ.out]; omega
      have e1 : zs.length - k = j + 1 := by omega
      have hv := HQV.out
      rw [e1] at hv
      have hst := divd_step hjQ hz n0 hv
      obtain ⟨q, hqe⟩ : ∃ q, q = Q.getD j 0 := ⟨_, rfl⟩
      have hcq := HR.out.cell (i := j) (z := q) (by rw [hqe, List.getD_eq_getElem?_getD, List.getElem?_eq_getElem hjQ]; rfl)
      have hfr := HR.out.frozen j
      obtain ⟨z0, z1⟩ := zb
      have ej : (zs.length : Int) - 1 - k = (j : Int) := by omega
      have hjl : j < zs.length := by omega
      have t0 : (r * 1000000000 + z).tdiv n = (r * 1000000000 + z) / n := Int.tdiv_eq_ediv_of_nonneg (by omega)
      have t1 : (r * 1000000000 + z).tmod n = (r * 1000000000 + z) % n := Int.tmod_eq_emod_of_nonneg (by omega)
      have e2 : zs.length - (k + 1) = j := by omega
      have E2 := Lib.hid e2
      have hw : IntKind.i64.wrap ((r * 1000000000 + z) / n) = (r * 1000000000 + z) / n := wrap_id (by omega) (by omega)
      have HST := Lib.hid hst
      obtain ⟨b0, b1, b2, b3⟩ := hb
      clear hz hj hjQ e1 hv hst hqe e2
      go_wp2_with fail
      go_region_with (fail)
      go_wp2_with fail
      go_roundw
      case rel =>
        refine ⟨k + 1, _, Q.set j ((r * 1000000000 + z) / n), by omega, by go_num, rfl, b2, b3, by rw [List.length_set]; exact HQ.out, lok_set HQK.out _ b0 b1, by rw [E2.out]; exact HST.out, ?_, ?_⟩
        · exact Row.store (w := wr.drew) (HR.out.keep rfl) j _
        · exact (HB.out.drew).setCell (p := ⟨w.heap.size, j, none⟩) (Nat.le_refl _) _
      case measure => simp [intOf]; omega
    · obtain rfl : k = zs.length := by omega
      have hv := HQV.out
      rw [Nat.sub_self, List.drop_zero, List.drop_zero] at hv
      have HV := Lib.hid (divd_end n0 r0 r1 hv)
      clear hv
      go_wp2_with fail
      go_ret
      exact ⟨rfl, Q, HQ.out, HQK.out, HV.out, HR.out, HB.out⟩
end Go.Proofs.YthkhaipbdphpeaaDoor
/- Long division: the arithmetic. No walk. -/
namespace Go.Proofs.YthkhaipbdphpeaaDoor
open Go.ChangeShapes Go.WideShapes Go.RowKit
set_option linter.unusedVariables false
set_option maxRecDepth 100000

theorem fac_bd {b : Int} (h0 : 0 < b) (h1 : b < 1000000000) : 1 ≤ 1000000000 / (b + 1) ∧ 1000000000 / (b + 1) < 1000000000 ∧ 1000000000 / (b + 1) * (b + 1) ≤ 1000000000 := by
  refine ⟨?_, ?_, Int.ediv_mul_le _ (by omega)⟩
  · rw [Int.le_ediv_iff_mul_le (by omega)]; omega
  · rw [Int.ediv_lt_iff_lt_mul (by omega)]; omega
theorem top_ge {ys : List Int} {l : Nat} {b : Int} (hy : lok ys = true) (hl : ys.length = l + 1) (hb : ys[l]? = some b) (h0 : 0 < b) : 1000000000 ^ l ≤ nval ys ∧ nval ys < (b + 1) * 1000000000 ^ l := by
  have e := nval_top1 hl hb
  have s0 := nval_nonneg (lok_take hy l)
  have s1 := nval_lt (lok_take hy l)
  rw [List.length_take, Nat.min_eq_left (by omega)] at s1
  have p := pow_pos' l
  obtain ⟨P, hP⟩ : ∃ P : Int, P = 1000000000 ^ l := ⟨_, rfl⟩
  rw [← hP] at e s1 p ⊢
  have m : P * 1 ≤ P * b := Int.mul_le_mul_of_nonneg_left (by omega) (Int.le_of_lt p)
  have m2 : (b + 1) * P = P * b + P := by rw [Int.add_mul, Int.one_mul, Int.mul_comm]
  omega
/-- The dividend, times the factor. -/
theorem rest_ok {xs : List Int} {f : Int} (hx : lok xs = true) (f0 : 0 ≤ f) (f1 : f < 1000000000) :
    lok (addT (List.replicate (xs.length + 1) 0) xs f 0) = true ∧ nval (addT (List.replicate (xs.length + 1) 0) xs f 0) = f * nval xs := by
  have hv : nval (addT (List.replicate (xs.length + 1) 0) xs f 0) = f * nval xs := by rw [addT_val _ _ _ _ (by simp), nval_zeros]; omega
  have x0 := nval_nonneg hx
  have x1 := nval_lt hx
  refine ⟨lok_of_dropLast ?_ (addT_lok _ _ _ _) (by rw [hv]; exact Int.mul_nonneg f0 x0) ?_, hv⟩
  · intro h; have := addT_length (List.replicate (xs.length + 1) 0) xs f 0; rw [h] at this; simp at this
  · rw [hv, addT_length, List.length_replicate, Int.pow_succ]
    have : f * nval xs ≤ 999999999 * nval xs := Int.mul_le_mul_of_nonneg_right (by omega) x0
    omega
/-- The divisor, times the factor, has no limb more. -/
theorem divisor_ok {ys D0 : List Int} {l : Nat} {b f : Int} (hy : lok ys = true) (hl : ys.length = l + 1) (hb : ys[l]? = some b) (h0 : 0 < b) (f0 : 1 ≤ f) (hf : f * (b + 1) ≤ 1000000000)
    (hk : lok D0 = true) (hv : nval D0 = f * nval ys) (hD : D0.length = l + 2) :
    (D0.take (l + 1)).length = l + 1 ∧ lok (D0.take (l + 1)) = true ∧ nval (D0.take (l + 1)) = f * nval ys ∧ ∃ d, (D0.take (l + 1))[l]? = some d ∧ 0 < d := by
  have t := top_ge hy hl hb h0
  have hlen : (D0.take (l + 1)).length = l + 1 := by rw [List.length_take]; omega
  have hok := lok_take hk (l + 1)
  have e := nval_append (D0.take (l + 1)) (D0.drop (l + 1))
  rw [List.take_append_drop, hlen, hv] at e
  have s0 := nval_nonneg hok
  have u0 := nval_nonneg (lok_drop hk (l + 1))
  have p := pow_pos' (l + 1)
  have p' := pow_pos' l
  have hlt : f * nval ys < 1000000000 ^ (l + 1) := by
    have m1 : f * nval ys < f * ((b + 1) * 1000000000 ^ l) := Int.mul_lt_mul_of_pos_left t.2 (by omega)
    have m2 : f * (b + 1) * 1000000000 ^ l ≤ 1000000000 * 1000000000 ^ l := Int.mul_le_mul_of_nonneg_right hf (Int.le_of_lt p')
    rw [Int.mul_assoc] at m2
    rw [Int.pow_succ]; omega
  have hz : nval (D0.drop (l + 1)) = 0 := by
    rcases Int.lt_or_eq_of_le u0 with h | h
    · have : (1000000000 : Int) ^ (l + 1) * 1 ≤ 1000000000 ^ (l + 1) * nval (D0.drop (l + 1)) := Int.mul_le_mul_of_nonneg_left (by omega) (Int.le_of_lt p)
      omega
    · exact h.symm
  rw [hz, Int.mul_zero, Int.add_zero] at e
  refine ⟨hlen, hok, e.symm, ?_⟩
  obtain ⟨d, hd⟩ : ∃ d, (D0.take (l + 1))[l]? = some d := ⟨_, List.getElem?_eq_getElem (by omega)⟩
  refine ⟨d, hd, ?_⟩
  have d0 := (lok_at hok hd).1
  rcases Int.lt_or_eq_of_le d0 with h | h
  · exact h
  · exfalso
    have e2 := nval_top1 hlen hd
    have s1 := nval_lt (lok_take hok l)
    rw [List.length_take, Nat.min_eq_left (by omega)] at s1
    rw [← h, Int.mul_zero, Int.add_zero] at e2
    have m : 1 * nval ys ≤ f * nval ys := Int.mul_le_mul_of_nonneg_right f0 (by omega)
    omega

/-- The state of the division with t limbs of the quotient to come. -/
structure DInv (X Dv : Int) (la nq : Nat) (R Q : List Int) (t : Nat) : Prop where
  rl : R.length = la + 1
  rk : lok R = true
  ql : Q.length = nq
  qk : lok Q = true
  val : nval (Q.drop t) * Dv * 1000000000 ^ t + nval R = X
  lt : nval (R.drop t) < Dv
theorem dinv_start {xs ys R0 : List Int} {l nq : Nat} {b f : Int} (hx : lok xs = true) (hy : lok ys = true) (hl : ys.length = l + 1) (hb : ys[l]? = some b) (h0 : 0 < b) (f0 : 1 ≤ f)
    (hR : R0.length = xs.length + 1) (hRk : lok R0 = true) (hRv : nval R0 = f * nval xs) (hn : nq + l = xs.length) : DInv (f * nval xs) (f * nval ys) xs.length nq R0 (List.replicate nq 0) nq := by
  refine ⟨hR, hRk, by simp, lok_zeros _, ?_, ?_⟩
  · rw [List.drop_replicate, nval_zeros, hRv]; simp
  · have e := nval_append (R0.take nq) (R0.drop nq)
    rw [List.take_append_drop, List.length_take, Nat.min_eq_left (by omega), hRv] at e
    have s0 := nval_nonneg (lok_take hRk nq)
    have x1 := nval_lt hx
    have t := top_ge hy hl hb h0
    have p := pow_pos' nq
    have e2 : (1000000000 : Int) ^ xs.length = 1000000000 ^ nq * 1000000000 ^ l := by rw [← hn, Int.pow_add]
    have m1 : f * nval xs < f * (1000000000 ^ nq * 1000000000 ^ l) := by rw [← e2]; exact Int.mul_lt_mul_of_pos_left x1 (by omega)
    have m2 : f * 1000000000 ^ l ≤ f * nval ys := Int.mul_le_mul_of_nonneg_left t.1 (by omega)
    have m3 : (1000000000 : Int) ^ nq * nval (R0.drop nq) < 1000000000 ^ nq * (f * 1000000000 ^ l) := by
      have : f * ((1000000000 : Int) ^ nq * 1000000000 ^ l) = 1000000000 ^ nq * (f * 1000000000 ^ l) := by rw [Int.mul_left_comm]
      omega
    have := Int.lt_of_mul_lt_mul_left m3 (Int.le_of_lt p)
    omega
theorem laid_drop {Z D : List Int} {off : Nat} (h : off ≤ Z.length) : (laid Z off D).drop off = D ++ Z.drop (off + D.length) := by
  unfold laid; rw [List.drop_left' (by rw [List.length_take]; omega)]
theorem dinv_win {X Dv : Int} {la nq l a : Nat} {R Q D : List Int} (h : DInv X Dv la nq R Q (a + 1)) (ha : a + (l + 2) ≤ la + 1) (hD : lok D = true) (hDl : D.length = l + 1) (hDv : nval D = Dv) :
    nval (win R a (l + 2)) < 1000000000 * Dv ∧ nval (R.drop (a + (l + 2))) = 0 := by
  have e1 := nval_drop_getD R a
  have e2 : R.drop a = win R a (l + 2) ++ R.drop (a + (l + 2)) := by unfold win; rw [← List.drop_drop, List.take_append_drop]
  have hw : (win R a (l + 2)).length = l + 2 := win_length (by rw [h.rl]; exact ha)
  have e3 := congrArg nval e2
  rw [nval_append, hw] at e3
  have r0 := lok_getD h.rk a
  have w0 := nval_nonneg (lok_take (lok_drop h.rk a) (l + 2))
  have u0 := nval_nonneg (lok_drop h.rk (a + (l + 2)))
  have hlt := h.lt
  have d1 := nval_lt hD
  rw [hDl, hDv] at d1
  have p := pow_pos' (l + 2)
  have hlt2 : nval (R.drop a) < 1000000000 * Dv := by omega
  have hp := Int.mul_nonneg (Int.le_of_lt p) u0
  refine ⟨by change 0 ≤ nval (win R a (l + 2)) at w0; omega, ?_⟩
  rcases Int.lt_or_eq_of_le u0 with h2 | h2
  · exfalso
    have : (1000000000 : Int) ^ (l + 2) * 1 ≤ 1000000000 ^ (l + 2) * nval (R.drop (a + (l + 2))) := Int.mul_le_mul_of_nonneg_left (by omega) (Int.le_of_lt p)
    have e4 : (1000000000 : Int) ^ (l + 2) = 1000000000 * 1000000000 ^ (l + 1) := by rw [Int.pow_succ, Int.mul_comm]
    change 0 ≤ nval (win R a (l + 2)) at w0
    omega
  · exact h2.symm
theorem dinv_step {X Dv q : Int} {la nq l a : Nat} {R Q T D : List Int} (h : DInv X Dv la nq R Q (a + 1)) (ha : a + (l + 2) ≤ la + 1) (haq : a < nq) (hD : lok D = true) (hDl : D.length = l + 1) (hDv : nval D = Dv) (dpos : 0 < Dv)
    (hq : q = nval (win R a (l + 2)) / Dv) (hT : T.length = l + 2) (hTk : lok T = true) (hTv : nval T = nval (win R a (l + 2)) % Dv) :
    DInv X Dv la nq (laid R a T) (Q.set a q) a ∧ 0 ≤ q ∧ q < 1000000000 := by
  obtain ⟨hw, hz⟩ := dinv_win h ha hD hDl hDv
  have w0 := nval_nonneg (lok_take (lok_drop h.rk a) (l + 2))
  change 0 ≤ nval (win R a (l + 2)) at w0
  have q0 : 0 ≤ q := by rw [hq]; exact Int.ediv_nonneg w0 (Int.le_of_lt dpos)
  have q1 : q < 1000000000 := by rw [hq, Int.ediv_lt_iff_lt_mul dpos]; exact hw
  have hal : a + (l + 2) ≤ R.length := by rw [h.rl]; exact ha
  have eR := win_split hal
  have eR' := laid_split hal hT
  rw [hz, Int.mul_zero, Int.add_zero] at eR eR'
  have eQ : nval ((Q.set a q).drop a) = q + 1000000000 * nval (Q.drop (a + 1)) := by
    rw [nval_drop_step (List.getElem?_set_self (by rw [h.ql]; exact haq)), drop_set_above (by omega)]
  have hem := Int.emod_add_mul_ediv (nval (win R a (l + 2))) Dv
  rw [← hq, ← hTv] at hem
  refine ⟨⟨by rw [laid_length (by rw [hT]; exact hal)]; exact h.rl, laid_lok h.rk hTk, by rw [List.length_set]; exact h.ql, lok_set h.qk _ q0 q1, ?_, ?_⟩, q0, q1⟩
  · have hv := h.val
    rw [eR, ← hem, Int.pow_succ] at hv
    rw [eR', eQ, ← hv]
    obtain ⟨P, hP⟩ : ∃ P : Int, P = 1000000000 ^ a := ⟨_, rfl⟩
    rw [← hP]
    grind
  · rw [laid_drop (by omega), hT, nval_append, hT, hz, Int.mul_zero, Int.add_zero, hTv]
    exact Int.emod_lt_of_pos _ dpos
theorem dinv_end {x y f : Int} {la nq : Nat} {R Q : List Int} (h : DInv (f * x) (f * y) la nq R Q 0) (f0 : 0 < f) : nval Q = x / y ∧ nval R / f = x % y := by
  have hv := h.val
  have hlt := h.lt
  rw [List.drop_zero] at hv hlt
  have r0 := nval_nonneg h.rk
  obtain ⟨q, hq⟩ : ∃ q, q = nval Q := ⟨_, rfl⟩
  obtain ⟨r, hr⟩ : ∃ r, r = nval R := ⟨_, rfl⟩
  rw [← hq, ← hr] at hv ⊢
  rw [← hr] at r0 hlt
  have e : r = f * (x - q * y) := by
    have : q * (f * y) * 1000000000 ^ 0 + r = f * x := hv
    rw [Int.pow_zero, Int.mul_one] at this
    grind
  rw [e] at r0 hlt ⊢
  have a0 : 0 ≤ x - q * y := by
    rcases Int.lt_or_le (x - q * y) 0 with h | h
    · have : f * (x - q * y) ≤ f * (-1) := Int.mul_le_mul_of_nonneg_left (by omega) (Int.le_of_lt f0)
      omega
    · exact h
  have a1 : x - q * y < y := Int.lt_of_mul_lt_mul_left hlt (Int.le_of_lt f0)
  rw [Int.mul_ediv_cancel_left _ (by omega)]
  have hx : x = (x - q * y) + q * y := by omega
  constructor
  · rw [hx, Int.add_mul_ediv_right _ _ (by omega), Int.ediv_eq_zero_of_lt a0 a1]
    have : x - q * y + q * y - q * y = x - q * y := by omega
    omega
  · have h2 : x % y = ((x - q * y) + q * y) % y := by rw [← hx]
    rw [h2, Int.add_mul_emod_self_right, Int.emod_eq_of_lt a0 a1]
end Go.Proofs.YthkhaipbdphpeaaDoor
/- The contract of nat.divide of long numbers. -/
namespace Go.Proofs.YthkhaipbdphpeaaDoor
open Go.ChangeShapes Go.WideShapes Go.RowKit
set_option linter.unusedVariables false
set_option maxRecDepth 100000

theorem bjoin {w0 w1 w2 : World} (h : Below w0.heap.size w0 w1) (k : Below w1.heap.size w1 w2) : Below w0.heap.size w0 w2 := h.trans (k.mono h.size)

set_option maxHeartbeats 6400000 in
theorem divide_long (xs ys : List Int) (va vb : Value) (w : World) (l : Nat) (bt : Int) (ha : In w va xs) (hb : In w vb ys) (hx : nrm xs = true) (hy : nrm ys = true) (hlx : 2 < xs.length) (hlx2 : xs.length ≤ 1000) (hly : ys.length = l + 1) (hle : l + 1 ≤ xs.length)
    (hbt : ys[l]? = some bt) (hb0 : 0 < bt) :
    Calls Tryd.prog 89 #[va, vb] w (DivRes w xs ys) := by
  obtain ⟨A, c, rfl, hc, hm, hA⟩ := ha
  obtain ⟨B, d, rfl, hd, hn, hB⟩ := hb
  obtain ⟨nq, hnq⟩ : ∃ nq, nq + l = xs.length := ⟨xs.length - l, by omega⟩
  have hxk := nrm_lok hx
  have hyk := nrm_lok hy
  have bb := lok_at hyk hbt
  have fb := fac_bd hb0 bb.2
  obtain ⟨f, hf⟩ : ∃ f, 1000000000 / (bt + 1) = f := ⟨_, rfl⟩
  have hft : (1000000000 : Int).tdiv (bt + 1) = f := by rw [Int.tdiv_eq_ediv_of_nonneg (by omega), hf]
  rw [hf] at fb
  obtain ⟨f0, f1, f2⟩ := fb
  obtain ⟨b, offb, hBe, _, _, hcb⟩ := hB l bt hbt
  have hca : ∀ W, Below w.heap.size w W → Calls Tryd.prog 101 #[.slice A xs.length c, .int .i64 f] W
      fun e w' => e = .returned (.slice (some ⟨W.heap.size, 0, none⟩) (xs.length + 1) (xs.length + 1)) ∧ Row w' W.heap.size (addT (List.replicate (xs.length + 1) 0) xs f 0) ∧ Below W.heap.size W w' :=
    fun W hW => nat_times xs A c f 0 w.heap.size W (hA.below hW (Nat.le_refl _)) hW.size (by omega) hxk (by omega) f1
  have hcb2 : ∀ W, Below w.heap.size w W → Calls Tryd.prog 101 #[.slice B (l + 1) d, .int .i64 f] W
      fun e w' => e = .returned (.slice (some ⟨W.heap.size, 0, none⟩) (l + 2) (l + 2)) ∧ Row w' W.heap.size (addT (List.replicate (l + 2) 0) ys f 0) ∧ Below W.heap.size W w' := by
    intro W hW
    have h := nat_times ys B d f 0 w.heap.size W (hB.below hW (Nat.le_refl _)) hW.size (by omega) hyk (by omega) f1
    rw [hly] at h; exact h
  have HCA := Lib.hid hca
  have HCB := Lib.hid hcb2
  have HXK := Lib.hid hxk
  have HYK := Lib.hid hyk
  have HLY := Lib.hid hly
  have HBT := Lib.hid hbt
  have HNQ := Lib.hid hnq
  have HF2 := Lib.hid f2
  have h1 : decide ((xs.length : Int) < (l : Int) + 1) = false := decide_eq_false (by omega)
  have h2 : decide ((xs.length : Int) ≤ 2) = false := decide_eq_false (by omega)
  have m0 : ¬ bt + 1 = 0 := by omega
  have m1 : (bt + 1 == 0) = false := beq_false_of_ne m0
  have hw0 : Below w.heap.size w w := Below.refl _ _
  have HW0 := Lib.hid hw0
  have hw0 := HW0
  rw [hly]
  obtain ⟨b10, b11⟩ := bb
  subst hBe
  clear hA hB hm hn hx hy hxk hyk hca hcb2 hly hbt hf hnq f2
  go_enter Tryd.func89, Tryd.ntmps89
  go_wp2_with fail
  go_region_with (go_at_call 101; first | (with_reducible refine (HCA.out _ HW0.out.drew).mono ?_; rintro e w1 ⟨rfl, hr1, hb1⟩) | (with_reducible refine (HCB.out _ (bjoin HW0.out.drew hb1)).mono ?_; rintro e w2 ⟨rfl, hr2, hb2⟩))
  have HR1 := Lib.hid (show Row w1 w.heap.size (addT (List.replicate (xs.length + 1) 0) xs f 0) from hr1)
  have HR2 := Lib.hid (show Row w2 w1.heap.size (addT (List.replicate (l + 2) 0) ys f 0) from hr2)
  have HB1 := Lib.hid (show Below w.heap.size w w1 from hw0.out.drew.trans hb1)
  have HB2 := Lib.hid (show Below w1.heap.size w1 w2 from hb2)
  clear hr1 hr2 hb1 hb2
  obtain ⟨R0, hR0⟩ : ∃ R0, R0 = addT (List.replicate (xs.length + 1) 0) xs f 0 := ⟨_, rfl⟩
  obtain ⟨D0, hD0⟩ : ∃ D0, D0 = addT (List.replicate (l + 2) 0) ys f 0 := ⟨_, rfl⟩
  rw [← hR0] at HR1
  rw [← hD0] at HR2
  have hrok := rest_ok HXK.out (by omega) f1
  have hdok := rest_ok HYK.out (by omega) f1
  rw [HLY.out] at hdok
  rw [← hR0] at hrok
  have hdok' : lok D0 = true ∧ nval D0 = f * nval ys := by rw [hD0]; exact hdok
  have hRl : R0.length = xs.length + 1 := by rw [hR0, addT_length]; simp
  have hDl : D0.length = l + 2 := by rw [hD0, addT_length]; simp
  have hdv := divisor_ok HYK.out HLY.out HBT.out hb0 f0 HF2.out hdok'.1 hdok'.2 hDl
  obtain ⟨hv1, hv2, hv3, dt, hv4, hv5⟩ := hdv
  have ypos : 0 < f * nval ys := Int.mul_pos (by omega) (by have := (top_ge HYK.out HLY.out HBT.out hb0).1; have := pow_pos' l; omega)
  have hds := dinv_start HXK.out HYK.out HLY.out HBT.out hb0 f0 hRl hrok.1 hrok.2 HNQ.out
  have i12 : w.heap.size < w1.heap.size := HR1.out.lt
  have i23 : w1.heap.size < w2.heap.size := HR2.out.lt
  have HR1' := Lib.hid (HR1.out.below HB2.out i12)
  have HB02 := Lib.hid (bjoin HB1.out HB2.out)
  have HDS := Lib.hid hds
  have V1 := Lib.hid hv1
  have V2 := Lib.hid hv2
  have V3 := Lib.hid hv3
  have V4 := Lib.hid hv4
  have V5 := Lib.hid hv5
  have YP := Lib.hid ypos
  have I12 := Lib.hid i12
  have I23 := Lib.hid i23
  have HRL := Lib.hid hRl
  have hnql : (xs.length : Int) - ((l : Int) + 1) + 1 = (nq : Int) := by have := HNQ.out; omega
  have hnq1 : nq ≤ 1000 := by have := HNQ.out; omega
  obtain ⟨i0, hi0, hz0, hz1, hz2⟩ := info_parts info_int
  clear hR0 hD0 hrok hdok hdok' hRl hDl hv1 hv2 hv3 hv4 hv5 ypos hds i12 i23 hcb hw0
  go_wp2_with (first
    | (at_make; refine wpList_make_full _ rfl _ _ 23 rfl w2.heap.size 3 i0 (.int .i64 0) 1 Tryd.underlying23 hi0 hz0 hz1 .i64 .i64 _ _ nq rfl rfl (by omega) (by omega) (by rw [hz2]; omega) (by unfold maxLen; omega) (Nat.le_refl _) ?_; intro w3 hown hgrow; refine Hid.out ?_)
    | fail)
  refine Lib.hid ?_
  have HQ0 := Lib.hid (show Row w3 w2.heap.size (List.replicate nq 0) from row_of_heap (heap_of_made hown))
  have hb3 : Below w2.heap.size w2 w3 := (Below.refl _ _).grown hgrow (Nat.le_refl _) (fun k hk => by cases hk)
  have HR13 := Lib.hid (HR1'.out.below hb3 (Nat.lt_trans I12.out I23.out))
  have HR23 := Lib.hid (HR2.out.below hb3 I23.out)
  have HB03 := Lib.hid (bjoin HB02.out hb3)
  clear hown hgrow hb3 hnql
  go_wp2_with fail
  go_loopw [62] (fun iv wr => ∃ (k : Nat) (R Q : List Int), k ≤ nq ∧ iv = .int .i64 k ∧ DInv (f * nval xs) (f * nval ys) xs.length nq R Q (nq - k) ∧ Row wr w.heap.size R ∧ Row wr w1.heap.size D0 ∧ Row wr w2.heap.size Q ∧ Below w.heap.size w wr) (fun iv _ => nq - (intOf iv).toNat)
  case atStart => exact ⟨0, R0, _, Nat.zero_le _, rfl, HDS.out, HR13.out, HR23.out, HQ0.out, HB03.out⟩
  case round =>
    obtain ⟨k, R, Q, hk, rfl, hinv, hrr, hrd, hrq, hbel⟩ := hrel
    have HI := Lib.hid hinv
    have HRR := Lib.hid hrr
    have HRD := Lib.hid hrd
    have HRQ := Lib.hid hrq
    have HBL := Lib.hid hbel
    have hql := hinv.ql
    have hrl := hinv.rl
    clear hinv hrr hrd hrq hbel
    rcases Nat.lt_or_ge k nq with hlt | hge
    · obtain ⟨a, hae⟩ : ∃ a, a = nq - 1 - k := ⟨_, rfl⟩
      have ea : nq - k = a + 1 := by omega
      have hi := HI.out
      rw [ea] at hi
      have haq : a < nq := by omega
      have hal : a + (l + 2) ≤ xs.length + 1 := by have := HNQ.out; omega
      have hwin := dinv_win hi hal V2.out V1.out V3.out
      have hwl : (win R a (l + 2)).length = l + 2 := win_length (by rw [hrl]; exact hal)
      have hto := fun (W : World) (cap : Nat) (hr : Row W w.heap.size R) (hd : Row W w1.heap.size D0) =>
        nat_takeOff R (win R a (l + 2)) (D0.take (l + 1)) l w.heap.size a cap (l + 2) w1.heap.size (w1.heap.size + 1) (some ⟨w1.heap.size, 0, none⟩) W dt hr (by rw [hrl]; exact hal) (fun j hj => win_at (by rw [hrl]; exact hal) j hj)
          ((hd.take (l + 1)).holds (fun k z hz => by rw [Nat.zero_add]; exact hz) (Nat.le_refl _) (Nat.lt_succ_self _)) (Or.inl I12.out) hwl V1.out (by omega) (lok_take (lok_drop hi.rk a) _) V2.out V4.out V5.out (by rw [V3.out]; exact hwin.1)
      obtain ⟨S, hS⟩ : ∃ S, S = win R a (l + 2) := ⟨_, rfl⟩
      rw [V3.out, ← hS] at hto
      have HTO := Lib.hid hto
      have HS := Lib.hid hS
      have HI2 := Lib.hid hi
      have HE := Lib.hid hae
      obtain ⟨qv, hqv⟩ : ∃ qv, qv = Q.getD a 0 := ⟨_, rfl⟩
      have HQV := Lib.hid hqv
      have HQL := Lib.hid hql
      have HRL2 := Lib.hid hrl
      have e1 : (nq : Int) - 1 - k = (a : Int) := by omega
      have k1 : (a : Int) ≤ (a : Int) + ((l : Int) + 1) + 1 := by omega
      have k2 : (a : Int) + ((l : Int) + 1) + 1 ≤ (xs.length : Int) + 1 := by omega
      have k3 : ¬ xs.length + 1 = a := by omega
      have k4 : ((a : Int) + ((l : Int) + 1) + 1).toNat - a = l + 2 := by omega
      clear hae ea hi hwin hwl hto hS hqv hql hrl
      go_wp2_with fail
      refine (HTO.out wr _ HRR.out HRD.out).mono ?_
      rintro e w4 ⟨rfl, T, hT, hTk, hTv, hr4, ho4⟩
      have hstep := dinv_step HI2.out hal haq V2.out V1.out V3.out YP.out (by rw [← HS.out]) hT hTk (by rw [← HS.out]; exact hTv)
      obtain ⟨qn, hqn⟩ : ∃ qn, qn = nval S / (f * nval ys) := ⟨_, rfl⟩
      rw [← hqn] at hstep ⊢
      have hrd4 : Row w4 w1.heap.size D0 := ho4.row HRD.out (by have := I12.out; omega)
      have hrq4 : Row w4 w2.heap.size Q := ho4.row HRQ.out (by have := I12.out; have := I23.out; omega)
      have hcell := hrq4.cell (i := a) (z := qv) (by rw [HQV.out, List.getD_eq_getElem?_getD, List.getElem?_eq_getElem (by rw [HQL.out]; exact haq)]; rfl)
      have hfr := hrq4.frozen a
      have HST := Lib.hid hstep.1
      have HRR5 := Lib.hid (hr4.other (p := ⟨w2.heap.size, a, none⟩) (by show w2.heap.size ≠ w.heap.size; have := I12.out; have := I23.out; omega) (.int .i64 qn))
      have HRD5 := Lib.hid (hrd4.other (p := ⟨w2.heap.size, a, none⟩) (by show w2.heap.size ≠ w1.heap.size; have := I23.out; omega) (.int .i64 qn))
      have HRQ5 := Lib.hid (hrq4.store a qn)
      have HBL5 := Lib.hid ((HBL.out.trans (ho4.toBelow (Nat.le_refl _))).setCell (p := ⟨w2.heap.size, a, none⟩) (by show w.heap.size ≤ w2.heap.size; have := I12.out; have := I23.out; omega) (.int .i64 qn))
      have q0 := hstep.2.1
      have q1 := hstep.2.2
      clear hT hTk hTv hr4 ho4 hstep hrd4 hrq4 hqn
      go_wp2_with fail
      go_roundw
      case rel =>
        have e2 : nq - (k + 1) = a := by have := HE.out; omega
        exact ⟨k + 1, _, _, by omega, by go_num, by rw [e2]; exact HST.out, HRR5.out, HRD5.out, HRQ5.out, HBL5.out⟩
      case measure => simp [intOf]; omega
    · obtain rfl : k = nq := by omega
      have hi := HI.out
      rw [Nat.sub_self] at hi
      have hend := dinv_end hi (by omega)
      have hQk := hi.qk
      have hRk := hi.rk
      have i03 : w.heap.size ≤ w2.heap.size := by have := I12.out; have := I23.out; omega
      have htr := nat_trimmed Q (some ⟨w2.heap.size, 0, none⟩) k w2.heap.size wr.heap.size wr (HRQ.out.holds (fun k z hz => by rw [Nat.zero_add]; exact hz) (Nat.le_refl _) HRQ.out.lt) (by omega) (by unfold maxLen; omega)
      rw [hql] at htr
      have hdd := nat_divided R (some ⟨w.heap.size, 0, none⟩) (xs.length + 1) w.heap.size wr.heap.size f wr (HRR.out.holds (fun k z hz => by rw [Nat.zero_add]; exact hz) (Nat.le_refl _) HRR.out.lt) (Nat.le_refl _) hRk (by omega) (by omega) f1
      rw [hrl] at hdd
      have hsq : Sl wr w.heap.size wr.heap.size (.slice (some ⟨w2.heap.size, 0, none⟩) (trimL Q).length k) (limbs ((nval xs).toNat / (nval ys).toNat)) := by
        have e : limbs ((nval xs).toNat / (nval ys).toNat) = trimL Q := by
          rw [trimL_limbs hQk, hend.1]
          congr 1
          have x0 := nval_nonneg HXK.out
          have y0 := nval_nonneg HYK.out
          have e1 : nval xs = ((nval xs).toNat : Int) := by omega
          have e2 : nval ys = ((nval ys).toNat : Int) := by omega
          rw [e1, e2]; exact (Int.toNat_natCast _).symm
        rw [e]
        have := trimL_len_le Q
        exact ⟨_, k, rfl, by omega, by unfold maxLen; omega, by rw [← trimL_eq_take Q]; exact (HRQ.out.take _).holds (fun k z hz => by rw [Nat.zero_add]; exact hz) i03 HRQ.out.lt⟩
      have HTR := Lib.hid htr
      have HDD := Lib.hid hdd
      have HSQ := Lib.hid hsq
      have HEND := Lib.hid hend.2
      clear hi hend hQk hRk i03 htr hdd hsq
      go_wp2_with fail
      refine HTR.out.mono ?_
      rintro e w4 ⟨rfl, rfl⟩
      go_wp2_with fail
      refine HDD.out.mono ?_
      rintro e w5 ⟨rfl, Q2, hQ2, hQ2k, hQ2v, hrow, hb5⟩
      have htr2 := nat_trimmed Q2 (some ⟨wr.heap.size, 0, none⟩) (xs.length + 1) wr.heap.size w5.heap.size w5 (hrow.holds (fun k z hz => by rw [Nat.zero_add]; exact hz) (Nat.le_refl _) hrow.lt) (by omega) (by unfold maxLen; omega)
      rw [hQ2] at htr2
      have hsr : Sl w5 w.heap.size w5.heap.size (.slice (some ⟨wr.heap.size, 0, none⟩) (trimL Q2).length (xs.length + 1)) (limbs ((nval xs).toNat % (nval ys).toNat)) := by
        have e : limbs ((nval xs).toNat % (nval ys).toNat) = trimL Q2 := by
          rw [trimL_limbs hQ2k, hQ2v, HEND.out]
          congr 1
          have x0 := nval_nonneg HXK.out
          have y0 := nval_nonneg HYK.out
          have e1 : nval xs = ((nval xs).toNat : Int) := by omega
          have e2 : nval ys = ((nval ys).toNat : Int) := by omega
          rw [e1, e2]; exact (Int.toNat_natCast _).symm
        rw [e]
        have := trimL_len_le Q2
        exact ⟨_, _, rfl, by omega, by unfold maxLen; omega, by rw [← trimL_eq_take Q2]; exact (hrow.take _).holds (fun k z hz => by rw [Nat.zero_add]; exact hz) HBL.out.size hrow.lt⟩
      have HTR2 := Lib.hid htr2
      have HSR := Lib.hid hsr
      have HSQ5 := Lib.hid ((HSQ.out.below hb5 (Nat.le_refl _)).more (Nat.le_refl _) hb5.size)
      have HB5 := Lib.hid (bjoin HBL.out hb5)
      clear hQ2 hQ2k hQ2v hrow hb5 htr2 hsr
      go_wp2_with fail
      refine HTR2.out.mono ?_
      rintro e w6 ⟨rfl, rfl⟩
      go_wp2_with fail
      go_ret2
      exact ⟨_, _, rfl, HSQ5.out, HSR.out, HB5.out⟩
end Go.Proofs.YthkhaipbdphpeaaDoor
/- The contract of nat.DivMod; the walk of NatDivides. -/
namespace Go.Proofs.YthkhaipbdphpeaaDoor
open Go.ChangeShapes Go.WideShapes Go.RowKit
set_option linter.unusedVariables false
set_option maxRecDepth 100000

theorem top_pos {ys : List Int} {l : Nat} {b : Int} (hy : nrm ys = true) (hl : ys.length = l + 1) (hb : ys[l]? = some b) : 0 < b := by
  have h := nrm_lok hy
  have b0 := lok_at h hb
  rcases Int.lt_or_eq_of_le b0.1 with h1 | h1
  · exact h1
  · exfalso
    subst h1
    have : ys.getLast? = some 0 := by rw [List.getLast?_eq_getElem?, hl]; exact hb
    simp [nrm, this] at hy
theorem nat_divide (xs ys : List Int) (va vb : Value) (w : World) (ha : In w va xs) (hb : In w vb ys) (hx : nrm xs = true) (hy : nrm ys = true) (hlx : xs.length ≤ 1000) (hp : 0 < ys.length) :
    Calls Tryd.prog 89 #[va, vb] w (DivRes w xs ys) := by
  rcases Nat.lt_or_ge xs.length ys.length with h | h
  · exact divide_less xs ys va vb w ha hb hx hy (by omega) h
  · rcases Nat.lt_or_ge 2 xs.length with h2 | h2
    · obtain ⟨l, hl⟩ : ∃ l, ys.length = l + 1 := ⟨ys.length - 1, by omega⟩
      obtain ⟨b, hb'⟩ : ∃ b, ys[l]? = some b := ⟨_, List.getElem?_eq_getElem (by omega)⟩
      exact divide_long xs ys va vb w l b ha hb hx hy h2 hlx hl (by omega) hb' (top_pos hy hl hb')
    · exact divide_two xs ys va vb w ha hb hx hy h2 hp h
theorem nat_DivMod (xs ys : List Int) (va vb : Value) (w : World) (ha : In w va xs) (hb : In w vb ys) :
    Calls Tryd.prog 68 #[va, vb] w (DmRes w xs ys) :=
  DivMod_of xs ys va vb w ha hb fun h1 h2 h3 => nat_divide xs ys va vb w ha hb (valid_nrm h1) (valid_nrm h2) (by have := valid_len h1; omega) h3

theorem valid_lt {xs : List Int} (h : validB xs = true) : (nval xs).toNat < 1000000000 ^ 48 := limbs_len_le.mp (by rw [← nrm_limbs (valid_nrm h)]; exact valid_len h)
theorem valid_limbs {n : Nat} (h : n < 1000000000 ^ 48) : validB (limbs n) = true := validB_iff.mpr ⟨limbs_len_le.mpr h, nrm_of_limbs _⟩
theorem fit_ok {n : Nat} (h : n < 1000000000 ^ 48) : fitN n = n ∧ fitE n = 0 := ⟨if_pos h, if_pos h⟩

/-- What the law's calls return, of valid numbers, the second not zero. -/
theorem dvd_facts {xs ys : List Int} (hx : validB xs = true) (hy : validB ys = true) (hp : 0 < ys.length) :
    divE xs ys = 0 ∧ mulV (limbs (quoN xs ys)) ys = quoN xs ys * (nval ys).toNat ∧ mulE (limbs (quoN xs ys)) ys = 0 ∧ mulV ys (limbs (quoN xs ys)) = quoN xs ys * (nval ys).toNat ∧ mulE ys (limbs (quoN xs ys)) = 0 ∧
    limbs (addV (limbs (quoN xs ys * (nval ys).toNat)) (limbs (remN xs ys))) = xs ∧ addE (limbs (quoN xs ys * (nval ys).toNat)) (limbs (remN xs ys)) = 0 ∧
    cmpV (limbs (remN xs ys)) ys = -1 ∧ formE (limbs (remN xs ys)) ys = 0 := by
  have he : ys.isEmpty = false := by cases ys with
    | nil => simp at hp
    | cons a l => rfl
  have hb : both xs ys = true := by rw [both, hx, hy]; rfl
  have hok : divOk xs ys = true := by rw [divOk, hb, he]; rfl
  have eq : quoN xs ys = (nval xs).toNat / (nval ys).toNat := by rw [quoN, hok, if_pos rfl]
  have er : remN xs ys = (nval xs).toNat % (nval ys).toNat := by rw [remN, hok, if_pos rfl]
  have yp := nval_pos (valid_nrm hy) hp
  have x0 := nval_nonneg (valid_lok hx)
  have hxl := valid_lt hx
  have hyl := valid_lt hy
  have M0 : 0 < (nval ys).toNat := by omega
  have hq1 : quoN xs ys ≤ (nval xs).toNat := by rw [eq]; exact Nat.div_le_self _ _
  have hqm : quoN xs ys * (nval ys).toNat ≤ (nval xs).toNat := by rw [eq]; exact Nat.div_mul_le_self _ _
  have hr1 : remN xs ys < (nval ys).toNat := by rw [er]; exact Nat.mod_lt _ M0
  have hsum : quoN xs ys * (nval ys).toNat + remN xs ys = (nval xs).toNat := by rw [eq, er, Nat.mul_comm]; exact Nat.div_add_mod _ _
  have vq : validB (limbs (quoN xs ys)) = true := valid_limbs (Nat.lt_of_le_of_lt hq1 hxl)
  have vr : validB (limbs (remN xs ys)) = true := valid_limbs (Nat.lt_trans hr1 hyl)
  have vp : validB (limbs (quoN xs ys * (nval ys).toNat)) = true := valid_limbs (Nat.lt_of_le_of_lt hqm hxl)
  have fp := fit_ok (Nat.lt_of_le_of_lt hqm hxl)
  have ey : nval ys = ((nval ys).toNat : Int) := by omega
  have p1 : (nval (limbs (quoN xs ys)) * nval ys).toNat = quoN xs ys * (nval ys).toNat := by rw [nval_limbs]; conv => lhs; rw [ey, ← Int.natCast_mul, Int.toNat_natCast]
  have p2 : (nval ys * nval (limbs (quoN xs ys))).toNat = quoN xs ys * (nval ys).toNat := by rw [Int.mul_comm]; exact p1
  have p3 : (nval (limbs (quoN xs ys * (nval ys).toNat)) + nval (limbs (remN xs ys))).toNat = (nval xs).toNat := by rw [nval_limbs, nval_limbs]; omega
  have fx := fit_ok hxl
  refine ⟨by rw [divE, hb, he]; rfl, ?_, ?_, ?_, ?_, ?_, ?_, ?_, ?_⟩
  · rw [mulV, both, vq, hy, p1]; exact fp.1
  · rw [mulE, both, vq, hy, p1]; exact fp.2
  · rw [mulV, both, vq, hy, p2]; exact fp.1
  · rw [mulE, both, vq, hy, p2]; exact fp.2
  · rw [addV, both, vp, vr, p3]
    show limbs (fitN (nval xs).toNat) = xs
    rw [fx.1]; exact (nrm_limbs (valid_nrm hx)).symm
  · rw [addE, both, vp, vr, p3]; exact fx.2
  · rw [cmpV, both, vr, hy]
    show cmpI (nval (limbs (remN xs ys))) (nval ys) = -1
    rw [nval_limbs]; exact cmpI_lt (by omega)
  · rw [formE, both, vr, hy]; rfl
/-- Sub undoes Add. -/
theorem undo_facts {xs ys : List Int} (hx : validB xs = true) (hy : validB ys = true) :
    addE xs ys = 2 ∨ (addE xs ys = 0 ∧ subE (limbs (addV xs ys)) ys = 0 ∧ limbs (subV (limbs (addV xs ys)) ys) = xs) := by
  have hb : both xs ys = true := by rw [both, hx, hy]; rfl
  have x0 := nval_nonneg (valid_lok hx)
  have y0 := nval_nonneg (valid_lok hy)
  by_cases h : (nval xs + nval ys).toNat < 1000000000 ^ 48
  · right
    have f := fit_ok h
    have ea : addV xs ys = (nval xs + nval ys).toNat := by rw [addV, hb, if_pos rfl]; exact f.1
    have vt : validB (limbs (addV xs ys)) = true := by rw [ea]; exact valid_limbs h
    have hv : nval (limbs (addV xs ys)) = nval xs + nval ys := by rw [nval_limbs, ea]; omega
    have e1 : (nval xs + nval ys - nval ys).toNat = (nval xs).toNat := by omega
    have fx := fit_ok (valid_lt hx)
    refine ⟨by rw [addE, hb, if_pos rfl]; exact f.2, ?_, ?_⟩
    · rw [subE, both, vt, hy, hv]
      show (if nval xs + nval ys < nval ys then (1 : Int) else fitE (nval xs + nval ys - nval ys).toNat) = 0
      rw [if_neg (by omega), e1]; exact fx.2
    · rw [subV, both, vt, hy, hv]
      show limbs (if nval xs + nval ys < nval ys then 0 else fitN (nval xs + nval ys - nval ys).toNat) = xs
      rw [if_neg (by omega), e1, fx.1]; exact (nrm_limbs (valid_nrm hx)).symm
  · left; rw [addE, hb, if_pos rfl]; exact if_neg h

end Go.Proofs.YthkhaipbdphpeaaDoor
/- Contracts of digit and DivMod of the reference. -/
namespace Go.Proofs.YthkhaipbdphpeaaDoor
open Go.ChangeShapes Go.WideShapes Go.RowKit
set_option linter.unusedVariables false
set_option maxRecDepth 100000

theorem refcmp_in (xs ys : List Int) (va vb : Value) (w : World) (ha : In w va xs) (hb : In w vb ys) (hx : nrm xs = true) (hy : nrm ys = true) (hm : xs.length ≤ 1000) (hm2 : ys.length ≤ 1000) :
    Calls Tryd.prog 88 #[va, vb] w fun e w' => e = .returned (.int .i64 (cmpI (nval xs) (nval ys))) ∧ Below w.heap.size w w' := by
  obtain ⟨A, c, rfl, hc, hm', hA⟩ := ha
  obtain ⟨B, d, rfl, hd, hn, hB⟩ := hb
  exact ref_compare xs ys A B c d _ _ _ _ w hA hB (Nat.le_refl _) (Nat.le_refl _) hx hy (by omega) (by omega)
theorem times_one (ys : List Int) (m : Int) (vb : Value) (w : World) (hb : In w vb ys) (hy : lok ys = true) (hl : ys.length ≤ 1000) (m0 : 0 ≤ m) (m1 : m < 1000000000) :
    Calls Tryd.prog 72 #[vb, .slice (some ⟨w.heap.size, 0, none⟩) 1 1] (w.alloc (.cells #[.int .i64 m] 3)) fun e w' => ∃ v, e = .returned v ∧ In w' v (limbs (nval ys * m).toNat) ∧ Below w.heap.size w w' := by
  have e : nval [m] = m := by simp [nval]
  have h := ref_times ys [m] vb _ _ (hb.alloc (.cells #[.int .i64 m] 3)) (in_one w 3 m) hy (by simp [lok, m0, m1]) hl (by simp)
  rw [e] at h
  refine h.mono ?_
  rintro e w' ⟨v, rfl, hs, hb'⟩
  exact ⟨v, rfl, hs.toIn, bstep (below_alloc _ _) hb'⟩
theorem cmp_le {x y : Int} (h : x ≤ y) : cmpI x y ≤ 0 := by
  rcases Int.lt_or_eq_of_le h with h | h
  · rw [cmpI_lt h]; decide
  · rw [h, cmpI_eq]; decide
theorem prod_len {ys : List Int} {m : Int} (hy : lok ys = true) (hl : ys.length ≤ 100) (m0 : 0 ≤ m) (m1 : m < 1000000000) : (limbs (nval ys * m).toNat).length ≤ 200 := by
  refine limbs_len_le.mpr ?_
  have a := nval_lt hy
  have a0 := nval_nonneg hy
  have h1 : nval ys * m ≤ nval ys * 1000000000 := Int.mul_le_mul_of_nonneg_left (by omega) a0
  have h2 : (1000000000 : Int) ^ (ys.length + 1) ≤ 1000000000 ^ 200 := pow_le_pow' (by omega)
  rw [Int.pow_succ] at h2
  have h3 : nval ys * m < ((1000000000 ^ 200 : Nat) : Int) := by
    rw [Int.natCast_pow]
    have : ((1000000000 : Nat) : Int) = 1000000000 := rfl
    rw [this]
    refine Int.lt_of_le_of_lt h1 (Int.lt_of_lt_of_le ?_ h2)
    exact Int.mul_lt_mul_of_pos_right a (by decide)
  exact (Int.toNat_lt (Int.mul_nonneg a0 m0)).mpr h3

set_option maxHeartbeats 1600000 in
theorem ref_digit (rs ys : List Int) (va vb : Value) (w : World) (ha : In w va rs) (hb : In w vb ys) (hr : nrm rs = true) (hy : nrm ys = true) (hlr : rs.length ≤ 900) (hly : ys.length ≤ 100) (ypos : 0 < nval ys) (hlt : nval rs < 1000000000 * nval ys) :
    Calls Tryd.prog 70 #[va, vb] w fun e w' => e = .returned (.int .i64 (nval rs / nval ys)) ∧ Below w.heap.size w w' := by
  have HA := Lib.hid ha
  have HB := Lib.hid hb
  have HR := Lib.hid hr
  have HY := Lib.hid hy
  have YP := Lib.hid ypos
  have q0 : 0 ≤ nval rs / nval ys := Int.ediv_nonneg (nval_nonneg (nrm_lok hr)) (Int.le_of_lt ypos)
  have q1 : nval rs / nval ys < 1000000000 := by rw [Int.ediv_lt_iff_lt_mul ypos]; exact hlt
  obtain ⟨q, hq⟩ : ∃ q, q = nval rs / nval ys := ⟨_, rfl⟩
  rw [← hq] at q0 q1 ⊢
  have HQ := Lib.hid hq
  clear ha hb hr hy ypos hlt hq
  go_enter Tryd.func70, Tryd.ntmps70
  go_wp2_with fail
  go_loopw [5, 6] (fun lv hv wr => ∃ lo hi : Int, lv = .int .i64 lo ∧ hv = .int .i64 hi ∧ 0 ≤ lo ∧ lo ≤ q ∧ q ≤ hi ∧ hi ≤ 999999999 ∧ Below w.heap.size w wr) (fun lv hv _ => (intOf hv - intOf lv).toNat)
  case atStart => exact ⟨0, 999999999, rfl, rfl, by omega, q0, by omega, by omega, Below.refl _ _⟩
  case round =>
    obtain ⟨lo, hi, rfl, rfl, l0, l1, h1, h2, hbel⟩ := hrel
    have HBL := Lib.hid hbel
    clear hbel
    rcases Int.lt_or_le lo hi with hlt | hge
    · obtain ⟨m, hm⟩ : ∃ m, m = (lo + hi + 1) / 2 := ⟨_, rfl⟩
      have hmt : (lo + hi + 1).tdiv 2 = m := by rw [Int.tdiv_eq_ediv_of_nonneg (by omega), hm]
      have m0 : 0 ≤ m := by omega
      have m1 : m < 1000000000 := by omega
      have m2 : lo < m := by omega
      have m3 : m ≤ hi := by omega
      have hmul : 0 ≤ nval ys * m := Int.mul_nonneg (Int.le_of_lt YP.out) m0
      have hmq : nval ys * m ≤ nval rs ↔ m ≤ q := by rw [HQ.out, Int.le_ediv_iff_mul_le YP.out, Int.mul_comm]
      have hcm : ∀ v W, In W v (limbs (nval ys * m).toNat) → Below w.heap.size w W → Calls Tryd.prog 88 #[v, va] W fun e w' => e = .returned (.int .i64 (cmpI (nval ys * m) (nval rs))) ∧ Below W.heap.size W w' := by
        intro v W hv hW
        have h := refcmp_in (limbs (nval ys * m).toNat) rs v va W hv (HA.out.on hW) (nrm_of_limbs _) HR.out (Nat.le_trans (prod_len (nrm_lok HY.out) hly m0 m1) (by omega)) (by omega)
        rw [nval_limbs, Int.toNat_of_nonneg hmul] at h
        exact h
      have HCM := Lib.hid hcm
      have HBB := Lib.hid (HB.out.on HBL.out)
      have HM := Lib.hid hm
      rcases Int.lt_or_le q m with hqm | hqm
      · have hc : decide (cmpI (nval ys * m) (nval rs) ≤ 0) = false := by
          have : nval rs < nval ys * m := by
            rcases Int.lt_or_le (nval rs) (nval ys * m) with h | h
            · exact h
            · have := hmq.mp h; omega
          rw [cmpI_gt this]; rfl
        clear hm hmul hmq hcm
        go_wp2_with fail
        refine (times_one ys m vb wr HBB.out (nrm_lok HY.out) (by omega) m0 m1).mono ?_
        rintro e w1 ⟨v1, rfl, hi1, hb1⟩
        have HI1 := Lib.hid hi1
        have HB1 := Lib.hid (bstep HBL.out hb1)
        clear hi1 hb1
        go_wp2_with fail
        refine (HCM.out v1 w1 HI1.out HB1.out).mono ?_
        rintro e w2 ⟨rfl, hb2⟩
        have HB2 := Lib.hid (bstep HB1.out hb2)
        clear hb2
        go_wp2_with fail
        go_roundw
        case rel => exact ⟨lo, m - 1, rfl, rfl, l0, l1, by omega, by omega, HB2.out⟩
        case measure => simp [intOf]; omega
      · have hc : cmpI (nval ys * m) (nval rs) ≤ 0 := cmp_le (hmq.mpr hqm)
        clear hm hmul hmq hcm
        go_wp2_with fail
        refine (times_one ys m vb wr HBB.out (nrm_lok HY.out) (by omega) m0 m1).mono ?_
        rintro e w1 ⟨v1, rfl, hi1, hb1⟩
        have HI1 := Lib.hid hi1
        have HB1 := Lib.hid (bstep HBL.out hb1)
        clear hi1 hb1
        go_wp2_with fail
        refine (HCM.out v1 w1 HI1.out HB1.out).mono ?_
        rintro e w2 ⟨rfl, hb2⟩
        have HB2 := Lib.hid (bstep HB1.out hb2)
        clear hb2
        go_wp2_with fail
        go_roundw
        case rel => exact ⟨m, hi, rfl, rfl, by omega, hqm, h1, h2, HB2.out⟩
        case measure => simp [intOf]; omega
    · have e : lo = q := by omega
      have HE := Lib.hid e
      have hn : decide (lo < hi) = false := decide_eq_false (by omega)
      clear e
      go_wp2_with fail
      go_ret
      exact ⟨ret_int HE.out, HBL.out⟩

theorem own_lit (w : World) (z : Int) : (w.alloc (.cells #[.int .i64 z] 3)).ownsRow w.heap.size 3 1 (.slice (some ⟨w.heap.size, 0, none⟩) 1 1) ([z] : List Int).length (([z] : List Int).map (Value.int .i64)) :=
  World.ownsRow_lit (base := w.heap.size) (e := 3) (size := 1) w #[.int .i64 z] 1 (Nat.le_refl _) (by unfold maxLen; omega) rfl
/-- The state of the reference's division, t limbs to come. -/
structure RInv (X Y : Int) (Q : List Int) (n : Nat) (xs : List Int) (t : Nat) (r : Nat) : Prop where
  ql : Q.length = n
  qk : lok Q = true
  quo : nval (Q.drop t) = nval (xs.drop t) / Y
  rem : (r : Int) = nval (xs.drop t) % Y
theorem rinv_step {X Y q : Int} {Q xs : List Int} {n a r : Nat} {z : Int} (h : RInv X Y Q n xs (a + 1) r) (hz : xs[a]? = some z) (z0 : 0 ≤ z) (z1 : z < 1000000000) (hk : lok xs = true) (ha : a < n) (yp : 0 < Y)
    (hq : q = (z + 1000000000 * r) / Y) : RInv X Y (Q.set a q) n xs a ((z + 1000000000 * r) % Y).toNat ∧ 0 ≤ q ∧ q < 1000000000 := by
  have r0 : (r : Int) < Y := by rw [h.rem]; exact Int.emod_lt_of_pos _ yp
  have hnn : 0 ≤ z + 1000000000 * (r : Int) := by omega
  have q0 : 0 ≤ q := by rw [hq]; exact Int.ediv_nonneg hnn (Int.le_of_lt yp)
  have q1 : q < 1000000000 := by
    rw [hq, Int.ediv_lt_iff_lt_mul yp]
    have : 1000000000 * ((r : Int) + 1) ≤ 1000000000 * Y := Int.mul_le_mul_of_nonneg_left (by omega) (by omega)
    omega
  have eV : nval (xs.drop a) = (z + 1000000000 * r) + (1000000000 * nval (Q.drop (a + 1))) * Y := by
    rw [nval_drop_step hz]
    have e := Int.emod_add_mul_ediv (nval (xs.drop (a + 1))) Y
    rw [← h.rem, ← h.quo] at e
    rw [← e]
    grind
  have m0 : 0 ≤ (z + 1000000000 * (r : Int)) % Y := Int.emod_nonneg _ (by omega)
  refine ⟨⟨by rw [List.length_set]; exact h.ql, lok_set h.qk _ q0 q1, ?_, ?_⟩, q0, q1⟩
  · rw [nval_drop_step (List.getElem?_set_self (by rw [h.ql]; exact ha)), drop_set_above (by omega), eV, Int.add_mul_ediv_right _ _ (by omega), hq]
  · rw [eV, Int.add_mul_emod_self_right]; omega

/-- The new remainder's list: one limb more, or none. -/
theorem limbs_cons {z : Int} {r : Nat} (z0 : 0 ≤ z) (z1 : z < 1000000000) (h : ¬ (z = 0 ∧ r = 0)) : limbs (z + 1000000000 * r).toNat = z :: limbs r := by
  have e : (z + 1000000000 * (r : Int)).toNat = z.toNat + 1000000000 * r := by omega
  rw [e, limbs_step z0 z1 (by omega)]
theorem last_ne {z : Int} {r : Nat} (z0 : 0 ≤ z) (z1 : z < 1000000000) (h : ¬ (z = 0 ∧ r = 0)) : ∃ y, (z :: limbs r)[(limbs r).length]? = some y ∧ y ≠ 0 := by
  have hn := nrm_of_limbs (z + 1000000000 * r).toNat
  rw [limbs_cons z0 z1 h] at hn
  obtain ⟨y, hy⟩ : ∃ y, (z :: limbs r)[(limbs r).length]? = some y := ⟨_, List.getElem?_eq_getElem (by simp)⟩
  refine ⟨y, hy, ?_⟩
  rintro rfl
  have : (z :: limbs r).getLast? = some 0 := by rw [List.getLast?_eq_getElem?]; simpa using hy
  simp [nrm, this] at hn
end Go.Proofs.YthkhaipbdphpeaaDoor
/- The contract of DivMod of the reference. -/
namespace Go.Proofs.YthkhaipbdphpeaaDoor
open Go.ChangeShapes Go.WideShapes Go.RowKit
set_option linter.unusedVariables false
set_option maxRecDepth 100000

def DmIn (w : World) (xs ys : List Int) (e : Ending) (w' : World) : Prop :=
  ∃ vq vr, e = .returned (.tuple #[vq, vr, .int .i64 (divE xs ys)]) ∧ In w' vq (limbs (quoN xs ys)) ∧ In w' vr (limbs (remN xs ys)) ∧ Below w.heap.size w w'
theorem DmIn.none {w w' : World} {xs ys : List Int} {k : Int} {e : Ending} (hq : divOk xs ys = false) (hk : divE xs ys = k) (h : e = .returned (.tuple #[.slice none 0 0, .slice none 0 0, .int .i64 k])) (hb : Below w.heap.size w w') : DmIn w xs ys e w' := by
  subst hk h
  refine ⟨_, _, rfl, ?_, ?_, hb⟩
  · rw [quoN, hq]; exact (by show In _ _ (limbs 0); rw [limbs_zero]; exact In.nil _)
  · rw [remN, hq]; exact (by show In _ _ (limbs 0); rw [limbs_zero]; exact In.nil _)
theorem append_prep {wr w5 : World} {z : Int} {L : List Int} {v' : Value} (hown : w5.ownsRow wr.heap.size 3 1 v' ([z] ++ L).length (([z] ++ L).map (Value.int .i64))) (hgrow : (wr.alloc (.cells #[.int .i64 z] 3)).grownBy w5 (some wr.heap.size)) :
    ∃ g cap, v' = .slice (some ⟨g, 0, none⟩) (L.length + 1) cap ∧ wr.heap.size ≤ g ∧ Row w5 g (z :: L) ∧ In w5 v' (z :: L) ∧ Below wr.heap.size wr w5 := by
  have hin := (sl_of_owns hown).toIn
  rcases row_of_owns hown with ⟨_, h⟩ | ⟨g, cap, h1, h2, h3, h4, h5⟩
  · simp at h
  · refine ⟨g, cap, ?_, h2, h5, hin, (below_alloc _ _).grown hgrow (by simp) (fun k hk => by simp at hk; omega)⟩
    rw [h1]; simp

theorem In.setCell {w : World} {g off n c : Nat} {zs : List Int} (h : In w (.slice (some ⟨g, off, none⟩) n c) zs) {p : Addr} (hp : p.block ≠ g) (u : Value) : In (w.setCell p u) (.slice (some ⟨g, off, none⟩) n c) zs := by
  obtain ⟨A, c', e, h1, h2, h3⟩ := h
  cases e
  refine ⟨_, _, rfl, h1, h2, fun k z hz => ?_⟩
  obtain ⟨b, off', hA, hlo, hhi, hc⟩ := h3 k z hz
  cases hA
  exact ⟨g, off, rfl, ⟨Nat.zero_le _, Or.inl rfl⟩, by simpa [World.setCell] using hhi, (World.cell?_of_block (w := w) (a := ⟨g, off + k, none⟩) (Below.heap_setCell w p u g (fun e => hp e.symm))).trans hc⟩
theorem minus_in {rs ys : List Int} {q : Int} (v v2 : Value) (w : World) (h1 : In w v rs) (h2 : In w v2 (limbs (nval ys * q).toNat)) (hr : lok rs = true) (hl : rs.length ≤ 1000) (hy : validB ys = true) (ypos : 0 < nval ys) (hq : q = nval rs / nval ys) :
    Calls Tryd.prog 71 #[v, v2] w fun e w' => ∃ v3, e = .returned v3 ∧ In w' v3 (limbs (nval rs % nval ys).toNat) ∧ Below w.heap.size w w' := by
  have r0 := nval_nonneg hr
  have q0 : 0 ≤ q := by rw [hq]; exact Int.ediv_nonneg r0 (Int.le_of_lt ypos)
  have hnn : 0 ≤ nval ys * q := Int.mul_nonneg (Int.le_of_lt ypos) q0
  have hem := Int.emod_add_mul_ediv (nval rs) (nval ys)
  rw [← hq] at hem
  have m0 : 0 ≤ nval rs % nval ys := Int.emod_nonneg _ (by omega)
  have m1 : nval rs % nval ys < nval ys := Int.emod_lt_of_pos _ ypos
  have hv : nval (limbs (nval ys * q).toNat) = nval ys * q := by rw [nval_limbs, Int.toNat_of_nonneg hnn]
  have e : (nval rs - nval ys * q).toNat = (nval rs % nval ys).toNat := by omega
  have hlt : (nval rs - nval ys * q).toNat < 1000000000 ^ 48 := Nat.lt_of_lt_of_le (by omega) (Nat.le_of_lt (valid_lt hy))
  have h := ref_minus rs (limbs (nval ys * q).toNat) v v2 w h1 h2 hr (lok_limbs _) hl (by rw [hv]; omega) (by rw [hv]; exact hlt)
  rw [hv, e] at h
  refine h.mono ?_
  rintro e w' ⟨v3, rfl, hs, hb⟩
  exact ⟨v3, rfl, hs.toIn, hb⟩

set_option maxHeartbeats 6400000 in
theorem refdm_main (xs ys : List Int) (A B : Option Addr) (c d : Nat) (w : World) (ha : In w (.slice A xs.length c) xs) (hb : In w (.slice B ys.length d) ys) (hx : validB xs = true) (hy : validB ys = true) (hp : 0 < ys.length) :
    Calls Tryd.prog 45 #[.slice A xs.length c, .slice B ys.length d] w (DmIn w xs ys) := by
  have HIA := Lib.hid ha
  have HIB := Lib.hid hb
  obtain ⟨A', c', e, hc, hm, hA⟩ := ha
  cases e
  obtain ⟨B', d', e, hd, hn, hB⟩ := hb
  cases e
  have HA := Lib.hid hA
  have HB := Lib.hid hB
  have hm1 : xs.length ≤ 9223372036854775807 := Nat.le_trans hc hm
  have hm2 : ys.length ≤ 9223372036854775807 := Nat.le_trans hd hn
  have l1 := valid_len hx
  have l2 := valid_len hy
  have HX := Lib.hid hx
  have HY := Lib.hid hy
  have YP := Lib.hid (nval_pos (valid_nrm hy) hp)
  have hne : ((ys.length : Int) == 0) = false := beq_false_of_ne (by omega)
  have hok : divOk xs ys = true := by
    have he : ys.isEmpty = false := by cases ys with
      | nil => simp at hp
      | cons a l => rfl
    rw [divOk, both, hx, hy, he]; rfl
  have hde : divE xs ys = 0 := by
    have he : ys.isEmpty = false := by cases ys with
      | nil => simp at hp
      | cons a l => rfl
    rw [divE, both, hx, hy, he]; rfl
  have HOK := Lib.hid hok
  have HDE := Lib.hid hde
  obtain ⟨i0, hi0, hz0, hz1, hz2⟩ := info_parts info_int
  clear hA hB hm hn hok hde
  go_enter Tryd.func45, Tryd.ntmps45
  go_wp2_with fail
  refine (ref_Valid xs A c _ _ w HA.out hm1).mono ?_
  rintro e w' ⟨rfl, rfl⟩
  rw [HX.out]
  go_wp2_with fail
  refine (ref_Valid ys B d _ _ _ HB.out hm2).mono ?_
  rintro e w' ⟨rfl, rfl⟩
  rw [HY.out]
  clear hx hy
  go_wp2_with (first
    | (at_make; refine wpList_make_full _ rfl _ _ 23 rfl w.heap.size 3 i0 (.int .i64 0) 1 Tryd.underlying23 hi0 hz0 hz1 .i64 .i64 _ _ xs.length rfl rfl rfl rfl (by rw [hz2]; omega) (by unfold maxLen; omega) (Nat.le_refl _) ?_; intro w1 hown hgrow; refine Hid.out ?_)
    | fail)
  refine Lib.hid ?_
  have HR0 := Lib.hid (show Row w1 w.heap.size (List.replicate xs.length 0) from row_of_heap (heap_of_made hown))
  have HB0 := Lib.hid (show Below w.heap.size w w1 from (Below.refl _ _).grown hgrow (Nat.le_refl _) (fun k hk => by cases hk))
  clear hown hgrow
  go_wp2_with fail
  go_loopw [8, 9] (fun rv iv wr => ∃ (k r : Nat) (Q : List Int), k ≤ xs.length ∧ iv = .int .i64 ((xs.length : Int) - 1 - k) ∧ In wr rv (limbs r) ∧ RInv (nval xs) (nval ys) Q xs.length xs (xs.length - k) r ∧ Row wr w.heap.size Q ∧ Below w.heap.size w wr) (fun _ iv _ => (intOf iv + 1).toNat)
  case atStart => exact ⟨0, 0, _, Nat.zero_le _, by simp, by rw [limbs_zero]; exact In.nil _, ⟨by simp, lok_zeros _, by simp [nval], by simp [nval]⟩, HR0.out, HB0.out⟩
  case round =>
    obtain ⟨k, r, Q, hk, rfl, hin, hinv, hrow, hbel⟩ := hrel
    have HI := Lib.hid hinv
    have HR := Lib.hid hrow
    have HBL := Lib.hid hbel
    have hql := hinv.ql
    rcases Nat.lt_or_ge k xs.length with hlt | hge
    · have HIN := Lib.hid hin
      obtain ⟨Ar, cr, rfl, hcr, hmr, hAr⟩ := hin
      obtain ⟨a, hae⟩ : ∃ a, a = xs.length - 1 - k := ⟨_, rfl⟩
      obtain ⟨z, hz⟩ : ∃ z, xs[a]? = some z := ⟨_, List.getElem?_eq_getElem (by omega)⟩
      obtain ⟨b, off, hA2, _, _, hcell⟩ := (HA.out.below HBL.out (Nat.le_refl _)) a z hz
      have zb := lok_at (valid_lok HX.out) hz
      have ea : xs.length - k = a + 1 := by omega
      rw [ea] at hinv
      have hr1 : (r : Int) < nval ys := by rw [hinv.rem]; exact Int.emod_lt_of_pos _ YP.out
      have hrl : (limbs r).length ≤ 48 := limbs_len_le.mpr (Nat.lt_of_le_of_lt (by omega) (valid_lt HY.out))
      obtain ⟨z0, z1⟩ := zb
      have hnn : 0 ≤ z + 1000000000 * (r : Int) := by omega
      obtain ⟨q, hq⟩ : ∃ q, q = (z + 1000000000 * (r : Int)) / nval ys := ⟨_, rfl⟩
      have hst := rinv_step hinv hz z0 z1 (valid_lok HX.out) (by omega) YP.out hq
      have hnv : nval (z :: limbs r) = z + 1000000000 * (r : Int) := by rw [nval, nval_limbs]
      have hlt2 : z + 1000000000 * (r : Int) < 1000000000 * nval ys := by
        have : 1000000000 * ((r : Int) + 1) ≤ 1000000000 * nval ys := Int.mul_le_mul_of_nonneg_left (by omega) (by omega)
        omega
      have e1 : (xs.length : Int) - 1 - k = (a : Int) := by omega
      have hal : a < xs.length := by omega
      obtain ⟨qv, hqv⟩ : ∃ qv, qv = Q.getD a 0 := ⟨_, rfl⟩
      have HQV := Lib.hid hqv
      have HQL := Lib.hid hql
      have HE := Lib.hid hae
      have HST := Lib.hid hst.1
      have q0 := hst.2.1
      have q1 := hst.2.2
      have HQ := Lib.hid hq
      have HNV := Lib.hid hnv
      have HLT := Lib.hid hlt2
      have HRL := Lib.hid hrl
      have HOL := Lib.hid (own_lit wr z)
      have HAL := Lib.hid (Holds.below hAr (below_alloc wr (.cells #[.int .i64 z] 3)) (Nat.le_refl _))
      have HLEN := Lib.hid (show ([z] : List Int).length + (limbs r).length ≤ 1000000 by simp; omega)
      rw [e1]
      subst hA2
      clear hae hz ea hinv hst hnv hlt2 hAr hrow hbel hql hq hqv hmr e1
      go_wp2_with (first
        | (at_builtin; refine append_holds rfl (.tmp 36) (.tmp 37) rfl wr.heap.size _ [z] rfl HOL.out 0 wr.heap.size Ar cr (limbs r) _ rfl rfl HAL.out HLEN.out (by simp) ?_; intro v' w5 hown hgrow; refine Hid.out ?_)
        | fail)
      refine Lib.hid ?_
      obtain ⟨g5, cap5, rfl, hg5, hrow5, hin5, hb5⟩ := append_prep hown hgrow
      have hR5 := HR.out.below hb5 HR.out.lt
      have HB5 := Lib.hid (bstep HBL.out hb5)
      by_cases hzz : z = 0 ∧ r = 0
      · obtain ⟨rfl, rfl⟩ := hzz
        have hl0 : limbs 0 = [] := limbs_zero
        have hcl := hrow5.cell (i := (limbs 0).length) (z := 0) (by rw [hl0]; rfl)
        have HR5 := Lib.hid hR5
        have hq0 : q = 0 := by rw [HQ.out]; simp
        subst hq0
        have hm0 : ((0 + 1000000000 * ((0 : Nat) : Int)) % nval ys).toNat = 0 := by simp
        have HM0 := Lib.hid hm0
        clear hl0 hown hgrow hrow5 hin5 hb5 hR5 hm0
        go_wp2_with fail
        refine (ref_digit [] ys _ _ w5 (In.nil w5) (HIB.out.on HB5.out) rfl (valid_nrm HY.out) (by simp) (by omega) YP.out (by have := YP.out; simp [nval]; omega)).mono ?_
        rintro e w6 ⟨rfl, hb6⟩
        rw [show nval [] / nval ys = 0 from by simp [nval]]
        have hR6 := HR5.out.below hb6 HR5.out.lt
        have hcq := hR6.cell (i := a) (z := qv) (by rw [HQV.out, List.getD_eq_getElem?_getD, List.getElem?_eq_getElem (by rw [HQL.out]; exact hal)]; rfl)
        have hfr := hR6.frozen a
        have HR7 := Lib.hid (hR6.store a 0)
        have HB7 := Lib.hid ((bstep HB5.out hb6).setCell (p := ⟨w.heap.size, a, none⟩) (Nat.le_refl _) (.int .i64 0))
        clear hR6 hb6 hcl
        go_wp2_with fail
        go_roundw
        case rel =>
          have e2 : xs.length - (k + 1) = a := by have := HE.out; omega
          have h := HST.out
          rw [HM0.out] at h
          refine ⟨k + 1, 0, _, by omega, ?_, by rw [limbs_zero]; exact In.nil _, by rw [e2]; exact h, HR7.out, HB7.out⟩
          have := HE.out; go_num
        case measure => simp [intOf] <;> omega
      · obtain ⟨y, hy1, hy0⟩ := last_ne z0 z1 hzz
        have hcl := hrow5.cell hy1
        have hy2 : (y == 0) = false := by simpa using hy0
        have hlc := limbs_cons z0 z1 hzz
        have hnr : nrm (z :: limbs r) = true := by rw [← hlc]; exact nrm_of_limbs _
        have hdg := ref_digit (z :: limbs r) ys _ _ w5 hin5 (HIB.out.on HB5.out) hnr (valid_nrm HY.out) (by simp; omega) (by omega) YP.out (by rw [HNV.out]; exact HLT.out)
        rw [HNV.out, ← HQ.out] at hdg
        have HDG := Lib.hid hdg
        have HR5 := Lib.hid hR5
        have HIN5 := Lib.hid hin5
        have HLC := Lib.hid hlc
        clear hown hgrow hrow5 hin5 hb5 hR5 hy1 hy0 hzz hlc hnr hdg
        go_wp2_with fail
        refine HDG.out.mono ?_
        rintro e w6 ⟨rfl, hb6⟩
        have hR6 := HR5.out.below hb6 HR5.out.lt
        have hin6 := HIN5.out.on hb6
        have hcq := hR6.cell (i := a) (z := qv) (by rw [HQV.out, List.getD_eq_getElem?_getD, List.getElem?_eq_getElem (by rw [HQL.out]; exact hal)]; rfl)
        have hfr := hR6.frozen a
        have HR7 := Lib.hid (hR6.store a q)
        have hb67 : Below w6.heap.size w6 w6 := Below.refl _ _
        have HB7 := Lib.hid ((bstep HB5.out hb6).setCell (p := ⟨w.heap.size, a, none⟩) (Nat.le_refl _) (.int .i64 q))
        have hne5 : g5 ≠ w.heap.size := by have := HR.out.lt; omega
        have HIN7 := Lib.hid (hin6.setCell (p := ⟨w.heap.size, a, none⟩) (by show w.heap.size ≠ g5; omega) (.int .i64 q))
        have e2 : xs.length - (k + 1) = a := by have := HE.out; omega
        have E2 := Lib.hid e2
        have hse : (w6.setCell ⟨w.heap.size, a, none⟩ (.int .i64 q)).heap.size = w6.heap.size := by simp [World.setCell]
        have hto := times_one ys q (.slice B ys.length d) _ (HIB.out.on HB7.out) (valid_lok HY.out) (by omega) q0 q1
        rw [hse] at hto
        have HTO := Lib.hid hto
        have HSE := Lib.hid hse
        clear hR6 hb6 hin6 hcl hb67 hne5 e2 hse hto
        by_cases hqp : 0 < q
        · go_wp2_with fail
          refine HTO.out.mono ?_
          rintro e w8 ⟨v8, rfl, hi8, hb8⟩
          have hb8' : Below (w6.setCell ⟨w.heap.size, a, none⟩ (.int .i64 q)).heap.size (w6.setCell ⟨w.heap.size, a, none⟩ (.int .i64 q)) w8 := by rw [HSE.out]; exact hb8
          have HI8 := Lib.hid hi8
          have HB8 := Lib.hid (bstep HB7.out hb8')
          have HIN8 := Lib.hid (HIN7.out.on hb8')
          have HR8 := Lib.hid (HR7.out.below hb8' HR7.out.lt)
          clear hi8 hb8 hb8'
          go_wp2_with fail
          refine (minus_in _ _ w8 HIN8.out HI8.out (nrm_lok (by rw [← HLC.out]; exact nrm_of_limbs _)) (by simp; omega) HY.out YP.out (by rw [HNV.out]; exact HQ.out)).mono ?_
          rintro e w9 ⟨v9, rfl, hi9, hb9⟩
          rw [HNV.out] at hi9
          have HI9 := Lib.hid hi9
          have HB9 := Lib.hid (bstep HB8.out hb9)
          have HR9 := Lib.hid (HR8.out.below hb9 HR8.out.lt)
          clear hi9 hb9
          go_wp2_with fail
          go_roundw
          case rel =>
            refine ⟨k + 1, _, _, by omega, ?_, HI9.out, by rw [E2.out]; exact HST.out, HR9.out, HB9.out⟩
            have := HE.out; go_num
          case measure => simp [intOf] <;> omega
        · have hq0 : q = 0 := by omega
          have hqn : decide (0 < q) = false := decide_eq_false hqp
          have hmod : (z + 1000000000 * (r : Int)) % nval ys = z + 1000000000 * (r : Int) := by
            have hem := Int.emod_add_mul_ediv (z + 1000000000 * (r : Int)) (nval ys)
            rw [← HQ.out, hq0] at hem
            omega
          have HMOD := Lib.hid hmod
          clear hq0 hqp hmod
          go_wp2_with fail
          go_roundw
          case rel =>
            refine ⟨k + 1, ((z + 1000000000 * (r : Int)) % nval ys).toNat, _, by omega, ?_, by rw [HMOD.out, HLC.out]; exact HIN7.out, by rw [E2.out]; exact HST.out, HR7.out, HB7.out⟩
            have := HE.out; go_num
          case measure => simp [intOf] <;> omega
    · obtain rfl : k = xs.length := by omega
      rw [Nat.sub_self] at hinv
      have hv := hinv.quo
      have hrm := hinv.rem
      have hqk := hinv.qk
      rw [List.drop_zero, List.drop_zero] at hv
      rw [List.drop_zero] at hrm
      have x0 := nval_nonneg (valid_lok HX.out)
      have y0 := YP.out
      have ex : nval xs = ((nval xs).toNat : Int) := by omega
      have ey : nval ys = ((nval ys).toNat : Int) := by omega
      have eq : (nval Q).toNat = quoN xs ys := by
        rw [hv, quoN, HOK.out, if_pos rfl]
        conv => lhs; rw [ex, ey]
        exact Int.toNat_natCast _
      have er : r = remN xs ys := by
        rw [remN, HOK.out, if_pos rfl]
        rw [ex, ey] at hrm
        exact Int.ofNat.inj hrm
      have hfit : quoN xs ys < 1000000000 ^ 48 := by
        rw [quoN, HOK.out, if_pos rfl]
        exact Nat.lt_of_le_of_lt (Nat.div_le_self _ _) (valid_lt HX.out)
      have hqin : In wr (.slice (some ⟨w.heap.size, 0, none⟩) xs.length xs.length) Q := by
        refine ⟨_, _, by rw [hql], by omega, by unfold maxLen; omega, hrow.holds (fun k z hz => by rw [Nat.zero_add]; exact hz) (Nat.zero_le _) hrow.lt⟩
      have hft := ref_fit Q _ wr hqin hqk (by omega)
      rw [eq, (fit_ok hfit).1, (fit_ok hfit).2] at hft
      have HFT := Lib.hid hft
      rw [er] at hin
      have HIN := Lib.hid hin
      have e0 : (xs.length : Int) - 1 - xs.length = -1 := by omega
      rw [e0]
      clear hinv hv hrm hqk x0 y0 ex ey eq er hfit hqin hft hin hrow hbel hql e0
      go_wp2_with fail
      refine HFT.out.mono ?_
      rintro e w8 hr8
      obtain ⟨v8, rfl, hi8, hb8⟩ := res_open hr8
      have HI8 := Lib.hid hi8
      have HIN8 := Lib.hid (HIN.out.on hb8)
      have HB8 := Lib.hid (bstep HBL.out hb8)
      clear hr8 hi8 hb8
      go_wp2_with fail
      go_ret3
      exact ⟨_, _, by rw [HDE.out]; rfl, HI8.out, HIN8.out, HB8.out⟩
end Go.Proofs.YthkhaipbdphpeaaDoor
