/- Contracts of minus and Sub of the reference; the walk of NatSums. -/
import Derived.Test.YtmbpcjnlniidkaaDoorNatS
namespace Go.Proofs.YtmbpcjnlniidkaaDoor
open Go.ChangeShapes Go.WideShapes Go.RowKit
set_option linter.unusedVariables false

theorem rmin_step {xs ys ds : List Int} {k : Nat} {x y bo b' T : Int} (hl : ds.length = k) (hx : xs.getD k 0 = x) (hy : ys.getD k 0 = y) (hv : nval ds + 1000000000 ^ k * (nval (xs.drop k) - nval (ys.drop k) - bo) = T) :
    nval (ds ++ [x - y - bo + 1000000000 * b']) + 1000000000 ^ (k + 1) * (nval (xs.drop (k + 1)) - nval (ys.drop (k + 1)) - b') = T := by
  rw [nval_snoc, hl, ← hv, nval_drop_getD xs k, nval_drop_getD ys k, hx, hy, Int.pow_succ, Int.mul_assoc, Int.add_assoc, ← Int.mul_add]
  congr 2
  omega
theorem rmin_end {xs ys ds : List Int} {bo : Int} (hx : lok xs = true) (hy : lok ys = true) (hle : nval ys ≤ nval xs) (hdl : ds.length = xs.length) (hdk : lok ds = true) (b0 : 0 ≤ bo)
    (hv : nval ds + 1000000000 ^ xs.length * (nval (xs.drop xs.length) - nval (ys.drop xs.length) - bo) = nval xs - nval ys) : nval ds = nval xs - nval ys := by
  rw [List.drop_length] at hv
  have h1 := nval_nonneg (lok_drop hy xs.length)
  have h2 := nval_lt hdk
  rw [hdl] at h2
  have e0 : nval ([] : List Int) = 0 := rfl
  rw [e0] at hv
  rcases Int.lt_or_le 0 (nval (ys.drop xs.length) + bo) with h | h
  · exfalso
    have p := pow_pos' xs.length
    have : (1000000000 : Int) ^ xs.length * (0 - nval (ys.drop xs.length) - bo) ≤ 1000000000 ^ xs.length * (-1) := Int.mul_le_mul_of_nonneg_left (by omega) (Int.le_of_lt p)
    omega
  · have e : (0 : Int) - nval (ys.drop xs.length) - bo = 0 := by omega
    rw [e, Int.mul_zero] at hv
    omega

theorem one_cell (w : World) (t : TypeId) (x : Value) (j : Nat) (u : Value) (hj : [x][j]? = some u) : (w.alloc (.cells #[x] t)).cell? ((⟨w.heap.size, 0, none⟩ : Addr).add j) = some u := by
  match j, hj with
  | 0, hj =>
    obtain rfl : x = u := by simpa using hj
    show (w.alloc (.cells #[x] t)).cell? ⟨w.heap.size, 0, none⟩ = some x
    rw [cell_of_row _ w.heap.size 0 #[x] t (0, 0) (heap_alloc_new w _)]
    rfl

set_option maxHeartbeats 3200000 in
theorem ref_minus (xs ys : List Int) (va vb : Value) (w : World) (ha : In w va xs) (hb : In w vb ys) (hx : lok xs = true) (hy : lok ys = true) (hl : xs.length ≤ 1000)
    (hle : nval ys ≤ nval xs) (hfit : (nval xs - nval ys).toNat < 1000000000 ^ 48) :
    Calls Tryd.prog 51 #[va, vb] w (GcdRes w (nval xs - nval ys).toNat) := by
  obtain ⟨A, c, rfl, hc, hm, hA⟩ := ha
  obtain ⟨B, d, rfl, hd, hn, hB⟩ := hb
  have HA := Lib.hid hA
  have HB := Lib.hid hB
  have HX := Lib.hid hx
  have HY := Lib.hid hy
  have HLE := Lib.hid hle
  have HF := Lib.hid (show fitN (nval xs - nval ys).toNat = (nval xs - nval ys).toNat from if_pos hfit)
  obtain ⟨i0, hi0, hz0, hz1, hz2⟩ := info_parts info_int
  clear hA hB hm hn hx hy hle hfit
  go_enter Tryd.func51, Tryd.ntmps51
  go_wp2_with fail
  go_loopw [5, 6, 7] (fun v bv i wr => ∃ (k : Nat) (bo : Int) (ds : List Int), k ≤ xs.length ∧ i = .int .i64 k ∧ bv = .int .i64 bo ∧ 0 ≤ bo ∧ bo ≤ 1 ∧ ds.length = k ∧ lok ds = true ∧
      nval ds + 1000000000 ^ k * (nval (xs.drop k) - nval (ys.drop k) - bo) = nval xs - nval ys ∧ wr.ownsRow w.heap.size 3 1 v ds.length (ds.map (Value.int .i64)) ∧ Below w.heap.size w wr)
    (fun _ _ i _ => xs.length - (intOf i).toNat)
  case atStart => exact ⟨0, 0, [], Nat.zero_le _, rfl, rfl, by omega, by omega, rfl, rfl, by simp [nval], World.ownsRow_nil _ _ _ _, Below.refl _ _⟩
  case round =>
    obtain ⟨k, bo, ds, hk, rfl, rfl, b0, b1, hdl, hdk, hdv, hown, hbel⟩ := hrel
    have HDL := Lib.hid hdl
    have HDK := Lib.hid hdk
    have HDV := Lib.hid hdv
    have HOW := Lib.hid hown
    have HBL := Lib.hid hbel
    clear hdl hdk hdv hown hbel
    rcases Nat.lt_or_ge k xs.length with hlt | hge
    · obtain ⟨x, hx⟩ : ∃ x, xs[k]? = some x := ⟨_, List.getElem?_eq_getElem hlt⟩
      obtain ⟨b, off, rfl, _, _, hcell⟩ := (HA.out.below HBL.out (Nat.le_refl _)) k x hx
      have xb := lok_at HX.out hx
      have hxg : xs.getD k 0 = x := by rw [List.getD_eq_getElem?_getD, hx]; rfl
      obtain ⟨y, hye⟩ : ∃ y, ys.getD k 0 = y := ⟨_, rfl⟩
      have yb := lok_getD HY.out k
      rw [hye] at yb
      have hay : ∀ n, Calls Tryd.prog 50 #[.slice B ys.length d, .int .i64 (k : Int)] (wr.drewN n) fun e w' => e = .returned (.int .i64 y) ∧ w' = wr.drewN n := by
        intro n
        rw [← hye]
        exact (ref_at ys B d k _ _ (wr.drewN n) ((HB.out.below HBL.out (Nat.le_refl _)).keep fun _ _ _ => rfl) (by omega)).mono fun _ _ h => ⟨h.1, h.2.symm⟩
      have HAY := Lib.hid hay
      have HXG := Lib.hid hxg
      have HYE := Lib.hid hye
      have hdlen : ds.length ≤ 1000 := by rw [HDL.out]; omega
      obtain ⟨x0, x1⟩ := xb
      obtain ⟨y0, y1⟩ := yb
      clear hx hxg hye hay
      rcases Int.lt_or_le (x - y - bo) 0 with hs | hs
      · have HST := Lib.hid (rmin_step (b' := 1) HDL.out HXG.out HYE.out HDV.out)
        go_wp2_with fail
        go_quiet ((go_at_call 50; exact Calls.quiet_of_same (HAY.out _)))
        have hown2 : (wr.drewN nq).ownsRow w.heap.size 3 1 _ ds.length (ds.map (Value.int .i64)) := own_keep HOW.out (below_drewN (Below.refl _ _) _)
        have HOW2 := Lib.hid hown2
        have HBL2 := Lib.hid (below_drewN HBL.out nq)
        clear hown2
        go_wp2_with (first
          | (at_builtin; refine wpList_append_own _ rfl _ _ 23 rfl w.heap.size 3 i0 (.int .i64 0) 1 8 Tryd.underlying23 hi0 hz0 hz1 hz2 rfl (by decide) _ _ _ rfl (HOW2.out.alloc _) ⟨(wr.drewN nq).heap.size, 0, none⟩ 1 1 [.int .i64 (x - y - bo + 1000000000)] rfl rfl (one_cell _ _ _) (by intro u hu; simp at hu; subst hu; rfl) (by unfold maxLen; omega) (by omega) (by have := HBL2.out.size; simp at this ⊢; omega) ?_; intro v' w1 hown' hgrow _; refine Hid.out ?_)
          | fail)
        refine Lib.hid ?_
        have hb1 : Below w.heap.size w w1 := (HBL2.out.alloc HBL2.out.size _).grown hgrow (by have := HBL2.out.size; simp at this ⊢; omega) (own_block_ge HOW2.out)
        have HOW1 := Lib.hid (own_snoc hown')
        have HB1 := Lib.hid hb1
        clear hown' hgrow hb1
        go_wp2_with fail
        go_roundw
        case rel =>
          have e : x - y - bo + 1000000000 = x - y - bo + 1000000000 * 1 := by omega
          refine ⟨k + 1, 1, ds ++ [x - y - bo + 1000000000], by omega, by go_num, rfl, by omega, by omega, by rw [List.length_append, HDL.out]; rfl, lok_snoc HDK.out (by omega) (by omega), ?_, HOW1.out, HB1.out⟩
          rw [e]; exact HST.out
        case measure => simp [intOf]; omega
      · have HST := Lib.hid (rmin_step (b' := 0) HDL.out HXG.out HYE.out HDV.out)
        go_wp2_with fail
        go_quiet ((go_at_call 50; exact Calls.quiet_of_same (HAY.out _)))
        have hown2 : (wr.drewN nq).ownsRow w.heap.size 3 1 _ ds.length (ds.map (Value.int .i64)) := own_keep HOW.out (below_drewN (Below.refl _ _) _)
        have HOW2 := Lib.hid hown2
        have HBL2 := Lib.hid (below_drewN HBL.out nq)
        have hs' : decide (x - y - bo < 0) = false := decide_eq_false (by omega)
        clear hown2
        go_wp2_with (first
          | (at_builtin; refine wpList_append_own _ rfl _ _ 23 rfl w.heap.size 3 i0 (.int .i64 0) 1 8 Tryd.underlying23 hi0 hz0 hz1 hz2 rfl (by decide) _ _ _ rfl (HOW2.out.alloc _) ⟨(wr.drewN nq).heap.size, 0, none⟩ 1 1 [.int .i64 (x - y - bo)] rfl rfl (one_cell _ _ _) (by intro u hu; simp at hu; subst hu; rfl) (by unfold maxLen; omega) (by omega) (by have := HBL2.out.size; simp at this ⊢; omega) ?_; intro v' w1 hown' hgrow _; refine Hid.out ?_)
          | fail)
        refine Lib.hid ?_
        have hb1 : Below w.heap.size w w1 := (HBL2.out.alloc HBL2.out.size _).grown hgrow (by have := HBL2.out.size; simp at this ⊢; omega) (own_block_ge HOW2.out)
        have HOW1 := Lib.hid (own_snoc hown')
        have HB1 := Lib.hid hb1
        clear hown' hgrow hb1
        go_wp2_with fail
        go_roundw
        case rel =>
          have e : x - y - bo = x - y - bo + 1000000000 * 0 := by omega
          refine ⟨k + 1, 0, ds ++ [x - y - bo], by omega, by go_num, rfl, by omega, by omega, by rw [List.length_append, HDL.out]; rfl, lok_snoc HDK.out hs (by omega), ?_, HOW1.out, HB1.out⟩
          rw [e]; exact HST.out
        case measure => simp [intOf]; omega
    · obtain rfl : k = xs.length := by omega
      have hv := rmin_end HX.out HY.out HLE.out HDL.out HDK.out b0 HDV.out
      have hfit := ref_fit ds _ wr (sl_of_owns HOW.out).toIn HDK.out (by rw [HDL.out]; omega)
      rw [hv, HF.out] at hfit
      have HFIT := Lib.hid hfit
      clear hv hfit
      go_wp2_with fail
      refine HFIT.out.mono ?_
      rintro e w5 ⟨v5, rfl, hs5, hb5⟩
      have HS5 := Lib.hid hs5
      have HB5 := Lib.hid hb5
      clear hs5 hb5
      go_wp2_with fail
      go_ret
      exact ⟨v5, rfl, HS5.out.more HBL.out.size (Nat.le_refl _), bstep HBL.out HB5.out⟩

theorem sub_fit {xs ys : List Int} (hx : validB xs = true) (hy : validB ys = true) (hle : nval ys ≤ nval xs) : (nval xs - nval ys).toNat < 1000000000 ^ 48 := by
  have h0 := nval_nonneg (valid_lok hy)
  have hl := nrm_limbs (valid_nrm hx)
  have : (nval xs).toNat < 1000000000 ^ 48 := limbs_len_le.mp (by rw [← hl]; exact valid_len hx)
  exact Nat.lt_of_le_of_lt (by omega) this

set_option maxHeartbeats 1600000 in
theorem ref_Sub (xs ys : List Int) (va vb : Value) (w : World) (ha : In w va xs) (hb : In w vb ys) :
    Calls Tryd.prog 30 #[va, vb] w (Res w (subV xs ys) (subE xs ys)) := by
  obtain ⟨A, c, rfl, hc, hm, hA⟩ := ha
  obtain ⟨B, d, rfl, hd, hn, hB⟩ := hb
  have HIA := Lib.hid (show In w (.slice A xs.length c) xs from ⟨A, c, rfl, hc, hm, hA⟩)
  have HIB := Lib.hid (show In w (.slice B ys.length d) ys from ⟨B, d, rfl, hd, hn, hB⟩)
  have HA := Lib.hid hA
  have HB := Lib.hid hB
  have hm1 : xs.length ≤ 9223372036854775807 := Nat.le_trans hc hm
  have hm2 : ys.length ≤ 9223372036854775807 := Nat.le_trans hd hn
  clear hA hB hm hn
  rcases both_cases xs ys with ⟨hx, hbo⟩ | ⟨hx, hy, hbo⟩ | ⟨hx, hy, hbo⟩
  · have HBO := Lib.hid hbo
    clear hbo
    go_enter Tryd.func30, Tryd.ntmps30
    go_wp2_with fail
    refine (ref_Valid xs A c _ _ w HA.out hm1).mono ?_
    rintro e w' ⟨rfl, rfl⟩
    go_wp2_with fail
    go_ret2
    exact Res.none (by rw [subV, HBO.out]; rfl) (by rw [subE, HBO.out]; rfl) rfl (Below.refl _ _)
  · have HBO := Lib.hid hbo
    clear hbo
    go_enter Tryd.func30, Tryd.ntmps30
    go_wp2_with fail
    refine (ref_Valid xs A c _ _ w HA.out hm1).mono ?_
    rintro e w' ⟨rfl, rfl⟩
    go_wp2_with fail
    refine (ref_Valid ys B d _ _ _ HB.out hm2).mono ?_
    rintro e w' ⟨rfl, rfl⟩
    go_wp2_with fail
    go_ret2
    exact Res.none (by rw [subV, HBO.out]; rfl) (by rw [subE, HBO.out]; rfl) rfl (Below.refl _ _)
  · have HBO := Lib.hid hbo
    have l1 := valid_len hx
    have l2 := valid_len hy
    have HX := Lib.hid hx
    have HY := Lib.hid hy
    have HCC := Lib.hid (ref_compare xs ys A B c d _ _ _ _ w HA.out HB.out (Nat.le_refl _) (Nat.le_refl _) (valid_nrm hx) (valid_nrm hy) (by omega) (by omega))
    rcases Int.lt_or_le (nval xs) (nval ys) with hlt | hge
    · have hcm : cmpI (nval xs) (nval ys) = -1 := cmpI_lt hlt
      have HLT := Lib.hid hlt
      clear hbo hlt
      go_enter Tryd.func30, Tryd.ntmps30
      go_wp2_with fail
      refine (ref_Valid xs A c _ _ w HA.out hm1).mono ?_
      rintro e w' ⟨rfl, rfl⟩
      go_wp2_with fail
      refine (ref_Valid ys B d _ _ _ HB.out hm2).mono ?_
      rintro e w' ⟨rfl, rfl⟩
      go_wp2_with fail
      refine HCC.out.mono ?_
      rintro e w' ⟨rfl, hbel⟩
      go_wp2_with fail
      go_ret2
      exact Res.none (by rw [subV, HBO.out, if_pos rfl, if_pos HLT.out]) (by rw [subE, HBO.out, if_pos rfl, if_pos HLT.out]) rfl hbel
    · have hcm : decide (cmpI (nval xs) (nval ys) < 0) = false := by
        refine decide_eq_false ?_
        rcases Int.lt_or_eq_of_le hge with h | h
        · rw [cmpI_gt h]; decide
        · rw [← h, cmpI_eq]; decide
      have HGE := Lib.hid hge
      clear hbo hge
      go_enter Tryd.func30, Tryd.ntmps30
      go_wp2_with fail
      refine (ref_Valid xs A c _ _ w HA.out hm1).mono ?_
      rintro e w' ⟨rfl, rfl⟩
      go_wp2_with fail
      refine (ref_Valid ys B d _ _ _ HB.out hm2).mono ?_
      rintro e w' ⟨rfl, rfl⟩
      go_wp2_with fail
      refine HCC.out.mono ?_
      rintro e w1 ⟨rfl, hbel⟩
      have HB1 := Lib.hid hbel
      clear hbel
      go_wp2_with fail
      refine (ref_minus xs ys _ _ w1 (HIA.out.on HB1.out) (HIB.out.on HB1.out) (valid_lok HX.out) (valid_lok HY.out) (by omega) HGE.out (sub_fit HX.out HY.out HGE.out)).mono ?_
      rintro e w2 ⟨v, rfl, hs, hb2⟩
      have HS := Lib.hid hs
      have HB2 := Lib.hid hb2
      clear hs hb2
      go_wp2_with fail
      go_ret2
      have hf : fitN (nval xs - nval ys).toNat = (nval xs - nval ys).toNat := if_pos (sub_fit HX.out HY.out HGE.out)
      have hf2 : fitE (nval xs - nval ys).toNat = 0 := if_pos (sub_fit HX.out HY.out HGE.out)
      refine ⟨v, ?_, ?_, bstep HB1.out HB2.out⟩
      · rw [subE, HBO.out, if_pos rfl, if_neg (Int.not_lt.mpr HGE.out), hf2]; rfl
      · rw [subV, HBO.out, if_pos rfl, if_neg (Int.not_lt.mpr HGE.out), hf]; exact HS.out.more HB1.out.size (Nat.le_refl _)

theorem res_open {w w' : World} {N : Nat} {err : Int} {e : Ending} (h : Res w N err e w') : ∃ v, e = .returned (.tuple #[v, .int .i64 err]) ∧ In w' v (limbs N) ∧ Below w.heap.size w w' := by
  obtain ⟨v, h1, h2, h3⟩ := h; exact ⟨v, h1, h2.toIn, h3⟩
theorem same_self {xs : List Int} {va vb : Value} {w : World} (ha : In w va xs) (hb : In w vb xs) :
    Calls Tryd.prog 24 #[va, vb] w fun e w' => e = .returned (.bool true) ∧ Below w.heap.size w w' := by
  refine (same_in xs xs va vb w ha hb).mono ?_
  rintro e w' ⟨rfl, h⟩
  exact ⟨by rw [decide_eq_true rfl], h⟩

set_option maxHeartbeats 1600000 in
theorem walk_NatSums (w : World) (A : Option Addr) (n c : Nat) (xs : List Int) (ha : In w (.slice A n c) xs) (B : Option Addr) (m d : Nat) (ys : List Int) (hb : In w (.slice B m d) ys) (ht : Tab w) :
    Calls Tryd.prog 5 #[.slice A n c, .slice B m d] w fun e w' => e = .returned (.bool true) ∧ Below w.heap.size w w' := by
  have HA := Lib.hid ha
  have HB := Lib.hid hb
  have HT := Lib.hid ht
  clear ha hb ht
  cases hf : (decide (n ≤ 100) && decide (m ≤ 100)) with
  | false =>
    go_enter Tryd.func5, Tryd.ntmps5
    go_wp2_with fail
    refine (few_c A B n c m d w).mono ?_
    rintro e w' ⟨rfl, rfl⟩
    rw [hf]
    go_wp2_with fail
    refine (awake_true w HT.out).mono ?_
    rintro e w' ⟨rfl, hb⟩
    have HBL := Lib.hid hb
    clear hb
    go_wp2_with fail
    go_ret
    exact ⟨rfl, HBL.out⟩
  | true =>
    go_enter Tryd.func5, Tryd.ntmps5
    go_wp2_with fail
    refine (few_c A B n c m d w).mono ?_
    rintro e w' ⟨rfl, rfl⟩
    rw [hf]
    clear hf
    go_wp2_with fail
    refine (nat_Add xs ys _ _ w HA.out HB.out).mono ?_
    rintro e w1 hr
    obtain ⟨v1, rfl, h1, hb1⟩ := res_open hr
    have H1 := Lib.hid h1
    have HB1 := Lib.hid hb1
    clear hr h1 hb1
    go_wp2_with fail
    refine (ref_Add xs ys _ _ w1 (HA.out.on HB1.out) (HB.out.on HB1.out)).mono ?_
    rintro e w2 hr
    obtain ⟨v2, rfl, h2, hb2⟩ := res_open hr
    have H1 := Lib.hid (H1.out.on hb2)
    have H2 := Lib.hid h2
    have HB2 := Lib.hid (bstep HB1.out hb2)
    clear hr h2 hb2
    go_wp2_with fail
    refine (nat_Sub xs ys _ _ w2 (HA.out.on HB2.out) (HB.out.on HB2.out)).mono ?_
    rintro e w3 hr
    obtain ⟨v3, rfl, h3, hb3⟩ := res_open hr
    have H1 := Lib.hid (H1.out.on hb3)
    have H2 := Lib.hid (H2.out.on hb3)
    have H3 := Lib.hid h3
    have HB3 := Lib.hid (bstep HB2.out hb3)
    clear hr h3 hb3
    go_wp2_with fail
    refine (ref_Sub xs ys _ _ w3 (HA.out.on HB3.out) (HB.out.on HB3.out)).mono ?_
    rintro e w4 hr
    obtain ⟨v4, rfl, h4, hb4⟩ := res_open hr
    have H1 := Lib.hid (H1.out.on hb4)
    have H2 := Lib.hid (H2.out.on hb4)
    have H3 := Lib.hid (H3.out.on hb4)
    have H4 := Lib.hid h4
    have HB4 := Lib.hid (bstep HB3.out hb4)
    clear hr h4 hb4
    go_wp2_with fail
    refine (same_self H1.out H2.out).mono ?_
    rintro e w5 ⟨rfl, hb5⟩
    have H3 := Lib.hid (H3.out.on hb5)
    have H4 := Lib.hid (H4.out.on hb5)
    have HB5 := Lib.hid (bstep HB4.out hb5)
    clear hb5
    go_wp2_with fail
    refine (same_self H3.out H4.out).mono ?_
    rintro e w6 ⟨rfl, hb6⟩
    have HB6 := Lib.hid (bstep HB5.out hb6)
    clear hb6
    go_wp2_with fail
    refine (awake_true w6 (HT.out.on HB6.out)).mono ?_
    rintro e w7 ⟨rfl, hb7⟩
    have HB7 := Lib.hid (bstep HB6.out hb7)
    clear hb7
    go_wp2_with fail
    go_ret
    exact ⟨rfl, HB7.out⟩
#print axioms ref_minus
#print axioms walk_NatSums
end Go.Proofs.YtmbpcjnlniidkaaDoor
