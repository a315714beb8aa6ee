/- Several texts in one: NatR, NatS, NatT, NatU, NatV, NatV2. -/
import Derived.Test.YtgmlccjjhmhgbaaPk4
/- Contracts of at, fit, Add, minus, Sub of the reference. -/
namespace Go.Proofs.Ytgmlccjjhmhgbaa
open Go.ChangeShapes Go.WideShapes Go.RowKit
set_option linter.unusedVariables false
set_option maxRecDepth 100000

theorem ref_at (zs : List Int) (A : Option Addr) (c i : Nat) (lo hi : Nat) (w : World) (hS : Holds w lo hi A zs) (hi : i ≤ 9223372036854775807) :
    Calls Try.prog 84 #[.slice A zs.length c, .int .i64 (i : Int)] w fun e w' => e = .returned (.int .i64 (zs.getD i 0)) ∧ w = w' := by
  rcases Nat.lt_or_ge i zs.length with h | h
  · have hz : zs[i]? = some zs[i] := List.getElem?_eq_getElem h
    obtain ⟨z, hz'⟩ : ∃ z, z = zs[i] := ⟨_, rfl⟩
    rw [← hz'] at hz
    obtain ⟨b, off, rfl, _, _, hcell⟩ := hS i z hz
    have hv : zs.getD i 0 = z := by rw [List.getD_eq_getElem?_getD, hz]; rfl
    have HV := Lib.hid hv
    have h' : (i : Int) < (zs.length : Int) := by omega
    clear hz hz' hS hv
    go_enter Try.func84, Try.ntmps84
    go_wp2
    go_ret
    exact ⟨ret_int HV.out.symm, rfl⟩
  · have hv : zs.getD i 0 = 0 := by rw [List.getD_eq_getElem?_getD, List.getElem?_eq_none h]; rfl
    have HV := Lib.hid hv
    have h' : decide ((i : Int) < (zs.length : Int)) = false := decide_eq_false (by omega)
    clear hS hv
    go_enter Try.func84, Try.ntmps84
    go_wp2
    go_ret
    exact ⟨ret_int HV.out.symm, rfl⟩

set_option maxHeartbeats 1600000 in
theorem ref_fit (zs : List Int) (va : Value) (w : World) (ha : In w va zs) (hk : lok zs = true) (hl : zs.length ≤ 100000) :
    Calls Try.prog 73 #[va] w (Res w (fitN (nval zs).toNat) (fitE (nval zs).toNat)) := by
  obtain ⟨A, c, rfl, hc, hm, hA⟩ := ha
  have HS := Lib.hid hA
  have hm' : c ≤ 9223372036854775807 := hm
  have hlm : trimL zs = limbs (nval zs).toNat := trimL_limbs hk
  have HLM := Lib.hid hlm
  clear hA hm hlm hk
  go_enter Try.func73, Try.ntmps73
  go_wp2_with fail
  go_loop [4] (fun v => ∃ k : Nat, k ≤ zs.length ∧ v = .int .i64 k ∧ trimL (zs.take k) = trimL zs) (fun v => (intOf v).toNat)
  case atStart => exact ⟨zs.length, Nat.le_refl _, rfl, by rw [List.take_length]⟩
  case round =>
    obtain ⟨k, hk, rfl, ht⟩ := hrel
    have HT := Lib.hid ht
    clear ht
    -- the loop's end, at k limbs
    have fin : trimL zs = zs.take k → (Hid (48 < k ∧ fitN (nval zs).toNat = 0 ∧ fitE (nval zs).toNat = 2)) ∨ Hid (k ≤ 48 ∧ zs.take k = limbs (fitN (nval zs).toNat) ∧ fitE (nval zs).toNat = 0) := by
      intro he
      have hlen : (limbs (nval zs).toNat).length = k := by rw [← HLM.out, he, List.length_take]; omega
      rcases Nat.lt_or_ge 48 k with h | h
      · left
        have : ¬ (nval zs).toNat < 1000000000 ^ 48 := fun h2 => by have := limbs_len_le.mpr h2; omega
        exact ⟨h, if_neg this, if_neg this⟩
      · right
        have : (nval zs).toNat < 1000000000 ^ 48 := limbs_len_le.mp (by omega)
        exact ⟨h, by rw [fitN, if_pos this, ← HLM.out, he], if_pos this⟩
    have FIN := Lib.hid fin
    have HAL := Lib.hid ((Holds.take HS.out k).below (below_alloc w (.cells #[] 3)) (Nat.le_refl _))
    have HOE := Lib.hid (own_empty w)
    have htl : (zs.take k).length = k := by rw [List.length_take]; omega
    have HTL := Lib.hid htl
    have HLEN := Lib.hid (show ([] : List Int).length + (zs.take k).length ≤ 1000000 by rw [htl]; simp; omega)
    have hkc : (k : Int) ≤ (c : Int) := by omega
    clear fin htl
    rcases Nat.eq_zero_or_pos k with rfl | hp
    · have he := HT.out
      rw [List.take_zero] at he
      rcases FIN.out (by rw [List.take_zero]; exact he.symm) with hf | hf
      · exact absurd hf.out.1 (by omega)
      · clear he
        go_wp2_with (first
          | (at_builtin; refine append_holds rfl (.tmp 21) (.tmp 24) rfl w.heap.size _ [] rfl HOE.out 0 w.heap.size A c (zs.take 0) 0 rfl rfl HAL.out HLEN.out (by simp) ?_; intro v' w5 hown hgrow; refine Hid.out ?_)
          | fail)
        refine Lib.hid ?_
        rw [List.nil_append] at hown
        have hb5 : Below w.heap.size w w5 := (below_alloc _ _).grown hgrow (by simp) (own_block_ge HOE.out)
        have HSL := Lib.hid (sl_of_owns hown)
        have HB5 := Lib.hid hb5
        clear hown hgrow hb5
        go_wp2_with fail
        go_ret2
        exact ⟨v', by rw [hf.out.2.2]; rfl, by rw [← hf.out.2.1]; exact HSL.out, HB5.out⟩
    · obtain ⟨k, rfl⟩ : ∃ j, k = j + 1 := ⟨k - 1, by omega⟩
      obtain ⟨z, hz⟩ : ∃ z, zs[k]? = some z := ⟨_, List.getElem?_eq_getElem (by omega)⟩
      obtain ⟨b, off, rfl, _, _, hcell⟩ := HS.out _ z hz
      have HZ := Lib.hid hz
      clear hz
      have e2 : ((k + 1 : Nat) : Int) - 1 = k := by omega
      by_cases h0 : z = 0
      · subst h0
        go_wp2_with fail
        go_round
        case rel =>
          refine ⟨k, by omega, by go_num, ?_⟩
          rw [← HT.out, trim_step HZ.out, trimL_snoc_zero]
        case measure => simp [intOf] <;> omega
      · have H0 := Lib.hid h0
        have he : trimL zs = zs.take (k + 1) := by rw [← HT.out, trim_step HZ.out, trimL_snoc H0.out]
        rcases FIN.out he with hf | hf
        · have h48 : (48 : Int) < ((k + 1 : Nat) : Int) := by have := hf.out.1; omega
          clear he
          go_wp2_with fail
          go_ret2
          exact Res.none hf.out.2.1 hf.out.2.2 rfl (Below.refl _ _)
        · have h48 : decide ((48 : Int) < (k : Int) + 1) = false := decide_eq_false (by have := hf.out.1; omega)
          clear he
          go_wp2_with (first
            | (at_builtin; refine append_holds rfl (.tmp 21) (.tmp 24) rfl w.heap.size _ [] rfl HOE.out 0 w.heap.size (some ⟨b, off, none⟩) c (zs.take (k + 1)) (k + 1) HTL.out.symm rfl HAL.out HLEN.out (by simp) ?_; intro v' w5 hown hgrow; refine Hid.out ?_)
            | fail)
          refine Lib.hid ?_
          rw [List.nil_append] at hown
          have hb5 : Below w.heap.size w w5 := (below_alloc _ _).grown hgrow (by simp) (own_block_ge HOE.out)
          have HSL := Lib.hid (sl_of_owns hown)
          have HB5 := Lib.hid hb5
          clear hown hgrow hb5
          go_wp2_with fail
          go_ret2
          exact ⟨v', by rw [hf.out.2.2]; rfl, by rw [← hf.out.2.1]; exact HSL.out, HB5.out⟩
end Go.Proofs.Ytgmlccjjhmhgbaa
/- Contracts of Add, minus, Sub of the reference; the walk of NatSums. -/
namespace Go.Proofs.Ytgmlccjjhmhgbaa
open Go.ChangeShapes Go.WideShapes Go.RowKit
set_option linter.unusedVariables false
set_option maxRecDepth 100000

theorem lok_snoc {ds : List Int} {x : Int} (h : lok ds = true) (h0 : 0 ≤ x) (h1 : x < 1000000000) : lok (ds ++ [x]) = true := by
  rw [lok_append]; exact ⟨h, by simp [lok, h0, h1]⟩
theorem radd_step {xs ys ds : List Int} {k : Nat} {c T : Int} (hl : ds.length = k) (hv : nval ds + 1000000000 ^ k * (c + nval (xs.drop k) + nval (ys.drop k)) = T) :
    nval (ds ++ [(xs.getD k 0 + ys.getD k 0 + c) % 1000000000]) + 1000000000 ^ (k + 1) * ((xs.getD k 0 + ys.getD k 0 + c) / 1000000000 + nval (xs.drop (k + 1)) + nval (ys.drop (k + 1))) = T := by
  rw [nval_snoc, hl, ← hv, nval_drop_getD xs k, nval_drop_getD ys k, Int.pow_succ, Int.mul_assoc, Int.add_assoc, ← Int.mul_add]
  congr 2
  have e := Int.emod_add_mul_ediv (xs.getD k 0 + ys.getD k 0 + c) 1000000000
  omega
theorem drop_ge {xs : List Int} {k : Nat} (h : xs.length ≤ k) : nval (xs.drop k) = 0 := by rw [List.drop_eq_nil_of_le h]; rfl

end Go.Proofs.Ytgmlccjjhmhgbaa
/- Contracts of minus and Sub of the reference; the walk of NatSums. -/
namespace Go.Proofs.Ytgmlccjjhmhgbaa
open Go.ChangeShapes Go.WideShapes Go.RowKit
set_option linter.unusedVariables false
set_option maxRecDepth 100000

theorem rmin_step {xs ys ds : List Int} {k : Nat} {x y bo b' T : Int} (hl : ds.length = k) (hx : xs.getD k 0 = x) (hy : ys.getD k 0 = y) (hv : nval ds + 1000000000 ^ k * (nval (xs.drop k) - nval (ys.drop k) - bo) = T) :
    nval (ds ++ [x - y - bo + 1000000000 * b']) + 1000000000 ^ (k + 1) * (nval (xs.drop (k + 1)) - nval (ys.drop (k + 1)) - b') = T := by
  rw [nval_snoc, hl, ← hv, nval_drop_getD xs k, nval_drop_getD ys k, hx, hy, Int.pow_succ, Int.mul_assoc, Int.add_assoc, ← Int.mul_add]
  congr 2
  omega
theorem rmin_end {xs ys ds : List Int} {bo : Int} (hx : lok xs = true) (hy : lok ys = true) (hle : nval ys ≤ nval xs) (hdl : ds.length = xs.length) (hdk : lok ds = true) (b0 : 0 ≤ bo)
    (hv : nval ds + 1000000000 ^ xs.length * (nval (xs.drop xs.length) - nval (ys.drop xs.length) - bo) = nval xs - nval ys) : nval ds = nval xs - nval ys := by
  rw [List.drop_length] at hv
  have h1 := nval_nonneg (lok_drop hy xs.length)
  have h2 := nval_lt hdk
  rw [hdl] at h2
  have e0 : nval ([] : List Int) = 0 := rfl
  rw [e0] at hv
  rcases Int.lt_or_le 0 (nval (ys.drop xs.length) + bo) with h | h
  · exfalso
    have p := pow_pos' xs.length
    have : (1000000000 : Int) ^ xs.length * (0 - nval (ys.drop xs.length) - bo) ≤ 1000000000 ^ xs.length * (-1) := Int.mul_le_mul_of_nonneg_left (by omega) (Int.le_of_lt p)
    omega
  · have e : (0 : Int) - nval (ys.drop xs.length) - bo = 0 := by omega
    rw [e, Int.mul_zero] at hv
    omega

theorem one_cell (w : World) (t : TypeId) (x : Value) (j : Nat) (u : Value) (hj : [x][j]? = some u) : (w.alloc (.cells #[x] t)).cell? ((⟨w.heap.size, 0, none⟩ : Addr).add j) = some u := by
  match j, hj with
  | 0, hj =>
    obtain rfl : x = u := by simpa using hj
    show (w.alloc (.cells #[x] t)).cell? ⟨w.heap.size, 0, none⟩ = some x
    rw [cell_of_row _ w.heap.size 0 #[x] t (0, 0) (heap_alloc_new w _)]
    rfl

set_option maxHeartbeats 3200000 in
theorem ref_minus (xs ys : List Int) (va vb : Value) (w : World) (ha : In w va xs) (hb : In w vb ys) (hx : lok xs = true) (hy : lok ys = true) (hl : xs.length ≤ 1000)
    (hle : nval ys ≤ nval xs) (hfit : (nval xs - nval ys).toNat < 1000000000 ^ 48) :
    Calls Try.prog 71 #[va, vb] w (GcdRes w (nval xs - nval ys).toNat) := by
  obtain ⟨A, c, rfl, hc, hm, hA⟩ := ha
  obtain ⟨B, d, rfl, hd, hn, hB⟩ := hb
  have HA := Lib.hid hA
  have HB := Lib.hid hB
  have HX := Lib.hid hx
  have HY := Lib.hid hy
  have HLE := Lib.hid hle
  have HF := Lib.hid (show fitN (nval xs - nval ys).toNat = (nval xs - nval ys).toNat from if_pos hfit)
  obtain ⟨i0, hi0, hz0, hz1, hz2⟩ := info_parts info_int
  clear hA hB hm hn hx hy hle hfit
  go_enter Try.func71, Try.ntmps71
  go_wp2_with fail
  go_loopw [5, 6, 7] (fun v bv i wr => ∃ (k : Nat) (bo : Int) (ds : List Int), k ≤ xs.length ∧ i = .int .i64 k ∧ bv = .int .i64 bo ∧ 0 ≤ bo ∧ bo ≤ 1 ∧ ds.length = k ∧ lok ds = true ∧
      nval ds + 1000000000 ^ k * (nval (xs.drop k) - nval (ys.drop k) - bo) = nval xs - nval ys ∧ wr.ownsRow w.heap.size 3 1 v ds.length (ds.map (Value.int .i64)) ∧ Below w.heap.size w wr)
    (fun _ _ i _ => xs.length - (intOf i).toNat)
  case atStart => exact ⟨0, 0, [], Nat.zero_le _, rfl, rfl, by omega, by omega, rfl, rfl, by simp [nval], World.ownsRow_nil _ _ _ _, Below.refl _ _⟩
  case round =>
    obtain ⟨k, bo, ds, hk, rfl, rfl, b0, b1, hdl, hdk, hdv, hown, hbel⟩ := hrel
    have HDL := Lib.hid hdl
    have HDK := Lib.hid hdk
    have HDV := Lib.hid hdv
    have HOW := Lib.hid hown
    have HBL := Lib.hid hbel
    clear hdl hdk hdv hown hbel
    rcases Nat.lt_or_ge k xs.length with hlt | hge
    · obtain ⟨x, hx⟩ : ∃ x, xs[k]? = some x := ⟨_, List.getElem?_eq_getElem hlt⟩
      obtain ⟨b, off, rfl, _, _, hcell⟩ := (HA.out.below HBL.out (Nat.le_refl _)) k x hx
      have xb := lok_at HX.out hx
      have hxg : xs.getD k 0 = x := by rw [List.getD_eq_getElem?_getD, hx]; rfl
      obtain ⟨y, hye⟩ : ∃ y, ys.getD k 0 = y := ⟨_, rfl⟩
      have yb := lok_getD HY.out k
      rw [hye] at yb
      have hay : ∀ n, Calls Try.prog 84 #[.slice B ys.length d, .int .i64 (k : Int)] (wr.drewN n) fun e w' => e = .returned (.int .i64 y) ∧ w' = wr.drewN n := by
        intro n
        rw [← hye]
        exact (ref_at ys B d k _ _ (wr.drewN n) ((HB.out.below HBL.out (Nat.le_refl _)).keep fun _ _ _ => rfl) (by omega)).mono fun _ _ h => ⟨h.1, h.2.symm⟩
      have HAY := Lib.hid hay
      have HXG := Lib.hid hxg
      have HYE := Lib.hid hye
      have hdlen : ds.length ≤ 1000 := by rw [HDL.out]; omega
      obtain ⟨x0, x1⟩ := xb
      obtain ⟨y0, y1⟩ := yb
      clear hx hxg hye hay
      rcases Int.lt_or_le (x - y - bo) 0 with hs | hs
      · have HST := Lib.hid (rmin_step (b' := 1) HDL.out HXG.out HYE.out HDV.out)
        go_wp2_with fail
        go_quiet ((go_at_call 84; exact Calls.quiet_of_same (HAY.out _)))
        have hown2 : (wr.drewN nq).ownsRow w.heap.size 3 1 _ ds.length (ds.map (Value.int .i64)) := own_keep HOW.out (below_drewN (Below.refl _ _) _)
        have HOW2 := Lib.hid hown2
        have HBL2 := Lib.hid (below_drewN HBL.out nq)
        clear hown2
        go_wp2_with (first
          | (at_builtin; refine wpList_append_own _ rfl _ _ 31 rfl w.heap.size 3 i0 (.int .i64 0) 1 8 Try.underlying31 hi0 hz0 hz1 hz2 rfl (by decide) _ _ _ rfl (HOW2.out.alloc _) ⟨(wr.drewN nq).heap.size, 0, none⟩ 1 1 [.int .i64 (x - y - bo + 1000000000)] rfl rfl (one_cell _ _ _) (by intro u hu; simp at hu; subst hu; rfl) (by unfold maxLen; omega) (by omega) (by have := HBL2.out.size; simp at this ⊢; omega) ?_; intro v' w1 hown' hgrow _; refine Hid.out ?_)
          | fail)
        refine Lib.hid ?_
        have hb1 : Below w.heap.size w w1 := (HBL2.out.alloc HBL2.out.size _).grown hgrow (by have := HBL2.out.size; simp at this ⊢; omega) (own_block_ge HOW2.out)
        have HOW1 := Lib.hid (own_snoc hown')
        have HB1 := Lib.hid hb1
        clear hown' hgrow hb1
        go_wp2_with fail
        go_roundw
        case rel =>
          have e : x - y - bo + 1000000000 = x - y - bo + 1000000000 * 1 := by omega
          refine ⟨k + 1, 1, ds ++ [x - y - bo + 1000000000], by omega, by go_num, rfl, by omega, by omega, by rw [List.length_append, HDL.out]; rfl, lok_snoc HDK.out (by omega) (by omega), ?_, HOW1.out, HB1.out⟩
          rw [e]; exact HST.out
        case measure => simp [intOf]; omega
      · have HST := Lib.hid (rmin_step (b' := 0) HDL.out HXG.out HYE.out HDV.out)
        go_wp2_with fail
        go_quiet ((go_at_call 84; exact Calls.quiet_of_same (HAY.out _)))
        have hown2 : (wr.drewN nq).ownsRow w.heap.size 3 1 _ ds.length (ds.map (Value.int .i64)) := own_keep HOW.out (below_drewN (Below.refl _ _) _)
        have HOW2 := Lib.hid hown2
        have HBL2 := Lib.hid (below_drewN HBL.out nq)
        have hs' : decide (x - y - bo < 0) = false := decide_eq_false (by omega)
        clear hown2
        go_wp2_with (first
          | (at_builtin; refine wpList_append_own _ rfl _ _ 31 rfl w.heap.size 3 i0 (.int .i64 0) 1 8 Try.underlying31 hi0 hz0 hz1 hz2 rfl (by decide) _ _ _ rfl (HOW2.out.alloc _) ⟨(wr.drewN nq).heap.size, 0, none⟩ 1 1 [.int .i64 (x - y - bo)] rfl rfl (one_cell _ _ _) (by intro u hu; simp at hu; subst hu; rfl) (by unfold maxLen; omega) (by omega) (by have := HBL2.out.size; simp at this ⊢; omega) ?_; intro v' w1 hown' hgrow _; refine Hid.out ?_)
          | fail)
        refine Lib.hid ?_
        have hb1 : Below w.heap.size w w1 := (HBL2.out.alloc HBL2.out.size _).grown hgrow (by have := HBL2.out.size; simp at this ⊢; omega) (own_block_ge HOW2.out)
        have HOW1 := Lib.hid (own_snoc hown')
        have HB1 := Lib.hid hb1
        clear hown' hgrow hb1
        go_wp2_with fail
        go_roundw
        case rel =>
          have e : x - y - bo = x - y - bo + 1000000000 * 0 := by omega
          refine ⟨k + 1, 0, ds ++ [x - y - bo], by omega, by go_num, rfl, by omega, by omega, by rw [List.length_append, HDL.out]; rfl, lok_snoc HDK.out hs (by omega), ?_, HOW1.out, HB1.out⟩
          rw [e]; exact HST.out
        case measure => simp [intOf]; omega
    · obtain rfl : k = xs.length := by omega
      have hv := rmin_end HX.out HY.out HLE.out HDL.out HDK.out b0 HDV.out
      have hfit := ref_fit ds _ wr (sl_of_owns HOW.out).toIn HDK.out (by rw [HDL.out]; omega)
      rw [hv, HF.out] at hfit
      have HFIT := Lib.hid hfit
      clear hv hfit
      go_wp2_with fail
      refine HFIT.out.mono ?_
      rintro e w5 ⟨v5, rfl, hs5, hb5⟩
      have HS5 := Lib.hid hs5
      have HB5 := Lib.hid hb5
      clear hs5 hb5
      go_wp2_with fail
      go_ret
      exact ⟨v5, rfl, HS5.out.more HBL.out.size (Nat.le_refl _), bstep HBL.out HB5.out⟩

theorem sub_fit {xs ys : List Int} (hx : validB xs = true) (hy : validB ys = true) (hle : nval ys ≤ nval xs) : (nval xs - nval ys).toNat < 1000000000 ^ 48 := by
  have h0 := nval_nonneg (valid_lok hy)
  have hl := nrm_limbs (valid_nrm hx)
  have : (nval xs).toNat < 1000000000 ^ 48 := limbs_len_le.mp (by rw [← hl]; exact valid_len hx)
  exact Nat.lt_of_le_of_lt (by omega) this

theorem res_open {w w' : World} {N : Nat} {err : Int} {e : Ending} (h : Res w N err e w') : ∃ v, e = .returned (.tuple #[v, .int .i64 err]) ∧ In w' v (limbs N) ∧ Below w.heap.size w w' := by
  obtain ⟨v, h1, h2, h3⟩ := h; exact ⟨v, h1, h2.toIn, h3⟩
theorem same_self {xs : List Int} {va vb : Value} {w : World} (ha : In w va xs) (hb : In w vb xs) :
    Calls Try.prog 26 #[va, vb] w fun e w' => e = .returned (.bool true) ∧ Below w.heap.size w w' := by
  refine (same_in xs xs va vb w ha hb).mono ?_
  rintro e w' ⟨rfl, h⟩
  exact ⟨by rw [decide_eq_true rfl], h⟩

end Go.Proofs.Ytgmlccjjhmhgbaa
/- Contracts of times and Mul of the reference. -/
namespace Go.Proofs.Ytgmlccjjhmhgbaa
open Go.ChangeShapes Go.WideShapes Go.RowKit
set_option linter.unusedVariables false
set_option maxRecDepth 100000

theorem nval_set (P : List Int) : ∀ (j : Nat) (v : Int), j < P.length → nval (P.set j v) = nval P + 1000000000 ^ j * (v - P.getD j 0) := by
  induction P with
  | nil => intro j v h; simp at h
  | cons p P ih =>
    intro j v h
    cases j with
    | zero => simp [nval]; omega
    | succ j =>
      have i := ih j v (by simpa using h)
      have e : (p :: P).getD (j + 1) 0 = P.getD j 0 := by simp
      rw [List.set_cons_succ, nval, nval, i, e, Int.pow_succ, Int.mul_add, Int.mul_comm (1000000000 ^ j) 1000000000, Int.mul_assoc]; omega
theorem mul_bd2 {x y : Int} (h0 : 0 ≤ x) (h1 : x < 1000000000) (h2 : 0 ≤ y) (h3 : y < 1000000000) : 0 ≤ x * y ∧ x * y ≤ 999999998000000001 :=
  ⟨Int.mul_nonneg h0 h2, (mul_bd (by omega) h1 h2 h3).2⟩
theorem inner_step {P ys : List Int} {j k : Nat} {p x y c T : Int} (hj : j < P.length) (hp : P.getD j 0 = p) (hy : ys.getD k 0 = y) (hv : nval P + 1000000000 ^ j * (c + x * nval (ys.drop k)) = T) :
    nval (P.set j ((p + x * y + c) % 1000000000)) + 1000000000 ^ (j + 1) * ((p + x * y + c) / 1000000000 + x * nval (ys.drop (k + 1))) = T := by
  rw [nval_set P j _ hj, hp, ← hv, nval_drop_getD ys k, hy, Int.pow_succ, Int.mul_assoc, Int.add_assoc, ← Int.mul_add, Int.mul_add x]
  have e2 : x * (1000000000 * nval (ys.drop (k + 1))) = 1000000000 * (x * nval (ys.drop (k + 1))) := by rw [Int.mul_left_comm]
  rw [e2]
  congr 2
  have e := Int.emod_add_mul_ediv (p + x * y + c) 1000000000
  omega
/-- Behind the last limb nothing is carried. -/
theorem inner_top {P xs ys : List Int} {i k : Nat} {x c : Int} (hP : lok P = true) (hx : lok xs = true) (hy : lok ys = true) (hxi : xs[i]? = some x) (c0 : 0 ≤ c) (hk : ys.length ≤ k)
    (hv : nval P + 1000000000 ^ (i + k) * (c + x * nval (ys.drop k)) = nval (xs.take (i + 1)) * nval ys) : 0 < c → k = ys.length := by
  intro hc
  rw [drop_ge hk, Int.mul_zero, Int.add_zero] at hv
  have h0 := nval_nonneg hP
  have hi : i < xs.length := by
    rcases Nat.lt_or_ge i xs.length with h | h
    · exact h
    · rw [List.getElem?_eq_none h] at hxi; cases hxi
  have a := nval_lt (lok_take hx (i + 1))
  have a0 := nval_nonneg (lok_take hx (i + 1))
  have b := nval_lt hy
  have b0 := nval_nonneg hy
  rw [List.length_take, Nat.min_eq_left (by omega)] at a
  rcases Nat.lt_or_ge ys.length k with h | h
  · exfalso
    have p1 := pow_pos' (i + 1)
    have p2 := pow_pos' ys.length
    have m1 : nval (xs.take (i + 1)) * nval ys ≤ 1000000000 ^ (i + 1) * nval ys := Int.mul_le_mul_of_nonneg_right (Int.le_of_lt a) b0
    have m2 : (1000000000 : Int) ^ (i + 1) * nval ys < 1000000000 ^ (i + 1) * 1000000000 ^ ys.length := Int.mul_lt_mul_of_pos_left b p1
    rw [← Int.pow_add] at m2
    have m3 : (1000000000 : Int) ^ (i + 1 + ys.length) ≤ 1000000000 ^ (i + k) := pow_le_pow' (by omega)
    have m4 : (1000000000 : Int) ^ (i + k) * 1 ≤ 1000000000 ^ (i + k) * c := Int.mul_le_mul_of_nonneg_left (by omega) (Int.le_of_lt (pow_pos' _))
    omega
  · omega
theorem outer_next {P xs ys : List Int} {i : Nat} {x : Int} (hxi : xs[i]? = some x) (hv : nval P = nval (xs.take i) * nval ys) :
    nval P + 1000000000 ^ (i + 0) * (0 + x * nval (ys.drop 0)) = nval (xs.take (i + 1)) * nval ys := by
  have hi : i < xs.length := by
    rcases Nat.lt_or_ge i xs.length with h | h
    · exact h
    · rw [List.getElem?_eq_none h] at hxi; cases hxi
  rw [trim_step hxi, nval_snoc, List.length_take, Nat.min_eq_left (by omega), List.drop_zero, Nat.add_zero, Int.zero_add, hv, Int.add_mul, Int.mul_assoc]
theorem inner_end {P ys : List Int} {i k : Nat} {x c T : Int} (hk : ys.length ≤ k) (hc : c = 0) (hv : nval P + 1000000000 ^ (i + k) * (c + x * nval (ys.drop k)) = T) : nval P = T := by
  rw [drop_ge hk, hc] at hv; simpa using hv

set_option maxHeartbeats 3200000 in
theorem ref_times (xs ys : List Int) (va vb : Value) (w : World) (ha : In w va xs) (hb : In w vb ys) (hx : lok xs = true) (hy : lok ys = true) (hl1 : xs.length ≤ 1000) (hl2 : ys.length ≤ 1000) :
    Calls Try.prog 72 #[va, vb] w (GcdRes w (nval xs * nval ys).toNat) := by
  obtain ⟨A, c, rfl, hc, hm, hA⟩ := ha
  obtain ⟨B, d, rfl, hd, hn, hB⟩ := hb
  have HA := Lib.hid hA
  have HB := Lib.hid hB
  have HX := Lib.hid hx
  have HY := Lib.hid hy
  obtain ⟨i0, hi0, hz0, hz1, hz2⟩ := info_parts info_int
  clear hA hB hm hn hx hy
  go_enter Try.func72, Try.ntmps72
  go_wp2_with (first
    | (at_make; refine wpList_make_full _ rfl _ _ 31 rfl w.heap.size 3 i0 (.int .i64 0) 1 Try.underlying31 hi0 hz0 hz1 .i64 .i64 _ _ (xs.length + ys.length) rfl rfl (by omega) (by omega) (by rw [hz2]; omega) (by unfold maxLen; omega) (Nat.le_refl _) ?_; intro w1 hown hgrow; refine Hid.out ?_)
    | fail)
  refine Lib.hid ?_
  have HR0 := Lib.hid (show Row w1 w.heap.size (List.replicate (xs.length + ys.length) 0) from row_of_heap (heap_of_made hown))
  have HB0 := Lib.hid (show Below w.heap.size w w1 from (Below.refl _ _).grown hgrow (Nat.le_refl _) (fun k hk => by cases hk))
  clear hown hgrow
  go_wp2_with fail
  go_loopw [6] (fun iv wr => ∃ (i : Nat) (P : List Int), i ≤ xs.length ∧ iv = .int .i64 i ∧ P.length = xs.length + ys.length ∧ lok P = true ∧ nval P = nval (xs.take i) * nval ys ∧ Row wr w.heap.size P ∧ Below w.heap.size w wr) (fun iv _ => xs.length - (intOf iv).toNat)
  case atStart => exact ⟨0, _, Nat.zero_le _, rfl, by simp, lok_zeros _, by rw [nval_zeros]; simp [nval], HR0.out, HB0.out⟩
  case round =>
    obtain ⟨i, P, hi, rfl, hP, hPk, hPv, hrow, hbel⟩ := hrel
    have HPK := Lib.hid hPk
    have HPV := Lib.hid hPv
    have HP := Lib.hid hP
    have HR := Lib.hid hrow
    have HBL := Lib.hid hbel
    clear hPk hPv hP hrow hbel
    rcases Nat.lt_or_ge i xs.length with hlt | hge
    · obtain ⟨x, hxi⟩ : ∃ x, xs[i]? = some x := ⟨_, List.getElem?_eq_getElem hlt⟩
      have HXI := Lib.hid hxi
      obtain ⟨x0, x1⟩ := lok_at HX.out hxi
      clear hxi
      go_wp2_with fail
      go_loopw [7, 8] (fun cv kv wr2 => ∃ (k : Nat) (cc : Int) (Q : List Int), k ≤ ys.length + 1 ∧ kv = .int .i64 k ∧ cv = .int .i64 cc ∧ 0 ≤ cc ∧ cc < 1000000000 ∧ Q.length = xs.length + ys.length ∧ lok Q = true ∧
          nval Q + 1000000000 ^ (i + k) * (cc + x * nval (ys.drop k)) = nval (xs.take (i + 1)) * nval ys ∧ Row wr2 w.heap.size Q ∧ Below w.heap.size w wr2) (fun _ kv _ => ys.length + 1 - (intOf kv).toNat)
      case atStart => exact ⟨0, 0, P, by omega, rfl, rfl, by omega, by omega, HP.out, HPK.out, outer_next HXI.out HPV.out, HR.out, HBL.out⟩
      case round =>
        obtain ⟨k, cc, Q, hk, rfl, rfl, c0, c1, hQ, hQk, hQv, hrow, hbel⟩ := hrel
        have HQ := Lib.hid hQ
        have HQK := Lib.hid hQk
        have HQV := Lib.hid hQv
        have HR2 := Lib.hid hrow
        have HB2 := Lib.hid hbel
        clear hQ hQk hQv hrow hbel
        have go : (k < ys.length ∨ (ys.length ≤ k ∧ 0 < cc ∧ k = ys.length)) ∨ (ys.length ≤ k ∧ decide (0 < cc) = false ∧ cc = 0) := by
          rcases Nat.lt_or_ge k ys.length with h1 | h1
          · left; left; exact h1
          · rcases Int.lt_or_le 0 cc with h3 | h3
            · left; right; exact ⟨h1, h3, inner_top HQK.out HX.out HY.out HXI.out c0 h1 HQV.out h3⟩
            · right; exact ⟨h1, decide_eq_false (by omega), by omega⟩
        rcases go with go | ⟨g1, g2, g3⟩
        · have hkl : k ≤ ys.length := by rcases go with h | ⟨_, _, h⟩ <;> omega
          have hj : i + k < Q.length := by rw [HQ.out]; omega
          obtain ⟨b, off, rfl, _, _, hcell⟩ := (HA.out.below HB2.out (Nat.le_refl _)) i x HXI.out
          obtain ⟨p, hp⟩ : ∃ p, Q.getD (i + k) 0 = p := ⟨_, rfl⟩
          obtain ⟨y, hy⟩ : ∃ y, ys.getD k 0 = y := ⟨_, rfl⟩
          have hcellp := HR2.out.cell (i := i + k) (z := p) (by rw [← hp, List.getD_eq_getElem?_getD, List.getElem?_eq_getElem hj]; rfl)
          have hfr := HR2.out.frozen (i + k)
          have pb := lok_getD HQK.out (i + k)
          have yb := lok_getD HY.out k
          rw [hp] at pb
          rw [hy] at yb
          have xy := mul_bd2 x0 x1 yb.1 yb.2
          have HST := Lib.hid (inner_step hj hp hy HQV.out)
          have hay : ∀ n, Calls Try.prog 84 #[.slice B ys.length d, .int .i64 (k : Int)] (wr.drewN n) fun e w' => e = .returned (.int .i64 y) ∧ w' = wr.drewN n := by
            intro n
            rw [← hy]
            exact (ref_at ys B d k _ _ (wr.drewN n) ((HB.out.below HB2.out (Nat.le_refl _)).keep fun _ _ _ => rfl) (by omega)).mono fun _ _ h => ⟨h.1, h.2.symm⟩
          have HAY := Lib.hid hay
          have HJ := Lib.hid hj
          have hj1 : (i : Int) + (k : Int) < (xs.length : Int) + (ys.length : Int) := by have := HQ.out; omega
          have hj2 : i + k < xs.length + ys.length := by omega
          obtain ⟨p0, p1⟩ := pb
          obtain ⟨xy0, xy1⟩ := xy
          have hq := tdiv_nonneg' (n := p + x * y + cc) (by omega)
          have hr := tmod_nonneg' (n := p + x * y + cc) (by omega)
          have q0 : 0 ≤ (p + x * y + cc) / 1000000000 := by omega
          have q1 : (p + x * y + cc) / 1000000000 < 1000000000 := by omega
          clear hp hy hay yb hj
          rcases go with go | ⟨go, go', -⟩
          all_goals
            go_wp2_with fail
            go_quiet ((go_at_call 84; exact Calls.quiet_of_same (HAY.out _)))
            have hcp2 : (wr.drewN nq).cell? ⟨w.heap.size, i + k, none⟩ = some (.int .i64 p) := hcellp
            have hfr2 : (wr.drewN nq).frozen? ⟨w.heap.size, i + k, none⟩ = false := hfr
            have HR3 := Lib.hid (Row.store (w := wr.drewN nq) (HR2.out.keep rfl) (i + k) ((p + x * y + cc) % 1000000000))
            have HB3 := Lib.hid ((below_drewN HB2.out nq).setCell (p := ⟨w.heap.size, i + k, none⟩) (Nat.le_refl _) (.int .i64 ((p + x * y + cc) % 1000000000)))
            go_wp2_with fail
            go_roundw
            case rel => exact ⟨k + 1, _, _, by omega, by go_num, rfl, q0, q1, by rw [List.length_set]; exact HQ.out, lok_set HQK.out _ (by omega) (by omega), HST.out, HR3.out, HB3.out⟩
            case measure => simp [intOf]; omega
        · have hv := inner_end g1 g3 HQV.out
          have HV := Lib.hid hv
          clear hv g3
          go_wp2_with fail
          go_roundw
          case rel => exact ⟨i + 1, Q, by omega, by go_num, HQ.out, HQK.out, HV.out, HR2.out, HB2.out⟩
          case measure => simp [intOf]; omega
    · obtain rfl : i = xs.length := by omega
      have hv := HPV.out
      rw [List.take_length] at hv
      have HV := Lib.hid hv
      clear hv
      have HPL := Lib.hid HP.out
      go_wp2_with fail
      go_loop [10] (fun v => ∃ k : Nat, k ≤ P.length ∧ v = .int .i64 k ∧ trimL (P.take k) = trimL P) (fun v => (intOf v).toNat)
      case atStart => exact ⟨P.length, Nat.le_refl _, by rw [HP.out]; go_num, by rw [List.take_length]⟩
      case round =>
        obtain ⟨k, hk, rfl, ht⟩ := hrel
        have HT := Lib.hid ht
        have hk' : k ≤ xs.length + ys.length := by have := HP.out; omega
        have hk2 : (k : Int) ≤ (xs.length : Int) + (ys.length : Int) := by omega
        clear ht hk
        have fin : trimL P = P.take k → Sl wr w.heap.size wr.heap.size (.slice (some ⟨w.heap.size, 0, none⟩) k (xs.length + ys.length)) (limbs (nval xs * nval ys).toNat) := by
          intro he
          have e : limbs (nval xs * nval ys).toNat = P.take k := by rw [← HV.out, ← trimL_limbs HPK.out, he]
          have hl : (P.take k).length = k := by rw [List.length_take]; have := HP.out; omega
          rw [e]
          have := hl
          refine ⟨some ⟨w.heap.size, 0, none⟩, xs.length + ys.length, by rw [hl], by rw [hl]; exact hk', by unfold maxLen; omega, ?_⟩
          exact (HR.out.take k).holds (fun j z hz => by rw [Nat.zero_add]; exact hz) (Nat.le_refl _) HR.out.lt
        have FIN := Lib.hid fin
        clear fin
        rcases Nat.eq_zero_or_pos k with rfl | hp
        · have he : trimL P = P.take 0 := by rw [← HT.out, List.take_zero]; rfl
          have HE := Lib.hid he
          clear he
          go_wp2_with fail
          go_ret
          exact ⟨_, rfl, FIN.out HE.out, HBL.out⟩
        · obtain ⟨k, rfl⟩ : ∃ j, k = j + 1 := ⟨k - 1, by omega⟩
          obtain ⟨z, hz⟩ : ∃ z, P[k]? = some z := ⟨_, List.getElem?_eq_getElem (by have := HP.out; omega)⟩
          have hcell := HR.out.cell hz
          have HZ := Lib.hid hz
          have e2 : ((k + 1 : Nat) : Int) - 1 = k := by omega
          have hkl : (k : Int) < (xs.length : Int) + (ys.length : Int) := by omega
          have hkl2 : k < xs.length + ys.length := by omega
          clear hz
          by_cases h0 : z = 0
          · subst h0
            go_wp2_with fail
            go_round
            case rel =>
              refine ⟨k, by have := HP.out; omega, by go_num, ?_⟩
              rw [← HT.out, trim_step HZ.out, trimL_snoc_zero]
            case measure => simp [intOf] <;> omega
          · have H0 := Lib.hid h0
            have he : trimL P = P.take (k + 1) := by rw [← HT.out, trim_step HZ.out, trimL_snoc H0.out]
            have HE := Lib.hid he
            clear he
            go_wp2_with fail
            go_ret
            exact ⟨_, rfl, FIN.out HE.out, HBL.out⟩

end Go.Proofs.Ytgmlccjjhmhgbaa
/- The contract of nat.takeOff. -/
namespace Go.Proofs.Ytgmlccjjhmhgbaa
open Go.ChangeShapes Go.WideShapes Go.RowKit
set_option linter.unusedVariables false
set_option maxRecDepth 100000

/-- The last two limbs. -/
theorem nval_top {S : List Int} {l : Nat} {a0 a1 : Int} (hl : S.length = l + 2) (h0 : S[l]? = some a0) (h1 : S[l + 1]? = some a1) :
    nval S = nval (S.take l) + 1000000000 ^ l * (a0 + 1000000000 * a1) := by
  have e := nval_append (S.take l) (S.drop l)
  rw [List.take_append_drop, List.length_take, Nat.min_eq_left (by omega)] at e
  rw [e, nval_drop_step h0, nval_drop_step h1, List.drop_eq_nil_of_le (by omega)]
  simp [nval]
theorem nval_top1 {S : List Int} {l : Nat} {a0 : Int} (hl : S.length = l + 1) (h0 : S[l]? = some a0) :
    nval S = nval (S.take l) + 1000000000 ^ l * a0 := by
  have e := nval_append (S.take l) (S.drop l)
  rw [List.take_append_drop, List.length_take, Nat.min_eq_left (by omega)] at e
  rw [e, nval_drop_step h0, List.drop_eq_nil_of_le (by omega)]
  simp [nval]
/-- The guess is not too small. -/
theorem guess_ge {S ys : List Int} {l : Nat} {a0 a1 b1 : Int} (hS : lok S = true) (hy : lok ys = true) (hl : S.length = l + 2) (hly : ys.length = l + 1) (h0 : S[l]? = some a0) (h1 : S[l + 1]? = some a1) (hb : ys[l]? = some b1)
    (hb0 : 0 < b1) (hlt : nval S < 1000000000 * nval ys) :
    nval S / nval ys ≤ min ((a1 * 1000000000 + a0) / b1) 999999999 ∧ 0 ≤ nval S / nval ys ∧ 0 < nval ys := by
  have eS := nval_top hl h0 h1
  have eY := nval_top1 hly hb
  have s0 := nval_nonneg (lok_take hS l)
  have s1 := nval_lt (lok_take hS l)
  have y0 := nval_nonneg (lok_take hy l)
  rw [List.length_take, Nat.min_eq_left (by omega)] at s1
  have p := pow_pos' l
  obtain ⟨P, hP⟩ : ∃ P : Int, P = 1000000000 ^ l := ⟨_, rfl⟩
  rw [← hP] at eS eY s1 p
  have hpb : P * 1 ≤ P * b1 := Int.mul_le_mul_of_nonneg_left (by omega) (Int.le_of_lt p)
  have ypos : 0 < nval ys := by omega
  have snn := nval_nonneg hS
  have q0 : 0 ≤ nval S / nval ys := Int.ediv_nonneg snn (Int.le_of_lt ypos)
  obtain ⟨q, hq⟩ : ∃ q, q = nval S / nval ys := ⟨_, rfl⟩
  have hqS : q * nval ys ≤ nval S := by rw [hq]; exact Int.ediv_mul_le _ (by omega)
  rw [← hq] at q0 ⊢
  refine ⟨?_, q0, ypos⟩
  have h2 : q < 1000000000 := by
    rcases Int.lt_or_le q 1000000000 with h | h
    · exact h
    · have : 1000000000 * nval ys ≤ q * nval ys := Int.mul_le_mul_of_nonneg_right h (Int.le_of_lt ypos)
      omega
  have h3 : q ≤ (a1 * 1000000000 + a0) / b1 := by
    rw [Int.le_ediv_iff_mul_le hb0]
    have m1 : q * (P * b1) ≤ q * nval ys := Int.mul_le_mul_of_nonneg_left (by omega) q0
    have m2 : P * (q * b1) < P * (a1 * 1000000000 + a0 + 1) := by
      have e1 : P * (q * b1) = q * (P * b1) := by rw [Int.mul_left_comm]
      have e2 : P * (a1 * 1000000000 + a0 + 1) = P * (a0 + 1000000000 * a1) + P := by
        have : a1 * 1000000000 + a0 + 1 = (a0 + 1000000000 * a1) + 1 := by omega
        rw [this, Int.mul_add, Int.mul_one]
      omega
    have := Int.lt_of_mul_lt_mul_left m2 (Int.le_of_lt p)
    omega
  omega
/-- The last limb behind a subtraction. -/
theorem last_bd {T : List Int} {l : Nat} {z V : Int} (hd : lok T.dropLast = true) (hl : T.length = l + 1) (hz : T[l]? = some z) (hv : nval T = V) (h1 : -(1000000000 * 1000000000 ^ l) < V) (h2 : V < 1000000000 ^ (l + 1)) :
    -2000000000 < z ∧ z < 2000000000 ∧ (z < 0 ↔ V < 0) := by
  have e := nval_top1 hl hz
  have ht : T.take l = T.dropLast := by rw [List.dropLast_eq_take]; congr 1; omega
  have s0 := nval_nonneg hd
  have s1 := nval_lt hd
  have hdl : T.dropLast.length = l := by rw [List.length_dropLast]; omega
  rw [hdl] at s1
  rw [ht, hv] at e
  have p := pow_pos' l
  rw [Int.pow_succ] at h2
  obtain ⟨P, hP⟩ : ∃ P : Int, P = 1000000000 ^ l := ⟨_, rfl⟩
  rw [← hP] at e s1 p h1 h2
  have a1 : -2000000000 < z := by
    rcases Int.lt_or_le (-2000000000) z with h | h
    · exact h
    · have : P * z ≤ P * (-2000000000) := Int.mul_le_mul_of_nonneg_left h (Int.le_of_lt p)
      omega
  have a2 : z < 2000000000 := by
    rcases Int.lt_or_le z 2000000000 with h | h
    · exact h
    · have : P * 2000000000 ≤ P * z := Int.mul_le_mul_of_nonneg_left h (Int.le_of_lt p)
      omega
  refine ⟨a1, a2, ?_, ?_⟩
  · intro h
    have : P * z ≤ P * (-1) := Int.mul_le_mul_of_nonneg_left (by omega) (Int.le_of_lt p)
    omega
  · intro h
    rcases Int.lt_or_le z 0 with h3 | h3
    · exact h3
    · have := Int.mul_nonneg (Int.le_of_lt p) h3
      omega
theorem quo_of {S Y n : Int} (hy : 0 < Y) (hq : S / Y ≤ n) (hnn : 0 ≤ S - n * Y) : n = S / Y ∧ S - n * Y = S % Y := by
  have h1 : n ≤ S / Y := by rw [Int.le_ediv_iff_mul_le hy]; omega
  have e : n = S / Y := by omega
  refine ⟨e, ?_⟩
  have := Int.emod_add_mul_ediv S Y
  rw [e, Int.mul_comm]; omega
theorem take_state {S ys T : List Int} {l : Nat} {n z : Int} (hS : lok S = true) (hy : lok ys = true) (hl : S.length = l + 2) (hly : ys.length = l + 1) (hlt : nval S < 1000000000 * nval ys) (ypos : 0 < nval ys)
    (hT : T.length = l + 2) (hd : lok T.dropLast = true) (hv : nval T = nval S - n * nval ys) (hz : T[l + 1]? = some z) (n0 : 0 ≤ n) (n1 : n ≤ 999999999) :
    -2000000000 < z ∧ z < 2000000000 ∧ (z < 0 ↔ nval S - n * nval ys < 0) := by
  have y1 := nval_lt hy
  rw [hly] at y1
  have snn := nval_nonneg hS
  have s1 := nval_lt hS
  rw [hl] at s1
  have m : n * nval ys ≤ 999999999 * nval ys := Int.mul_le_mul_of_nonneg_right n1 (Int.le_of_lt ypos)
  have m0 : 0 ≤ n * nval ys := Int.mul_nonneg n0 (Int.le_of_lt ypos)
  have p := pow_pos' (l + 1)
  exact last_bd hd hT hz hv (by omega) (by rw [show l + 1 + 1 = l + 2 from rfl]; omega)
theorem take_last {S ys T : List Int} {l : Nat} (hy : lok ys = true) (hly : ys.length = l + 1) (ypos : 0 < nval ys) (hT : T.length = l + 2) (hd : lok T.dropLast = true) (hv : nval T = nval S % nval ys) : lok T = true := by
  have y1 := nval_lt hy
  rw [hly] at y1
  have h1 := Int.emod_nonneg (nval S) (show nval ys ≠ 0 by omega)
  have h2 := Int.emod_lt_of_pos (nval S) ypos
  refine lok_of_dropLast (by intro h; rw [h] at hT; simp at hT) hd (by omega) ?_
  rw [hT, hv]
  have : (1000000000 : Int) ^ (l + 1) ≤ 1000000000 ^ (l + 2) := pow_le_pow' (by omega)
  omega
end Go.Proofs.Ytgmlccjjhmhgbaa
/- The contract of nat.takeOff: the walk. -/
namespace Go.Proofs.Ytgmlccjjhmhgbaa
open Go.ChangeShapes Go.WideShapes Go.RowKit
set_option linter.unusedVariables false
set_option maxRecDepth 100000

theorem Only.drewN {g : Nat} {a w : World} (h : Only g a w) (n : Nat) : Only g a (w.drewN n) := h.trans ⟨rfl, rfl, rfl, rfl, fun _ _ => rfl⟩

theorem laid_laid {Z D E : List Int} {off : Nat} (h : off + D.length ≤ Z.length) (he : E.length = D.length) : laid (laid Z off D) off E = laid Z off E := by
  have h1 : (laid Z off D).take off = Z.take off := by
    unfold laid; rw [List.take_left' (by rw [List.length_take]; omega)]
  have h2 : (laid Z off D).drop (off + D.length) = Z.drop (off + D.length) := by
    unfold laid
    rw [← List.append_assoc, List.drop_left' (by rw [List.length_append, List.length_take]; omega)]
  unfold laid at h1 h2 ⊢
  rw [he, h1, h2]
theorem add_call (Z T ys : List Int) (l g off c c2 lo hi : Nat) (B : Option Addr) (w : World) (n : Int) (hR : Row w g Z) (hZ : off + (l + 2) ≤ Z.length) (hS : ∀ j, j < l + 2 → Z[off + j]? = T[j]?) (hB : Holds w lo hi B ys) (hg : g < lo ∨ hi ≤ g)
    (hT : T.length = l + 2) (hly : ys.length = l + 1) (hl1 : l ≤ 1000) (hd : lok T.dropLast = true) (hyk : lok ys = true) (hz : ∀ z, T[l + 1]? = some z → -4000000000000000000 < z ∧ z < 4000000000000000000) (n1 : -1000000000 < n) (n2 : n < 1000000000) :
    Calls Try.prog 77 #[.slice (some ⟨g, off, none⟩) (l + 2) c, .slice B (l + 1) c2, .int .i64 n] w
      fun e w' => e = .returned (.tuple #[]) ∧ Row w' g (laid Z off (addT T ys n 0)) ∧ Only g w w' := by
  have h := nat_addTimes Z T ys n g off c c2 lo hi B w hR (by rw [hT]; exact hZ) (fun j hj => hS j (by omega)) hB hg (by omega) (by omega) hd (fun z hz' => hz z (by rw [hT] at hz'; exact hz')) hyk n1 n2
  rw [hT, hly] at h; exact h

set_option maxHeartbeats 3200000 in
theorem nat_takeOff (Z S ys : List Int) (l g off c c2 lo hi : Nat) (B : Option Addr) (w : World) (b1 : Int)
    (hR : Row w g Z) (hZ : off + (l + 2) ≤ Z.length) (hS : ∀ j, j < l + 2 → Z[off + j]? = S[j]?) (hB : Holds w lo hi B ys) (hg : g < lo ∨ hi ≤ g)
    (hl : S.length = l + 2) (hly : ys.length = l + 1) (hl1 : l ≤ 1000) (hSk : lok S = true) (hyk : lok ys = true) (hb : ys[l]? = some b1) (hb0 : 0 < b1) (hlt : nval S < 1000000000 * nval ys) :
    Calls Try.prog 87 #[.slice (some ⟨g, off, none⟩) (l + 2) c, .slice B (l + 1) c2] w
      fun e w' => e = .returned (.int .i64 (nval S / nval ys)) ∧ ∃ T, T.length = l + 2 ∧ lok T = true ∧ nval T = nval S % nval ys ∧ Row w' g (laid Z off T) ∧ Only g w w' := by
  obtain ⟨a0, h0⟩ : ∃ a0, S[l]? = some a0 := ⟨_, List.getElem?_eq_getElem (by omega)⟩
  obtain ⟨a1, h1⟩ : ∃ a1, S[l + 1]? = some a1 := ⟨_, List.getElem?_eq_getElem (by omega)⟩
  have hgs := guess_ge hSk hyk hl hly h0 h1 hb hb0 hlt
  have hc0 := hR.cell (i := off + l) (z := a0) (by rw [hS l (by omega), h0])
  have hc1 := hR.cell (i := off + (l + 1)) (z := a1) (by rw [hS (l + 1) (by omega), h1])
  obtain ⟨b, offb, hBe, _, _, hcb⟩ := hB l b1 hb
  have ab0 := lok_at hSk h0
  have ab1 := lok_at hSk h1
  have bb1 := lok_at hyk hb
  obtain ⟨G, hG⟩ : ∃ G, (a1 * 1000000000 + a0) / b1 = G := ⟨_, rfl⟩
  have hGt : (a1 * 1000000000 + a0).tdiv b1 = G := by rw [Int.tdiv_eq_ediv_of_nonneg (by omega), hG]
  have G0 : 0 ≤ G := by rw [← hG]; exact Int.ediv_nonneg (by omega) (by omega)
  have G1 : G ≤ 999999999999999999 := by
    have h1 : (a1 * 1000000000 + a0) / b1 ≤ a1 * 1000000000 + a0 := Int.ediv_le_self _ (by omega)
    omega
  rw [hG] at hgs
  obtain ⟨N, hN⟩ : ∃ N, min G 999999999 = N := ⟨_, rfl⟩
  rw [hN] at hgs
  have N0 : 0 ≤ N := by omega
  have N1 : N ≤ 999999999 := by omega
  have n0 : ¬ b1 = 0 := by omega
  have n1 : (b1 == 0) = false := beq_false_of_ne n0
  obtain ⟨a00, a01⟩ := ab0
  obtain ⟨a10, a11⟩ := ab1
  obtain ⟨b10, b11⟩ := bb1
  have HR := Lib.hid hR
  have HB := Lib.hid hB
  have HZ := Lib.hid hZ
  have HS := Lib.hid hS
  have HSK := Lib.hid hSk
  have HYK := Lib.hid hyk
  have HL := Lib.hid hl
  have HLY := Lib.hid hly
  have HLT := Lib.hid hlt
  have HGS := Lib.hid hgs
  subst hBe
  clear hR hB hZ hS hSk hyk hl hly hlt hgs h0 h1 hb hG
  go_enter Try.func87, Try.ntmps87
  go_wp2_with fail
  go_quiet (fail)
  go_wp2_with fail
  refine (add_call Z S ys l g off c c2 lo hi _ (w.drewN nq) (-N) (HR.out.keep rfl) HZ.out HS.out (HB.out.keep fun _ _ _ => rfl) hg HL.out HLY.out hl1 (by rw [List.dropLast_eq_take]; exact lok_take HSK.out _) HYK.out (fun z hz => by have := lok_at HSK.out hz; omega) (by omega) (by omega)).mono ?_
  rintro e w1 ⟨rfl, hr1, ho1⟩
  have HR1 := Lib.hid hr1
  have HO1 := Lib.hid (((Only.refl g w).drewN nq).trans ho1)
  have HT1 := Lib.hid (show (addT S ys (-N) 0).length = l + 2 by rw [addT_length, HL.out])
  have HV1 := Lib.hid (show nval (addT S ys (-N) 0) = nval S - N * nval ys by rw [addT_val _ _ _ _ (by rw [HL.out, HLY.out]; omega), Int.neg_mul]; omega)
  clear hr1 ho1 hc0 hc1 hcb
  go_wp2_with fail
  go_loopw [6] (fun nv wr => ∃ (nn : Int) (T : List Int), nv = .int .i64 nn ∧ nval S / nval ys ≤ nn ∧ 0 ≤ nn ∧ nn ≤ 999999999 ∧ T.length = l + 2 ∧ lok T.dropLast = true ∧ nval T = nval S - nn * nval ys ∧ Row wr g (laid Z off T) ∧ Only g w wr) (fun nv _ => (intOf nv).toNat)
  case atStart => exact ⟨N, _, rfl, HGS.out.1, N0, N1, HT1.out, addT_lok _ _ _ _, HV1.out, HR1.out, HO1.out⟩
  case round =>
    obtain ⟨nn, T, rfl, hq, nn0, nn1, hT, hd, hv, hrow, hon⟩ := hrel
    obtain ⟨z, hz⟩ : ∃ z, T[l + 1]? = some z := ⟨_, List.getElem?_eq_getElem (by omega)⟩
    have hcell := hrow.cell (i := off + (l + 1)) (z := z) (by rw [laid_in (by rw [hT]; exact HZ.out) (by omega)]; exact hz)
    have hst := take_state HSK.out HYK.out HL.out HLY.out HLT.out HGS.out.2.2 hT hd hv hz nn0 nn1
    have HQ := Lib.hid hq
    have HT := Lib.hid hT
    have HD := Lib.hid hd
    have HV := Lib.hid hv
    have HRW := Lib.hid hrow
    have HON := Lib.hid hon
    have HZZ := Lib.hid hz
    obtain ⟨z0, z1, z2⟩ := hst
    clear hq hT hd hv hrow hon hz
    rcases Int.lt_or_le z 0 with hneg | hnn
    · have hlt2 := z2.mp hneg
      have hq1 : nval S / nval ys ≤ nn - 1 := by
        rcases Int.lt_or_le (nval S / nval ys) nn with h | h
        · omega
        · exfalso
          have e : nn = nval S / nval ys := by have := HQ.out; omega
          have := Int.ediv_mul_le (nval S) (show nval ys ≠ 0 by have := HGS.out.2.2; omega)
          rw [← e] at this; omega
      have hq0 : 0 ≤ nn - 1 := by have := HGS.out.2.1; omega
      have HQ1 := Lib.hid hq1
      clear hlt2 hq1 z2
      go_wp2_with fail
      refine (add_call (laid Z off T) T ys l g off c c2 lo hi _ _ 1 HRW.out (by rw [laid_length (by rw [HT.out]; exact HZ.out)]; exact HZ.out) (fun j hj => laid_in (by rw [HT.out]; exact HZ.out) (by rw [HT.out]; exact hj)) (HON.out.holds HB.out hg) hg HT.out HLY.out hl1 HD.out HYK.out (fun z' hz' => by rw [HZZ.out] at hz'; cases hz'; omega) (by omega) (by omega)).mono ?_
      rintro e w2 ⟨rfl, hr2, ho2⟩
      have HR2 := Lib.hid (show Row w2 g (laid Z off (addT T ys 1 0)) by rw [← laid_laid (D := T) (by rw [HT.out]; exact HZ.out) (addT_length _ _ _ _)]; exact hr2)
      have HO2 := Lib.hid (HON.out.trans ho2)
      clear hr2 ho2 hcell
      go_wp2_with fail
      go_roundw
      case rel =>
        refine ⟨nn - 1, _, rfl, HQ1.out, hq0, by omega, by rw [addT_length, HT.out], addT_lok _ _ _ _, ?_, HR2.out, HO2.out⟩
        rw [addT_val _ _ _ _ (by rw [HT.out, HLY.out]; omega), HV.out, Int.sub_mul]; omega
      case measure => simp [intOf]; omega
    · have hge : 0 ≤ nval S - nn * nval ys := by
        rcases Int.lt_or_le (nval S - nn * nval ys) 0 with h | h
        · have := z2.mpr h; omega
        · exact h
      have hqq := quo_of HGS.out.2.2 HQ.out hge
      have HQQ := Lib.hid hqq
      have hz' : decide (z < 0) = false := decide_eq_false (by omega)
      clear hge hqq z2
      go_wp2_with fail
      go_ret
      exact ⟨ret_int HQQ.out.1, T, HT.out, take_last (S := S) HYK.out HLY.out HGS.out.2.2 HT.out HD.out (by rw [HV.out, HQQ.out.2]), by rw [HV.out, HQQ.out.2], HRW.out, HON.out⟩
end Go.Proofs.Ytgmlccjjhmhgbaa
