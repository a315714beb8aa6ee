/- Several texts in one: NatX2, NatX3, NatZ1, NatZ2, NatZ3. -/
import Derived.Test.YtgmlccjjhmhgbaaPk6
/- The contract of DivMod of the reference. -/
namespace Go.Proofs.Ytgmlccjjhmhgbaa
open Go.ChangeShapes Go.WideShapes Go.RowKit
set_option linter.unusedVariables false
set_option maxRecDepth 100000

def DmIn (w : World) (xs ys : List Int) (e : Ending) (w' : World) : Prop :=
  ∃ vq vr, e = .returned (.tuple #[vq, vr, .int .i64 (divE xs ys)]) ∧ In w' vq (limbs (quoN xs ys)) ∧ In w' vr (limbs (remN xs ys)) ∧ Below w.heap.size w w'
theorem DmIn.none {w w' : World} {xs ys : List Int} {k : Int} {e : Ending} (hq : divOk xs ys = false) (hk : divE xs ys = k) (h : e = .returned (.tuple #[.slice none 0 0, .slice none 0 0, .int .i64 k])) (hb : Below w.heap.size w w') : DmIn w xs ys e w' := by
  subst hk h
  refine ⟨_, _, rfl, ?_, ?_, hb⟩
  · rw [quoN, hq]; exact (by show In _ _ (limbs 0); rw [limbs_zero]; exact In.nil _)
  · rw [remN, hq]; exact (by show In _ _ (limbs 0); rw [limbs_zero]; exact In.nil _)
theorem append_prep {wr w5 : World} {z : Int} {L : List Int} {v' : Value} (hown : w5.ownsRow wr.heap.size 3 1 v' ([z] ++ L).length (([z] ++ L).map (Value.int .i64))) (hgrow : (wr.alloc (.cells #[.int .i64 z] 3)).grownBy w5 (some wr.heap.size)) :
    ∃ g cap, v' = .slice (some ⟨g, 0, none⟩) (L.length + 1) cap ∧ wr.heap.size ≤ g ∧ Row w5 g (z :: L) ∧ In w5 v' (z :: L) ∧ Below wr.heap.size wr w5 := by
  have hin := (sl_of_owns hown).toIn
  rcases row_of_owns hown with ⟨_, h⟩ | ⟨g, cap, h1, h2, h3, h4, h5⟩
  · simp at h
  · refine ⟨g, cap, ?_, h2, h5, hin, (below_alloc _ _).grown hgrow (by simp) (fun k hk => by simp at hk; omega)⟩
    rw [h1]; simp

theorem In.setCell {w : World} {g off n c : Nat} {zs : List Int} (h : In w (.slice (some ⟨g, off, none⟩) n c) zs) {p : Addr} (hp : p.block ≠ g) (u : Value) : In (w.setCell p u) (.slice (some ⟨g, off, none⟩) n c) zs := by
  obtain ⟨A, c', e, h1, h2, h3⟩ := h
  cases e
  refine ⟨_, _, rfl, h1, h2, fun k z hz => ?_⟩
  obtain ⟨b, off', hA, hlo, hhi, hc⟩ := h3 k z hz
  cases hA
  exact ⟨g, off, rfl, ⟨Nat.zero_le _, Or.inl rfl⟩, by simpa [World.setCell] using hhi, (World.cell?_of_block (w := w) (a := ⟨g, off + k, none⟩) (Below.heap_setCell w p u g (fun e => hp e.symm))).trans hc⟩
theorem minus_in {rs ys : List Int} {q : Int} (v v2 : Value) (w : World) (h1 : In w v rs) (h2 : In w v2 (limbs (nval ys * q).toNat)) (hr : lok rs = true) (hl : rs.length ≤ 1000) (hy : validB ys = true) (ypos : 0 < nval ys) (hq : q = nval rs / nval ys) :
    Calls Try.prog 71 #[v, v2] w fun e w' => ∃ v3, e = .returned v3 ∧ In w' v3 (limbs (nval rs % nval ys).toNat) ∧ Below w.heap.size w w' := by
  have r0 := nval_nonneg hr
  have q0 : 0 ≤ q := by rw [hq]; exact Int.ediv_nonneg r0 (Int.le_of_lt ypos)
  have hnn : 0 ≤ nval ys * q := Int.mul_nonneg (Int.le_of_lt ypos) q0
  have hem := Int.emod_add_mul_ediv (nval rs) (nval ys)
  rw [← hq] at hem
  have m0 : 0 ≤ nval rs % nval ys := Int.emod_nonneg _ (by omega)
  have m1 : nval rs % nval ys < nval ys := Int.emod_lt_of_pos _ ypos
  have hv : nval (limbs (nval ys * q).toNat) = nval ys * q := by rw [nval_limbs, Int.toNat_of_nonneg hnn]
  have e : (nval rs - nval ys * q).toNat = (nval rs % nval ys).toNat := by omega
  have hlt : (nval rs - nval ys * q).toNat < 1000000000 ^ 48 := Nat.lt_of_lt_of_le (by omega) (Nat.le_of_lt (valid_lt hy))
  have h := ref_minus rs (limbs (nval ys * q).toNat) v v2 w h1 h2 hr (lok_limbs _) hl (by rw [hv]; omega) (by rw [hv]; exact hlt)
  rw [hv, e] at h
  refine h.mono ?_
  rintro e w' ⟨v3, rfl, hs, hb⟩
  exact ⟨v3, rfl, hs.toIn, hb⟩

set_option maxHeartbeats 6400000 in
theorem refdm_main (xs ys : List Int) (A B : Option Addr) (c d : Nat) (w : World) (ha : In w (.slice A xs.length c) xs) (hb : In w (.slice B ys.length d) ys) (hx : validB xs = true) (hy : validB ys = true) (hp : 0 < ys.length) :
    Calls Try.prog 51 #[.slice A xs.length c, .slice B ys.length d] w (DmIn w xs ys) := by
  have HIA := Lib.hid ha
  have HIB := Lib.hid hb
  obtain ⟨A', c', e, hc, hm, hA⟩ := ha
  cases e
  obtain ⟨B', d', e, hd, hn, hB⟩ := hb
  cases e
  have HA := Lib.hid hA
  have HB := Lib.hid hB
  have hm1 : xs.length ≤ 9223372036854775807 := Nat.le_trans hc hm
  have hm2 : ys.length ≤ 9223372036854775807 := Nat.le_trans hd hn
  have l1 := valid_len hx
  have l2 := valid_len hy
  have HX := Lib.hid hx
  have HY := Lib.hid hy
  have YP := Lib.hid (nval_pos (valid_nrm hy) hp)
  have hne : ((ys.length : Int) == 0) = false := beq_false_of_ne (by omega)
  have hok : divOk xs ys = true := by
    have he : ys.isEmpty = false := by cases ys with
      | nil => simp at hp
      | cons a l => rfl
    rw [divOk, both, hx, hy, he]; rfl
  have hde : divE xs ys = 0 := by
    have he : ys.isEmpty = false := by cases ys with
      | nil => simp at hp
      | cons a l => rfl
    rw [divE, both, hx, hy, he]; rfl
  have HOK := Lib.hid hok
  have HDE := Lib.hid hde
  obtain ⟨i0, hi0, hz0, hz1, hz2⟩ := info_parts info_int
  clear hA hB hm hn hok hde
  go_enter Try.func51, Try.ntmps51
  go_wp2_with fail
  refine (ref_Valid xs A c _ _ w HA.out hm1).mono ?_
  rintro e w' ⟨rfl, rfl⟩
  rw [HX.out]
  go_wp2_with fail
  refine (ref_Valid ys B d _ _ _ HB.out hm2).mono ?_
  rintro e w' ⟨rfl, rfl⟩
  rw [HY.out]
  clear hx hy
  go_wp2_with (first
    | (at_make; refine wpList_make_full _ rfl _ _ 31 rfl w.heap.size 3 i0 (.int .i64 0) 1 Try.underlying31 hi0 hz0 hz1 .i64 .i64 _ _ xs.length rfl rfl rfl rfl (by rw [hz2]; omega) (by unfold maxLen; omega) (Nat.le_refl _) ?_; intro w1 hown hgrow; refine Hid.out ?_)
    | fail)
  refine Lib.hid ?_
  have HR0 := Lib.hid (show Row w1 w.heap.size (List.replicate xs.length 0) from row_of_heap (heap_of_made hown))
  have HB0 := Lib.hid (show Below w.heap.size w w1 from (Below.refl _ _).grown hgrow (Nat.le_refl _) (fun k hk => by cases hk))
  clear hown hgrow
  go_wp2_with fail
  go_loopw [8, 9] (fun rv iv wr => ∃ (k r : Nat) (Q : List Int), k ≤ xs.length ∧ iv = .int .i64 ((xs.length : Int) - 1 - k) ∧ In wr rv (limbs r) ∧ RInv (nval xs) (nval ys) Q xs.length xs (xs.length - k) r ∧ Row wr w.heap.size Q ∧ Below w.heap.size w wr) (fun _ iv _ => (intOf iv + 1).toNat)
  case atStart => exact ⟨0, 0, _, Nat.zero_le _, by simp, by rw [limbs_zero]; exact In.nil _, ⟨by simp, lok_zeros _, by simp [nval], by simp [nval]⟩, HR0.out, HB0.out⟩
  case round =>
    obtain ⟨k, r, Q, hk, rfl, hin, hinv, hrow, hbel⟩ := hrel
    have HI := Lib.hid hinv
    have HR := Lib.hid hrow
    have HBL := Lib.hid hbel
    have hql := hinv.ql
    rcases Nat.lt_or_ge k xs.length with hlt | hge
    · have HIN := Lib.hid hin
      obtain ⟨Ar, cr, rfl, hcr, hmr, hAr⟩ := hin
      obtain ⟨a, hae⟩ : ∃ a, a = xs.length - 1 - k := ⟨_, rfl⟩
      obtain ⟨z, hz⟩ : ∃ z, xs[a]? = some z := ⟨_, List.getElem?_eq_getElem (by omega)⟩
      obtain ⟨b, off, hA2, _, _, hcell⟩ := (HA.out.below HBL.out (Nat.le_refl _)) a z hz
      have zb := lok_at (valid_lok HX.out) hz
      have ea : xs.length - k = a + 1 := by omega
      rw [ea] at hinv
      have hr1 : (r : Int) < nval ys := by rw [hinv.rem]; exact Int.emod_lt_of_pos _ YP.out
      have hrl : (limbs r).length ≤ 48 := limbs_len_le.mpr (Nat.lt_of_le_of_lt (by omega) (valid_lt HY.out))
      obtain ⟨z0, z1⟩ := zb
      have hnn : 0 ≤ z + 1000000000 * (r : Int) := by omega
      obtain ⟨q, hq⟩ : ∃ q, q = (z + 1000000000 * (r : Int)) / nval ys := ⟨_, rfl⟩
      have hst := rinv_step hinv hz z0 z1 (valid_lok HX.out) (by omega) YP.out hq
      have hnv : nval (z :: limbs r) = z + 1000000000 * (r : Int) := by rw [nval, nval_limbs]
      have hlt2 : z + 1000000000 * (r : Int) < 1000000000 * nval ys := by
        have : 1000000000 * ((r : Int) + 1) ≤ 1000000000 * nval ys := Int.mul_le_mul_of_nonneg_left (by omega) (by omega)
        omega
      have e1 : (xs.length : Int) - 1 - k = (a : Int) := by omega
      have hal : a < xs.length := by omega
      obtain ⟨qv, hqv⟩ : ∃ qv, qv = Q.getD a 0 := ⟨_, rfl⟩
      have HQV := Lib.hid hqv
      have HQL := Lib.hid hql
      have HE := Lib.hid hae
      have HST := Lib.hid hst.1
      have q0 := hst.2.1
      have q1 := hst.2.2
      have HQ := Lib.hid hq
      have HNV := Lib.hid hnv
      have HLT := Lib.hid hlt2
      have HRL := Lib.hid hrl
      have HOL := Lib.hid (own_lit wr z)
      have HAL := Lib.hid (Holds.below hAr (below_alloc wr (.cells #[.int .i64 z] 3)) (Nat.le_refl _))
      have HLEN := Lib.hid (show ([z] : List Int).length + (limbs r).length ≤ 1000000 by simp; omega)
      rw [e1]
      subst hA2
      clear hae hz ea hinv hst hnv hlt2 hAr hrow hbel hql hq hqv hmr e1
      go_wp2_with (first
        | (at_builtin; refine append_holds rfl (.tmp 36) (.tmp 37) rfl wr.heap.size _ [z] rfl HOL.out 0 wr.heap.size Ar cr (limbs r) _ rfl rfl HAL.out HLEN.out (by simp) ?_; intro v' w5 hown hgrow; refine Hid.out ?_)
        | fail)
      refine Lib.hid ?_
      obtain ⟨g5, cap5, rfl, hg5, hrow5, hin5, hb5⟩ := append_prep hown hgrow
      have hR5 := HR.out.below hb5 HR.out.lt
      have HB5 := Lib.hid (bstep HBL.out hb5)
      by_cases hzz : z = 0 ∧ r = 0
      · obtain ⟨rfl, rfl⟩ := hzz
        have hl0 : limbs 0 = [] := limbs_zero
        have hcl := hrow5.cell (i := (limbs 0).length) (z := 0) (by rw [hl0]; rfl)
        have HR5 := Lib.hid hR5
        have hq0 : q = 0 := by rw [HQ.out]; simp
        subst hq0
        have hm0 : ((0 + 1000000000 * ((0 : Nat) : Int)) % nval ys).toNat = 0 := by simp
        have HM0 := Lib.hid hm0
        clear hl0 hown hgrow hrow5 hin5 hb5 hR5 hm0
        go_wp2_with fail
        refine (ref_digit [] ys _ _ w5 (In.nil w5) (HIB.out.on HB5.out) rfl (valid_nrm HY.out) (by simp) (by omega) YP.out (by have := YP.out; simp [nval]; omega)).mono ?_
        rintro e w6 ⟨rfl, hb6⟩
        rw [show nval [] / nval ys = 0 from by simp [nval]]
        have hR6 := HR5.out.below hb6 HR5.out.lt
        have hcq := hR6.cell (i := a) (z := qv) (by rw [HQV.out, List.getD_eq_getElem?_getD, List.getElem?_eq_getElem (by rw [HQL.out]; exact hal)]; rfl)
        have hfr := hR6.frozen a
        have HR7 := Lib.hid (hR6.store a 0)
        have HB7 := Lib.hid ((bstep HB5.out hb6).setCell (p := ⟨w.heap.size, a, none⟩) (Nat.le_refl _) (.int .i64 0))
        clear hR6 hb6 hcl
        go_wp2_with fail
        go_roundw
        case rel =>
          have e2 : xs.length - (k + 1) = a := by have := HE.out; omega
          have h := HST.out
          rw [HM0.out] at h
          refine ⟨k + 1, 0, _, by omega, ?_, by rw [limbs_zero]; exact In.nil _, by rw [e2]; exact h, HR7.out, HB7.out⟩
          have := HE.out; go_num
        case measure => simp [intOf] <;> omega
      · obtain ⟨y, hy1, hy0⟩ := last_ne z0 z1 hzz
        have hcl := hrow5.cell hy1
        have hy2 : (y == 0) = false := by simpa using hy0
        have hlc := limbs_cons z0 z1 hzz
        have hnr : nrm (z :: limbs r) = true := by rw [← hlc]; exact nrm_of_limbs _
        have hdg := ref_digit (z :: limbs r) ys _ _ w5 hin5 (HIB.out.on HB5.out) hnr (valid_nrm HY.out) (by simp; omega) (by omega) YP.out (by rw [HNV.out]; exact HLT.out)
        rw [HNV.out, ← HQ.out] at hdg
        have HDG := Lib.hid hdg
        have HR5 := Lib.hid hR5
        have HIN5 := Lib.hid hin5
        have HLC := Lib.hid hlc
        clear hown hgrow hrow5 hin5 hb5 hR5 hy1 hy0 hzz hlc hnr hdg
        go_wp2_with fail
        refine HDG.out.mono ?_
        rintro e w6 ⟨rfl, hb6⟩
        have hR6 := HR5.out.below hb6 HR5.out.lt
        have hin6 := HIN5.out.on hb6
        have hcq := hR6.cell (i := a) (z := qv) (by rw [HQV.out, List.getD_eq_getElem?_getD, List.getElem?_eq_getElem (by rw [HQL.out]; exact hal)]; rfl)
        have hfr := hR6.frozen a
        have HR7 := Lib.hid (hR6.store a q)
        have hb67 : Below w6.heap.size w6 w6 := Below.refl _ _
        have HB7 := Lib.hid ((bstep HB5.out hb6).setCell (p := ⟨w.heap.size, a, none⟩) (Nat.le_refl _) (.int .i64 q))
        have hne5 : g5 ≠ w.heap.size := by have := HR.out.lt; omega
        have HIN7 := Lib.hid (hin6.setCell (p := ⟨w.heap.size, a, none⟩) (by show w.heap.size ≠ g5; omega) (.int .i64 q))
        have e2 : xs.length - (k + 1) = a := by have := HE.out; omega
        have E2 := Lib.hid e2
        have hse : (w6.setCell ⟨w.heap.size, a, none⟩ (.int .i64 q)).heap.size = w6.heap.size := by simp [World.setCell]
        have hto := times_one ys q (.slice B ys.length d) _ (HIB.out.on HB7.out) (valid_lok HY.out) (by omega) q0 q1
        rw [hse] at hto
        have HTO := Lib.hid hto
        have HSE := Lib.hid hse
        clear hR6 hb6 hin6 hcl hb67 hne5 e2 hse hto
        by_cases hqp : 0 < q
        · go_wp2_with fail
          refine HTO.out.mono ?_
          rintro e w8 ⟨v8, rfl, hi8, hb8⟩
          have hb8' : Below (w6.setCell ⟨w.heap.size, a, none⟩ (.int .i64 q)).heap.size (w6.setCell ⟨w.heap.size, a, none⟩ (.int .i64 q)) w8 := by rw [HSE.out]; exact hb8
          have HI8 := Lib.hid hi8
          have HB8 := Lib.hid (bstep HB7.out hb8')
          have HIN8 := Lib.hid (HIN7.out.on hb8')
          have HR8 := Lib.hid (HR7.out.below hb8' HR7.out.lt)
          clear hi8 hb8 hb8'
          go_wp2_with fail
          refine (minus_in _ _ w8 HIN8.out HI8.out (nrm_lok (by rw [← HLC.out]; exact nrm_of_limbs _)) (by simp; omega) HY.out YP.out (by rw [HNV.out]; exact HQ.out)).mono ?_
          rintro e w9 ⟨v9, rfl, hi9, hb9⟩
          rw [HNV.out] at hi9
          have HI9 := Lib.hid hi9
          have HB9 := Lib.hid (bstep HB8.out hb9)
          have HR9 := Lib.hid (HR8.out.below hb9 HR8.out.lt)
          clear hi9 hb9
          go_wp2_with fail
          go_roundw
          case rel =>
            refine ⟨k + 1, _, _, by omega, ?_, HI9.out, by rw [E2.out]; exact HST.out, HR9.out, HB9.out⟩
            have := HE.out; go_num
          case measure => simp [intOf] <;> omega
        · have hq0 : q = 0 := by omega
          have hqn : decide (0 < q) = false := decide_eq_false hqp
          have hmod : (z + 1000000000 * (r : Int)) % nval ys = z + 1000000000 * (r : Int) := by
            have hem := Int.emod_add_mul_ediv (z + 1000000000 * (r : Int)) (nval ys)
            rw [← HQ.out, hq0] at hem
            omega
          have HMOD := Lib.hid hmod
          clear hq0 hqp hmod
          go_wp2_with fail
          go_roundw
          case rel =>
            refine ⟨k + 1, ((z + 1000000000 * (r : Int)) % nval ys).toNat, _, by omega, ?_, by rw [HMOD.out, HLC.out]; exact HIN7.out, by rw [E2.out]; exact HST.out, HR7.out, HB7.out⟩
            have := HE.out; go_num
          case measure => simp [intOf] <;> omega
    · obtain rfl : k = xs.length := by omega
      rw [Nat.sub_self] at hinv
      have hv := hinv.quo
      have hrm := hinv.rem
      have hqk := hinv.qk
      rw [List.drop_zero, List.drop_zero] at hv
      rw [List.drop_zero] at hrm
      have x0 := nval_nonneg (valid_lok HX.out)
      have y0 := YP.out
      have ex : nval xs = ((nval xs).toNat : Int) := by omega
      have ey : nval ys = ((nval ys).toNat : Int) := by omega
      have eq : (nval Q).toNat = quoN xs ys := by
        rw [hv, quoN, HOK.out, if_pos rfl]
        conv => lhs; rw [ex, ey]
        exact Int.toNat_natCast _
      have er : r = remN xs ys := by
        rw [remN, HOK.out, if_pos rfl]
        rw [ex, ey] at hrm
        exact Int.ofNat.inj hrm
      have hfit : quoN xs ys < 1000000000 ^ 48 := by
        rw [quoN, HOK.out, if_pos rfl]
        exact Nat.lt_of_le_of_lt (Nat.div_le_self _ _) (valid_lt HX.out)
      have hqin : In wr (.slice (some ⟨w.heap.size, 0, none⟩) xs.length xs.length) Q := by
        refine ⟨_, _, by rw [hql], by omega, by unfold maxLen; omega, hrow.holds (fun k z hz => by rw [Nat.zero_add]; exact hz) (Nat.zero_le _) hrow.lt⟩
      have hft := ref_fit Q _ wr hqin hqk (by omega)
      rw [eq, (fit_ok hfit).1, (fit_ok hfit).2] at hft
      have HFT := Lib.hid hft
      rw [er] at hin
      have HIN := Lib.hid hin
      have e0 : (xs.length : Int) - 1 - xs.length = -1 := by omega
      rw [e0]
      clear hinv hv hrm hqk x0 y0 ex ey eq er hfit hqin hft hin hrow hbel hql e0
      go_wp2_with fail
      refine HFT.out.mono ?_
      rintro e w8 hr8
      obtain ⟨v8, rfl, hi8, hb8⟩ := res_open hr8
      have HI8 := Lib.hid hi8
      have HIN8 := Lib.hid (HIN.out.on hb8)
      have HB8 := Lib.hid (bstep HBL.out hb8)
      clear hr8 hi8 hb8
      go_wp2_with fail
      go_ret3
      exact ⟨_, _, by rw [HDE.out]; rfl, HI8.out, HIN8.out, HB8.out⟩
end Go.Proofs.Ytgmlccjjhmhgbaa
/- The contract of DivMod of the reference, for every input; the walk of NatQuotients. -/
namespace Go.Proofs.Ytgmlccjjhmhgbaa
open Go.ChangeShapes Go.WideShapes Go.RowKit
set_option linter.unusedVariables false
set_option maxRecDepth 100000

set_option maxHeartbeats 1600000 in
theorem ref_DivMod (xs ys : List Int) (va vb : Value) (w : World) (ha : In w va xs) (hb : In w vb ys) :
    Calls Try.prog 51 #[va, vb] w (DmIn w xs ys) := by
  obtain ⟨A, c, rfl, hc, hm, hA⟩ := ha
  obtain ⟨B, d, rfl, hd, hn, hB⟩ := hb
  have HIA := Lib.hid (show In w (.slice A xs.length c) xs from ⟨A, c, rfl, hc, hm, hA⟩)
  have HIB := Lib.hid (show In w (.slice B ys.length d) ys from ⟨B, d, rfl, hd, hn, hB⟩)
  have HA := Lib.hid hA
  have HB := Lib.hid hB
  have hm1 : xs.length ≤ 9223372036854775807 := Nat.le_trans hc hm
  have hm2 : ys.length ≤ 9223372036854775807 := Nat.le_trans hd hn
  clear hA hB hm hn
  rcases both_cases xs ys with ⟨hx, hbo⟩ | ⟨hx, hy, hbo⟩ | ⟨hx, hy, hbo⟩
  · have HBO := Lib.hid hbo
    clear hbo
    go_enter Try.func51, Try.ntmps51
    go_wp2_with fail
    refine (ref_Valid xs A c _ _ w HA.out hm1).mono ?_
    rintro e w' ⟨rfl, rfl⟩
    go_wp2_with fail
    go_ret3
    exact DmIn.none (by rw [divOk, HBO.out]; rfl) (by rw [divE, HBO.out]; rfl) rfl (Below.refl _ _)
  · have HBO := Lib.hid hbo
    clear hbo
    go_enter Try.func51, Try.ntmps51
    go_wp2_with fail
    refine (ref_Valid xs A c _ _ w HA.out hm1).mono ?_
    rintro e w' ⟨rfl, rfl⟩
    go_wp2_with fail
    refine (ref_Valid ys B d _ _ _ HB.out hm2).mono ?_
    rintro e w' ⟨rfl, rfl⟩
    go_wp2_with fail
    go_ret3
    exact DmIn.none (by rw [divOk, HBO.out]; rfl) (by rw [divE, HBO.out]; rfl) rfl (Below.refl _ _)
  · rcases Nat.eq_zero_or_pos ys.length with h0 | hp
    · have HBO := Lib.hid hbo
      have hn : ys = [] := List.eq_nil_of_length_eq_zero h0
      subst hn
      clear hbo
      go_enter Try.func51, Try.ntmps51
      go_wp2_with fail
      refine (ref_Valid xs A c _ _ w HA.out hm1).mono ?_
      rintro e w' ⟨rfl, rfl⟩
      go_wp2_with fail
      refine (ref_Valid [] B d _ _ _ HB.out hm2).mono ?_
      rintro e w' ⟨rfl, rfl⟩
      go_wp2_with fail
      go_ret3
      exact DmIn.none (by rw [divOk, HBO.out]; rfl) (by rw [divE, HBO.out]; rfl) rfl (Below.refl _ _)
    · exact refdm_main xs ys A B c d w HIA.out HIB.out hx hy hp

end Go.Proofs.Ytgmlccjjhmhgbaa
/- Lehmer's steps: the arithmetic. No walk. -/
namespace Go.Proofs.Ytgmlccjjhmhgbaa
open Go.ChangeShapes Go.WideShapes Go.RowKit
set_option linter.unusedVariables false
set_option maxRecDepth 100000

/-- The steps of Euclid's algorithm that two leading limbs foresee: (a, b; c, d) from (X, Y); u, v: what the leading limbs have become. -/
structure LInv (u0 v0 X Y : Int) (a b c d u v : Int) : Prop where
  eu : u = a * u0 + b * v0
  ev : v = c * u0 + d * v0
  sg : (a * d - b * c = 1 ∧ 0 ≤ a ∧ b ≤ 0 ∧ c ≤ 0 ∧ 0 ≤ d) ∨ (a * d - b * c = -1 ∧ a ≤ 0 ∧ 0 ≤ b ∧ 0 ≤ c ∧ d ≤ 0)
  bd : -1000000000 < a ∧ a < 1000000000 ∧ -1000000000 < b ∧ b < 1000000000 ∧ -1000000000 < c ∧ c < 1000000000 ∧ -1000000000 < d ∧ d < 1000000000
  nn : 0 ≤ u ∧ 0 ≤ v
  gc : Int.gcd (a * X + b * Y) (c * X + d * Y) = Int.gcd X Y
  st : (a = 1 ∧ b = 0 ∧ c = 0 ∧ d = 1) ∨ (1000000000 ≤ u ∧ v < u ∧ 0 ≤ c * X + d * Y ∧ c * X + d * Y < a * X + b * Y ∧ a * X + b * Y ≤ Y)
theorem linv_start {u0 v0 X Y : Int} (hu : 0 ≤ u0) (hv : 0 ≤ v0) : LInv u0 v0 X Y 1 0 0 1 u0 v0 :=
  ⟨by omega, by omega, Or.inl ⟨by omega, by omega, by omega, by omega, by omega⟩, by omega, ⟨hu, hv⟩, by simp, Or.inl ⟨rfl, rfl, rfl, rfl⟩⟩
theorem quo_le {x y m m' : Int} (hx : 0 ≤ x) (hxy : x ≤ y) (hm : 0 < m') (hmm : m' ≤ m) : x / m ≤ y / m' := by
  rw [Int.le_ediv_iff_mul_le hm]
  have h1 : x / m * m ≤ x := Int.ediv_mul_le _ (by omega)
  have h0 : 0 ≤ x / m := Int.ediv_nonneg hx (by omega)
  have h2 : x / m * m' ≤ x / m * m := Int.mul_le_mul_of_nonneg_left hmm h0
  omega
/-- The test: then it is the quotient of u and v. -/
theorem linv_quo {u0 v0 X Y a b c d u v q : Int} (h : LInv u0 v0 X Y a b c d u v) (hv : 1000000000 ≤ v) (h1 : q = (u + a) / (v + c)) (h2 : q = (u + b) / (v + d)) : q = u / v ∧ 0 ≤ q := by
  have bd := h.bd
  have nn := h.nn
  have hub : 0 ≤ u + b ∧ 0 ≤ u + a := by
    rcases h.st with ⟨rfl, rfl, rfl, rfl⟩ | st
    · omega
    · omega
  rcases h.sg with sg | sg
  · have e1 : (u + b) / (v + d) ≤ u / v := quo_le hub.1 (by omega) (by omega) (by omega)
    have e2 : u / v ≤ (u + a) / (v + c) := quo_le nn.1 (by omega) (by omega) (by omega)
    have e3 : 0 ≤ u / v := Int.ediv_nonneg nn.1 nn.2
    omega
  · have e1 : (u + a) / (v + c) ≤ u / v := quo_le hub.2 (by omega) (by omega) (by omega)
    have e2 : u / v ≤ (u + b) / (v + d) := quo_le nn.1 (by omega) (by omega) (by omega)
    have e3 : 0 ≤ u / v := Int.ediv_nonneg nn.1 nn.2
    omega
theorem le_mul {a x K : Int} (ha : 0 ≤ a) (hx : x ≤ K) : a * x ≤ a * K := Int.mul_le_mul_of_nonneg_left hx ha
theorem le_mul_neg {a x K : Int} (ha : a ≤ 0) (hx : x ≤ K) : a * K ≤ a * x := by
  have := Int.mul_le_mul_of_nonneg_left hx (show 0 ≤ -a by omega)
  rw [Int.neg_mul, Int.neg_mul] at this; omega
theorem nn_mul_neg {a x : Int} (ha : a ≤ 0) (hx : 0 ≤ x) : a * x ≤ 0 := by
  have := Int.mul_nonneg (show 0 ≤ -a by omega) hx
  rw [Int.neg_mul] at this; omega
/-- What q * Y' <= X' < (q + 1) * Y' is shown from. -/
theorem true_quo {K L1 M1 L2 M2 Xc Yc q : Int} (hK : 0 < K) (q0 : 0 ≤ q) (hX1 : K * L1 ≤ Xc) (hX2 : Xc ≤ K * M1) (hY1 : K * L2 ≤ Yc) (hY2 : Yc ≤ K * M2) (hq1 : q * M2 ≤ L1) (hq2 : M1 < (q + 1) * L2) :
    0 ≤ Xc - q * Yc ∧ Xc - q * Yc < Yc := by
  have a1 : q * Yc ≤ q * (K * M2) := Int.mul_le_mul_of_nonneg_left hY2 q0
  have a2 : K * (q * M2) ≤ K * L1 := Int.mul_le_mul_of_nonneg_left hq1 (Int.le_of_lt hK)
  have e1 : q * (K * M2) = K * (q * M2) := by rw [Int.mul_left_comm]
  have b1 : (q + 1) * (K * L2) ≤ (q + 1) * Yc := Int.mul_le_mul_of_nonneg_left hY1 (by omega)
  have b2 : K * M1 < K * ((q + 1) * L2) := Int.mul_lt_mul_of_pos_left hq2 hK
  have e2 : (q + 1) * (K * L2) = K * ((q + 1) * L2) := by rw [Int.mul_left_comm]
  have e3 : (q + 1) * Yc = q * Yc + Yc := by rw [Int.add_mul, Int.one_mul]
  omega
theorem lt_succ_mul {x m q : Int} (hm : 0 < m) (h : q = x / m) : x < (q + 1) * m := by
  have h1 := Int.emod_add_mul_ediv x m
  have h2 := Int.emod_lt_of_pos x hm
  rw [← h] at h1
  rw [Int.add_mul, Int.one_mul, Int.mul_comm q m]; omega
theorem mul_le_of_quo {x m q : Int} (hm : 0 < m) (h : q = x / m) : q * m ≤ x := by rw [h]; exact Int.ediv_mul_le _ (by omega)
theorem linv_step {u0 v0 X Y x0 y0 K a b c d u v q : Int} (h : LInv u0 v0 X Y a b c d u v) (hv : 1000000000 ≤ v) (h1 : q = (u + a) / (v + c)) (h2 : q = (u + b) / (v + d))
    (hX : X = K * u0 + x0) (hY : Y = K * v0 + y0) (hK : 0 < K) (x00 : 0 ≤ x0) (x01 : x0 ≤ K) (y00 : 0 ≤ y0) (y01 : y0 ≤ K) (hu0 : u0 < 1000000000000000000) (hv0 : v0 < 1000000000000000000) :
    LInv u0 v0 X Y c d (a - q * c) (b - q * d) v (u - q * v) := by
  obtain ⟨hq, q0⟩ := linv_quo h hv h1 h2
  have bd := h.bd
  have nn := h.nn
  have vp : 0 < v := by omega
  have hlo := mul_le_of_quo vp hq
  have hhi := lt_succ_mul vp hq
  rw [Int.add_mul, Int.one_mul] at hhi
  have eXc : a * X + b * Y = K * u + (a * x0 + b * y0) := by rw [hX, hY, h.eu]; grind
  have eYc : c * X + d * Y = K * v + (c * x0 + d * y0) := by rw [hX, hY, h.ev]; grind
  have eN : (a - q * c) * X + (b - q * d) * Y = (a * X + b * Y) - q * (c * X + d * Y) := by grind
  have htrue : 0 ≤ (a * X + b * Y) - q * (c * X + d * Y) ∧ (a * X + b * Y) - q * (c * X + d * Y) < c * X + d * Y := by
    rcases h.sg with ⟨_, s1, s2, s3, s4⟩ | ⟨_, s1, s2, s3, s4⟩
    · refine true_quo (K := K) (L1 := u + b) (M1 := u + a) (L2 := v + c) (M2 := v + d) hK q0 ?_ ?_ ?_ ?_ (mul_le_of_quo (by omega) h2) (lt_succ_mul (by omega) h1)
      · rw [eXc, Int.mul_add, Int.mul_comm K b]
        have := Int.mul_nonneg s1 x00
        have := le_mul_neg s2 y01
        omega
      · rw [eXc, Int.mul_add, Int.mul_comm K a]
        have := le_mul s1 x01
        have := nn_mul_neg s2 y00
        omega
      · rw [eYc, Int.mul_add, Int.mul_comm K c]
        have := le_mul_neg s3 x01
        have := Int.mul_nonneg s4 y00
        omega
      · rw [eYc, Int.mul_add, Int.mul_comm K d]
        have := nn_mul_neg s3 x00
        have := le_mul s4 y01
        omega
    · refine true_quo (K := K) (L1 := u + a) (M1 := u + b) (L2 := v + d) (M2 := v + c) hK q0 ?_ ?_ ?_ ?_ (mul_le_of_quo (by omega) h1) (lt_succ_mul (by omega) h2)
      · rw [eXc, Int.mul_add, Int.mul_comm K a]
        have := le_mul_neg s1 x01
        have := Int.mul_nonneg s2 y00
        omega
      · rw [eXc, Int.mul_add, Int.mul_comm K b]
        have := nn_mul_neg s1 x00
        have := le_mul s2 y01
        omega
      · rw [eYc, Int.mul_add, Int.mul_comm K d]
        have := Int.mul_nonneg s3 x00
        have := le_mul_neg s4 y01
        omega
      · rw [eYc, Int.mul_add, Int.mul_comm K c]
        have := le_mul s3 x01
        have := nn_mul_neg s4 y00
        omega
  have hYle : c * X + d * Y ≤ Y := by
    rcases h.st with ⟨rfl, rfl, rfl, rfl⟩ | st
    · omega
    · omega
  have eu' : v = c * u0 + d * v0 := h.ev
  have ev' : u - q * v = (a - q * c) * u0 + (b - q * d) * v0 := by
    have := h.eu
    rw [this, eu']; grind
  -- the new factors are less than Limb
  have e3 : (b - q * d) * v - d * (u - q * v) = b * v - d * u := by grind
  have e4 : c * (u - q * v) - (a - q * c) * v = c * u - a * v := by grind
  have f1 : d * u - b * v = (a * d - b * c) * u0 := by rw [h.eu, h.ev]; grind
  have f2 : a * v - c * u = (a * d - b * c) * v0 := by rw [h.eu, h.ev]; grind
  have w0 : 0 ≤ u - q * v := by omega
  have w1 : u - q * v < v := by omega
  obtain ⟨C, hC⟩ : ∃ C, C = a - q * c := ⟨_, rfl⟩
  obtain ⟨D, hD⟩ : ∃ D, D = b - q * d := ⟨_, rfl⟩
  obtain ⟨V, hV⟩ : ∃ V, V = u - q * v := ⟨_, rfl⟩
  rw [← hC] at e4 eN ev'
  rw [← hD] at e3 eN ev'
  rw [← hV] at e3 e4 ev' w0 w1
  rw [← hC, ← hD, ← hV]
  have sgn : (c * D - d * C = 1 ∧ 0 ≤ c ∧ d ≤ 0 ∧ C ≤ 0 ∧ 0 ≤ D) ∨ (c * D - d * C = -1 ∧ c ≤ 0 ∧ 0 ≤ d ∧ 0 ≤ C ∧ D ≤ 0) := by
    have ed : c * D - d * C = -(a * d - b * c) := by rw [hC, hD]; grind
    rcases h.sg with ⟨s0, s1, s2, s3, s4⟩ | ⟨s0, s1, s2, s3, s4⟩
    · right
      have m1 := nn_mul_neg s3 q0
      have m2 := Int.mul_nonneg s4 q0
      refine ⟨by rw [ed, s0], s3, s4, ?_, ?_⟩
      · rw [hC, Int.mul_comm q c]; omega
      · rw [hD, Int.mul_comm q d]; omega
    · left
      have m1 := Int.mul_nonneg s3 q0
      have m2 := nn_mul_neg s4 q0
      refine ⟨by rw [ed, s0]; rfl, s3, s4, ?_, ?_⟩
      · rw [hC, Int.mul_comm q c]; omega
      · rw [hD, Int.mul_comm q d]; omega
  have bdn : -1000000000 < C ∧ C < 1000000000 ∧ -1000000000 < D ∧ D < 1000000000 := by
    have big : ∀ t : Int, 1000000000 ≤ t → 1000000000 * v ≤ t * v := fun t ht => Int.mul_le_mul_of_nonneg_right ht (by omega)
    rcases sgn with ⟨s0, s1, s2, s3, s4⟩ | ⟨s0, s1, s2, s3, s4⟩
    · -- pattern 1: D * v - d * V = u0, c * V - C * v = v0
      have k0 : a * d - b * c = -1 := by
        have : c * D - d * C = -(a * d - b * c) := by rw [hC, hD]; grind
        omega
      rw [k0] at f1 f2
      have m1 := nn_mul_neg s2 w0
      have m2 := Int.mul_nonneg s1 w0
      have hD2 : D < 1000000000 := by
        rcases Int.lt_or_le D 1000000000 with h | h
        · exact h
        · have := big D h; omega
      have hC2 : -1000000000 < C := by
        rcases Int.lt_or_le (-1000000000) C with h | h
        · exact h
        · have := big (-C) (by omega); rw [Int.neg_mul] at this; omega
      omega
    · have k0 : a * d - b * c = 1 := by
        have : c * D - d * C = -(a * d - b * c) := by rw [hC, hD]; grind
        omega
      rw [k0] at f1 f2
      have m1 := Int.mul_nonneg s2 w0
      have m2 := nn_mul_neg s1 w0
      have hC2 : C < 1000000000 := by
        rcases Int.lt_or_le C 1000000000 with h | h
        · exact h
        · have := big C h; omega
      have hD2 : -1000000000 < D := by
        rcases Int.lt_or_le (-1000000000) D with h | h
        · exact h
        · have := big (-D) (by omega); rw [Int.neg_mul] at this; omega
      omega
  refine ⟨eu', ev', sgn, by omega, ⟨by omega, w0⟩, ?_, Or.inr ⟨hv, w1, by rw [eN]; exact htrue.1, by rw [eN]; exact htrue.2, hYle⟩⟩
  rw [eN, Int.gcd_sub_mul_right_right, Int.gcd_comm]; exact h.gc
end Go.Proofs.Ytgmlccjjhmhgbaa
/- The contract of nat.foreseen. -/
namespace Go.Proofs.Ytgmlccjjhmhgbaa
open Go.ChangeShapes Go.WideShapes Go.RowKit
set_option linter.unusedVariables false
set_option maxRecDepth 100000

/-- A block of four integers. -/
def Four (w : World) (g : Nat) (a b c d : Int) : Prop := ∃ t, w.heap[g]? = some (.cells #[.int .i64 a, .int .i64 b, .int .i64 c, .int .i64 d] t (0, 0))
theorem Four.row {w : World} {g : Nat} {a b c d : Int} (h : Four w g a b c d) : Row w g [a, b, c, d] := by
  obtain ⟨t, h⟩ := h; exact row_of_heap (zs := [a, b, c, d]) h
theorem Four.lt {w : World} {g : Nat} {a b c d : Int} (h : Four w g a b c d) : g < w.heap.size := h.row.lt
theorem Four.new (w : World) (t : TypeId) (a b c d : Int) : Four (w.alloc (.cells #[.int .i64 a, .int .i64 b, .int .i64 c, .int .i64 d] t)) w.heap.size a b c d := ⟨t, heap_alloc_new w _⟩
theorem Four.keep {w w' : World} {g : Nat} {a b c d : Int} (h : Four w g a b c d) (hk : w'.heap[g]? = w.heap[g]?) : Four w' g a b c d := by
  obtain ⟨t, h⟩ := h; exact ⟨t, hk.trans h⟩
theorem Four.store {w : World} {g : Nat} {a b c d : Int} (h : Four w g a b c d) (a' b' c' d' : Int) :
    Four ((((w.setCell ⟨g, 0, none⟩ (.int .i64 a')).setCell ⟨g, 1, none⟩ (.int .i64 b')).setCell ⟨g, 2, none⟩ (.int .i64 c')).setCell ⟨g, 3, none⟩ (.int .i64 d')) g a' b' c' d' := by
  obtain ⟨t, h⟩ := h
  exact ⟨t, by simp [World.setCell, Array.getElem?_modify, h]⟩

/-- What is foreseen. -/
def SeenRes (w : World) (xs ys : List Int) (e : Ending) (w' : World) : Prop :=
  ∃ a b c d u v u0 v0, e = .returned (.agg #[.int .i64 a, .int .i64 b, .int .i64 c, .int .i64 d]) ∧ LInv u0 v0 (nval xs) (nval ys) a b c d u v ∧ (b ≠ 0 → xs.length = ys.length) ∧ Below w.heap.size w w'

theorem top_word {xs : List Int} {b off c n : Nat} {w : World} (hA : Holds w 0 w.heap.size (some ⟨b, off, none⟩) xs) (hx : lok xs = true) (hn : xs.length = n) (h2 : 2 ≤ n) (W : World) (hW : ∀ i, i < w.heap.size → W.heap[i]? = w.heap[i]?) :
    Calls Try.prog 75 #[.slice (some ⟨b, off + (n - 2), none⟩) 2 c] W fun e w' => e = .returned (.int .i64 (nval (xs.drop (n - 2)))) ∧ w' = W := by
  have hl : (xs.drop (n - 2)).length = 2 := by rw [List.length_drop]; omega
  have hS : Holds W 0 w.heap.size (some ⟨b, off + (n - 2), none⟩) (xs.drop (n - 2)) := by
    intro k z hz
    rw [List.getElem?_drop] at hz
    obtain ⟨b', off', e, _, hhi, hc⟩ := hA _ z hz
    cases e
    refine ⟨b, off + (n - 2), rfl, ⟨Nat.zero_le _, Or.inl rfl⟩, hhi, ?_⟩
    rw [Nat.add_assoc]
    exact (World.cell?_of_block (w := w) (a := ⟨b, off + (n - 2 + k), none⟩) (hW b hhi)).trans hc
  have h := nat_word (xs.drop (n - 2)) (some ⟨b, off + (n - 2), none⟩) c 0 w.heap.size W hS (lok_drop hx _) (by omega)
  rw [hl] at h
  exact h.mono fun _ _ k => ⟨k.1, k.2.symm⟩
theorem top_split {xs : List Int} {n : Nat} (hx : lok xs = true) (hn : xs.length = n) (h2 : 2 ≤ n) :
    nval xs = 1000000000 ^ (n - 2) * nval (xs.drop (n - 2)) + nval (xs.take (n - 2)) ∧ 0 ≤ nval (xs.take (n - 2)) ∧ nval (xs.take (n - 2)) ≤ 1000000000 ^ (n - 2) ∧ 0 ≤ nval (xs.drop (n - 2)) ∧ nval (xs.drop (n - 2)) < 1000000000000000000 := by
  have e := nval_append (xs.take (n - 2)) (xs.drop (n - 2))
  rw [List.take_append_drop, List.length_take, Nat.min_eq_left (by omega)] at e
  have a := nval_lt (lok_take hx (n - 2))
  rw [List.length_take, Nat.min_eq_left (by omega)] at a
  have b := nval_small (lok_drop hx (n - 2)) (by rw [List.length_drop]; omega)
  exact ⟨by omega, nval_nonneg (lok_take hx _), by omega, b.1, b.2⟩

set_option maxHeartbeats 3200000 in
theorem nat_foreseen (xs ys : List Int) (A B : Option Addr) (c d : Nat) (w : World) (hA : Holds w 0 w.heap.size A xs) (hB : Holds w 0 w.heap.size B ys) (hx : lok xs = true) (hy : lok ys = true) (hly : 2 < ys.length) (hc : xs.length ≤ c) (hd : ys.length ≤ d)
    (hlx : xs.length ≤ 1000) (hly2 : ys.length ≤ 1000) :
    Calls Try.prog 93 #[.slice A xs.length c, .slice B ys.length d] w (SeenRes w xs ys) := by
  have HA := Lib.hid hA
  have HB := Lib.hid hB
  have HX := Lib.hid hx
  have HY := Lib.hid hy
  clear hA hB hx hy
  by_cases hl : xs.length = ys.length
  · go_enter Try.func93, Try.ntmps93
    rw [← hl] at hly ⊢
    have HL := Lib.hid hl
    obtain ⟨n, hn⟩ : ∃ n, n = xs.length := ⟨_, rfl⟩
    have hn' : ys.length = n := by omega
    obtain ⟨bx, offx, rfl, -, -, -⟩ := HA.out 0 _ (List.getElem?_eq_getElem (by omega))
    obtain ⟨bY, offy, rfl, -, -, -⟩ := HB.out 0 _ (List.getElem?_eq_getElem (by omega))
    rw [← hn] at hly hc hlx ⊢
    have hd' : n ≤ d := by omega
    have tx := top_split HX.out hn.symm (by omega)
    have ty := top_split HY.out hn' (by omega)
    have WX := fun c' W hW => top_word (c := c') HA.out HX.out hn.symm (by omega) W hW
    have WY := fun c' W hW => top_word (c := c') HB.out HY.out hn' (by omega) W hW
    obtain ⟨u0, hu0⟩ : ∃ u0, u0 = nval (xs.drop (n - 2)) := ⟨_, rfl⟩
    obtain ⟨v0, hv0⟩ : ∃ v0, v0 = nval (ys.drop (n - 2)) := ⟨_, rfl⟩
    rw [← hu0] at tx WX
    rw [← hv0] at ty WY
    obtain ⟨tx1, tx2, tx3, tx4, tx5⟩ := tx
    obtain ⟨ty1, ty2, ty3, ty4, ty5⟩ := ty
    have hw0 : ∀ (o1 o2 : Obj) (m i : Nat), i < w.heap.size → (((w.alloc o1).alloc o2).drewN m).heap[i]? = w.heap[i]? := by
      intro o1 o2 m i hi
      show ((w.alloc o1).alloc o2).heap[i]? = _
      rw [Below.heap_alloc _ _ _ (by simp; omega), Below.heap_alloc _ _ _ hi]
    have HWX := Lib.hid WX
    have HWY := Lib.hid WY
    have HW0 := Lib.hid hw0
    have TX1 := Lib.hid tx1
    have TX2 := Lib.hid tx2
    have TX3 := Lib.hid tx3
    have TY1 := Lib.hid ty1
    have TY2 := Lib.hid ty2
    have TY3 := Lib.hid ty3
    have en : (n : Int) - 2 = ((n - 2 : Nat) : Int) := by omega
    have k1 : n - (n - 2) = 2 := by omega
    have k0 : IntKind.i64.wrap ((n - 2 : Nat) : Int) = ((n - 2 : Nat) : Int) := wrap_id (by omega) (by omega)
    have k2 : ¬ c = n - 2 := by omega
    have k3 : ¬ d = n - 2 := by omega
    have k4 : ((n - 2 : Nat) : Int) ≤ (n : Int) := by omega
    clear hl hn hn' hu0 hv0 tx1 tx2 tx3 ty1 ty2 ty3 WX WY hw0
    go_wp2_with fail
    go_quiet ((go_at_call 75; first | (with_reducible exact Calls.quiet_of_same (HWX.out _ _ (fun i hi => HW0.out _ _ _ i hi))) | (with_reducible exact Calls.quiet_of_same (HWY.out _ _ (fun i hi => HW0.out _ _ _ i hi)))))
    obtain ⟨W1, hW1⟩ : ∃ W1, W1 = ((w.alloc (.cells #[.int .i64 0, .int .i64 0, .int .i64 0, .int .i64 0] 94)).alloc (.cells #[.int .i64 1, .int .i64 0, .int .i64 0, .int .i64 1] 94)).drewN nq := ⟨_, rfl⟩
    have f4 : Four W1 w.heap.size 0 0 0 0 := by
      rw [hW1]
      exact ((Four.new w 94 0 0 0 0).keep (w' := (w.alloc _).alloc _) (Below.heap_alloc _ _ _ (by simp))).keep rfl
    have f5 : Four W1 (w.heap.size + 1) 1 0 0 1 := by
      rw [hW1]
      have := Four.new (w.alloc (.cells #[.int .i64 0, .int .i64 0, .int .i64 0, .int .i64 0] 94)) 94 1 0 0 1
      rw [show (w.alloc (.cells #[.int .i64 0, .int .i64 0, .int .i64 0, .int .i64 0] 94)).heap.size = w.heap.size + 1 by simp] at this
      exact this.keep rfl
    have bw : Below w.heap.size w W1 := by rw [hW1]; exact below_drewN (((Below.refl _ _).alloc (Nat.le_refl _) _).alloc (by simp) _) _
    have F4 := Lib.hid f4
    have F5 := Lib.hid f5
    have BW := Lib.hid bw
    rw [← hW1]
    clear f4 f5 bw hW1
    go_wp2_with fail
    go_loopw [6, 7] (fun uv vv wr => ∃ a b e f u v : Int, uv = .int .i64 u ∧ vv = .int .i64 v ∧ u < 1000000000000000000 ∧ v < 1000000000000000000 ∧ LInv u0 v0 (nval xs) (nval ys) a b e f u v ∧ Four wr w.heap.size 0 0 0 0 ∧ Four wr (w.heap.size + 1) a b e f ∧ Below w.heap.size w wr) (fun _ vv _ => (intOf vv).toNat)
    case atStart => exact ⟨1, 0, 0, 1, u0, v0, rfl, rfl, tx5, ty5, linv_start tx4 ty4, F4.out, F5.out, BW.out⟩
    case round =>
      obtain ⟨a, b, e, f, u, v, rfl, rfl, u1, v1, hinv, g4, g5, hbel⟩ := hrel
      have HI := Lib.hid hinv
      have G4 := Lib.hid g4
      have G5 := Lib.hid g5
      have HBL := Lib.hid hbel
      obtain ⟨bd1, bd2, bd3, bd4, bd5, bd6, bd7, bd8⟩ := hinv.bd
      obtain ⟨nn1, nn2⟩ := hinv.nn
      have c0 := g5.row.cell (i := 0) (z := a) rfl
      have c1 := g5.row.cell (i := 1) (z := b) rfl
      have c2 := g5.row.cell (i := 2) (z := e) rfl
      have c3 := g5.row.cell (i := 3) (z := f) rfl
      have z0 := g4.row.cell (i := 0) (z := 0) rfl
      have z1 := g4.row.cell (i := 1) (z := 0) rfl
      have z2 := g4.row.cell (i := 2) (z := 0) rfl
      have z3 := g4.row.cell (i := 3) (z := 0) rfl
      have fr5 := g5.row.frozen
      have fr4 := g4.row.frozen
      have HLL := Lib.hid HL.out
      rcases Int.lt_or_le v 1000000000 with hv | hv
      · have hv' : decide (1000000000 ≤ v) = false := decide_eq_false (by omega)
        clear hinv g4 g5 hbel
        go_wp2_with fail
        have hf := (G4.out.store a b e f).row
        have r0 := hf.cell (i := 0) (z := a) rfl
        have r1 := hf.cell (i := 1) (z := b) rfl
        have r2 := hf.cell (i := 2) (z := e) rfl
        have r3 := hf.cell (i := 3) (z := f) rfl
        exact bodyPost_ret (v := .agg #[.int .i64 a, .int .i64 b, .int .i64 e, .int .i64 f]) (by simp [results, Try.results93, go_sem, r0, r1, r2, r3]) rfl
          ⟨a, b, e, f, u, v, u0, v0, rfl, HI.out, fun _ => HL.out, (((HBL.out.setCell (p := ⟨w.heap.size, 0, none⟩) (Nat.le_refl _) _).setCell (p := ⟨w.heap.size, 1, none⟩) (Nat.le_refl _) _).setCell (p := ⟨w.heap.size, 2, none⟩) (Nat.le_refl _) _).setCell (p := ⟨w.heap.size, 3, none⟩) (Nat.le_refl _) _⟩
      · have hua : 0 ≤ u + a ∧ 0 ≤ u + b := by
          rcases hinv.st with ⟨rfl, rfl, rfl, rfl⟩ | st
          · omega
          · omega
        obtain ⟨hua1, hua2⟩ := hua
        obtain ⟨q, hq⟩ : ∃ q, q = (u + a) / (v + e) := ⟨_, rfl⟩
        obtain ⟨q2, hq2⟩ : ∃ q2, q2 = (u + b) / (v + f) := ⟨_, rfl⟩
        have t1 : (u + a).tdiv (v + e) = q := by rw [hq]; exact Int.tdiv_eq_ediv_of_nonneg hua1
        have t2 : (u + b).tdiv (v + f) = q2 := by rw [hq2]; exact Int.tdiv_eq_ediv_of_nonneg hua2
        have q0 : 0 ≤ q := by rw [hq]; exact Int.ediv_nonneg hua1 (by omega)
        have q1 : q ≤ u + a := by rw [hq]; exact Int.ediv_le_self _ hua1
        have q20 : 0 ≤ q2 := by rw [hq2]; exact Int.ediv_nonneg hua2 (by omega)
        have q21 : q2 ≤ u + b := by rw [hq2]; exact Int.ediv_le_self _ hua2
        have m1 : ¬ v + e = 0 := by omega
        have m2 : (v + e == 0) = false := beq_false_of_ne m1
        have m3 : ¬ v + f = 0 := by omega
        have m4 : (v + f == 0) = false := beq_false_of_ne m3
        by_cases hqq : q = q2
        · have hst := linv_step HI.out hv hq (hqq.trans hq2) TX1.out TY1.out (pow_pos' _) TX2.out TX3.out TY2.out TY3.out tx5 ty5
          obtain ⟨s1, s2, s3, s4, s5, s6, s7, s8⟩ := hst.bd
          have snn := hst.nn.2
          have squo := (linv_quo HI.out hv hq (hqq.trans hq2)).1
          have slt : u - q * v < v := by
            have := lt_succ_mul (by omega) squo
            rw [Int.add_mul, Int.one_mul] at this; omega
          have qv0 : 0 ≤ q * v := Int.mul_nonneg q0 (by omega)
          have HST := Lib.hid hst
          subst hqq
          have hqn : (q != q) = false := by simp
          have S5 := Lib.hid (G5.out.store e f (a - q * e) (b - q * f))
          have S4 := Lib.hid (show Four ((((wr.setCell ⟨w.heap.size + 1, 0, none⟩ (.int .i64 e)).setCell ⟨w.heap.size + 1, 1, none⟩ (.int .i64 f)).setCell ⟨w.heap.size + 1, 2, none⟩ (.int .i64 (a - q * e))).setCell ⟨w.heap.size + 1, 3, none⟩ (.int .i64 (b - q * f))) w.heap.size 0 0 0 0 from
            G4.out.keep (by rw [Below.heap_setCell _ _ _ _ (by show w.heap.size ≠ w.heap.size + 1; omega), Below.heap_setCell _ _ _ _ (by show w.heap.size ≠ w.heap.size + 1; omega), Below.heap_setCell _ _ _ _ (by show w.heap.size ≠ w.heap.size + 1; omega), Below.heap_setCell _ _ _ _ (by show w.heap.size ≠ w.heap.size + 1; omega)]))
          have SB := Lib.hid ((((HBL.out.setCell (p := ⟨w.heap.size + 1, 0, none⟩) (Nat.le_succ _) (.int .i64 e)).setCell (p := ⟨w.heap.size + 1, 1, none⟩) (Nat.le_succ _) (.int .i64 f)).setCell (p := ⟨w.heap.size + 1, 2, none⟩) (Nat.le_succ _) (.int .i64 (a - q * e))).setCell (p := ⟨w.heap.size + 1, 3, none⟩) (Nat.le_succ _) (.int .i64 (b - q * f)))
          clear hinv g4 g5 hbel hq hq2 hst squo z0 z1 z2 z3 fr4
          go_wp2_with fail
          go_roundw
          case rel => exact ⟨e, f, a - q * e, b - q * f, v, u - q * v, rfl, rfl, v1, by omega, HST.out, S4.out, S5.out, SB.out⟩
          case measure => simp only [intOf]; omega
        · have hqn : (q != q2) = true := by simpa using hqq
          clear hinv g4 g5 hbel hq hq2 hqq
          go_wp2_with fail
          have hf := (G4.out.store a b e f).row
          have r0 := hf.cell (i := 0) (z := a) rfl
          have r1 := hf.cell (i := 1) (z := b) rfl
          have r2 := hf.cell (i := 2) (z := e) rfl
          have r3 := hf.cell (i := 3) (z := f) rfl
          exact bodyPost_ret (v := .agg #[.int .i64 a, .int .i64 b, .int .i64 e, .int .i64 f]) (by simp [results, Try.results93, go_sem, r0, r1, r2, r3]) rfl
            ⟨a, b, e, f, u, v, u0, v0, rfl, HI.out, fun _ => HL.out, (((HBL.out.setCell (p := ⟨w.heap.size, 0, none⟩) (Nat.le_refl _) _).setCell (p := ⟨w.heap.size, 1, none⟩) (Nat.le_refl _) _).setCell (p := ⟨w.heap.size, 2, none⟩) (Nat.le_refl _) _).setCell (p := ⟨w.heap.size, 3, none⟩) (Nat.le_refl _) _⟩
  · have hne : ((xs.length : Int) != (ys.length : Int)) = true := by simp; omega
    go_enter Try.func93, Try.ntmps93
    go_wp2_with fail
    exact bodyPost_ret (v := .agg #[.int .i64 1, .int .i64 0, .int .i64 0, .int .i64 1]) (by simp [results, Try.results93, go_sem]) rfl
      ⟨1, 0, 0, 1, 0, 0, 0, 0, rfl, linv_start (by omega) (by omega), fun h => absurd rfl h, ((Below.refl _ _).alloc (Nat.le_refl _) _).alloc (by simp) _⟩
end Go.Proofs.Ytgmlccjjhmhgbaa
/- The contracts of nat.combined and nat.shortened. -/
namespace Go.Proofs.Ytgmlccjjhmhgbaa
open Go.ChangeShapes Go.WideShapes Go.RowKit
set_option linter.unusedVariables false
set_option maxRecDepth 100000

theorem comb_val {xs ys : List Int} {m n : Int} (hl : xs.length = ys.length) : nval (addT (addT (List.replicate (xs.length + 1) 0) xs m 0) ys n 0) = m * nval xs + n * nval ys := by
  rw [addT_val _ _ _ _ (by rw [addT_length]; simp; omega), addT_val _ _ _ _ (by simp), nval_zeros]; omega
theorem comb_bd {X m P : Int} (x0 : 0 ≤ X) (x1 : X < P) (m0 : -1000000000 < m) (m1 : m < 1000000000) : -(1000000000 * P) < m * X ∧ m * X < 1000000000 * P := by
  have a1 : m * X ≤ 999999999 * X := Int.mul_le_mul_of_nonneg_right (by omega) x0
  have a2 : -999999999 * X ≤ m * X := Int.mul_le_mul_of_nonneg_right (by omega) x0
  omega

set_option maxHeartbeats 1600000 in
theorem nat_combined (xs ys : List Int) (A B : Option Addr) (c d : Nat) (m n : Int) (w : World) (hA : Holds w 0 w.heap.size A xs) (hB : Holds w 0 w.heap.size B ys) (hx : lok xs = true) (hy : lok ys = true) (hl : xs.length = ys.length) (hlx : xs.length ≤ 1000)
    (m0 : -1000000000 < m) (m1 : m < 1000000000) (n0 : -1000000000 < n) (n1 : n < 1000000000) (h0 : 0 ≤ m * nval xs + n * nval ys) (h1 : m * nval xs + n * nval ys ≤ nval ys) :
    Calls Try.prog 94 #[.slice A xs.length c, .int .i64 m, .slice B ys.length d, .int .i64 n] w (GcdRes w (m * nval xs + n * nval ys).toNat) := by
  have hct := nat_times xs A c m 0 w.heap.size w hA (Nat.le_refl _) (by omega) hx m0 m1
  have x0 := nval_nonneg hx
  have x1 := nval_lt hx
  have y1 := nval_lt hy
  have hlT : (addT (List.replicate (xs.length + 1) 0) xs m 0).length = xs.length + 1 := by rw [addT_length]; simp
  have hvT : nval (addT (List.replicate (xs.length + 1) 0) xs m 0) = m * nval xs := by rw [addT_val _ _ _ _ (by simp), nval_zeros]; omega
  have hdT := addT_lok (List.replicate (xs.length + 1) 0) xs m 0
  have hbd := comb_bd x0 x1 m0 m1
  have hlast : ∀ z, (addT (List.replicate (xs.length + 1) 0) xs m 0)[xs.length]? = some z → -4000000000000000000 < z ∧ z < 4000000000000000000 := by
    intro z hz
    have := last_bd hdT hlT hz hvT hbd.1 (by rw [Int.pow_succ]; omega)
    omega
  have hvR := comb_val (m := m) (n := n) hl
  obtain ⟨T, hT⟩ : ∃ T, T = addT (List.replicate (xs.length + 1) 0) xs m 0 := ⟨_, rfl⟩
  rw [← hT] at hct hlT hdT hlast hvR
  have hRl : (addT T ys n 0).length = xs.length + 1 := by rw [addT_length, hlT]
  have hRk : lok (addT T ys n 0) = true := by
    refine lok_of_dropLast (by intro h; rw [h] at hRl; simp at hRl) (addT_lok _ _ _ _) (by rw [hvR]; exact h0) ?_
    rw [hvR, hRl, Int.pow_succ, hl]; omega
  have HCT := Lib.hid hct
  have HB := Lib.hid hB
  have HY := Lib.hid hy
  have HLT := Lib.hid hlT
  have HDT := Lib.hid hdT
  have HLA := Lib.hid hlast
  have HVR := Lib.hid hvR
  have HRL := Lib.hid hRl
  have HRK := Lib.hid hRk
  have HL := Lib.hid hl
  clear hA hB hx hy hct x0 x1 y1 hlT hvT hdT hbd hlast hvR hT hRl hRk hl h0 h1
  go_enter Try.func94, Try.ntmps94
  go_wp2_with fail
  refine HCT.out.mono ?_
  rintro e w1 ⟨rfl, hr1, hb1⟩
  have hadd := nat_addTimes T T ys n w.heap.size 0 (xs.length + 1) d 0 w.heap.size B w1 hr1 (by omega) (fun j _ => by rw [Nat.zero_add]) (HB.out.below hb1 (Nat.le_refl _)) (Or.inr (Nat.le_refl _)) (by rw [HLT.out, HL.out]; omega) (by rw [HLT.out]; omega) HDT.out (fun z hz => HLA.out z (by rw [HLT.out] at hz; exact hz)) HY.out n0 n1
  rw [HLT.out, laid_all (by rw [addT_length])] at hadd
  have HADD := Lib.hid hadd
  have HB1 := Lib.hid hb1
  clear hadd hr1 hb1
  go_wp2_with fail
  refine HADD.out.mono ?_
  rintro e w2 ⟨rfl, hrow, honly⟩
  have hb2 : Below w.heap.size w w2 := HB1.out.trans (honly.toBelow (Nat.le_refl _))
  have htr := nat_trimmed (addT T ys n 0) (some ⟨w.heap.size, 0, none⟩) (xs.length + 1) w.heap.size w2.heap.size w2 (hrow.holds (fun k z hz => by rw [Nat.zero_add]; exact hz) (Nat.le_refl _) hrow.lt) (by rw [HRL.out]; omega) (by unfold maxLen; omega)
  rw [HRL.out] at htr
  have hsl : Sl w2 w.heap.size w2.heap.size (.slice (some ⟨w.heap.size, 0, none⟩) (trimL (addT T ys n 0)).length (xs.length + 1)) (limbs (m * nval xs + n * nval ys).toNat) := by
    have e : limbs (m * nval xs + n * nval ys).toNat = trimL (addT T ys n 0) := by rw [trimL_limbs HRK.out, HVR.out]
    rw [e]
    have := trimL_len_le (addT T ys n 0)
    rw [HRL.out] at this
    exact ⟨_, _, rfl, this, by unfold maxLen; omega, by rw [← trimL_eq_take (addT T ys n 0)]; exact (hrow.take _).holds (fun k z hz => by rw [Nat.zero_add]; exact hz) (Nat.le_refl _) hrow.lt⟩
  have HTR := Lib.hid htr
  have HSL := Lib.hid hsl
  have HB2 := Lib.hid hb2
  clear htr hsl hb2 hrow honly
  go_wp2_with fail
  refine HTR.out.mono ?_
  rintro e w3 ⟨rfl, rfl⟩
  go_wp2_with fail
  go_ret
  exact ⟨_, rfl, HSL.out, HB2.out⟩
end Go.Proofs.Ytgmlccjjhmhgbaa
