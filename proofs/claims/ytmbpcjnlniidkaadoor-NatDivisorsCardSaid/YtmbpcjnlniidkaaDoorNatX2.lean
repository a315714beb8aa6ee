/- The contract of DivMod of the reference. -/
import Derived.Test.YtmbpcjnlniidkaaDoorNatX
namespace Go.Proofs.YtmbpcjnlniidkaaDoor
open Go.ChangeShapes Go.WideShapes Go.RowKit
set_option linter.unusedVariables false

def DmIn (w : World) (xs ys : List Int) (e : Ending) (w' : World) : Prop :=
  ∃ vq vr, e = .returned (.tuple #[vq, vr, .int .i64 (divE xs ys)]) ∧ In w' vq (limbs (quoN xs ys)) ∧ In w' vr (limbs (remN xs ys)) ∧ Below w.heap.size w w'
theorem DmIn.none {w w' : World} {xs ys : List Int} {k : Int} {e : Ending} (hq : divOk xs ys = false) (hk : divE xs ys = k) (h : e = .returned (.tuple #[.slice none 0 0, .slice none 0 0, .int .i64 k])) (hb : Below w.heap.size w w') : DmIn w xs ys e w' := by
  subst hk h
  refine ⟨_, _, rfl, ?_, ?_, hb⟩
  · rw [quoN, hq]; exact (by show In _ _ (limbs 0); rw [limbs_zero]; exact In.nil _)
  · rw [remN, hq]; exact (by show In _ _ (limbs 0); rw [limbs_zero]; exact In.nil _)
theorem append_prep {wr w5 : World} {z : Int} {L : List Int} {v' : Value} (hown : w5.ownsRow wr.heap.size 3 1 v' ([z] ++ L).length (([z] ++ L).map (Value.int .i64))) (hgrow : (wr.alloc (.cells #[.int .i64 z] 3)).grownBy w5 (some wr.heap.size)) :
    ∃ g cap, v' = .slice (some ⟨g, 0, none⟩) (L.length + 1) cap ∧ wr.heap.size ≤ g ∧ Row w5 g (z :: L) ∧ In w5 v' (z :: L) ∧ Below wr.heap.size wr w5 := by
  have hin := (sl_of_owns hown).toIn
  rcases row_of_owns hown with ⟨_, h⟩ | ⟨g, cap, h1, h2, h3, h4, h5⟩
  · simp at h
  · refine ⟨g, cap, ?_, h2, h5, hin, (below_alloc _ _).grown hgrow (by simp) (fun k hk => by simp at hk; omega)⟩
    rw [h1]; simp

theorem In.setCell {w : World} {g off n c : Nat} {zs : List Int} (h : In w (.slice (some ⟨g, off, none⟩) n c) zs) {p : Addr} (hp : p.block ≠ g) (u : Value) : In (w.setCell p u) (.slice (some ⟨g, off, none⟩) n c) zs := by
  obtain ⟨A, c', e, h1, h2, h3⟩ := h
  cases e
  refine ⟨_, _, rfl, h1, h2, fun k z hz => ?_⟩
  obtain ⟨b, off', hA, hlo, hhi, hc⟩ := h3 k z hz
  cases hA
  exact ⟨g, off, rfl, ⟨Nat.zero_le _, Or.inl rfl⟩, by simpa [World.setCell] using hhi, (World.cell?_of_block (w := w) (a := ⟨g, off + k, none⟩) (Below.heap_setCell w p u g (fun e => hp e.symm))).trans hc⟩
theorem minus_in {rs ys : List Int} {q : Int} (v v2 : Value) (w : World) (h1 : In w v rs) (h2 : In w v2 (limbs (nval ys * q).toNat)) (hr : lok rs = true) (hl : rs.length ≤ 1000) (hy : validB ys = true) (ypos : 0 < nval ys) (hq : q = nval rs / nval ys) :
    Calls Tryd.prog 51 #[v, v2] w fun e w' => ∃ v3, e = .returned v3 ∧ In w' v3 (limbs (nval rs % nval ys).toNat) ∧ Below w.heap.size w w' := by
  have r0 := nval_nonneg hr
  have q0 : 0 ≤ q := by rw [hq]; exact Int.ediv_nonneg r0 (Int.le_of_lt ypos)
  have hnn : 0 ≤ nval ys * q := Int.mul_nonneg (Int.le_of_lt ypos) q0
  have hem := Int.emod_add_mul_ediv (nval rs) (nval ys)
  rw [← hq] at hem
  have m0 : 0 ≤ nval rs % nval ys := Int.emod_nonneg _ (by omega)
  have m1 : nval rs % nval ys < nval ys := Int.emod_lt_of_pos _ ypos
  have hv : nval (limbs (nval ys * q).toNat) = nval ys * q := by rw [nval_limbs, Int.toNat_of_nonneg hnn]
  have e : (nval rs - nval ys * q).toNat = (nval rs % nval ys).toNat := by omega
  have hlt : (nval rs - nval ys * q).toNat < 1000000000 ^ 48 := Nat.lt_of_lt_of_le (by omega) (Nat.le_of_lt (valid_lt hy))
  have h := ref_minus rs (limbs (nval ys * q).toNat) v v2 w h1 h2 hr (lok_limbs _) hl (by rw [hv]; omega) (by rw [hv]; exact hlt)
  rw [hv, e] at h
  refine h.mono ?_
  rintro e w' ⟨v3, rfl, hs, hb⟩
  exact ⟨v3, rfl, hs.toIn, hb⟩

set_option maxHeartbeats 6400000 in
theorem refdm_main (xs ys : List Int) (A B : Option Addr) (c d : Nat) (w : World) (ha : In w (.slice A xs.length c) xs) (hb : In w (.slice B ys.length d) ys) (hx : validB xs = true) (hy : validB ys = true) (hp : 0 < ys.length) :
    Calls Tryd.prog 34 #[.slice A xs.length c, .slice B ys.length d] w (DmIn w xs ys) := by
  have HIA := Lib.hid ha
  have HIB := Lib.hid hb
  obtain ⟨A', c', e, hc, hm, hA⟩ := ha
  cases e
  obtain ⟨B', d', e, hd, hn, hB⟩ := hb
  cases e
  have HA := Lib.hid hA
  have HB := Lib.hid hB
  have hm1 : xs.length ≤ 9223372036854775807 := Nat.le_trans hc hm
  have hm2 : ys.length ≤ 9223372036854775807 := Nat.le_trans hd hn
  have l1 := valid_len hx
  have l2 := valid_len hy
  have HX := Lib.hid hx
  have HY := Lib.hid hy
  have YP := Lib.hid (nval_pos (valid_nrm hy) hp)
  have hne : ((ys.length : Int) == 0) = false := beq_false_of_ne (by omega)
  have hok : divOk xs ys = true := by
    have he : ys.isEmpty = false := by cases ys with
      | nil => simp at hp
      | cons a l => rfl
    rw [divOk, both, hx, hy, he]; rfl
  have hde : divE xs ys = 0 := by
    have he : ys.isEmpty = false := by cases ys with
      | nil => simp at hp
      | cons a l => rfl
    rw [divE, both, hx, hy, he]; rfl
  have HOK := Lib.hid hok
  have HDE := Lib.hid hde
  obtain ⟨i0, hi0, hz0, hz1, hz2⟩ := info_parts info_int
  clear hA hB hm hn hok hde
  go_enter Tryd.func34, Tryd.ntmps34
  go_wp2_with fail
  refine (ref_Valid xs A c _ _ w HA.out hm1).mono ?_
  rintro e w' ⟨rfl, rfl⟩
  rw [HX.out]
  go_wp2_with fail
  refine (ref_Valid ys B d _ _ _ HB.out hm2).mono ?_
  rintro e w' ⟨rfl, rfl⟩
  rw [HY.out]
  clear hx hy
  go_wp2_with (first
    | (at_make; refine wpList_make_full _ rfl _ _ 23 rfl w.heap.size 3 i0 (.int .i64 0) 1 Tryd.underlying23 hi0 hz0 hz1 .i64 .i64 _ _ xs.length rfl rfl rfl rfl (by rw [hz2]; omega) (by unfold maxLen; omega) (Nat.le_refl _) ?_; intro w1 hown hgrow; refine Hid.out ?_)
    | fail)
  refine Lib.hid ?_
  have HR0 := Lib.hid (show Row w1 w.heap.size (List.replicate xs.length 0) from row_of_heap (heap_of_made hown))
  have HB0 := Lib.hid (show Below w.heap.size w w1 from (Below.refl _ _).grown hgrow (Nat.le_refl _) (fun k hk => by cases hk))
  clear hown hgrow
  go_wp2_with fail
  go_loopw [8, 9] (fun rv iv wr => ∃ (k r : Nat) (Q : List Int), k ≤ xs.length ∧ iv = .int .i64 ((xs.length : Int) - 1 - k) ∧ In wr rv (limbs r) ∧ RInv (nval xs) (nval ys) Q xs.length xs (xs.length - k) r ∧ Row wr w.heap.size Q ∧ Below w.heap.size w wr) (fun _ iv _ => (intOf iv + 1).toNat)
  case atStart => exact ⟨0, 0, _, Nat.zero_le _, by simp, by rw [limbs_zero]; exact In.nil _, ⟨by simp, lok_zeros _, by simp [nval], by simp [nval]⟩, HR0.out, HB0.out⟩
  case round =>
    obtain ⟨k, r, Q, hk, rfl, hin, hinv, hrow, hbel⟩ := hrel
    have HI := Lib.hid hinv
    have HR := Lib.hid hrow
    have HBL := Lib.hid hbel
    have hql := hinv.ql
    rcases Nat.lt_or_ge k xs.length with hlt | hge
    · have HIN := Lib.hid hin
      obtain ⟨Ar, cr, rfl, hcr, hmr, hAr⟩ := hin
      obtain ⟨a, hae⟩ : ∃ a, a = xs.length - 1 - k := ⟨_, rfl⟩
      obtain ⟨z, hz⟩ : ∃ z, xs[a]? = some z := ⟨_, List.getElem?_eq_getElem (by omega)⟩
      obtain ⟨b, off, hA2, _, _, hcell⟩ := (HA.out.below HBL.out (Nat.le_refl _)) a z hz
      have zb := lok_at (valid_lok HX.out) hz
      have ea : xs.length - k = a + 1 := by omega
      rw [ea] at hinv
      have hr1 : (r : Int) < nval ys := by rw [hinv.rem]; exact Int.emod_lt_of_pos _ YP.out
      have hrl : (limbs r).length ≤ 48 := limbs_len_le.mpr (Nat.lt_of_le_of_lt (by omega) (valid_lt HY.out))
      obtain ⟨z0, z1⟩ := zb
      have hnn : 0 ≤ z + 1000000000 * (r : Int) := by omega
      obtain ⟨q, hq⟩ : ∃ q, q = (z + 1000000000 * (r : Int)) / nval ys := ⟨_, rfl⟩
      have hst := rinv_step hinv hz z0 z1 (valid_lok HX.out) (by omega) YP.out hq
      have hnv : nval (z :: limbs r) = z + 1000000000 * (r : Int) := by rw [nval, nval_limbs]
      have hlt2 : z + 1000000000 * (r : Int) < 1000000000 * nval ys := by
        have : 1000000000 * ((r : Int) + 1) ≤ 1000000000 * nval ys := Int.mul_le_mul_of_nonneg_left (by omega) (by omega)
        omega
      have e1 : (xs.length : Int) - 1 - k = (a : Int) := by omega
      have hal : a < xs.length := by omega
      obtain ⟨qv, hqv⟩ : ∃ qv, qv = Q.getD a 0 := ⟨_, rfl⟩
      have HQV := Lib.hid hqv
      have HQL := Lib.hid hql
      have HE := Lib.hid hae
      have HST := Lib.hid hst.1
      have q0 := hst.2.1
      have q1 := hst.2.2
      have HQ := Lib.hid hq
      have HNV := Lib.hid hnv
      have HLT := Lib.hid hlt2
      have HRL := Lib.hid hrl
      have HOL := Lib.hid (own_lit wr z)
      have HAL := Lib.hid (Holds.below hAr (below_alloc wr (.cells #[.int .i64 z] 3)) (Nat.le_refl _))
      have HLEN := Lib.hid (show ([z] : List Int).length + (limbs r).length ≤ 1000000 by simp; omega)
      rw [e1]
      subst hA2
      clear hae hz ea hinv hst hnv hlt2 hAr hrow hbel hql hq hqv hmr e1
      go_wp2_with (first
        | (at_builtin; refine append_holds rfl (.tmp 36) (.tmp 37) rfl wr.heap.size _ [z] rfl HOL.out 0 wr.heap.size Ar cr (limbs r) _ rfl rfl HAL.out HLEN.out (by simp) ?_; intro v' w5 hown hgrow; refine Hid.out ?_)
        | fail)
      refine Lib.hid ?_
      obtain ⟨g5, cap5, rfl, hg5, hrow5, hin5, hb5⟩ := append_prep hown hgrow
      have hR5 := HR.out.below hb5 HR.out.lt
      have HB5 := Lib.hid (bstep HBL.out hb5)
      by_cases hzz : z = 0 ∧ r = 0
      · obtain ⟨rfl, rfl⟩ := hzz
        have hl0 : limbs 0 = [] := limbs_zero
        have hcl := hrow5.cell (i := (limbs 0).length) (z := 0) (by rw [hl0]; rfl)
        have HR5 := Lib.hid hR5
        have hq0 : q = 0 := by rw [HQ.out]; simp
        subst hq0
        have hm0 : ((0 + 1000000000 * ((0 : Nat) : Int)) % nval ys).toNat = 0 := by simp
        have HM0 := Lib.hid hm0
        clear hl0 hown hgrow hrow5 hin5 hb5 hR5 hm0
        go_wp2_with fail
        refine (ref_digit [] ys _ _ w5 (In.nil w5) (HIB.out.on HB5.out) rfl (valid_nrm HY.out) (by simp) (by omega) YP.out (by have := YP.out; simp [nval]; omega)).mono ?_
        rintro e w6 ⟨rfl, hb6⟩
        rw [show nval [] / nval ys = 0 from by simp [nval]]
        have hR6 := HR5.out.below hb6 HR5.out.lt
        have hcq := hR6.cell (i := a) (z := qv) (by rw [HQV.out, List.getD_eq_getElem?_getD, List.getElem?_eq_getElem (by rw [HQL.out]; exact hal)]; rfl)
        have hfr := hR6.frozen a
        have HR7 := Lib.hid (hR6.store a 0)
        have HB7 := Lib.hid ((bstep HB5.out hb6).setCell (p := ⟨w.heap.size, a, none⟩) (Nat.le_refl _) (.int .i64 0))
        clear hR6 hb6 hcl
        go_wp2_with fail
        go_roundw
        case rel =>
          have e2 : xs.length - (k + 1) = a := by have := HE.out; omega
          have h := HST.out
          rw [HM0.out] at h
          refine ⟨k + 1, 0, _, by omega, ?_, by rw [limbs_zero]; exact In.nil _, by rw [e2]; exact h, HR7.out, HB7.out⟩
          have := HE.out; go_num
        case measure => simp [intOf] <;> omega
      · obtain ⟨y, hy1, hy0⟩ := last_ne z0 z1 hzz
        have hcl := hrow5.cell hy1
        have hy2 : (y == 0) = false := by simpa using hy0
        have hlc := limbs_cons z0 z1 hzz
        have hnr : nrm (z :: limbs r) = true := by rw [← hlc]; exact nrm_of_limbs _
        have hdg := ref_digit (z :: limbs r) ys _ _ w5 hin5 (HIB.out.on HB5.out) hnr (valid_nrm HY.out) (by simp; omega) (by omega) YP.out (by rw [HNV.out]; exact HLT.out)
        rw [HNV.out, ← HQ.out] at hdg
        have HDG := Lib.hid hdg
        have HR5 := Lib.hid hR5
        have HIN5 := Lib.hid hin5
        have HLC := Lib.hid hlc
        clear hown hgrow hrow5 hin5 hb5 hR5 hy1 hy0 hzz hlc hnr hdg
        go_wp2_with fail
        refine HDG.out.mono ?_
        rintro e w6 ⟨rfl, hb6⟩
        have hR6 := HR5.out.below hb6 HR5.out.lt
        have hin6 := HIN5.out.on hb6
        have hcq := hR6.cell (i := a) (z := qv) (by rw [HQV.out, List.getD_eq_getElem?_getD, List.getElem?_eq_getElem (by rw [HQL.out]; exact hal)]; rfl)
        have hfr := hR6.frozen a
        have HR7 := Lib.hid (hR6.store a q)
        have hb67 : Below w6.heap.size w6 w6 := Below.refl _ _
        have HB7 := Lib.hid ((bstep HB5.out hb6).setCell (p := ⟨w.heap.size, a, none⟩) (Nat.le_refl _) (.int .i64 q))
        have hne5 : g5 ≠ w.heap.size := by have := HR.out.lt; omega
        have HIN7 := Lib.hid (hin6.setCell (p := ⟨w.heap.size, a, none⟩) (by show w.heap.size ≠ g5; omega) (.int .i64 q))
        have e2 : xs.length - (k + 1) = a := by have := HE.out; omega
        have E2 := Lib.hid e2
        have hse : (w6.setCell ⟨w.heap.size, a, none⟩ (.int .i64 q)).heap.size = w6.heap.size := by simp [World.setCell]
        have hto := times_one ys q (.slice B ys.length d) _ (HIB.out.on HB7.out) (valid_lok HY.out) (by omega) q0 q1
        rw [hse] at hto
        have HTO := Lib.hid hto
        have HSE := Lib.hid hse
        clear hR6 hb6 hin6 hcl hb67 hne5 e2 hse hto
        by_cases hqp : 0 < q
        · go_wp2_with fail
          refine HTO.out.mono ?_
          rintro e w8 ⟨v8, rfl, hi8, hb8⟩
          have hb8' : Below (w6.setCell ⟨w.heap.size, a, none⟩ (.int .i64 q)).heap.size (w6.setCell ⟨w.heap.size, a, none⟩ (.int .i64 q)) w8 := by rw [HSE.out]; exact hb8
          have HI8 := Lib.hid hi8
          have HB8 := Lib.hid (bstep HB7.out hb8')
          have HIN8 := Lib.hid (HIN7.out.on hb8')
          have HR8 := Lib.hid (HR7.out.below hb8' HR7.out.lt)
          clear hi8 hb8 hb8'
          go_wp2_with fail
          refine (minus_in _ _ w8 HIN8.out HI8.out (nrm_lok (by rw [← HLC.out]; exact nrm_of_limbs _)) (by simp; omega) HY.out YP.out (by rw [HNV.out]; exact HQ.out)).mono ?_
          rintro e w9 ⟨v9, rfl, hi9, hb9⟩
          rw [HNV.out] at hi9
          have HI9 := Lib.hid hi9
          have HB9 := Lib.hid (bstep HB8.out hb9)
          have HR9 := Lib.hid (HR8.out.below hb9 HR8.out.lt)
          clear hi9 hb9
          go_wp2_with fail
          go_roundw
          case rel =>
            refine ⟨k + 1, _, _, by omega, ?_, HI9.out, by rw [E2.out]; exact HST.out, HR9.out, HB9.out⟩
            have := HE.out; go_num
          case measure => simp [intOf] <;> omega
        · have hq0 : q = 0 := by omega
          have hqn : decide (0 < q) = false := decide_eq_false hqp
          have hmod : (z + 1000000000 * (r : Int)) % nval ys = z + 1000000000 * (r : Int) := by
            have hem := Int.emod_add_mul_ediv (z + 1000000000 * (r : Int)) (nval ys)
            rw [← HQ.out, hq0] at hem
            omega
          have HMOD := Lib.hid hmod
          clear hq0 hqp hmod
          go_wp2_with fail
          go_roundw
          case rel =>
            refine ⟨k + 1, ((z + 1000000000 * (r : Int)) % nval ys).toNat, _, by omega, ?_, by rw [HMOD.out, HLC.out]; exact HIN7.out, by rw [E2.out]; exact HST.out, HR7.out, HB7.out⟩
            have := HE.out; go_num
          case measure => simp [intOf] <;> omega
    · obtain rfl : k = xs.length := by omega
      rw [Nat.sub_self] at hinv
      have hv := hinv.quo
      have hrm := hinv.rem
      have hqk := hinv.qk
      rw [List.drop_zero, List.drop_zero] at hv
      rw [List.drop_zero] at hrm
      have x0 := nval_nonneg (valid_lok HX.out)
      have y0 := YP.out
      have ex : nval xs = ((nval xs).toNat : Int) := by omega
      have ey : nval ys = ((nval ys).toNat : Int) := by omega
      have eq : (nval Q).toNat = quoN xs ys := by
        rw [hv, quoN, HOK.out, if_pos rfl]
        conv => lhs; rw [ex, ey]
        exact Int.toNat_natCast _
      have er : r = remN xs ys := by
        rw [remN, HOK.out, if_pos rfl]
        rw [ex, ey] at hrm
        exact Int.ofNat.inj hrm
      have hfit : quoN xs ys < 1000000000 ^ 48 := by
        rw [quoN, HOK.out, if_pos rfl]
        exact Nat.lt_of_le_of_lt (Nat.div_le_self _ _) (valid_lt HX.out)
      have hqin : In wr (.slice (some ⟨w.heap.size, 0, none⟩) xs.length xs.length) Q := by
        refine ⟨_, _, by rw [hql], by omega, by unfold maxLen; omega, hrow.holds (fun k z hz => by rw [Nat.zero_add]; exact hz) (Nat.zero_le _) hrow.lt⟩
      have hft := ref_fit Q _ wr hqin hqk (by omega)
      rw [eq, (fit_ok hfit).1, (fit_ok hfit).2] at hft
      have HFT := Lib.hid hft
      rw [er] at hin
      have HIN := Lib.hid hin
      have e0 : (xs.length : Int) - 1 - xs.length = -1 := by omega
      rw [e0]
      clear hinv hv hrm hqk x0 y0 ex ey eq er hfit hqin hft hin hrow hbel hql e0
      go_wp2_with fail
      refine HFT.out.mono ?_
      rintro e w8 hr8
      obtain ⟨v8, rfl, hi8, hb8⟩ := res_open hr8
      have HI8 := Lib.hid hi8
      have HIN8 := Lib.hid (HIN.out.on hb8)
      have HB8 := Lib.hid (bstep HBL.out hb8)
      clear hr8 hi8 hb8
      go_wp2_with fail
      go_ret3
      exact ⟨_, _, by rw [HDE.out]; rfl, HI8.out, HIN8.out, HB8.out⟩
#print axioms append_prep
end Go.Proofs.YtmbpcjnlniidkaaDoor
