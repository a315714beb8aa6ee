/- The contract of nat.divide of long numbers. -/
import Derived.Test.YtmbpcjnlniidkaaDoorNatV4
namespace Go.Proofs.YtmbpcjnlniidkaaDoor
open Go.ChangeShapes Go.WideShapes Go.RowKit
set_option linter.unusedVariables false

theorem bjoin {w0 w1 w2 : World} (h : Below w0.heap.size w0 w1) (k : Below w1.heap.size w1 w2) : Below w0.heap.size w0 w2 := h.trans (k.mono h.size)

set_option maxHeartbeats 6400000 in
theorem divide_long (xs ys : List Int) (va vb : Value) (w : World) (l : Nat) (bt : Int) (ha : In w va xs) (hb : In w vb ys) (hx : nrm xs = true) (hy : nrm ys = true) (hlx : 2 < xs.length) (hlx2 : xs.length ≤ 1000) (hly : ys.length = l + 1) (hle : l + 1 ≤ xs.length)
    (hbt : ys[l]? = some bt) (hb0 : 0 < bt) :
    Calls Tryd.prog 53 #[va, vb] w (DivRes w xs ys) := by
  obtain ⟨A, c, rfl, hc, hm, hA⟩ := ha
  obtain ⟨B, d, rfl, hd, hn, hB⟩ := hb
  obtain ⟨nq, hnq⟩ : ∃ nq, nq + l = xs.length := ⟨xs.length - l, by omega⟩
  have hxk := nrm_lok hx
  have hyk := nrm_lok hy
  have bb := lok_at hyk hbt
  have fb := fac_bd hb0 bb.2
  obtain ⟨f, hf⟩ : ∃ f, 1000000000 / (bt + 1) = f := ⟨_, rfl⟩
  have hft : (1000000000 : Int).tdiv (bt + 1) = f := by rw [Int.tdiv_eq_ediv_of_nonneg (by omega), hf]
  rw [hf] at fb
  obtain ⟨f0, f1, f2⟩ := fb
  obtain ⟨b, offb, hBe, _, _, hcb⟩ := hB l bt hbt
  have hca : ∀ W, Below w.heap.size w W → Calls Tryd.prog 60 #[.slice A xs.length c, .int .i64 f] W
      fun e w' => e = .returned (.slice (some ⟨W.heap.size, 0, none⟩) (xs.length + 1) (xs.length + 1)) ∧ Row w' W.heap.size (addT (List.replicate (xs.length + 1) 0) xs f 0) ∧ Below W.heap.size W w' :=
    fun W hW => nat_times xs A c f 0 w.heap.size W (hA.below hW (Nat.le_refl _)) hW.size (by omega) hxk (by omega) f1
  have hcb2 : ∀ W, Below w.heap.size w W → Calls Tryd.prog 60 #[.slice B (l + 1) d, .int .i64 f] W
      fun e w' => e = .returned (.slice (some ⟨W.heap.size, 0, none⟩) (l + 2) (l + 2)) ∧ Row w' W.heap.size (addT (List.replicate (l + 2) 0) ys f 0) ∧ Below W.heap.size W w' := by
    intro W hW
    have h := nat_times ys B d f 0 w.heap.size W (hB.below hW (Nat.le_refl _)) hW.size (by omega) hyk (by omega) f1
    rw [hly] at h; exact h
  have HCA := Lib.hid hca
  have HCB := Lib.hid hcb2
  have HXK := Lib.hid hxk
  have HYK := Lib.hid hyk
  have HLY := Lib.hid hly
  have HBT := Lib.hid hbt
  have HNQ := Lib.hid hnq
  have HF2 := Lib.hid f2
  have h1 : decide ((xs.length : Int) < (l : Int) + 1) = false := decide_eq_false (by omega)
  have h2 : decide ((xs.length : Int) ≤ 2) = false := decide_eq_false (by omega)
  have m0 : ¬ bt + 1 = 0 := by omega
  have m1 : (bt + 1 == 0) = false := beq_false_of_ne m0
  have hw0 : Below w.heap.size w w := Below.refl _ _
  have HW0 := Lib.hid hw0
  have hw0 := HW0
  rw [hly]
  obtain ⟨b10, b11⟩ := bb
  subst hBe
  clear hA hB hm hn hx hy hxk hyk hca hcb2 hly hbt hf hnq f2
  go_enter Tryd.func53, Tryd.ntmps53
  go_wp2_with fail
  go_region_with (go_at_call 60; first | (with_reducible refine (HCA.out _ HW0.out.drew).mono ?_; rintro e w1 ⟨rfl, hr1, hb1⟩) | (with_reducible refine (HCB.out _ (bjoin HW0.out.drew hb1)).mono ?_; rintro e w2 ⟨rfl, hr2, hb2⟩))
  have HR1 := Lib.hid (show Row w1 w.heap.size (addT (List.replicate (xs.length + 1) 0) xs f 0) from hr1)
  have HR2 := Lib.hid (show Row w2 w1.heap.size (addT (List.replicate (l + 2) 0) ys f 0) from hr2)
  have HB1 := Lib.hid (show Below w.heap.size w w1 from hw0.out.drew.trans hb1)
  have HB2 := Lib.hid (show Below w1.heap.size w1 w2 from hb2)
  clear hr1 hr2 hb1 hb2
  obtain ⟨R0, hR0⟩ : ∃ R0, R0 = addT (List.replicate (xs.length + 1) 0) xs f 0 := ⟨_, rfl⟩
  obtain ⟨D0, hD0⟩ : ∃ D0, D0 = addT (List.replicate (l + 2) 0) ys f 0 := ⟨_, rfl⟩
  rw [← hR0] at HR1
  rw [← hD0] at HR2
  have hrok := rest_ok HXK.out (by omega) f1
  have hdok := rest_ok HYK.out (by omega) f1
  rw [HLY.out] at hdok
  rw [← hR0] at hrok
  have hdok' : lok D0 = true ∧ nval D0 = f * nval ys := by rw [hD0]; exact hdok
  have hRl : R0.length = xs.length + 1 := by rw [hR0, addT_length]; simp
  have hDl : D0.length = l + 2 := by rw [hD0, addT_length]; simp
  have hdv := divisor_ok HYK.out HLY.out HBT.out hb0 f0 HF2.out hdok'.1 hdok'.2 hDl
  obtain ⟨hv1, hv2, hv3, dt, hv4, hv5⟩ := hdv
  have ypos : 0 < f * nval ys := Int.mul_pos (by omega) (by have := (top_ge HYK.out HLY.out HBT.out hb0).1; have := pow_pos' l; omega)
  have hds := dinv_start HXK.out HYK.out HLY.out HBT.out hb0 f0 hRl hrok.1 hrok.2 HNQ.out
  have i12 : w.heap.size < w1.heap.size := HR1.out.lt
  have i23 : w1.heap.size < w2.heap.size := HR2.out.lt
  have HR1' := Lib.hid (HR1.out.below HB2.out i12)
  have HB02 := Lib.hid (bjoin HB1.out HB2.out)
  have HDS := Lib.hid hds
  have V1 := Lib.hid hv1
  have V2 := Lib.hid hv2
  have V3 := Lib.hid hv3
  have V4 := Lib.hid hv4
  have V5 := Lib.hid hv5
  have YP := Lib.hid ypos
  have I12 := Lib.hid i12
  have I23 := Lib.hid i23
  have HRL := Lib.hid hRl
  have hnql : (xs.length : Int) - ((l : Int) + 1) + 1 = (nq : Int) := by have := HNQ.out; omega
  have hnq1 : nq ≤ 1000 := by have := HNQ.out; omega
  obtain ⟨i0, hi0, hz0, hz1, hz2⟩ := info_parts info_int
  clear hR0 hD0 hrok hdok hdok' hRl hDl hv1 hv2 hv3 hv4 hv5 ypos hds i12 i23 hcb hw0
  go_wp2_with (first
    | (at_make; refine wpList_make_full _ rfl _ _ 23 rfl w2.heap.size 3 i0 (.int .i64 0) 1 Tryd.underlying23 hi0 hz0 hz1 .i64 .i64 _ _ nq rfl rfl (by omega) (by omega) (by rw [hz2]; omega) (by unfold maxLen; omega) (Nat.le_refl _) ?_; intro w3 hown hgrow; refine Hid.out ?_)
    | fail)
  refine Lib.hid ?_
  have HQ0 := Lib.hid (show Row w3 w2.heap.size (List.replicate nq 0) from row_of_heap (heap_of_made hown))
  have hb3 : Below w2.heap.size w2 w3 := (Below.refl _ _).grown hgrow (Nat.le_refl _) (fun k hk => by cases hk)
  have HR13 := Lib.hid (HR1'.out.below hb3 (Nat.lt_trans I12.out I23.out))
  have HR23 := Lib.hid (HR2.out.below hb3 I23.out)
  have HB03 := Lib.hid (bjoin HB02.out hb3)
  clear hown hgrow hb3 hnql
  go_wp2_with fail
  go_loopw [62] (fun iv wr => ∃ (k : Nat) (R Q : List Int), k ≤ nq ∧ iv = .int .i64 k ∧ DInv (f * nval xs) (f * nval ys) xs.length nq R Q (nq - k) ∧ Row wr w.heap.size R ∧ Row wr w1.heap.size D0 ∧ Row wr w2.heap.size Q ∧ Below w.heap.size w wr) (fun iv _ => nq - (intOf iv).toNat)
  case atStart => exact ⟨0, R0, _, Nat.zero_le _, rfl, HDS.out, HR13.out, HR23.out, HQ0.out, HB03.out⟩
  case round =>
    obtain ⟨k, R, Q, hk, rfl, hinv, hrr, hrd, hrq, hbel⟩ := hrel
    have HI := Lib.hid hinv
    have HRR := Lib.hid hrr
    have HRD := Lib.hid hrd
    have HRQ := Lib.hid hrq
    have HBL := Lib.hid hbel
    have hql := hinv.ql
    have hrl := hinv.rl
    clear hinv hrr hrd hrq hbel
    rcases Nat.lt_or_ge k nq with hlt | hge
    · obtain ⟨a, hae⟩ : ∃ a, a = nq - 1 - k := ⟨_, rfl⟩
      have ea : nq - k = a + 1 := by omega
      have hi := HI.out
      rw [ea] at hi
      have haq : a < nq := by omega
      have hal : a + (l + 2) ≤ xs.length + 1 := by have := HNQ.out; omega
      have hwin := dinv_win hi hal V2.out V1.out V3.out
      have hwl : (win R a (l + 2)).length = l + 2 := win_length (by rw [hrl]; exact hal)
      have hto := fun (W : World) (cap : Nat) (hr : Row W w.heap.size R) (hd : Row W w1.heap.size D0) =>
        nat_takeOff R (win R a (l + 2)) (D0.take (l + 1)) l w.heap.size a cap (l + 2) w1.heap.size (w1.heap.size + 1) (some ⟨w1.heap.size, 0, none⟩) W dt hr (by rw [hrl]; exact hal) (fun j hj => win_at (by rw [hrl]; exact hal) j hj)
          ((hd.take (l + 1)).holds (fun k z hz => by rw [Nat.zero_add]; exact hz) (Nat.le_refl _) (Nat.lt_succ_self _)) (Or.inl I12.out) hwl V1.out (by omega) (lok_take (lok_drop hi.rk a) _) V2.out V4.out V5.out (by rw [V3.out]; exact hwin.1)
      obtain ⟨S, hS⟩ : ∃ S, S = win R a (l + 2) := ⟨_, rfl⟩
      rw [V3.out, ← hS] at hto
      have HTO := Lib.hid hto
      have HS := Lib.hid hS
      have HI2 := Lib.hid hi
      have HE := Lib.hid hae
      obtain ⟨qv, hqv⟩ : ∃ qv, qv = Q.getD a 0 := ⟨_, rfl⟩
      have HQV := Lib.hid hqv
      have HQL := Lib.hid hql
      have HRL2 := Lib.hid hrl
      have e1 : (nq : Int) - 1 - k = (a : Int) := by omega
      have k1 : (a : Int) ≤ (a : Int) + ((l : Int) + 1) + 1 := by omega
      have k2 : (a : Int) + ((l : Int) + 1) + 1 ≤ (xs.length : Int) + 1 := by omega
      have k3 : ¬ xs.length + 1 = a := by omega
      have k4 : ((a : Int) + ((l : Int) + 1) + 1).toNat - a = l + 2 := by omega
      clear hae ea hi hwin hwl hto hS hqv hql hrl
      go_wp2_with fail
      refine (HTO.out wr _ HRR.out HRD.out).mono ?_
      rintro e w4 ⟨rfl, T, hT, hTk, hTv, hr4, ho4⟩
      have hstep := dinv_step HI2.out hal haq V2.out V1.out V3.out YP.out (by rw [← HS.out]) hT hTk (by rw [← HS.out]; exact hTv)
      obtain ⟨qn, hqn⟩ : ∃ qn, qn = nval S / (f * nval ys) := ⟨_, rfl⟩
      rw [← hqn] at hstep ⊢
      have hrd4 : Row w4 w1.heap.size D0 := ho4.row HRD.out (by have := I12.out; omega)
      have hrq4 : Row w4 w2.heap.size Q := ho4.row HRQ.out (by have := I12.out; have := I23.out; omega)
      have hcell := hrq4.cell (i := a) (z := qv) (by rw [HQV.out, List.getD_eq_getElem?_getD, List.getElem?_eq_getElem (by rw [HQL.out]; exact haq)]; rfl)
      have hfr := hrq4.frozen a
      have HST := Lib.hid hstep.1
      have HRR5 := Lib.hid (hr4.other (p := ⟨w2.heap.size, a, none⟩) (by show w2.heap.size ≠ w.heap.size; have := I12.out; have := I23.out; omega) (.int .i64 qn))
      have HRD5 := Lib.hid (hrd4.other (p := ⟨w2.heap.size, a, none⟩) (by show w2.heap.size ≠ w1.heap.size; have := I23.out; omega) (.int .i64 qn))
      have HRQ5 := Lib.hid (hrq4.store a qn)
      have HBL5 := Lib.hid ((HBL.out.trans (ho4.toBelow (Nat.le_refl _))).setCell (p := ⟨w2.heap.size, a, none⟩) (by show w.heap.size ≤ w2.heap.size; have := I12.out; have := I23.out; omega) (.int .i64 qn))
      have q0 := hstep.2.1
      have q1 := hstep.2.2
      clear hT hTk hTv hr4 ho4 hstep hrd4 hrq4 hqn
      go_wp2_with fail
      go_roundw
      case rel =>
        have e2 : nq - (k + 1) = a := by have := HE.out; omega
        exact ⟨k + 1, _, _, by omega, by go_num, by rw [e2]; exact HST.out, HRR5.out, HRD5.out, HRQ5.out, HBL5.out⟩
      case measure => simp [intOf]; omega
    · obtain rfl : k = nq := by omega
      have hi := HI.out
      rw [Nat.sub_self] at hi
      have hend := dinv_end hi (by omega)
      have hQk := hi.qk
      have hRk := hi.rk
      have i03 : w.heap.size ≤ w2.heap.size := by have := I12.out; have := I23.out; omega
      have htr := nat_trimmed Q (some ⟨w2.heap.size, 0, none⟩) k w2.heap.size wr.heap.size wr (HRQ.out.holds (fun k z hz => by rw [Nat.zero_add]; exact hz) (Nat.le_refl _) HRQ.out.lt) (by omega) (by unfold maxLen; omega)
      rw [hql] at htr
      have hdd := nat_divided R (some ⟨w.heap.size, 0, none⟩) (xs.length + 1) w.heap.size wr.heap.size f wr (HRR.out.holds (fun k z hz => by rw [Nat.zero_add]; exact hz) (Nat.le_refl _) HRR.out.lt) (Nat.le_refl _) hRk (by omega) (by omega) f1
      rw [hrl] at hdd
      have hsq : Sl wr w.heap.size wr.heap.size (.slice (some ⟨w2.heap.size, 0, none⟩) (trimL Q).length k) (limbs ((nval xs).toNat / (nval ys).toNat)) := by
        have e : limbs ((nval xs).toNat / (nval ys).toNat) = trimL Q := by
          rw [trimL_limbs hQk, hend.1]
          congr 1
          have x0 := nval_nonneg HXK.out
          have y0 := nval_nonneg HYK.out
          have e1 : nval xs = ((nval xs).toNat : Int) := by omega
          have e2 : nval ys = ((nval ys).toNat : Int) := by omega
          rw [e1, e2]; exact (Int.toNat_natCast _).symm
        rw [e]
        have := trimL_len_le Q
        exact ⟨_, k, rfl, by omega, by unfold maxLen; omega, by rw [← trimL_eq_take Q]; exact (HRQ.out.take _).holds (fun k z hz => by rw [Nat.zero_add]; exact hz) i03 HRQ.out.lt⟩
      have HTR := Lib.hid htr
      have HDD := Lib.hid hdd
      have HSQ := Lib.hid hsq
      have HEND := Lib.hid hend.2
      clear hi hend hQk hRk i03 htr hdd hsq
      go_wp2_with fail
      refine HTR.out.mono ?_
      rintro e w4 ⟨rfl, rfl⟩
      go_wp2_with fail
      refine HDD.out.mono ?_
      rintro e w5 ⟨rfl, Q2, hQ2, hQ2k, hQ2v, hrow, hb5⟩
      have htr2 := nat_trimmed Q2 (some ⟨wr.heap.size, 0, none⟩) (xs.length + 1) wr.heap.size w5.heap.size w5 (hrow.holds (fun k z hz => by rw [Nat.zero_add]; exact hz) (Nat.le_refl _) hrow.lt) (by omega) (by unfold maxLen; omega)
      rw [hQ2] at htr2
      have hsr : Sl w5 w.heap.size w5.heap.size (.slice (some ⟨wr.heap.size, 0, none⟩) (trimL Q2).length (xs.length + 1)) (limbs ((nval xs).toNat % (nval ys).toNat)) := by
        have e : limbs ((nval xs).toNat % (nval ys).toNat) = trimL Q2 := by
          rw [trimL_limbs hQ2k, hQ2v, HEND.out]
          congr 1
          have x0 := nval_nonneg HXK.out
          have y0 := nval_nonneg HYK.out
          have e1 : nval xs = ((nval xs).toNat : Int) := by omega
          have e2 : nval ys = ((nval ys).toNat : Int) := by omega
          rw [e1, e2]; exact (Int.toNat_natCast _).symm
        rw [e]
        have := trimL_len_le Q2
        exact ⟨_, _, rfl, by omega, by unfold maxLen; omega, by rw [← trimL_eq_take Q2]; exact (hrow.take _).holds (fun k z hz => by rw [Nat.zero_add]; exact hz) HBL.out.size hrow.lt⟩
      have HTR2 := Lib.hid htr2
      have HSR := Lib.hid hsr
      have HSQ5 := Lib.hid ((HSQ.out.below hb5 (Nat.le_refl _)).more (Nat.le_refl _) hb5.size)
      have HB5 := Lib.hid (bjoin HBL.out hb5)
      clear hQ2 hQ2k hQ2v hrow hb5 htr2 hsr
      go_wp2_with fail
      refine HTR2.out.mono ?_
      rintro e w6 ⟨rfl, rfl⟩
      go_wp2_with fail
      go_ret2
      exact ⟨_, _, rfl, HSQ5.out, HSR.out, HB5.out⟩
#print axioms divide_long
end Go.Proofs.YtmbpcjnlniidkaaDoor
