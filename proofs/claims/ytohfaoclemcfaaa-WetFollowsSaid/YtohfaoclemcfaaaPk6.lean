/- Several texts in one: NatV5, NatW5, NatX, NatX2, NatX3, NatZ1. -/
import Derived.Test.YtohfaoclemcfaaaPk5
import Derived.Test.YtohfaoclemcfaaaPk4
/- The contract of nat.divide of long numbers. -/
namespace Go.Proofs.Ytohfaoclemcfaaa
open Go.ChangeShapes Go.WideShapes Go.RowKit
set_option linter.unusedVariables false
set_option maxRecDepth 100000

theorem bjoin {w0 w1 w2 : World} (h : Below w0.heap.size w0 w1) (k : Below w1.heap.size w1 w2) : Below w0.heap.size w0 w2 := h.trans (k.mono h.size)

set_option maxHeartbeats 6400000 in
theorem divide_long (xs ys : List Int) (va vb : Value) (w : World) (l : Nat) (bt : Int) (ha : In w va xs) (hb : In w vb ys) (hx : nrm xs = true) (hy : nrm ys = true) (hlx : 2 < xs.length) (hlx2 : xs.length ≤ 1000) (hly : ys.length = l + 1) (hle : l + 1 ≤ xs.length)
    (hbt : ys[l]? = some bt) (hb0 : 0 < bt) :
    Calls Try.prog 82 #[va, vb] w (DivRes w xs ys) := by
  obtain ⟨A, c, rfl, hc, hm, hA⟩ := ha
  obtain ⟨B, d, rfl, hd, hn, hB⟩ := hb
  obtain ⟨nq, hnq⟩ : ∃ nq, nq + l = xs.length := ⟨xs.length - l, by omega⟩
  have hxk := nrm_lok hx
  have hyk := nrm_lok hy
  have bb := lok_at hyk hbt
  have fb := fac_bd hb0 bb.2
  obtain ⟨f, hf⟩ : ∃ f, 1000000000 / (bt + 1) = f := ⟨_, rfl⟩
  have hft : (1000000000 : Int).tdiv (bt + 1) = f := by rw [Int.tdiv_eq_ediv_of_nonneg (by omega), hf]
  rw [hf] at fb
  obtain ⟨f0, f1, f2⟩ := fb
  obtain ⟨b, offb, hBe, _, _, hcb⟩ := hB l bt hbt
  have hca : ∀ W, Below w.heap.size w W → Calls Try.prog 91 #[.slice A xs.length c, .int .i64 f] W
      fun e w' => e = .returned (.slice (some ⟨W.heap.size, 0, none⟩) (xs.length + 1) (xs.length + 1)) ∧ Row w' W.heap.size (addT (List.replicate (xs.length + 1) 0) xs f 0) ∧ Below W.heap.size W w' :=
    fun W hW => nat_times xs A c f 0 w.heap.size W (hA.below hW (Nat.le_refl _)) hW.size (by omega) hxk (by omega) f1
  have hcb2 : ∀ W, Below w.heap.size w W → Calls Try.prog 91 #[.slice B (l + 1) d, .int .i64 f] W
      fun e w' => e = .returned (.slice (some ⟨W.heap.size, 0, none⟩) (l + 2) (l + 2)) ∧ Row w' W.heap.size (addT (List.replicate (l + 2) 0) ys f 0) ∧ Below W.heap.size W w' := by
    intro W hW
    have h := nat_times ys B d f 0 w.heap.size W (hB.below hW (Nat.le_refl _)) hW.size (by omega) hyk (by omega) f1
    rw [hly] at h; exact h
  have HCA := Lib.hid hca
  have HCB := Lib.hid hcb2
  have HXK := Lib.hid hxk
  have HYK := Lib.hid hyk
  have HLY := Lib.hid hly
  have HBT := Lib.hid hbt
  have HNQ := Lib.hid hnq
  have HF2 := Lib.hid f2
  have h1 : decide ((xs.length : Int) < (l : Int) + 1) = false := decide_eq_false (by omega)
  have h2 : decide ((xs.length : Int) ≤ 2) = false := decide_eq_false (by omega)
  have m0 : ¬ bt + 1 = 0 := by omega
  have m1 : (bt + 1 == 0) = false := beq_false_of_ne m0
  have hw0 : Below w.heap.size w w := Below.refl _ _
  have HW0 := Lib.hid hw0
  have hw0 := HW0
  rw [hly]
  obtain ⟨b10, b11⟩ := bb
  subst hBe
  clear hA hB hm hn hx hy hxk hyk hca hcb2 hly hbt hf hnq f2
  go_enter Try.func82, Try.ntmps82
  go_wp2_with fail
  go_region_with (go_at_call 91; first | (with_reducible refine (HCA.out _ HW0.out.drew).mono ?_; rintro e w1 ⟨rfl, hr1, hb1⟩) | (with_reducible refine (HCB.out _ (bjoin HW0.out.drew hb1)).mono ?_; rintro e w2 ⟨rfl, hr2, hb2⟩))
  have HR1 := Lib.hid (show Row w1 w.heap.size (addT (List.replicate (xs.length + 1) 0) xs f 0) from hr1)
  have HR2 := Lib.hid (show Row w2 w1.heap.size (addT (List.replicate (l + 2) 0) ys f 0) from hr2)
  have HB1 := Lib.hid (show Below w.heap.size w w1 from hw0.out.drew.trans hb1)
  have HB2 := Lib.hid (show Below w1.heap.size w1 w2 from hb2)
  clear hr1 hr2 hb1 hb2
  obtain ⟨R0, hR0⟩ : ∃ R0, R0 = addT (List.replicate (xs.length + 1) 0) xs f 0 := ⟨_, rfl⟩
  obtain ⟨D0, hD0⟩ : ∃ D0, D0 = addT (List.replicate (l + 2) 0) ys f 0 := ⟨_, rfl⟩
  rw [← hR0] at HR1
  rw [← hD0] at HR2
  have hrok := rest_ok HXK.out (by omega) f1
  have hdok := rest_ok HYK.out (by omega) f1
  rw [HLY.out] at hdok
  rw [← hR0] at hrok
  have hdok' : lok D0 = true ∧ nval D0 = f * nval ys := by rw [hD0]; exact hdok
  have hRl : R0.length = xs.length + 1 := by rw [hR0, addT_length]; simp
  have hDl : D0.length = l + 2 := by rw [hD0, addT_length]; simp
  have hdv := divisor_ok HYK.out HLY.out HBT.out hb0 f0 HF2.out hdok'.1 hdok'.2 hDl
  obtain ⟨hv1, hv2, hv3, dt, hv4, hv5⟩ := hdv
  have ypos : 0 < f * nval ys := Int.mul_pos (by omega) (by have := (top_ge HYK.out HLY.out HBT.out hb0).1; have := pow_pos' l; omega)
  have hds := dinv_start HXK.out HYK.out HLY.out HBT.out hb0 f0 hRl hrok.1 hrok.2 HNQ.out
  have i12 : w.heap.size < w1.heap.size := HR1.out.lt
  have i23 : w1.heap.size < w2.heap.size := HR2.out.lt
  have HR1' := Lib.hid (HR1.out.below HB2.out i12)
  have HB02 := Lib.hid (bjoin HB1.out HB2.out)
  have HDS := Lib.hid hds
  have V1 := Lib.hid hv1
  have V2 := Lib.hid hv2
  have V3 := Lib.hid hv3
  have V4 := Lib.hid hv4
  have V5 := Lib.hid hv5
  have YP := Lib.hid ypos
  have I12 := Lib.hid i12
  have I23 := Lib.hid i23
  have HRL := Lib.hid hRl
  have hnql : (xs.length : Int) - ((l : Int) + 1) + 1 = (nq : Int) := by have := HNQ.out; omega
  have hnq1 : nq ≤ 1000 := by have := HNQ.out; omega
  obtain ⟨i0, hi0, hz0, hz1, hz2⟩ := info_parts info_int
  clear hR0 hD0 hrok hdok hdok' hRl hDl hv1 hv2 hv3 hv4 hv5 ypos hds i12 i23 hcb hw0
  go_wp2_with (first
    | (at_make; refine wpList_make_full _ rfl _ _ 25 rfl w2.heap.size 3 i0 (.int .i64 0) 1 Try.underlying25 hi0 hz0 hz1 .i64 .i64 _ _ nq rfl rfl (by omega) (by omega) (by rw [hz2]; omega) (by unfold maxLen; omega) (Nat.le_refl _) ?_; intro w3 hown hgrow; refine Hid.out ?_)
    | fail)
  refine Lib.hid ?_
  have HQ0 := Lib.hid (show Row w3 w2.heap.size (List.replicate nq 0) from row_of_heap (heap_of_made hown))
  have hb3 : Below w2.heap.size w2 w3 := (Below.refl _ _).grown hgrow (Nat.le_refl _) (fun k hk => by cases hk)
  have HR13 := Lib.hid (HR1'.out.below hb3 (Nat.lt_trans I12.out I23.out))
  have HR23 := Lib.hid (HR2.out.below hb3 I23.out)
  have HB03 := Lib.hid (bjoin HB02.out hb3)
  clear hown hgrow hb3 hnql
  go_wp2_with fail
  go_loopw [62] (fun iv wr => ∃ (k : Nat) (R Q : List Int), k ≤ nq ∧ iv = .int .i64 k ∧ DInv (f * nval xs) (f * nval ys) xs.length nq R Q (nq - k) ∧ Row wr w.heap.size R ∧ Row wr w1.heap.size D0 ∧ Row wr w2.heap.size Q ∧ Below w.heap.size w wr) (fun iv _ => nq - (intOf iv).toNat)
  case atStart => exact ⟨0, R0, _, Nat.zero_le _, rfl, HDS.out, HR13.out, HR23.out, HQ0.out, HB03.out⟩
  case round =>
    obtain ⟨k, R, Q, hk, rfl, hinv, hrr, hrd, hrq, hbel⟩ := hrel
    have HI := Lib.hid hinv
    have HRR := Lib.hid hrr
    have HRD := Lib.hid hrd
    have HRQ := Lib.hid hrq
    have HBL := Lib.hid hbel
    have hql := hinv.ql
    have hrl := hinv.rl
    clear hinv hrr hrd hrq hbel
    rcases Nat.lt_or_ge k nq with hlt | hge
    · obtain ⟨a, hae⟩ : ∃ a, a = nq - 1 - k := ⟨_, rfl⟩
      have ea : nq - k = a + 1 := by omega
      have hi := HI.out
      rw [ea] at hi
      have haq : a < nq := by omega
      have hal : a + (l + 2) ≤ xs.length + 1 := by have := HNQ.out; omega
      have hwin := dinv_win hi hal V2.out V1.out V3.out
      have hwl : (win R a (l + 2)).length = l + 2 := win_length (by rw [hrl]; exact hal)
      have hto := fun (W : World) (cap : Nat) (hr : Row W w.heap.size R) (hd : Row W w1.heap.size D0) =>
        nat_takeOff R (win R a (l + 2)) (D0.take (l + 1)) l w.heap.size a cap (l + 2) w1.heap.size (w1.heap.size + 1) (some ⟨w1.heap.size, 0, none⟩) W dt hr (by rw [hrl]; exact hal) (fun j hj => win_at (by rw [hrl]; exact hal) j hj)
          ((hd.take (l + 1)).holds (fun k z hz => by rw [Nat.zero_add]; exact hz) (Nat.le_refl _) (Nat.lt_succ_self _)) (Or.inl I12.out) hwl V1.out (by omega) (lok_take (lok_drop hi.rk a) _) V2.out V4.out V5.out (by rw [V3.out]; exact hwin.1)
      obtain ⟨S, hS⟩ : ∃ S, S = win R a (l + 2) := ⟨_, rfl⟩
      rw [V3.out, ← hS] at hto
      have HTO := Lib.hid hto
      have HS := Lib.hid hS
      have HI2 := Lib.hid hi
      have HE := Lib.hid hae
      obtain ⟨qv, hqv⟩ : ∃ qv, qv = Q.getD a 0 := ⟨_, rfl⟩
      have HQV := Lib.hid hqv
      have HQL := Lib.hid hql
      have HRL2 := Lib.hid hrl
      have e1 : (nq : Int) - 1 - k = (a : Int) := by omega
      have k1 : (a : Int) ≤ (a : Int) + ((l : Int) + 1) + 1 := by omega
      have k2 : (a : Int) + ((l : Int) + 1) + 1 ≤ (xs.length : Int) + 1 := by omega
      have k3 : ¬ xs.length + 1 = a := by omega
      have k4 : ((a : Int) + ((l : Int) + 1) + 1).toNat - a = l + 2 := by omega
      clear hae ea hi hwin hwl hto hS hqv hql hrl
      go_wp2_with fail
      refine (HTO.out wr _ HRR.out HRD.out).mono ?_
      rintro e w4 ⟨rfl, T, hT, hTk, hTv, hr4, ho4⟩
      have hstep := dinv_step HI2.out hal haq V2.out V1.out V3.out YP.out (by rw [← HS.out]) hT hTk (by rw [← HS.out]; exact hTv)
      obtain ⟨qn, hqn⟩ : ∃ qn, qn = nval S / (f * nval ys) := ⟨_, rfl⟩
      rw [← hqn] at hstep ⊢
      have hrd4 : Row w4 w1.heap.size D0 := ho4.row HRD.out (by have := I12.out; omega)
      have hrq4 : Row w4 w2.heap.size Q := ho4.row HRQ.out (by have := I12.out; have := I23.out; omega)
      have hcell := hrq4.cell (i := a) (z := qv) (by rw [HQV.out, List.getD_eq_getElem?_getD, List.getElem?_eq_getElem (by rw [HQL.out]; exact haq)]; rfl)
      have hfr := hrq4.frozen a
      have HST := Lib.hid hstep.1
      have HRR5 := Lib.hid (hr4.other (p := ⟨w2.heap.size, a, none⟩) (by show w2.heap.size ≠ w.heap.size; have := I12.out; have := I23.out; omega) (.int .i64 qn))
      have HRD5 := Lib.hid (hrd4.other (p := ⟨w2.heap.size, a, none⟩) (by show w2.heap.size ≠ w1.heap.size; have := I23.out; omega) (.int .i64 qn))
      have HRQ5 := Lib.hid (hrq4.store a qn)
      have HBL5 := Lib.hid ((HBL.out.trans (ho4.toBelow (Nat.le_refl _))).setCell (p := ⟨w2.heap.size, a, none⟩) (by show w.heap.size ≤ w2.heap.size; have := I12.out; have := I23.out; omega) (.int .i64 qn))
      have q0 := hstep.2.1
      have q1 := hstep.2.2
      clear hT hTk hTv hr4 ho4 hstep hrd4 hrq4 hqn
      go_wp2_with fail
      go_roundw
      case rel =>
        have e2 : nq - (k + 1) = a := by have := HE.out; omega
        exact ⟨k + 1, _, _, by omega, by go_num, by rw [e2]; exact HST.out, HRR5.out, HRD5.out, HRQ5.out, HBL5.out⟩
      case measure => simp [intOf]; omega
    · obtain rfl : k = nq := by omega
      have hi := HI.out
      rw [Nat.sub_self] at hi
      have hend := dinv_end hi (by omega)
      have hQk := hi.qk
      have hRk := hi.rk
      have i03 : w.heap.size ≤ w2.heap.size := by have := I12.out; have := I23.out; omega
      have htr := nat_trimmed Q (some ⟨w2.heap.size, 0, none⟩) k w2.heap.size wr.heap.size wr (HRQ.out.holds (fun k z hz => by rw [Nat.zero_add]; exact hz) (Nat.le_refl _) HRQ.out.lt) (by omega) (by unfold maxLen; omega)
      rw [hql] at htr
      have hdd := nat_divided R (some ⟨w.heap.size, 0, none⟩) (xs.length + 1) w.heap.size wr.heap.size f wr (HRR.out.holds (fun k z hz => by rw [Nat.zero_add]; exact hz) (Nat.le_refl _) HRR.out.lt) (Nat.le_refl _) hRk (by omega) (by omega) f1
      rw [hrl] at hdd
      have hsq : Sl wr w.heap.size wr.heap.size (.slice (some ⟨w2.heap.size, 0, none⟩) (trimL Q).length k) (limbs ((nval xs).toNat / (nval ys).toNat)) := by
        have e : limbs ((nval xs).toNat / (nval ys).toNat) = trimL Q := by
          rw [trimL_limbs hQk, hend.1]
          congr 1
          have x0 := nval_nonneg HXK.out
          have y0 := nval_nonneg HYK.out
          have e1 : nval xs = ((nval xs).toNat : Int) := by omega
          have e2 : nval ys = ((nval ys).toNat : Int) := by omega
          rw [e1, e2]; exact (Int.toNat_natCast _).symm
        rw [e]
        have := trimL_len_le Q
        exact ⟨_, k, rfl, by omega, by unfold maxLen; omega, by rw [← trimL_eq_take Q]; exact (HRQ.out.take _).holds (fun k z hz => by rw [Nat.zero_add]; exact hz) i03 HRQ.out.lt⟩
      have HTR := Lib.hid htr
      have HDD := Lib.hid hdd
      have HSQ := Lib.hid hsq
      have HEND := Lib.hid hend.2
      clear hi hend hQk hRk i03 htr hdd hsq
      go_wp2_with fail
      refine HTR.out.mono ?_
      rintro e w4 ⟨rfl, rfl⟩
      go_wp2_with fail
      refine HDD.out.mono ?_
      rintro e w5 ⟨rfl, Q2, hQ2, hQ2k, hQ2v, hrow, hb5⟩
      have htr2 := nat_trimmed Q2 (some ⟨wr.heap.size, 0, none⟩) (xs.length + 1) wr.heap.size w5.heap.size w5 (hrow.holds (fun k z hz => by rw [Nat.zero_add]; exact hz) (Nat.le_refl _) hrow.lt) (by omega) (by unfold maxLen; omega)
      rw [hQ2] at htr2
      have hsr : Sl w5 w.heap.size w5.heap.size (.slice (some ⟨wr.heap.size, 0, none⟩) (trimL Q2).length (xs.length + 1)) (limbs ((nval xs).toNat % (nval ys).toNat)) := by
        have e : limbs ((nval xs).toNat % (nval ys).toNat) = trimL Q2 := by
          rw [trimL_limbs hQ2k, hQ2v, HEND.out]
          congr 1
          have x0 := nval_nonneg HXK.out
          have y0 := nval_nonneg HYK.out
          have e1 : nval xs = ((nval xs).toNat : Int) := by omega
          have e2 : nval ys = ((nval ys).toNat : Int) := by omega
          rw [e1, e2]; exact (Int.toNat_natCast _).symm
        rw [e]
        have := trimL_len_le Q2
        exact ⟨_, _, rfl, by omega, by unfold maxLen; omega, by rw [← trimL_eq_take Q2]; exact (hrow.take _).holds (fun k z hz => by rw [Nat.zero_add]; exact hz) HBL.out.size hrow.lt⟩
      have HTR2 := Lib.hid htr2
      have HSR := Lib.hid hsr
      have HSQ5 := Lib.hid ((HSQ.out.below hb5 (Nat.le_refl _)).more (Nat.le_refl _) hb5.size)
      have HB5 := Lib.hid (bjoin HBL.out hb5)
      clear hQ2 hQ2k hQ2v hrow hb5 htr2 hsr
      go_wp2_with fail
      refine HTR2.out.mono ?_
      rintro e w6 ⟨rfl, rfl⟩
      go_wp2_with fail
      go_ret2
      exact ⟨_, _, rfl, HSQ5.out, HSR.out, HB5.out⟩
end Go.Proofs.Ytohfaoclemcfaaa
/- The contract of nat.DivMod; the walk of NatDivides. -/
namespace Go.Proofs.Ytohfaoclemcfaaa
open Go.ChangeShapes Go.WideShapes Go.RowKit
set_option linter.unusedVariables false
set_option maxRecDepth 100000

theorem top_pos {ys : List Int} {l : Nat} {b : Int} (hy : nrm ys = true) (hl : ys.length = l + 1) (hb : ys[l]? = some b) : 0 < b := by
  have h := nrm_lok hy
  have b0 := lok_at h hb
  rcases Int.lt_or_eq_of_le b0.1 with h1 | h1
  · exact h1
  · exfalso
    subst h1
    have : ys.getLast? = some 0 := by rw [List.getLast?_eq_getElem?, hl]; exact hb
    simp [nrm, this] at hy
theorem nat_divide (xs ys : List Int) (va vb : Value) (w : World) (ha : In w va xs) (hb : In w vb ys) (hx : nrm xs = true) (hy : nrm ys = true) (hlx : xs.length ≤ 1000) (hp : 0 < ys.length) :
    Calls Try.prog 82 #[va, vb] w (DivRes w xs ys) := by
  rcases Nat.lt_or_ge xs.length ys.length with h | h
  · exact divide_less xs ys va vb w ha hb hx hy (by omega) h
  · rcases Nat.lt_or_ge 2 xs.length with h2 | h2
    · obtain ⟨l, hl⟩ : ∃ l, ys.length = l + 1 := ⟨ys.length - 1, by omega⟩
      obtain ⟨b, hb'⟩ : ∃ b, ys[l]? = some b := ⟨_, List.getElem?_eq_getElem (by omega)⟩
      exact divide_long xs ys va vb w l b ha hb hx hy h2 hlx hl (by omega) hb' (top_pos hy hl hb')
    · exact divide_two xs ys va vb w ha hb hx hy h2 hp h
theorem nat_DivMod (xs ys : List Int) (va vb : Value) (w : World) (ha : In w va xs) (hb : In w vb ys) :
    Calls Try.prog 70 #[va, vb] w (DmRes w xs ys) :=
  DivMod_of xs ys va vb w ha hb fun h1 h2 h3 => nat_divide xs ys va vb w ha hb (valid_nrm h1) (valid_nrm h2) (by have := valid_len h1; omega) h3

theorem valid_lt {xs : List Int} (h : validB xs = true) : (nval xs).toNat < 1000000000 ^ 48 := limbs_len_le.mp (by rw [← nrm_limbs (valid_nrm h)]; exact valid_len h)
theorem valid_limbs {n : Nat} (h : n < 1000000000 ^ 48) : validB (limbs n) = true := validB_iff.mpr ⟨limbs_len_le.mpr h, nrm_of_limbs _⟩
theorem fit_ok {n : Nat} (h : n < 1000000000 ^ 48) : fitN n = n ∧ fitE n = 0 := ⟨if_pos h, if_pos h⟩

/-- What the law's calls return, of valid numbers, the second not zero. -/
theorem dvd_facts {xs ys : List Int} (hx : validB xs = true) (hy : validB ys = true) (hp : 0 < ys.length) :
    divE xs ys = 0 ∧ mulV (limbs (quoN xs ys)) ys = quoN xs ys * (nval ys).toNat ∧ mulE (limbs (quoN xs ys)) ys = 0 ∧ mulV ys (limbs (quoN xs ys)) = quoN xs ys * (nval ys).toNat ∧ mulE ys (limbs (quoN xs ys)) = 0 ∧
    limbs (addV (limbs (quoN xs ys * (nval ys).toNat)) (limbs (remN xs ys))) = xs ∧ addE (limbs (quoN xs ys * (nval ys).toNat)) (limbs (remN xs ys)) = 0 ∧
    cmpV (limbs (remN xs ys)) ys = -1 ∧ formE (limbs (remN xs ys)) ys = 0 := by
  have he : ys.isEmpty = false := by cases ys with
    | nil => simp at hp
    | cons a l => rfl
  have hb : both xs ys = true := by rw [both, hx, hy]; rfl
  have hok : divOk xs ys = true := by rw [divOk, hb, he]; rfl
  have eq : quoN xs ys = (nval xs).toNat / (nval ys).toNat := by rw [quoN, hok, if_pos rfl]
  have er : remN xs ys = (nval xs).toNat % (nval ys).toNat := by rw [remN, hok, if_pos rfl]
  have yp := nval_pos (valid_nrm hy) hp
  have x0 := nval_nonneg (valid_lok hx)
  have hxl := valid_lt hx
  have hyl := valid_lt hy
  have M0 : 0 < (nval ys).toNat := by omega
  have hq1 : quoN xs ys ≤ (nval xs).toNat := by rw [eq]; exact Nat.div_le_self _ _
  have hqm : quoN xs ys * (nval ys).toNat ≤ (nval xs).toNat := by rw [eq]; exact Nat.div_mul_le_self _ _
  have hr1 : remN xs ys < (nval ys).toNat := by rw [er]; exact Nat.mod_lt _ M0
  have hsum : quoN xs ys * (nval ys).toNat + remN xs ys = (nval xs).toNat := by rw [eq, er, Nat.mul_comm]; exact Nat.div_add_mod _ _
  have vq : validB (limbs (quoN xs ys)) = true := valid_limbs (Nat.lt_of_le_of_lt hq1 hxl)
  have vr : validB (limbs (remN xs ys)) = true := valid_limbs (Nat.lt_trans hr1 hyl)
  have vp : validB (limbs (quoN xs ys * (nval ys).toNat)) = true := valid_limbs (Nat.lt_of_le_of_lt hqm hxl)
  have fp := fit_ok (Nat.lt_of_le_of_lt hqm hxl)
  have ey : nval ys = ((nval ys).toNat : Int) := by omega
  have p1 : (nval (limbs (quoN xs ys)) * nval ys).toNat = quoN xs ys * (nval ys).toNat := by rw [nval_limbs]; conv => lhs; rw [ey, ← Int.natCast_mul, Int.toNat_natCast]
  have p2 : (nval ys * nval (limbs (quoN xs ys))).toNat = quoN xs ys * (nval ys).toNat := by rw [Int.mul_comm]; exact p1
  have p3 : (nval (limbs (quoN xs ys * (nval ys).toNat)) + nval (limbs (remN xs ys))).toNat = (nval xs).toNat := by rw [nval_limbs, nval_limbs]; omega
  have fx := fit_ok hxl
  refine ⟨by rw [divE, hb, he]; rfl, ?_, ?_, ?_, ?_, ?_, ?_, ?_, ?_⟩
  · rw [mulV, both, vq, hy, p1]; exact fp.1
  · rw [mulE, both, vq, hy, p1]; exact fp.2
  · rw [mulV, both, vq, hy, p2]; exact fp.1
  · rw [mulE, both, vq, hy, p2]; exact fp.2
  · rw [addV, both, vp, vr, p3]
    show limbs (fitN (nval xs).toNat) = xs
    rw [fx.1]; exact (nrm_limbs (valid_nrm hx)).symm
  · rw [addE, both, vp, vr, p3]; exact fx.2
  · rw [cmpV, both, vr, hy]
    show cmpI (nval (limbs (remN xs ys))) (nval ys) = -1
    rw [nval_limbs]; exact cmpI_lt (by omega)
  · rw [formE, both, vr, hy]; rfl
/-- Sub undoes Add. -/
theorem undo_facts {xs ys : List Int} (hx : validB xs = true) (hy : validB ys = true) :
    addE xs ys = 2 ∨ (addE xs ys = 0 ∧ subE (limbs (addV xs ys)) ys = 0 ∧ limbs (subV (limbs (addV xs ys)) ys) = xs) := by
  have hb : both xs ys = true := by rw [both, hx, hy]; rfl
  have x0 := nval_nonneg (valid_lok hx)
  have y0 := nval_nonneg (valid_lok hy)
  by_cases h : (nval xs + nval ys).toNat < 1000000000 ^ 48
  · right
    have f := fit_ok h
    have ea : addV xs ys = (nval xs + nval ys).toNat := by rw [addV, hb, if_pos rfl]; exact f.1
    have vt : validB (limbs (addV xs ys)) = true := by rw [ea]; exact valid_limbs h
    have hv : nval (limbs (addV xs ys)) = nval xs + nval ys := by rw [nval_limbs, ea]; omega
    have e1 : (nval xs + nval ys - nval ys).toNat = (nval xs).toNat := by omega
    have fx := fit_ok (valid_lt hx)
    refine ⟨by rw [addE, hb, if_pos rfl]; exact f.2, ?_, ?_⟩
    · rw [subE, both, vt, hy, hv]
      show (if nval xs + nval ys < nval ys then (1 : Int) else fitE (nval xs + nval ys - nval ys).toNat) = 0
      rw [if_neg (by omega), e1]; exact fx.2
    · rw [subV, both, vt, hy, hv]
      show limbs (if nval xs + nval ys < nval ys then 0 else fitN (nval xs + nval ys - nval ys).toNat) = xs
      rw [if_neg (by omega), e1, fx.1]; exact (nrm_limbs (valid_nrm hx)).symm
  · left; rw [addE, hb, if_pos rfl]; exact if_neg h

end Go.Proofs.Ytohfaoclemcfaaa
/- Contracts of digit and DivMod of the reference. -/
namespace Go.Proofs.Ytohfaoclemcfaaa
open Go.ChangeShapes Go.WideShapes Go.RowKit
set_option linter.unusedVariables false
set_option maxRecDepth 100000

theorem refcmp_in (xs ys : List Int) (va vb : Value) (w : World) (ha : In w va xs) (hb : In w vb ys) (hx : nrm xs = true) (hy : nrm ys = true) (hm : xs.length ≤ 1000) (hm2 : ys.length ≤ 1000) :
    Calls Try.prog 79 #[va, vb] w fun e w' => e = .returned (.int .i64 (cmpI (nval xs) (nval ys))) ∧ Below w.heap.size w w' := by
  obtain ⟨A, c, rfl, hc, hm', hA⟩ := ha
  obtain ⟨B, d, rfl, hd, hn, hB⟩ := hb
  exact ref_compare xs ys A B c d _ _ _ _ w hA hB (Nat.le_refl _) (Nat.le_refl _) hx hy (by omega) (by omega)
theorem times_one (ys : List Int) (m : Int) (vb : Value) (w : World) (hb : In w vb ys) (hy : lok ys = true) (hl : ys.length ≤ 1000) (m0 : 0 ≤ m) (m1 : m < 1000000000) :
    Calls Try.prog 64 #[vb, .slice (some ⟨w.heap.size, 0, none⟩) 1 1] (w.alloc (.cells #[.int .i64 m] 3)) fun e w' => ∃ v, e = .returned v ∧ In w' v (limbs (nval ys * m).toNat) ∧ Below w.heap.size w w' := by
  have e : nval [m] = m := by simp [nval]
  have h := ref_times ys [m] vb _ _ (hb.alloc (.cells #[.int .i64 m] 3)) (in_one w 3 m) hy (by simp [lok, m0, m1]) hl (by simp)
  rw [e] at h
  refine h.mono ?_
  rintro e w' ⟨v, rfl, hs, hb'⟩
  exact ⟨v, rfl, hs.toIn, bstep (below_alloc _ _) hb'⟩
theorem cmp_le {x y : Int} (h : x ≤ y) : cmpI x y ≤ 0 := by
  rcases Int.lt_or_eq_of_le h with h | h
  · rw [cmpI_lt h]; decide
  · rw [h, cmpI_eq]; decide
theorem prod_len {ys : List Int} {m : Int} (hy : lok ys = true) (hl : ys.length ≤ 100) (m0 : 0 ≤ m) (m1 : m < 1000000000) : (limbs (nval ys * m).toNat).length ≤ 200 := by
  refine limbs_len_le.mpr ?_
  have a := nval_lt hy
  have a0 := nval_nonneg hy
  have h1 : nval ys * m ≤ nval ys * 1000000000 := Int.mul_le_mul_of_nonneg_left (by omega) a0
  have h2 : (1000000000 : Int) ^ (ys.length + 1) ≤ 1000000000 ^ 200 := pow_le_pow' (by omega)
  rw [Int.pow_succ] at h2
  have h3 : nval ys * m < ((1000000000 ^ 200 : Nat) : Int) := by
    rw [Int.natCast_pow]
    have : ((1000000000 : Nat) : Int) = 1000000000 := rfl
    rw [this]
    refine Int.lt_of_le_of_lt h1 (Int.lt_of_lt_of_le ?_ h2)
    exact Int.mul_lt_mul_of_pos_right a (by decide)
  exact (Int.toNat_lt (Int.mul_nonneg a0 m0)).mpr h3

set_option maxHeartbeats 1600000 in
theorem ref_digit (rs ys : List Int) (va vb : Value) (w : World) (ha : In w va rs) (hb : In w vb ys) (hr : nrm rs = true) (hy : nrm ys = true) (hlr : rs.length ≤ 900) (hly : ys.length ≤ 100) (ypos : 0 < nval ys) (hlt : nval rs < 1000000000 * nval ys) :
    Calls Try.prog 76 #[va, vb] w fun e w' => e = .returned (.int .i64 (nval rs / nval ys)) ∧ Below w.heap.size w w' := by
  have HA := Lib.hid ha
  have HB := Lib.hid hb
  have HR := Lib.hid hr
  have HY := Lib.hid hy
  have YP := Lib.hid ypos
  have q0 : 0 ≤ nval rs / nval ys := Int.ediv_nonneg (nval_nonneg (nrm_lok hr)) (Int.le_of_lt ypos)
  have q1 : nval rs / nval ys < 1000000000 := by rw [Int.ediv_lt_iff_lt_mul ypos]; exact hlt
  obtain ⟨q, hq⟩ : ∃ q, q = nval rs / nval ys := ⟨_, rfl⟩
  rw [← hq] at q0 q1 ⊢
  have HQ := Lib.hid hq
  clear ha hb hr hy ypos hlt hq
  go_enter Try.func76, Try.ntmps76
  go_wp2_with fail
  go_loopw [5, 6] (fun lv hv wr => ∃ lo hi : Int, lv = .int .i64 lo ∧ hv = .int .i64 hi ∧ 0 ≤ lo ∧ lo ≤ q ∧ q ≤ hi ∧ hi ≤ 999999999 ∧ Below w.heap.size w wr) (fun lv hv _ => (intOf hv - intOf lv).toNat)
  case atStart => exact ⟨0, 999999999, rfl, rfl, by omega, q0, by omega, by omega, Below.refl _ _⟩
  case round =>
    obtain ⟨lo, hi, rfl, rfl, l0, l1, h1, h2, hbel⟩ := hrel
    have HBL := Lib.hid hbel
    clear hbel
    rcases Int.lt_or_le lo hi with hlt | hge
    · obtain ⟨m, hm⟩ : ∃ m, m = (lo + hi + 1) / 2 := ⟨_, rfl⟩
      have hmt : (lo + hi + 1).tdiv 2 = m := by rw [Int.tdiv_eq_ediv_of_nonneg (by omega), hm]
      have m0 : 0 ≤ m := by omega
      have m1 : m < 1000000000 := by omega
      have m2 : lo < m := by omega
      have m3 : m ≤ hi := by omega
      have hmul : 0 ≤ nval ys * m := Int.mul_nonneg (Int.le_of_lt YP.out) m0
      have hmq : nval ys * m ≤ nval rs ↔ m ≤ q := by rw [HQ.out, Int.le_ediv_iff_mul_le YP.out, Int.mul_comm]
      have hcm : ∀ v W, In W v (limbs (nval ys * m).toNat) → Below w.heap.size w W → Calls Try.prog 79 #[v, va] W fun e w' => e = .returned (.int .i64 (cmpI (nval ys * m) (nval rs))) ∧ Below W.heap.size W w' := by
        intro v W hv hW
        have h := refcmp_in (limbs (nval ys * m).toNat) rs v va W hv (HA.out.on hW) (nrm_of_limbs _) HR.out (Nat.le_trans (prod_len (nrm_lok HY.out) hly m0 m1) (by omega)) (by omega)
        rw [nval_limbs, Int.toNat_of_nonneg hmul] at h
        exact h
      have HCM := Lib.hid hcm
      have HBB := Lib.hid (HB.out.on HBL.out)
      have HM := Lib.hid hm
      rcases Int.lt_or_le q m with hqm | hqm
      · have hc : decide (cmpI (nval ys * m) (nval rs) ≤ 0) = false := by
          have : nval rs < nval ys * m := by
            rcases Int.lt_or_le (nval rs) (nval ys * m) with h | h
            · exact h
            · have := hmq.mp h; omega
          rw [cmpI_gt this]; rfl
        clear hm hmul hmq hcm
        go_wp2_with fail
        refine (times_one ys m vb wr HBB.out (nrm_lok HY.out) (by omega) m0 m1).mono ?_
        rintro e w1 ⟨v1, rfl, hi1, hb1⟩
        have HI1 := Lib.hid hi1
        have HB1 := Lib.hid (bstep HBL.out hb1)
        clear hi1 hb1
        go_wp2_with fail
        refine (HCM.out v1 w1 HI1.out HB1.out).mono ?_
        rintro e w2 ⟨rfl, hb2⟩
        have HB2 := Lib.hid (bstep HB1.out hb2)
        clear hb2
        go_wp2_with fail
        go_roundw
        case rel => exact ⟨lo, m - 1, rfl, rfl, l0, l1, by omega, by omega, HB2.out⟩
        case measure => simp [intOf]; omega
      · have hc : cmpI (nval ys * m) (nval rs) ≤ 0 := cmp_le (hmq.mpr hqm)
        clear hm hmul hmq hcm
        go_wp2_with fail
        refine (times_one ys m vb wr HBB.out (nrm_lok HY.out) (by omega) m0 m1).mono ?_
        rintro e w1 ⟨v1, rfl, hi1, hb1⟩
        have HI1 := Lib.hid hi1
        have HB1 := Lib.hid (bstep HBL.out hb1)
        clear hi1 hb1
        go_wp2_with fail
        refine (HCM.out v1 w1 HI1.out HB1.out).mono ?_
        rintro e w2 ⟨rfl, hb2⟩
        have HB2 := Lib.hid (bstep HB1.out hb2)
        clear hb2
        go_wp2_with fail
        go_roundw
        case rel => exact ⟨m, hi, rfl, rfl, by omega, hqm, h1, h2, HB2.out⟩
        case measure => simp [intOf]; omega
    · have e : lo = q := by omega
      have HE := Lib.hid e
      have hn : decide (lo < hi) = false := decide_eq_false (by omega)
      clear e
      go_wp2_with fail
      go_ret
      exact ⟨ret_int HE.out, HBL.out⟩

theorem own_lit (w : World) (z : Int) : (w.alloc (.cells #[.int .i64 z] 3)).ownsRow w.heap.size 3 1 (.slice (some ⟨w.heap.size, 0, none⟩) 1 1) ([z] : List Int).length (([z] : List Int).map (Value.int .i64)) :=
  World.ownsRow_lit (base := w.heap.size) (e := 3) (size := 1) w #[.int .i64 z] 1 (Nat.le_refl _) (by unfold maxLen; omega) rfl
/-- The state of the reference's division, t limbs to come. -/
structure RInv (X Y : Int) (Q : List Int) (n : Nat) (xs : List Int) (t : Nat) (r : Nat) : Prop where
  ql : Q.length = n
  qk : lok Q = true
  quo : nval (Q.drop t) = nval (xs.drop t) / Y
  rem : (r : Int) = nval (xs.drop t) % Y
theorem rinv_step {X Y q : Int} {Q xs : List Int} {n a r : Nat} {z : Int} (h : RInv X Y Q n xs (a + 1) r) (hz : xs[a]? = some z) (z0 : 0 ≤ z) (z1 : z < 1000000000) (hk : lok xs = true) (ha : a < n) (yp : 0 < Y)
    (hq : q = (z + 1000000000 * r) / Y) : RInv X Y (Q.set a q) n xs a ((z + 1000000000 * r) % Y).toNat ∧ 0 ≤ q ∧ q < 1000000000 := by
  have r0 : (r : Int) < Y := by rw [h.rem]; exact Int.emod_lt_of_pos _ yp
  have hnn : 0 ≤ z + 1000000000 * (r : Int) := by omega
  have q0 : 0 ≤ q := by rw [hq]; exact Int.ediv_nonneg hnn (Int.le_of_lt yp)
  have q1 : q < 1000000000 := by
    rw [hq, Int.ediv_lt_iff_lt_mul yp]
    have : 1000000000 * ((r : Int) + 1) ≤ 1000000000 * Y := Int.mul_le_mul_of_nonneg_left (by omega) (by omega)
    omega
  have eV : nval (xs.drop a) = (z + 1000000000 * r) + (1000000000 * nval (Q.drop (a + 1))) * Y := by
    rw [nval_drop_step hz]
    have e := Int.emod_add_mul_ediv (nval (xs.drop (a + 1))) Y
    rw [← h.rem, ← h.quo] at e
    rw [← e]
    grind
  have m0 : 0 ≤ (z + 1000000000 * (r : Int)) % Y := Int.emod_nonneg _ (by omega)
  refine ⟨⟨by rw [List.length_set]; exact h.ql, lok_set h.qk _ q0 q1, ?_, ?_⟩, q0, q1⟩
  · rw [nval_drop_step (List.getElem?_set_self (by rw [h.ql]; exact ha)), drop_set_above (by omega), eV, Int.add_mul_ediv_right _ _ (by omega), hq]
  · rw [eV, Int.add_mul_emod_self_right]; omega

/-- The new remainder's list: one limb more, or none. -/
theorem limbs_cons {z : Int} {r : Nat} (z0 : 0 ≤ z) (z1 : z < 1000000000) (h : ¬ (z = 0 ∧ r = 0)) : limbs (z + 1000000000 * r).toNat = z :: limbs r := by
  have e : (z + 1000000000 * (r : Int)).toNat = z.toNat + 1000000000 * r := by omega
  rw [e, limbs_step z0 z1 (by omega)]
theorem last_ne {z : Int} {r : Nat} (z0 : 0 ≤ z) (z1 : z < 1000000000) (h : ¬ (z = 0 ∧ r = 0)) : ∃ y, (z :: limbs r)[(limbs r).length]? = some y ∧ y ≠ 0 := by
  have hn := nrm_of_limbs (z + 1000000000 * r).toNat
  rw [limbs_cons z0 z1 h] at hn
  obtain ⟨y, hy⟩ : ∃ y, (z :: limbs r)[(limbs r).length]? = some y := ⟨_, List.getElem?_eq_getElem (by simp)⟩
  refine ⟨y, hy, ?_⟩
  rintro rfl
  have : (z :: limbs r).getLast? = some 0 := by rw [List.getLast?_eq_getElem?]; simpa using hy
  simp [nrm, this] at hn
end Go.Proofs.Ytohfaoclemcfaaa
/- The contract of DivMod of the reference. -/
namespace Go.Proofs.Ytohfaoclemcfaaa
open Go.ChangeShapes Go.WideShapes Go.RowKit
set_option linter.unusedVariables false
set_option maxRecDepth 100000

def DmIn (w : World) (xs ys : List Int) (e : Ending) (w' : World) : Prop :=
  ∃ vq vr, e = .returned (.tuple #[vq, vr, .int .i64 (divE xs ys)]) ∧ In w' vq (limbs (quoN xs ys)) ∧ In w' vr (limbs (remN xs ys)) ∧ Below w.heap.size w w'
theorem DmIn.none {w w' : World} {xs ys : List Int} {k : Int} {e : Ending} (hq : divOk xs ys = false) (hk : divE xs ys = k) (h : e = .returned (.tuple #[.slice none 0 0, .slice none 0 0, .int .i64 k])) (hb : Below w.heap.size w w') : DmIn w xs ys e w' := by
  subst hk h
  refine ⟨_, _, rfl, ?_, ?_, hb⟩
  · rw [quoN, hq]; exact (by show In _ _ (limbs 0); rw [limbs_zero]; exact In.nil _)
  · rw [remN, hq]; exact (by show In _ _ (limbs 0); rw [limbs_zero]; exact In.nil _)
theorem append_prep {wr w5 : World} {z : Int} {L : List Int} {v' : Value} (hown : w5.ownsRow wr.heap.size 3 1 v' ([z] ++ L).length (([z] ++ L).map (Value.int .i64))) (hgrow : (wr.alloc (.cells #[.int .i64 z] 3)).grownBy w5 (some wr.heap.size)) :
    ∃ g cap, v' = .slice (some ⟨g, 0, none⟩) (L.length + 1) cap ∧ wr.heap.size ≤ g ∧ Row w5 g (z :: L) ∧ In w5 v' (z :: L) ∧ Below wr.heap.size wr w5 := by
  have hin := (sl_of_owns hown).toIn
  rcases row_of_owns hown with ⟨_, h⟩ | ⟨g, cap, h1, h2, h3, h4, h5⟩
  · simp at h
  · refine ⟨g, cap, ?_, h2, h5, hin, (below_alloc _ _).grown hgrow (by simp) (fun k hk => by simp at hk; omega)⟩
    rw [h1]; simp

theorem In.setCell {w : World} {g off n c : Nat} {zs : List Int} (h : In w (.slice (some ⟨g, off, none⟩) n c) zs) {p : Addr} (hp : p.block ≠ g) (u : Value) : In (w.setCell p u) (.slice (some ⟨g, off, none⟩) n c) zs := by
  obtain ⟨A, c', e, h1, h2, h3⟩ := h
  cases e
  refine ⟨_, _, rfl, h1, h2, fun k z hz => ?_⟩
  obtain ⟨b, off', hA, hlo, hhi, hc⟩ := h3 k z hz
  cases hA
  exact ⟨g, off, rfl, ⟨Nat.zero_le _, Or.inl rfl⟩, by simpa [World.setCell] using hhi, (World.cell?_of_block (w := w) (a := ⟨g, off + k, none⟩) (Below.heap_setCell w p u g (fun e => hp e.symm))).trans hc⟩
theorem minus_in {rs ys : List Int} {q : Int} (v v2 : Value) (w : World) (h1 : In w v rs) (h2 : In w v2 (limbs (nval ys * q).toNat)) (hr : lok rs = true) (hl : rs.length ≤ 1000) (hy : validB ys = true) (ypos : 0 < nval ys) (hq : q = nval rs / nval ys) :
    Calls Try.prog 77 #[v, v2] w fun e w' => ∃ v3, e = .returned v3 ∧ In w' v3 (limbs (nval rs % nval ys).toNat) ∧ Below w.heap.size w w' := by
  have r0 := nval_nonneg hr
  have q0 : 0 ≤ q := by rw [hq]; exact Int.ediv_nonneg r0 (Int.le_of_lt ypos)
  have hnn : 0 ≤ nval ys * q := Int.mul_nonneg (Int.le_of_lt ypos) q0
  have hem := Int.emod_add_mul_ediv (nval rs) (nval ys)
  rw [← hq] at hem
  have m0 : 0 ≤ nval rs % nval ys := Int.emod_nonneg _ (by omega)
  have m1 : nval rs % nval ys < nval ys := Int.emod_lt_of_pos _ ypos
  have hv : nval (limbs (nval ys * q).toNat) = nval ys * q := by rw [nval_limbs, Int.toNat_of_nonneg hnn]
  have e : (nval rs - nval ys * q).toNat = (nval rs % nval ys).toNat := by omega
  have hlt : (nval rs - nval ys * q).toNat < 1000000000 ^ 48 := Nat.lt_of_lt_of_le (by omega) (Nat.le_of_lt (valid_lt hy))
  have h := ref_minus rs (limbs (nval ys * q).toNat) v v2 w h1 h2 hr (lok_limbs _) hl (by rw [hv]; omega) (by rw [hv]; exact hlt)
  rw [hv, e] at h
  refine h.mono ?_
  rintro e w' ⟨v3, rfl, hs, hb⟩
  exact ⟨v3, rfl, hs.toIn, hb⟩

set_option maxHeartbeats 6400000 in
theorem refdm_main (xs ys : List Int) (A B : Option Addr) (c d : Nat) (w : World) (ha : In w (.slice A xs.length c) xs) (hb : In w (.slice B ys.length d) ys) (hx : validB xs = true) (hy : validB ys = true) (hp : 0 < ys.length) :
    Calls Try.prog 62 #[.slice A xs.length c, .slice B ys.length d] w (DmIn w xs ys) := by
  have HIA := Lib.hid ha
  have HIB := Lib.hid hb
  obtain ⟨A', c', e, hc, hm, hA⟩ := ha
  cases e
  obtain ⟨B', d', e, hd, hn, hB⟩ := hb
  cases e
  have HA := Lib.hid hA
  have HB := Lib.hid hB
  have hm1 : xs.length ≤ 9223372036854775807 := Nat.le_trans hc hm
  have hm2 : ys.length ≤ 9223372036854775807 := Nat.le_trans hd hn
  have l1 := valid_len hx
  have l2 := valid_len hy
  have HX := Lib.hid hx
  have HY := Lib.hid hy
  have YP := Lib.hid (nval_pos (valid_nrm hy) hp)
  have hne : ((ys.length : Int) == 0) = false := beq_false_of_ne (by omega)
  have hok : divOk xs ys = true := by
    have he : ys.isEmpty = false := by cases ys with
      | nil => simp at hp
      | cons a l => rfl
    rw [divOk, both, hx, hy, he]; rfl
  have hde : divE xs ys = 0 := by
    have he : ys.isEmpty = false := by cases ys with
      | nil => simp at hp
      | cons a l => rfl
    rw [divE, both, hx, hy, he]; rfl
  have HOK := Lib.hid hok
  have HDE := Lib.hid hde
  obtain ⟨i0, hi0, hz0, hz1, hz2⟩ := info_parts info_int
  clear hA hB hm hn hok hde
  go_enter Try.func62, Try.ntmps62
  go_wp2_with fail
  refine (ref_Valid xs A c _ _ w HA.out hm1).mono ?_
  rintro e w' ⟨rfl, rfl⟩
  rw [HX.out]
  go_wp2_with fail
  refine (ref_Valid ys B d _ _ _ HB.out hm2).mono ?_
  rintro e w' ⟨rfl, rfl⟩
  rw [HY.out]
  clear hx hy
  go_wp2_with (first
    | (at_make; refine wpList_make_full _ rfl _ _ 25 rfl w.heap.size 3 i0 (.int .i64 0) 1 Try.underlying25 hi0 hz0 hz1 .i64 .i64 _ _ xs.length rfl rfl rfl rfl (by rw [hz2]; omega) (by unfold maxLen; omega) (Nat.le_refl _) ?_; intro w1 hown hgrow; refine Hid.out ?_)
    | fail)
  refine Lib.hid ?_
  have HR0 := Lib.hid (show Row w1 w.heap.size (List.replicate xs.length 0) from row_of_heap (heap_of_made hown))
  have HB0 := Lib.hid (show Below w.heap.size w w1 from (Below.refl _ _).grown hgrow (Nat.le_refl _) (fun k hk => by cases hk))
  clear hown hgrow
  go_wp2_with fail
  go_loopw [8, 9] (fun rv iv wr => ∃ (k r : Nat) (Q : List Int), k ≤ xs.length ∧ iv = .int .i64 ((xs.length : Int) - 1 - k) ∧ In wr rv (limbs r) ∧ RInv (nval xs) (nval ys) Q xs.length xs (xs.length - k) r ∧ Row wr w.heap.size Q ∧ Below w.heap.size w wr) (fun _ iv _ => (intOf iv + 1).toNat)
  case atStart => exact ⟨0, 0, _, Nat.zero_le _, by simp, by rw [limbs_zero]; exact In.nil _, ⟨by simp, lok_zeros _, by simp [nval], by simp [nval]⟩, HR0.out, HB0.out⟩
  case round =>
    obtain ⟨k, r, Q, hk, rfl, hin, hinv, hrow, hbel⟩ := hrel
    have HI := Lib.hid hinv
    have HR := Lib.hid hrow
    have HBL := Lib.hid hbel
    have hql := hinv.ql
    rcases Nat.lt_or_ge k xs.length with hlt | hge
    · have HIN := Lib.hid hin
      obtain ⟨Ar, cr, rfl, hcr, hmr, hAr⟩ := hin
      obtain ⟨a, hae⟩ : ∃ a, a = xs.length - 1 - k := ⟨_, rfl⟩
      obtain ⟨z, hz⟩ : ∃ z, xs[a]? = some z := ⟨_, List.getElem?_eq_getElem (by omega)⟩
      obtain ⟨b, off, hA2, _, _, hcell⟩ := (HA.out.below HBL.out (Nat.le_refl _)) a z hz
      have zb := lok_at (valid_lok HX.out) hz
      have ea : xs.length - k = a + 1 := by omega
      rw [ea] at hinv
      have hr1 : (r : Int) < nval ys := by rw [hinv.rem]; exact Int.emod_lt_of_pos _ YP.out
      have hrl : (limbs r).length ≤ 48 := limbs_len_le.mpr (Nat.lt_of_le_of_lt (by omega) (valid_lt HY.out))
      obtain ⟨z0, z1⟩ := zb
      have hnn : 0 ≤ z + 1000000000 * (r : Int) := by omega
      obtain ⟨q, hq⟩ : ∃ q, q = (z + 1000000000 * (r : Int)) / nval ys := ⟨_, rfl⟩
      have hst := rinv_step hinv hz z0 z1 (valid_lok HX.out) (by omega) YP.out hq
      have hnv : nval (z :: limbs r) = z + 1000000000 * (r : Int) := by rw [nval, nval_limbs]
      have hlt2 : z + 1000000000 * (r : Int) < 1000000000 * nval ys := by
        have : 1000000000 * ((r : Int) + 1) ≤ 1000000000 * nval ys := Int.mul_le_mul_of_nonneg_left (by omega) (by omega)
        omega
      have e1 : (xs.length : Int) - 1 - k = (a : Int) := by omega
      have hal : a < xs.length := by omega
      obtain ⟨qv, hqv⟩ : ∃ qv, qv = Q.getD a 0 := ⟨_, rfl⟩
      have HQV := Lib.hid hqv
      have HQL := Lib.hid hql
      have HE := Lib.hid hae
      have HST := Lib.hid hst.1
      have q0 := hst.2.1
      have q1 := hst.2.2
      have HQ := Lib.hid hq
      have HNV := Lib.hid hnv
      have HLT := Lib.hid hlt2
      have HRL := Lib.hid hrl
      have HOL := Lib.hid (own_lit wr z)
      have HAL := Lib.hid (Holds.below hAr (below_alloc wr (.cells #[.int .i64 z] 3)) (Nat.le_refl _))
      have HLEN := Lib.hid (show ([z] : List Int).length + (limbs r).length ≤ 1000000 by simp; omega)
      rw [e1]
      subst hA2
      clear hae hz ea hinv hst hnv hlt2 hAr hrow hbel hql hq hqv hmr e1
      go_wp2_with (first
        | (at_builtin; refine append_holds rfl (.tmp 36) (.tmp 37) rfl wr.heap.size _ [z] rfl HOL.out 0 wr.heap.size Ar cr (limbs r) _ rfl rfl HAL.out HLEN.out (by simp) ?_; intro v' w5 hown hgrow; refine Hid.out ?_)
        | fail)
      refine Lib.hid ?_
      obtain ⟨g5, cap5, rfl, hg5, hrow5, hin5, hb5⟩ := append_prep hown hgrow
      have hR5 := HR.out.below hb5 HR.out.lt
      have HB5 := Lib.hid (bstep HBL.out hb5)
      by_cases hzz : z = 0 ∧ r = 0
      · obtain ⟨rfl, rfl⟩ := hzz
        have hl0 : limbs 0 = [] := limbs_zero
        have hcl := hrow5.cell (i := (limbs 0).length) (z := 0) (by rw [hl0]; rfl)
        have HR5 := Lib.hid hR5
        have hq0 : q = 0 := by rw [HQ.out]; simp
        subst hq0
        have hm0 : ((0 + 1000000000 * ((0 : Nat) : Int)) % nval ys).toNat = 0 := by simp
        have HM0 := Lib.hid hm0
        clear hl0 hown hgrow hrow5 hin5 hb5 hR5 hm0
        go_wp2_with fail
        refine (ref_digit [] ys _ _ w5 (In.nil w5) (HIB.out.on HB5.out) rfl (valid_nrm HY.out) (by simp) (by omega) YP.out (by have := YP.out; simp [nval]; omega)).mono ?_
        rintro e w6 ⟨rfl, hb6⟩
        rw [show nval [] / nval ys = 0 from by simp [nval]]
        have hR6 := HR5.out.below hb6 HR5.out.lt
        have hcq := hR6.cell (i := a) (z := qv) (by rw [HQV.out, List.getD_eq_getElem?_getD, List.getElem?_eq_getElem (by rw [HQL.out]; exact hal)]; rfl)
        have hfr := hR6.frozen a
        have HR7 := Lib.hid (hR6.store a 0)
        have HB7 := Lib.hid ((bstep HB5.out hb6).setCell (p := ⟨w.heap.size, a, none⟩) (Nat.le_refl _) (.int .i64 0))
        clear hR6 hb6 hcl
        go_wp2_with fail
        go_roundw
        case rel =>
          have e2 : xs.length - (k + 1) = a := by have := HE.out; omega
          have h := HST.out
          rw [HM0.out] at h
          refine ⟨k + 1, 0, _, by omega, ?_, by rw [limbs_zero]; exact In.nil _, by rw [e2]; exact h, HR7.out, HB7.out⟩
          have := HE.out; go_num
        case measure => simp [intOf] <;> omega
      · obtain ⟨y, hy1, hy0⟩ := last_ne z0 z1 hzz
        have hcl := hrow5.cell hy1
        have hy2 : (y == 0) = false := by simpa using hy0
        have hlc := limbs_cons z0 z1 hzz
        have hnr : nrm (z :: limbs r) = true := by rw [← hlc]; exact nrm_of_limbs _
        have hdg := ref_digit (z :: limbs r) ys _ _ w5 hin5 (HIB.out.on HB5.out) hnr (valid_nrm HY.out) (by simp; omega) (by omega) YP.out (by rw [HNV.out]; exact HLT.out)
        rw [HNV.out, ← HQ.out] at hdg
        have HDG := Lib.hid hdg
        have HR5 := Lib.hid hR5
        have HIN5 := Lib.hid hin5
        have HLC := Lib.hid hlc
        clear hown hgrow hrow5 hin5 hb5 hR5 hy1 hy0 hzz hlc hnr hdg
        go_wp2_with fail
        refine HDG.out.mono ?_
        rintro e w6 ⟨rfl, hb6⟩
        have hR6 := HR5.out.below hb6 HR5.out.lt
        have hin6 := HIN5.out.on hb6
        have hcq := hR6.cell (i := a) (z := qv) (by rw [HQV.out, List.getD_eq_getElem?_getD, List.getElem?_eq_getElem (by rw [HQL.out]; exact hal)]; rfl)
        have hfr := hR6.frozen a
        have HR7 := Lib.hid (hR6.store a q)
        have hb67 : Below w6.heap.size w6 w6 := Below.refl _ _
        have HB7 := Lib.hid ((bstep HB5.out hb6).setCell (p := ⟨w.heap.size, a, none⟩) (Nat.le_refl _) (.int .i64 q))
        have hne5 : g5 ≠ w.heap.size := by have := HR.out.lt; omega
        have HIN7 := Lib.hid (hin6.setCell (p := ⟨w.heap.size, a, none⟩) (by show w.heap.size ≠ g5; omega) (.int .i64 q))
        have e2 : xs.length - (k + 1) = a := by have := HE.out; omega
        have E2 := Lib.hid e2
        have hse : (w6.setCell ⟨w.heap.size, a, none⟩ (.int .i64 q)).heap.size = w6.heap.size := by simp [World.setCell]
        have hto := times_one ys q (.slice B ys.length d) _ (HIB.out.on HB7.out) (valid_lok HY.out) (by omega) q0 q1
        rw [hse] at hto
        have HTO := Lib.hid hto
        have HSE := Lib.hid hse
        clear hR6 hb6 hin6 hcl hb67 hne5 e2 hse hto
        by_cases hqp : 0 < q
        · go_wp2_with fail
          refine HTO.out.mono ?_
          rintro e w8 ⟨v8, rfl, hi8, hb8⟩
          have hb8' : Below (w6.setCell ⟨w.heap.size, a, none⟩ (.int .i64 q)).heap.size (w6.setCell ⟨w.heap.size, a, none⟩ (.int .i64 q)) w8 := by rw [HSE.out]; exact hb8
          have HI8 := Lib.hid hi8
          have HB8 := Lib.hid (bstep HB7.out hb8')
          have HIN8 := Lib.hid (HIN7.out.on hb8')
          have HR8 := Lib.hid (HR7.out.below hb8' HR7.out.lt)
          clear hi8 hb8 hb8'
          go_wp2_with fail
          refine (minus_in _ _ w8 HIN8.out HI8.out (nrm_lok (by rw [← HLC.out]; exact nrm_of_limbs _)) (by simp; omega) HY.out YP.out (by rw [HNV.out]; exact HQ.out)).mono ?_
          rintro e w9 ⟨v9, rfl, hi9, hb9⟩
          rw [HNV.out] at hi9
          have HI9 := Lib.hid hi9
          have HB9 := Lib.hid (bstep HB8.out hb9)
          have HR9 := Lib.hid (HR8.out.below hb9 HR8.out.lt)
          clear hi9 hb9
          go_wp2_with fail
          go_roundw
          case rel =>
            refine ⟨k + 1, _, _, by omega, ?_, HI9.out, by rw [E2.out]; exact HST.out, HR9.out, HB9.out⟩
            have := HE.out; go_num
          case measure => simp [intOf] <;> omega
        · have hq0 : q = 0 := by omega
          have hqn : decide (0 < q) = false := decide_eq_false hqp
          have hmod : (z + 1000000000 * (r : Int)) % nval ys = z + 1000000000 * (r : Int) := by
            have hem := Int.emod_add_mul_ediv (z + 1000000000 * (r : Int)) (nval ys)
            rw [← HQ.out, hq0] at hem
            omega
          have HMOD := Lib.hid hmod
          clear hq0 hqp hmod
          go_wp2_with fail
          go_roundw
          case rel =>
            refine ⟨k + 1, ((z + 1000000000 * (r : Int)) % nval ys).toNat, _, by omega, ?_, by rw [HMOD.out, HLC.out]; exact HIN7.out, by rw [E2.out]; exact HST.out, HR7.out, HB7.out⟩
            have := HE.out; go_num
          case measure => simp [intOf] <;> omega
    · obtain rfl : k = xs.length := by omega
      rw [Nat.sub_self] at hinv
      have hv := hinv.quo
      have hrm := hinv.rem
      have hqk := hinv.qk
      rw [List.drop_zero, List.drop_zero] at hv
      rw [List.drop_zero] at hrm
      have x0 := nval_nonneg (valid_lok HX.out)
      have y0 := YP.out
      have ex : nval xs = ((nval xs).toNat : Int) := by omega
      have ey : nval ys = ((nval ys).toNat : Int) := by omega
      have eq : (nval Q).toNat = quoN xs ys := by
        rw [hv, quoN, HOK.out, if_pos rfl]
        conv => lhs; rw [ex, ey]
        exact Int.toNat_natCast _
      have er : r = remN xs ys := by
        rw [remN, HOK.out, if_pos rfl]
        rw [ex, ey] at hrm
        exact Int.ofNat.inj hrm
      have hfit : quoN xs ys < 1000000000 ^ 48 := by
        rw [quoN, HOK.out, if_pos rfl]
        exact Nat.lt_of_le_of_lt (Nat.div_le_self _ _) (valid_lt HX.out)
      have hqin : In wr (.slice (some ⟨w.heap.size, 0, none⟩) xs.length xs.length) Q := by
        refine ⟨_, _, by rw [hql], by omega, by unfold maxLen; omega, hrow.holds (fun k z hz => by rw [Nat.zero_add]; exact hz) (Nat.zero_le _) hrow.lt⟩
      have hft := ref_fit Q _ wr hqin hqk (by omega)
      rw [eq, (fit_ok hfit).1, (fit_ok hfit).2] at hft
      have HFT := Lib.hid hft
      rw [er] at hin
      have HIN := Lib.hid hin
      have e0 : (xs.length : Int) - 1 - xs.length = -1 := by omega
      rw [e0]
      clear hinv hv hrm hqk x0 y0 ex ey eq er hfit hqin hft hin hrow hbel hql e0
      go_wp2_with fail
      refine HFT.out.mono ?_
      rintro e w8 hr8
      obtain ⟨v8, rfl, hi8, hb8⟩ := res_open hr8
      have HI8 := Lib.hid hi8
      have HIN8 := Lib.hid (HIN.out.on hb8)
      have HB8 := Lib.hid (bstep HBL.out hb8)
      clear hr8 hi8 hb8
      go_wp2_with fail
      go_ret3
      exact ⟨_, _, by rw [HDE.out]; rfl, HI8.out, HIN8.out, HB8.out⟩
end Go.Proofs.Ytohfaoclemcfaaa
/- The contract of DivMod of the reference, for every input; the walk of NatQuotients. -/
namespace Go.Proofs.Ytohfaoclemcfaaa
open Go.ChangeShapes Go.WideShapes Go.RowKit
set_option linter.unusedVariables false
set_option maxRecDepth 100000

set_option maxHeartbeats 1600000 in
theorem ref_DivMod (xs ys : List Int) (va vb : Value) (w : World) (ha : In w va xs) (hb : In w vb ys) :
    Calls Try.prog 62 #[va, vb] w (DmIn w xs ys) := by
  obtain ⟨A, c, rfl, hc, hm, hA⟩ := ha
  obtain ⟨B, d, rfl, hd, hn, hB⟩ := hb
  have HIA := Lib.hid (show In w (.slice A xs.length c) xs from ⟨A, c, rfl, hc, hm, hA⟩)
  have HIB := Lib.hid (show In w (.slice B ys.length d) ys from ⟨B, d, rfl, hd, hn, hB⟩)
  have HA := Lib.hid hA
  have HB := Lib.hid hB
  have hm1 : xs.length ≤ 9223372036854775807 := Nat.le_trans hc hm
  have hm2 : ys.length ≤ 9223372036854775807 := Nat.le_trans hd hn
  clear hA hB hm hn
  rcases both_cases xs ys with ⟨hx, hbo⟩ | ⟨hx, hy, hbo⟩ | ⟨hx, hy, hbo⟩
  · have HBO := Lib.hid hbo
    clear hbo
    go_enter Try.func62, Try.ntmps62
    go_wp2_with fail
    refine (ref_Valid xs A c _ _ w HA.out hm1).mono ?_
    rintro e w' ⟨rfl, rfl⟩
    go_wp2_with fail
    go_ret3
    exact DmIn.none (by rw [divOk, HBO.out]; rfl) (by rw [divE, HBO.out]; rfl) rfl (Below.refl _ _)
  · have HBO := Lib.hid hbo
    clear hbo
    go_enter Try.func62, Try.ntmps62
    go_wp2_with fail
    refine (ref_Valid xs A c _ _ w HA.out hm1).mono ?_
    rintro e w' ⟨rfl, rfl⟩
    go_wp2_with fail
    refine (ref_Valid ys B d _ _ _ HB.out hm2).mono ?_
    rintro e w' ⟨rfl, rfl⟩
    go_wp2_with fail
    go_ret3
    exact DmIn.none (by rw [divOk, HBO.out]; rfl) (by rw [divE, HBO.out]; rfl) rfl (Below.refl _ _)
  · rcases Nat.eq_zero_or_pos ys.length with h0 | hp
    · have HBO := Lib.hid hbo
      have hn : ys = [] := List.eq_nil_of_length_eq_zero h0
      subst hn
      clear hbo
      go_enter Try.func62, Try.ntmps62
      go_wp2_with fail
      refine (ref_Valid xs A c _ _ w HA.out hm1).mono ?_
      rintro e w' ⟨rfl, rfl⟩
      go_wp2_with fail
      refine (ref_Valid [] B d _ _ _ HB.out hm2).mono ?_
      rintro e w' ⟨rfl, rfl⟩
      go_wp2_with fail
      go_ret3
      exact DmIn.none (by rw [divOk, HBO.out]; rfl) (by rw [divE, HBO.out]; rfl) rfl (Below.refl _ _)
    · exact refdm_main xs ys A B c d w HIA.out HIB.out hx hy hp

end Go.Proofs.Ytohfaoclemcfaaa
/- Lehmer's steps: the arithmetic. No walk. -/
namespace Go.Proofs.Ytohfaoclemcfaaa
open Go.ChangeShapes Go.WideShapes Go.RowKit
set_option linter.unusedVariables false
set_option maxRecDepth 100000

/-- The steps of Euclid's algorithm that two leading limbs foresee: (a, b; c, d) from (X, Y); u, v: what the leading limbs have become. -/
structure LInv (u0 v0 X Y : Int) (a b c d u v : Int) : Prop where
  eu : u = a * u0 + b * v0
  ev : v = c * u0 + d * v0
  sg : (a * d - b * c = 1 ∧ 0 ≤ a ∧ b ≤ 0 ∧ c ≤ 0 ∧ 0 ≤ d) ∨ (a * d - b * c = -1 ∧ a ≤ 0 ∧ 0 ≤ b ∧ 0 ≤ c ∧ d ≤ 0)
  bd : -1000000000 < a ∧ a < 1000000000 ∧ -1000000000 < b ∧ b < 1000000000 ∧ -1000000000 < c ∧ c < 1000000000 ∧ -1000000000 < d ∧ d < 1000000000
  nn : 0 ≤ u ∧ 0 ≤ v
  gc : Int.gcd (a * X + b * Y) (c * X + d * Y) = Int.gcd X Y
  st : (a = 1 ∧ b = 0 ∧ c = 0 ∧ d = 1) ∨ (1000000000 ≤ u ∧ v < u ∧ 0 ≤ c * X + d * Y ∧ c * X + d * Y < a * X + b * Y ∧ a * X + b * Y ≤ Y)
theorem linv_start {u0 v0 X Y : Int} (hu : 0 ≤ u0) (hv : 0 ≤ v0) : LInv u0 v0 X Y 1 0 0 1 u0 v0 :=
  ⟨by omega, by omega, Or.inl ⟨by omega, by omega, by omega, by omega, by omega⟩, by omega, ⟨hu, hv⟩, by simp, Or.inl ⟨rfl, rfl, rfl, rfl⟩⟩
theorem quo_le {x y m m' : Int} (hx : 0 ≤ x) (hxy : x ≤ y) (hm : 0 < m') (hmm : m' ≤ m) : x / m ≤ y / m' := by
  rw [Int.le_ediv_iff_mul_le hm]
  have h1 : x / m * m ≤ x := Int.ediv_mul_le _ (by omega)
  have h0 : 0 ≤ x / m := Int.ediv_nonneg hx (by omega)
  have h2 : x / m * m' ≤ x / m * m := Int.mul_le_mul_of_nonneg_left hmm h0
  omega
/-- The test: then it is the quotient of u and v. -/
theorem linv_quo {u0 v0 X Y a b c d u v q : Int} (h : LInv u0 v0 X Y a b c d u v) (hv : 1000000000 ≤ v) (h1 : q = (u + a) / (v + c)) (h2 : q = (u + b) / (v + d)) : q = u / v ∧ 0 ≤ q := by
  have bd := h.bd
  have nn := h.nn
  have hub : 0 ≤ u + b ∧ 0 ≤ u + a := by
    rcases h.st with ⟨rfl, rfl, rfl, rfl⟩ | st
    · omega
    · omega
  rcases h.sg with sg | sg
  · have e1 : (u + b) / (v + d) ≤ u / v := quo_le hub.1 (by omega) (by omega) (by omega)
    have e2 : u / v ≤ (u + a) / (v + c) := quo_le nn.1 (by omega) (by omega) (by omega)
    have e3 : 0 ≤ u / v := Int.ediv_nonneg nn.1 nn.2
    omega
  · have e1 : (u + a) / (v + c) ≤ u / v := quo_le hub.2 (by omega) (by omega) (by omega)
    have e2 : u / v ≤ (u + b) / (v + d) := quo_le nn.1 (by omega) (by omega) (by omega)
    have e3 : 0 ≤ u / v := Int.ediv_nonneg nn.1 nn.2
    omega
theorem le_mul {a x K : Int} (ha : 0 ≤ a) (hx : x ≤ K) : a * x ≤ a * K := Int.mul_le_mul_of_nonneg_left hx ha
theorem le_mul_neg {a x K : Int} (ha : a ≤ 0) (hx : x ≤ K) : a * K ≤ a * x := by
  have := Int.mul_le_mul_of_nonneg_left hx (show 0 ≤ -a by omega)
  rw [Int.neg_mul, Int.neg_mul] at this; omega
theorem nn_mul_neg {a x : Int} (ha : a ≤ 0) (hx : 0 ≤ x) : a * x ≤ 0 := by
  have := Int.mul_nonneg (show 0 ≤ -a by omega) hx
  rw [Int.neg_mul] at this; omega
/-- What q * Y' <= X' < (q + 1) * Y' is shown from. -/
theorem true_quo {K L1 M1 L2 M2 Xc Yc q : Int} (hK : 0 < K) (q0 : 0 ≤ q) (hX1 : K * L1 ≤ Xc) (hX2 : Xc ≤ K * M1) (hY1 : K * L2 ≤ Yc) (hY2 : Yc ≤ K * M2) (hq1 : q * M2 ≤ L1) (hq2 : M1 < (q + 1) * L2) :
    0 ≤ Xc - q * Yc ∧ Xc - q * Yc < Yc := by
  have a1 : q * Yc ≤ q * (K * M2) := Int.mul_le_mul_of_nonneg_left hY2 q0
  have a2 : K * (q * M2) ≤ K * L1 := Int.mul_le_mul_of_nonneg_left hq1 (Int.le_of_lt hK)
  have e1 : q * (K * M2) = K * (q * M2) := by rw [Int.mul_left_comm]
  have b1 : (q + 1) * (K * L2) ≤ (q + 1) * Yc := Int.mul_le_mul_of_nonneg_left hY1 (by omega)
  have b2 : K * M1 < K * ((q + 1) * L2) := Int.mul_lt_mul_of_pos_left hq2 hK
  have e2 : (q + 1) * (K * L2) = K * ((q + 1) * L2) := by rw [Int.mul_left_comm]
  have e3 : (q + 1) * Yc = q * Yc + Yc := by rw [Int.add_mul, Int.one_mul]
  omega
theorem lt_succ_mul {x m q : Int} (hm : 0 < m) (h : q = x / m) : x < (q + 1) * m := by
  have h1 := Int.emod_add_mul_ediv x m
  have h2 := Int.emod_lt_of_pos x hm
  rw [← h] at h1
  rw [Int.add_mul, Int.one_mul, Int.mul_comm q m]; omega
theorem mul_le_of_quo {x m q : Int} (hm : 0 < m) (h : q = x / m) : q * m ≤ x := by rw [h]; exact Int.ediv_mul_le _ (by omega)
theorem linv_step {u0 v0 X Y x0 y0 K a b c d u v q : Int} (h : LInv u0 v0 X Y a b c d u v) (hv : 1000000000 ≤ v) (h1 : q = (u + a) / (v + c)) (h2 : q = (u + b) / (v + d))
    (hX : X = K * u0 + x0) (hY : Y = K * v0 + y0) (hK : 0 < K) (x00 : 0 ≤ x0) (x01 : x0 ≤ K) (y00 : 0 ≤ y0) (y01 : y0 ≤ K) (hu0 : u0 < 1000000000000000000) (hv0 : v0 < 1000000000000000000) :
    LInv u0 v0 X Y c d (a - q * c) (b - q * d) v (u - q * v) := by
  obtain ⟨hq, q0⟩ := linv_quo h hv h1 h2
  have bd := h.bd
  have nn := h.nn
  have vp : 0 < v := by omega
  have hlo := mul_le_of_quo vp hq
  have hhi := lt_succ_mul vp hq
  rw [Int.add_mul, Int.one_mul] at hhi
  have eXc : a * X + b * Y = K * u + (a * x0 + b * y0) := by rw [hX, hY, h.eu]; grind
  have eYc : c * X + d * Y = K * v + (c * x0 + d * y0) := by rw [hX, hY, h.ev]; grind
  have eN : (a - q * c) * X + (b - q * d) * Y = (a * X + b * Y) - q * (c * X + d * Y) := by grind
  have htrue : 0 ≤ (a * X + b * Y) - q * (c * X + d * Y) ∧ (a * X + b * Y) - q * (c * X + d * Y) < c * X + d * Y := by
    rcases h.sg with ⟨_, s1, s2, s3, s4⟩ | ⟨_, s1, s2, s3, s4⟩
    · refine true_quo (K := K) (L1 := u + b) (M1 := u + a) (L2 := v + c) (M2 := v + d) hK q0 ?_ ?_ ?_ ?_ (mul_le_of_quo (by omega) h2) (lt_succ_mul (by omega) h1)
      · rw [eXc, Int.mul_add, Int.mul_comm K b]
        have := Int.mul_nonneg s1 x00
        have := le_mul_neg s2 y01
        omega
      · rw [eXc, Int.mul_add, Int.mul_comm K a]
        have := le_mul s1 x01
        have := nn_mul_neg s2 y00
        omega
      · rw [eYc, Int.mul_add, Int.mul_comm K c]
        have := le_mul_neg s3 x01
        have := Int.mul_nonneg s4 y00
        omega
      · rw [eYc, Int.mul_add, Int.mul_comm K d]
        have := nn_mul_neg s3 x00
        have := le_mul s4 y01
        omega
    · refine true_quo (K := K) (L1 := u + a) (M1 := u + b) (L2 := v + d) (M2 := v + c) hK q0 ?_ ?_ ?_ ?_ (mul_le_of_quo (by omega) h1) (lt_succ_mul (by omega) h2)
      · rw [eXc, Int.mul_add, Int.mul_comm K a]
        have := le_mul_neg s1 x01
        have := Int.mul_nonneg s2 y00
        omega
      · rw [eXc, Int.mul_add, Int.mul_comm K b]
        have := nn_mul_neg s1 x00
        have := le_mul s2 y01
        omega
      · rw [eYc, Int.mul_add, Int.mul_comm K d]
        have := Int.mul_nonneg s3 x00
        have := le_mul_neg s4 y01
        omega
      · rw [eYc, Int.mul_add, Int.mul_comm K c]
        have := le_mul s3 x01
        have := nn_mul_neg s4 y00
        omega
  have hYle : c * X + d * Y ≤ Y := by
    rcases h.st with ⟨rfl, rfl, rfl, rfl⟩ | st
    · omega
    · omega
  have eu' : v = c * u0 + d * v0 := h.ev
  have ev' : u - q * v = (a - q * c) * u0 + (b - q * d) * v0 := by
    have := h.eu
    rw [this, eu']; grind
  -- the new factors are less than Limb
  have e3 : (b - q * d) * v - d * (u - q * v) = b * v - d * u := by grind
  have e4 : c * (u - q * v) - (a - q * c) * v = c * u - a * v := by grind
  have f1 : d * u - b * v = (a * d - b * c) * u0 := by rw [h.eu, h.ev]; grind
  have f2 : a * v - c * u = (a * d - b * c) * v0 := by rw [h.eu, h.ev]; grind
  have w0 : 0 ≤ u - q * v := by omega
  have w1 : u - q * v < v := by omega
  obtain ⟨C, hC⟩ : ∃ C, C = a - q * c := ⟨_, rfl⟩
  obtain ⟨D, hD⟩ : ∃ D, D = b - q * d := ⟨_, rfl⟩
  obtain ⟨V, hV⟩ : ∃ V, V = u - q * v := ⟨_, rfl⟩
  rw [← hC] at e4 eN ev'
  rw [← hD] at e3 eN ev'
  rw [← hV] at e3 e4 ev' w0 w1
  rw [← hC, ← hD, ← hV]
  have sgn : (c * D - d * C = 1 ∧ 0 ≤ c ∧ d ≤ 0 ∧ C ≤ 0 ∧ 0 ≤ D) ∨ (c * D - d * C = -1 ∧ c ≤ 0 ∧ 0 ≤ d ∧ 0 ≤ C ∧ D ≤ 0) := by
    have ed : c * D - d * C = -(a * d - b * c) := by rw [hC, hD]; grind
    rcases h.sg with ⟨s0, s1, s2, s3, s4⟩ | ⟨s0, s1, s2, s3, s4⟩
    · right
      have m1 := nn_mul_neg s3 q0
      have m2 := Int.mul_nonneg s4 q0
      refine ⟨by rw [ed, s0], s3, s4, ?_, ?_⟩
      · rw [hC, Int.mul_comm q c]; omega
      · rw [hD, Int.mul_comm q d]; omega
    · left
      have m1 := Int.mul_nonneg s3 q0
      have m2 := nn_mul_neg s4 q0
      refine ⟨by rw [ed, s0]; rfl, s3, s4, ?_, ?_⟩
      · rw [hC, Int.mul_comm q c]; omega
      · rw [hD, Int.mul_comm q d]; omega
  have bdn : -1000000000 < C ∧ C < 1000000000 ∧ -1000000000 < D ∧ D < 1000000000 := by
    have big : ∀ t : Int, 1000000000 ≤ t → 1000000000 * v ≤ t * v := fun t ht => Int.mul_le_mul_of_nonneg_right ht (by omega)
    rcases sgn with ⟨s0, s1, s2, s3, s4⟩ | ⟨s0, s1, s2, s3, s4⟩
    · -- pattern 1: D * v - d * V = u0, c * V - C * v = v0
      have k0 : a * d - b * c = -1 := by
        have : c * D - d * C = -(a * d - b * c) := by rw [hC, hD]; grind
        omega
      rw [k0] at f1 f2
      have m1 := nn_mul_neg s2 w0
      have m2 := Int.mul_nonneg s1 w0
      have hD2 : D < 1000000000 := by
        rcases Int.lt_or_le D 1000000000 with h | h
        · exact h
        · have := big D h; omega
      have hC2 : -1000000000 < C := by
        rcases Int.lt_or_le (-1000000000) C with h | h
        · exact h
        · have := big (-C) (by omega); rw [Int.neg_mul] at this; omega
      omega
    · have k0 : a * d - b * c = 1 := by
        have : c * D - d * C = -(a * d - b * c) := by rw [hC, hD]; grind
        omega
      rw [k0] at f1 f2
      have m1 := Int.mul_nonneg s2 w0
      have m2 := nn_mul_neg s1 w0
      have hC2 : C < 1000000000 := by
        rcases Int.lt_or_le C 1000000000 with h | h
        · exact h
        · have := big C h; omega
      have hD2 : -1000000000 < D := by
        rcases Int.lt_or_le (-1000000000) D with h | h
        · exact h
        · have := big (-D) (by omega); rw [Int.neg_mul] at this; omega
      omega
  refine ⟨eu', ev', sgn, by omega, ⟨by omega, w0⟩, ?_, Or.inr ⟨hv, w1, by rw [eN]; exact htrue.1, by rw [eN]; exact htrue.2, hYle⟩⟩
  rw [eN, Int.gcd_sub_mul_right_right, Int.gcd_comm]; exact h.gc
end Go.Proofs.Ytohfaoclemcfaaa
