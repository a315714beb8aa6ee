/- more of the reference: a run is added to a normal form. -/
import Derived.Test.YtnblpooimgpgoaaIsoT
import Derived.Test.YtnblpooimgpgoaaIsoP
import Derived.Deep.LoopGhost
import Derived.Deep.Cut
import Derived.Deep.CutRange
namespace Go.Proofs.Ytnblpooimgpgoaa.Iso
open Go.ChangeShapes Go.WideShapes Go.RowKit Go.Lib Go.Proofs.Ytnblpooimgpgoaa.Rw
set_option linter.unusedVariables false
set_option maxRecDepth 100000

/-- What more has done: the runs M, and a run that is left. -/
structure Mor (X : List Int) (N : Nat) (M : List Rn) (r : Rn) : Prop where
  nf : NF M
  gd : gd r = true
  ex : ex M ++ exR r = X
  len : M.length = N
theorem Mor.el {X : List Int} {N : Nat} {M : List Rn} {r : Rn} (h : Mor X N M r) (hX : ∀ x ∈ X, 0 ≤ x ∧ x < ml) (hl : (X.length : Int) ≤ 1125899906842624) {c : Rn} (hc : c ∈ M) : 0 ≤ c.1 ∧ c.1 < ml ∧ 1 ≤ c.2.1 ∧ c.2.1 ≤ 1125899906842624 := by
  have hM : M = nfL (Iso.ex M) := nfL_one h.nf rfl
  have hs : ∀ x ∈ Iso.ex M, x ∈ X := fun x hx => by rw [← h.ex]; exact List.mem_append_left _ hx
  have hl2 : (Iso.ex M).length ≤ X.length := by rw [← h.ex, List.length_append]; omega
  rw [hM] at hc
  exact nf_range (fun x hx => hX x (hs x hx)) (by omega) hc
theorem Mor.done_nil {X : List Int} {N : Nat} {r : Rn} (h : Mor X N [] r) : [nrmR r] = nfL X := by
  have := more_first (gd_pos h.gd)
  exact nfL_one this.1 (by rw [this.2, ← h.ex]; rfl)
theorem Mor.done_end {X : List Int} {N : Nat} {p : List Rn} {c r : Rn} (h : Mor X N (p ++ [c]) r) (hn : can c r.1 = false) : (p ++ [c]) ++ [nrmR r] = nfL X := by
  have := more_end h.nf (gd_pos h.gd) hn
  rw [List.append_assoc]
  exact nfL_one this.1 (by rw [show p ++ ([c] ++ [nrmR r]) = p ++ [c, nrmR r] from rfl, this.2, h.ex])
theorem Mor.done_all {X : List Int} {N : Nat} {p : List Rn} {c r : Rn} (h : Mor X N (p ++ [c]) r) (hcan : can c r.1 = true) (hd : r.2.1 = 1 ∨ r.2.2 = decide (r.1 = las c - 1)) : p ++ [(c.1, c.2.1 + r.2.1, decide (r.1 = las c - 1))] = nfL X := by
  have := more_take h.nf hcan (gd_pos h.gd) (Int.le_refl _) hd
  refine nfL_one this.1 (this.2.trans ?_)
  rw [List.take_of_length_le (by rw [exR_len]; exact Nat.le_refl _), h.ex]
theorem Mor.next {X : List Int} {N : Nat} {p : List Rn} {c r : Rn} (h : Mor X N (p ++ [c]) r) (hcan : can c r.1 = true) (hn : 1 < r.2.1) : Mor X N (p ++ [(c.1, c.2.1 + 1, decide (r.1 = las c - 1))]) (nrmR (imI r.1 r.2.2 1, r.2.1 - 1, r.2.2)) := by
  have ht := more_take (n := 1) h.nf hcan (Int.le_refl _) (by omega) (Or.inl rfl)
  have hr := more_rest (r := r) (n := 1) (by omega) (by omega)
  have e : cutR r (1 : Int).toNat (r.2.1 - 1) = (imI r.1 r.2.2 1, r.2.1 - 1, r.2.2) := by unfold cutR; rw [imI_im r (by omega)]
  rw [e] at hr
  refine ⟨ht.1, gd_nrm ?_, ?_, by have := h.len; simp only [List.length_append, List.length_cons, List.length_nil] at this ⊢; exact this⟩
  · rw [imI_im r (by omega)]; exact gd_cut h.gd (by omega) (by omega)
  · rw [ht.2, nrmR_ex, List.append_assoc, hr, h.ex]
theorem below_at3 {B h : Nat} {w : World} (hB : B ≤ h) (i j k : Nat) (x y z : Value) : Below B w (((w.setCell ⟨h, i, none⟩ x).setCell ⟨h, j, none⟩ y).setCell ⟨h, k, none⟩ z) :=
  (((Below.refl B w).setCell (p := ⟨h, i, none⟩) hB _).setCell (p := ⟨h, j, none⟩) hB _).setCell (p := ⟨h, k, none⟩) hB _
theorem can_bits {c r : Rn} {st : Int} {b1 b2 b3 b4 D : Bool} (hc : 1 ≤ c.2.1) (hst : r.1 - las c = st) (h1 : (st != 1) = b1) (h2 : (st != -1) = b2) (h3 : decide (1 < c.2.1) = b3) (hD : (st == -1) = D) (h4 : (c.2.2 != D) = b4) : can c r.1 = !((b1 && b2) || (b3 && b4)) := by
  rw [can_step hc, hst, ← h1, ← h2, ← h3, ← h4, ← hD]
  have e1 : (!decide (st = 1)) = (st != 1) := by rw [Bool.eq_iff_iff]; simp
  have e2 : (!decide (st = -1)) = (st != -1) := by rw [Bool.eq_iff_iff]; simp
  have e3 : decide (st = -1) = (st == -1) := by rw [Bool.eq_iff_iff]; simp
  rw [e1, e2, e3]
theorem dir_bit {c r : Rn} {st : Int} {D : Bool} (hst : r.1 - las c = st) (hD : (st == -1) = D) : decide (r.1 = las c - 1) = D := by
  rw [← hD, Bool.eq_iff_iff]; simp; omega

set_option maxHeartbeats 6400000 in
theorem ref_moreF (L : List Int) (A : Option Addr) (c : Nat) (r : Rn) (w : World) (ha : Rns w A (nfL L)) (hm : (nfL L).length ≤ 900000) (hL : ∀ x ∈ L, 0 ≤ x ∧ x < ml) (hl : (L.length : Int) ≤ 1108307720798208) (hr : gd r = true) :
    Calls Try.prog 62 #[.slice A (nfL L).length c, .agg #[.int .i64 r.1, .int .i64 r.2.1, .bool r.2.2]] w (ResF (nfL (L ++ exR r)) w) := by
  obtain ⟨X, hX⟩ : ∃ X, L ++ exR r = X := ⟨_, rfl⟩
  obtain ⟨g1, g2, -, -, -, -⟩ := gd_iff.mp hr
  have HXr : Hid (∀ x ∈ X, 0 ≤ x ∧ x < ml) := fun x hx => by
    rw [← hX] at hx
    rcases List.mem_append.mp hx with h | h
    · exact hL x h
    · obtain ⟨k, hk, rfl⟩ := mem_exR.mp h
      exact gd_im hr hk
  have HXl : Hid ((X.length : Int) ≤ 1125899906842624) := (by rw [← hX, List.length_append, exR_len]; unfold ml at *; omega : (X.length : Int) ≤ 1125899906842624)
  obtain ⟨N, hN⟩ : ∃ N, (nfL L).length = N := ⟨_, rfl⟩
  have HM0 : Hid (Mor X N (nfL L) r) := ⟨(nfL_ok L).1, hr, by rw [(nfL_ok L).2]; exact hX, hN⟩
  have HA := Lib.hid ha
  have HN := Lib.hid hN
  have HLn : Hid (N ≤ 900000) := by rw [← hN]; exact hm
  rw [hX, hN]
  obtain ⟨Y, hY⟩ : ∃ Y, nfL X = Y := ⟨_, rfl⟩
  rw [hY]
  have HY := Lib.hid hY
  clear ha hm hL hl hr hX hN hY g1 g2
  go_enter Try.func62, Try.ntmps62
  go_upto_region 1 with fail
  generalize hw1 : w.alloc (.cells #[.int .i64 r.1, .int .i64 r.2.1, .bool r.2.2] 48) = w1
  have HB1 : Hid (Below w.heap.size w w1) := hw1 ▸ below_alloc _ _
  have HS1 : Hid (w.heap.size + 1 ≤ w1.heap.size) := by rw [← hw1]; unfold Hid; simp
  have HR1 : Hid (Cel w1 w.heap.size [.int .i64 r.1, .int .i64 r.2.1, .bool r.2.2]) := hw1 ▸ Cel.new _ _ _
  clear hw1
  go_wp2_with (at_builtin; refine append_rows kdR rfl _ _ rfl (.slice (some ⟨w1.heap.size, 0, none⟩) 0 0) [] rfl (Row.empty cR 3 TR w1 HS1.out) A N c (nfL L) HN.out.symm rfl (HA.out.on (bstep HB1.out (below_alloc _ _))) (by have := HLn.out; simp; omega) (Nat.le_trans HS1.out (below_alloc _ _).size) ?_; intro A2 n2 c2 w2 hn2 hr2 hg2 hat2; have HN2 := Lib.hid hn2; have HO2 := Lib.hid hr2; have HG2 := Lib.hid hg2; clear hn2 hr2 hg2 hat2; refine Hid.out ?_)
  have HB12 : Hid (Below w1.heap.size w1 w2) := (below_alloc w1 _).trans (Row.below (Row.empty cR 3 TR w1 (Nat.le_refl _)) HG2.out (below_alloc _ _).size)
  have HR2 := Lib.hid (HR1.out.on HB12.out)
  have HB2 : Hid (Below w.heap.size w w2) := bstep HB1.out HB12.out
  have HO2' : Hid (Row cR 3 TR (w.heap.size + 1) w2 (.slice A2 n2 c2) (nfL L)) := by have := HO2.out; rw [List.nil_append] at this; exact this
  have HN2' : Hid (n2 = N) := Lib.hid (by have := HN2.out; simpa using this)
  clear HO2 HN2
  refine Lib.hid ?_
  go_wp2_with fail
  go_loopg [6] (r.2.1.toNat) (fun gk v wr => ∃ (M : List Rn) (q : Rn), Row cR 3 TR (w.heap.size + 1) wr (.slice A2 n2 c2) M ∧ Cel wr w.heap.size [.int .i64 q.1, .int .i64 q.2.1, .bool q.2.2] ∧ Mor X N M q ∧ q.2.1.toNat ≤ gk ∧ Below w.heap.size w wr)
  case atStart => exact ⟨nfL L, r, HO2'.out, HR2.out, HM0.out, Nat.le_refl _, HB2.out⟩
  case round =>
    obtain ⟨M, ⟨ra, rn, rb⟩, hrow, hcel, hmor, hgk, hbel⟩ := hrel
    simp only at hcel
    have HMN := HN2'
    have HO := Lib.hid hrow
    have HC := Lib.hid hcel
    have HM := Lib.hid hmor
    have HGK := Lib.hid hgk
    have HB := Lib.hid hbel
    have HS := Lib.hid (Nat.lt_of_lt_of_le (Nat.lt_succ_self _) (Nat.le_trans HS1.out HB12.out.size))
    have hgd := hmor.gd
    obtain ⟨g1, g2, g3, g4, g5, g6⟩ := gd_iff.mp hgd
    simp only at g1 g2 g3 g4 g5 g6
    have hlast : imI ra rb 0 = ra := by unfold imI; cases rb <;> simp
    have hcut0 := fun W => ref_cut ra rn rb 0 rn W (by unfold big; unfold ml at *; omega) (by unfold big; omega)
    rw [hlast] at hcut0
    have HCut0 : Hid (∀ W, Calls Try.prog 65 #[.agg #[.int .i64 ra, .int .i64 rn, .bool rb], .int .i64 0, .int .i64 rn] W fun e w' => e = .returned (.agg #[.int .i64 (nrmR (ra, rn, rb)).1, .int .i64 (nrmR (ra, rn, rb)).2.1, .bool (nrmR (ra, rn, rb)).2.2]) ∧ Below W.heap.size W w') := hcut0
    have HCut1 := Lib.hid fun W => ref_cut ra rn rb 1 (rn - 1) W (by unfold big; unfold ml at *; omega) (by unfold big; omega)
    have z1 : decide (0 < rn) = true := decide_eq_true (by omega)
    have HRn : Hid (1 ≤ rn ∧ rn ≤ ml ∧ 0 ≤ ra ∧ ra < ml) := ⟨g1, g2, g3, g4⟩
    have HNml : Hid (n2 ≤ 900000) := by rw [HMN.out]; exact HLn.out
    clear hrow hcel hmor hgk hbel hgd g1 g2 g3 g4 g5 g6 hlast hcut0
    rcases snoc_cases M with rfl | ⟨p, ⟨ca, cn, cb⟩, rfl⟩
    · have hm0 : n2 = 0 := by rw [HMN.out, ← HM.out.len]; rfl
      subst hm0
      have HFin : Hid (Y = [] ++ [nrmR (ra, rn, rb)]) := by rw [← HY.out, ← HM.out.done_nil]; exact Lib.hid rfl
      obtain ⟨r0, r1, r2⟩ := HC.out.three
      go_upto_region 5 with fail
      have HRz := HC
      have HOz := HO
      have HBz := HB
      have HSz : Hid (w.heap.size + 1 ≤ wr.heap.size) := HC.out.lt
      have HLen : Hid (([] : List Rn).length + 1 ≤ 900001) := by simp [Hid]
      clear r0 r1 r2
      obtain ⟨r0, r1, r2⟩ := HRz.out.three
      go_wp2_with fail
      refine (HCut0.out _).mono ?_
      rintro e wy ⟨rfl, hby⟩
      have HBy := Lib.hid hby
      have HOy := Lib.hid (HOz.out.on hby)
      clear hby r0 r1 r2
      go_wp2_with (at_builtin; refine append_rows kdR rfl _ _ rfl (.slice A2 0 c2) [] rfl (HOy.out.on (below_alloc _ _)) (some ⟨wy.heap.size, 0, none⟩) 1 1 [nrmR (ra, rn, rb)] rfl rfl (rd_one cR_len (heap_alloc_new _ _)) (by have := HLen.out; omega) (Nat.le_trans HSz.out (Nat.le_trans HBy.out.size (below_alloc _ _).size)) ?_; intro A5 n5 c5 w5 hn5 hr5 hg5 hat5; have HN5 := Lib.hid hn5; have HR5 := Lib.hid hr5; have HG5 := Lib.hid hg5; clear hn5 hr5 hg5 hat5; refine Hid.out ?_)
      have HB5 : Hid (Below w.heap.size w w5) := (bstep HBz.out (bstep HBy.out (below_alloc _ _))).trans (((HOy.out.on (below_alloc wy _)).below HG5.out (Nat.le_trans HSz.out (Nat.le_trans HBy.out.size (below_alloc _ _).size))).mono (Nat.le_succ _))
      refine Lib.hid ?_
      go_wp2_with fail
      go_ret
      obtain ⟨A6, c6, e6, hle6, -, hrd6, -⟩ := HR5.out.one cR_len
      obtain ⟨rfl, hn6, rfl⟩ := Value.slice.inj e6
      refine ⟨_, _, ret_sl (by rw [HFin.out]; exact hn6), by rw [HFin.out]; exact ⟨hrd6, hle6⟩, fun b off e => by subst e; have := (HR5.out.lt b rfl).1; omega, HB5.out⟩
    · obtain ⟨P, hP⟩ : ∃ P, p.length = P := ⟨_, rfl⟩
      have hmP : n2 = P + 1 := by rw [HMN.out, ← HM.out.len, List.length_append, hP]; rfl
      have hel := HM.out.el HXr.out HXl.out (c := (ca, cn, cb)) (by simp)
      simp only at hel
      obtain ⟨A6, c6, e6, -, -, -, -, hA6⟩ := HO.out.one cR_len
      obtain ⟨rfl, hlen6, rfl⟩ := Value.slice.inj e6
      obtain ⟨h, rfl⟩ : ∃ h, A2 = some ⟨h, 0, none⟩ := by
        rcases hA6 with rfl | ⟨h, rfl, -⟩
        · obtain ⟨h1, ⟨h2, h3⟩ | ⟨g, cap, cur, h2, -⟩⟩ := HO.out
          · simp at h3
          · cases h2
        · exact ⟨h, rfl⟩
      have hhB := (HO.out.lt h rfl)
      have hl : (p ++ [(ca, cn, cb)])[P]? = some (ca, cn, cb) := by rw [← hP]; simp
      have l0 := HO.out.cell cR_len hl (j := 0) rfl
      have l1 := HO.out.cell cR_len hl (j := 1) rfl
      have l2 := HO.out.cell cR_len hl (j := 2) rfl
      simp only [Nat.add_zero] at l0
      have HLn6 := Lib.hid hlen6
      have HmP := Lib.hid hmP
      have HP := Lib.hid hP
      have i1 : (P : Int) < (n2 : Int) := by omega
      have i2 : (0 : Int) ≤ (P : Int) := by omega
      have i3 : (n2 : Int) - 1 = (P : Int) := by omega
      have i4 : IntKind.i64.wrap (P : Int) = (P : Int) := wrap_id (by have := HNml.out; omega)
      have i5 : decide ((P : Int) < 0) = false := decide_eq_false (by omega)
      have HcB : Hid (0 ≤ ca ∧ ca < ml ∧ 1 ≤ cn ∧ cn ≤ 1125899906842624) := hel
      have him := fun W => ref_image ca cn cb (cn - 1) W (by unfold big; unfold ml at *; omega) (by unfold big; omega)
      rw [imI_las (ca, cn, cb) hel.2.2.1] at him
      obtain ⟨lc, hlc⟩ : ∃ lc, las (ca, cn, cb) = lc := ⟨_, rfl⟩
      rw [hlc] at him
      have hlcb : -1125899906842624 ≤ lc ∧ lc ≤ 1143079776026624 := by
        rw [← hlc, las_is hel.2.2.1]; unfold ml at *; simp only; split <;> omega
      obtain ⟨st, hst⟩ : ∃ st, ra - lc = st := ⟨_, rfl⟩
      have wst : IntKind.i64.wrap st = st := wrap_id (by have := HRn.out; unfold ml at *; omega)
      have wcn : IntKind.i64.wrap (cn - 1) = cn - 1 := wrap_id (by omega)
      have HIm := Lib.hid him
      have HSt : Hid (ra - las (ca, cn, cb) = st) := by rw [hlc]; exact hst
      have HhB := Lib.hid hhB
      clear hl hlen6 hmP hP hel him hlc hlcb e6 hA6
      obtain ⟨r0, r1, r2⟩ := HC.out.three
      go_upto_region 7 with fail
      generalize hw3 : wr.alloc (.cells #[.int .i64 ca, .int .i64 cn, .bool cb] 48) = w3
      have HB3 : Hid (Below wr.heap.size wr w3) := hw3 ▸ below_alloc _ _
      have HC3 : Hid (Cel w3 wr.heap.size [.int .i64 ca, .int .i64 cn, .bool cb]) := hw3 ▸ Cel.new _ _ _
      have HR3 := Lib.hid (HC.out.on HB3.out)
      clear hw3 l0 l1 l2 r0 r1 r2
      obtain ⟨r0, r1, r2⟩ := HR3.out.three
      obtain ⟨x0, x1, x2⟩ := HC3.out.three
      have HSS := Lib.hid fun (W : World) (hb : Below w3.heap.size w3 W) => (⟨(HR3.out.on hb).three, (HC3.out.on hb).three⟩ : (W.cell? ⟨w.heap.size, 0, none⟩ = some (.int .i64 ra) ∧ W.cell? ⟨w.heap.size, 1, none⟩ = some (.int .i64 rn) ∧ W.cell? ⟨w.heap.size, 2, none⟩ = some (.bool rb)) ∧ (W.cell? ⟨wr.heap.size, 0, none⟩ = some (.int .i64 ca) ∧ W.cell? ⟨wr.heap.size, 1, none⟩ = some (.int .i64 cn) ∧ W.cell? ⟨wr.heap.size, 2, none⟩ = some (.bool cb)))
      go_cut [8] from 32 to 39 (fun v wc => v = .int .i64 st ∧ Below w3.heap.size w3 wc)
      case first =>
        go_region_held3 (fun W' => (W'.cell? ⟨w.heap.size, 0, none⟩ = some (.int .i64 ra) ∧ W'.cell? ⟨w.heap.size, 1, none⟩ = some (.int .i64 rn) ∧ W'.cell? ⟨w.heap.size, 2, none⟩ = some (.bool rb)) ∧ (W'.cell? ⟨wr.heap.size, 0, none⟩ = some (.int .i64 ca) ∧ W'.cell? ⟨wr.heap.size, 1, none⟩ = some (.int .i64 cn) ∧ W'.cell? ⟨wr.heap.size, 2, none⟩ = some (.bool cb)))
          (first | exact HSS.out _ (Below.refl _ _) | exact HSS.out _ (drew_below _) | exact HSS.out _ (bstep (drew_below _) hb4))
          ((go_at_call 50; (refine (HIm.out _).mono ?_); rintro e w4 ⟨rfl, hb4⟩))
        all_goals
          go_wp2_with fail
          go_meet
          case rel => exact ⟨rfl, bstep (drew_below _) hb4⟩
      case rest =>
        obtain ⟨rfl, hbc⟩ := hcut
        have HBc : Hid (Below wr.heap.size wr wc) := bstep HB3.out hbc
        have HRc := Lib.hid (HR3.out.on hbc)
        have HCc := Lib.hid (HC3.out.on hbc)
        have HOc : Hid (Row cR 3 TR (w.heap.size + 1) wc (.slice (some ⟨h, 0, none⟩) n2 c2) (p ++ [(ca, cn, cb)])) := HO.out.on HBc.out
        have HBwc : Hid (Below w.heap.size w wc) := bstep HB.out HBc.out
        clear hbc r0 r1 r2 x0 x1 x2
        obtain ⟨wd, rfl⟩ : ∃ W, W = wc := ⟨wc, rfl⟩
        obtain ⟨r0, r1, r2⟩ := HRc.out.three
        obtain ⟨x0, x1, x2⟩ := HCc.out.three
        obtain ⟨D, hD⟩ : ∃ D, (st == -1) = D := ⟨_, rfl⟩
        obtain ⟨b1, h1⟩ : ∃ b, (st != 1) = b := ⟨_, rfl⟩
        obtain ⟨b2, h2⟩ : ∃ b, (st != -1) = b := ⟨_, rfl⟩
        obtain ⟨b3, h3⟩ : ∃ b, decide (1 < cn) = b := ⟨_, rfl⟩
        obtain ⟨b4, h4⟩ : ∃ b, (cb == D) = b := ⟨_, rfl⟩
        have h4' : (cb != D) = !b4 := by rw [bne, h4]
        obtain ⟨p9, hp9⟩ : ∃ b, ((b1 && b2) || (b3 && !b4)) = b := ⟨_, rfl⟩
        have HCan : Hid (can (ca, cn, cb) ra = !p9) := by
          rw [← hp9]
          exact can_bits (c := (ca, cn, cb)) (r := (ra, rn, rb)) HcB.out.2.2.1 HSt.out h1 h2 h3 hD h4'
        have HDir : Hid (decide (ra = las (ca, cn, cb) - 1) = D) := dir_bit (c := (ca, cn, cb)) (r := (ra, rn, rb)) HSt.out hD
        clear h4'
        go_upto_region 8 with fail
        go_cut [57] from 40 to 57 (fun v wz => v = .bool p9 ∧ wd = wz)
        case first =>
          cases b1 <;> cases b2 <;> cases b3 <;> cases b4 <;> subst hp9
          all_goals
            go_wp2_with fail
            go_meet
            case rel => exact ⟨rfl, rfl⟩
        case rest =>
          obtain ⟨rfl, rfl⟩ := hcut
          clear h1 h2 h3 h4 hp9
          cases p9 with
          | true =>
            have HFin : Hid (Y = (p ++ [(ca, cn, cb)]) ++ [nrmR (ra, rn, rb)]) := by rw [← HY.out]; exact (HM.out.done_end HCan.out).symm
            go_upto_region 9 with fail
            have HRz := HRc
            have HOz := HOc
            have HBz := HBwc
            have HSz : Hid (w.heap.size + 1 ≤ wd.heap.size) := HRc.out.lt
            have HLen : Hid ((p ++ [(ca, cn, cb)]).length + 1 ≤ 900001) := by have := HM.out.len; rw [this]; have := HLn.out; unfold Hid; omega
            clear r0 r1 r2 x0 x1 x2 i1 i2 i3 i4 i5 hst wst wcn
            obtain ⟨r0, r1, r2⟩ := HRz.out.three
            go_wp2_with fail
            refine (HCut0.out _).mono ?_
            rintro e wy ⟨rfl, hby⟩
            have HBy := Lib.hid hby
            have HOy := Lib.hid (HOz.out.on hby)
            clear hby r0 r1 r2
            go_wp2_with (at_builtin; refine append_rows kdR rfl _ _ rfl (.slice (some ⟨h, 0, none⟩) n2 c2) (p ++ [(ca, cn, cb)]) rfl (HOy.out.on (below_alloc _ _)) (some ⟨wy.heap.size, 0, none⟩) 1 1 [nrmR (ra, rn, rb)] rfl rfl (rd_one cR_len (heap_alloc_new _ _)) (by have := HLen.out; omega) (Nat.le_trans HSz.out (Nat.le_trans HBy.out.size (below_alloc _ _).size)) ?_; intro A5 n5 c5 w5 hn5 hr5 hg5 hat5; have HN5 := Lib.hid hn5; have HR5 := Lib.hid hr5; have HG5 := Lib.hid hg5; clear hn5 hr5 hg5 hat5; refine Hid.out ?_)
            have HB5 : Hid (Below w.heap.size w w5) := (bstep HBz.out (bstep HBy.out (below_alloc _ _))).trans (((HOy.out.on (below_alloc wy _)).below HG5.out (Nat.le_trans HSz.out (Nat.le_trans HBy.out.size (below_alloc _ _).size))).mono (Nat.le_succ _))
            refine Lib.hid ?_
            go_wp2_with fail
            go_ret
            obtain ⟨A6, c6, e6, hle6, -, hrd6, -⟩ := HR5.out.one cR_len
            obtain ⟨rfl, hn6, rfl⟩ := Value.slice.inj e6
            refine ⟨_, _, ret_sl (by rw [HFin.out]; exact hn6), by rw [HFin.out]; exact ⟨hrd6, hle6⟩, fun b off e => by subst e; have := (HR5.out.lt b rfl).1; omega, HB5.out⟩
          | false =>
            have HCan1 : Hid (can (ca, cn, cb) ra = true) := HCan.out
            obtain ⟨c1, k1⟩ : ∃ b, decide (1 < rn) = b := ⟨_, rfl⟩
            obtain ⟨c2', k2⟩ : ∃ b, (rb == D) = b := ⟨_, rfl⟩
            obtain ⟨q9, hq9⟩ : ∃ b, (c1 && !c2') = b := ⟨_, rfl⟩
            have HK1 := Lib.hid k1
            have HK2 := Lib.hid k2
            have HQ9 := Lib.hid hq9
            go_upto_region 11 with fail
            go_cut [75] from 67 to 75 (fun v wz => v = .bool q9 ∧ wd = wz)
            case first =>
              cases c1 <;> cases c2' <;> subst hq9
              all_goals
                go_wp2_with fail
                go_meet
                case rel => exact ⟨rfl, rfl⟩
            case rest =>
              obtain ⟨rfl, rfl⟩ := hcut
              clear k1 k2 hq9
              cases q9 with
              | false =>
                have hd : rn = 1 ∨ rb = D := by
                  have h1 := HQ9.out
                  have h2 := HK1.out
                  have h3 := HK2.out
                  have h4 := HRn.out.1
                  cases c1 with
                  | false => left; have := of_decide_eq_false h2; omega
                  | true =>
                    right
                    cases c2' with
                    | false => simp at h1
                    | true => exact eq_of_beq h3
                have HFin : Hid (Y = p ++ [(ca, cn + rn, D)]) := by
                  rw [← HY.out]
                  have h := HM.out.done_all HCan1.out (by rw [HDir.out]; exact hd)
                  rw [HDir.out] at h
                  exact h.symm
                have s1 : (rn == rn) = true := beq_self_eq_true rn
                clear hd
                have hl : (p ++ [(ca, cn, cb)])[P]? = some (ca, cn, cb) := by rw [← HP.out]; simp
                have l0 := HOc.out.cell cR_len hl (j := 0) rfl
                have l1 := HOc.out.cell cR_len hl (j := 1) rfl
                have l2 := HOc.out.cell cR_len hl (j := 2) rfl
                simp only [Nat.add_zero] at l0
                have m0 : wd.frozen? ⟨h, P * 3, none⟩ = false := HOc.out.warm HLn6.out _
                have m1 : wd.frozen? ⟨h, P * 3 + 1, none⟩ = false := HOc.out.warm HLn6.out _
                have m2 : wd.frozen? ⟨h, P * 3 + 2, none⟩ = false := HOc.out.warm HLn6.out _
                have w3' : IntKind.i64.wrap (cn + rn) = cn + rn := wrap_id (by have := HcB.out; have := HRn.out; unfold ml at *; omega)
                have hput := Row.put HOc.out HLn6.out P (ca, cn + rn, D) (by rw [← HP.out]; simp)
                rw [show (p ++ [(ca, cn, cb)]).set P (ca, cn + rn, D) = p ++ [(ca, cn + rn, D)] by rw [← HP.out]; simp] at hput
                clear hl
                go_upto_region 14 with fail
                generalize hwe : ((wd.setCell ⟨h, P * 3, none⟩ (.int .i64 ca)).setCell ⟨h, P * 3 + 1, none⟩ (.int .i64 (cn + rn))).setCell ⟨h, P * 3 + 2, none⟩ (.bool D) = we
                have HOe : Hid (Row cR 3 TR (w.heap.size + 1) we (.slice (some ⟨h, 0, none⟩) n2 c2) (p ++ [(ca, cn + rn, D)])) := hwe ▸ hput
                have HBe : Hid (Below (w.heap.size + 1) wd we) := hwe ▸ below_at3 HhB.out.1 _ _ _ _ _ _
                have HRe : Hid (Cel we w.heap.size [.int .i64 ra, .int .i64 rn, .bool rb]) := HRc.out.below HBe.out (Nat.lt_succ_self _)
                have HBwe : Hid (Below w.heap.size w we) := HBwc.out.trans (HBe.out.mono (Nat.le_succ _))
                clear hwe hput l0 l1 l2 m0 m1 m2 w3' r0 r1 r2 x0 x1 x2
                obtain ⟨r0, r1, r2⟩ := HRe.out.three
                go_wp2_with fail
                go_ret
                obtain ⟨A7, c7, e7, hle7, -, hrd7, -⟩ := HOe.out.one cR_len
                obtain ⟨rfl, hn7, rfl⟩ := Value.slice.inj e7
                refine ⟨_, _, ret_sl (by rw [HFin.out]; exact hn7), by rw [HFin.out]; exact ⟨hrd7, hle7⟩, fun b off e => by cases e; have := HhB.out.1; omega, HBwe.out⟩
              | true =>
                have hn1 : 1 < rn := by
                  have h1 := HQ9.out
                  have h2 := HK1.out
                  cases c1 with
                  | false => simp at h1
                  | true => exact of_decide_eq_true h2
                have HNx : Hid (Mor X N (p ++ [(ca, cn + 1, D)]) (nrmR (imI ra rb 1, rn - 1, rb))) := by
                  have h := HM.out.next HCan1.out hn1
                  rw [HDir.out] at h
                  exact h
                have s1 : ((1 : Int) == rn) = false := beq_false_of_ne (by omega)
                have w5 : IntKind.i64.wrap (rn - 1) = rn - 1 := wrap_id (by have := HRn.out; unfold ml at *; omega)
                have HN1 : Hid (1 < rn) := hn1
                clear hn1
                have hl : (p ++ [(ca, cn, cb)])[P]? = some (ca, cn, cb) := by rw [← HP.out]; simp
                have l0 := HOc.out.cell cR_len hl (j := 0) rfl
                have l1 := HOc.out.cell cR_len hl (j := 1) rfl
                have l2 := HOc.out.cell cR_len hl (j := 2) rfl
                simp only [Nat.add_zero] at l0
                have m0 : wd.frozen? ⟨h, P * 3, none⟩ = false := HOc.out.warm HLn6.out _
                have m1 : wd.frozen? ⟨h, P * 3 + 1, none⟩ = false := HOc.out.warm HLn6.out _
                have m2 : wd.frozen? ⟨h, P * 3 + 2, none⟩ = false := HOc.out.warm HLn6.out _
                have w3' : IntKind.i64.wrap (cn + 1) = cn + 1 := wrap_id (by have := HcB.out; have := HRn.out; unfold ml at *; omega)
                have hput := Row.put HOc.out HLn6.out P (ca, cn + 1, D) (by rw [← HP.out]; simp)
                rw [show (p ++ [(ca, cn, cb)]).set P (ca, cn + 1, D) = p ++ [(ca, cn + 1, D)] by rw [← HP.out]; simp] at hput
                clear hl
                go_upto_region 14 with fail
                generalize hwe : ((wd.setCell ⟨h, P * 3, none⟩ (.int .i64 ca)).setCell ⟨h, P * 3 + 1, none⟩ (.int .i64 (cn + 1))).setCell ⟨h, P * 3 + 2, none⟩ (.bool D) = we
                have HOe : Hid (Row cR 3 TR (w.heap.size + 1) we (.slice (some ⟨h, 0, none⟩) n2 c2) (p ++ [(ca, cn + 1, D)])) := hwe ▸ hput
                have HBe : Hid (Below (w.heap.size + 1) wd we) := hwe ▸ below_at3 HhB.out.1 _ _ _ _ _ _
                have HRe : Hid (Cel we w.heap.size [.int .i64 ra, .int .i64 rn, .bool rb]) := HRc.out.below HBe.out (Nat.lt_succ_self _)
                have HBwe : Hid (Below w.heap.size w we) := HBwc.out.trans (HBe.out.mono (Nat.le_succ _))
                clear hwe hput l0 l1 l2 m0 m1 m2 w3' r0 r1 r2 x0 x1 x2
                obtain ⟨r0, r1, r2⟩ := HRe.out.three
                go_wp2_with fail
                refine (HCut1.out _).mono ?_
                rintro e wf ⟨rfl, hbf⟩
                have HBf := Lib.hid hbf
                have HRf := Lib.hid (HRe.out.on hbf)
                clear hbf r0 r1 r2
                obtain ⟨r0, r1, r2⟩ := HRf.out.three
                obtain ⟨f0, f1, f2⟩ := HRf.out.warm3
                have HRg := Lib.hid (HRf.out.put3 (.int .i64 (imI ra rb 1)) (.int .i64 (rn - 1)) (.bool (rb && decide (1 < rn - 1))))
                have HOg : Hid (Row cR 3 TR (w.heap.size + 1) (((wf.setCell ⟨w.heap.size, 0, none⟩ (.int .i64 (imI ra rb 1))).setCell ⟨w.heap.size, 1, none⟩ (.int .i64 (rn - 1))).setCell ⟨w.heap.size, 2, none⟩ (.bool (rb && decide (1 < rn - 1)))) (.slice (some ⟨h, 0, none⟩) n2 c2) (p ++ [(ca, cn + 1, D)])) :=
                  (HOe.out.on HBf.out).keep fun k hk => by
                    cases hk
                    have hne : h ≠ w.heap.size := by have := HhB.out.1; omega
                    rw [Below.heap_setCell _ _ _ _ hne, Below.heap_setCell _ _ _ _ hne, Below.heap_setCell _ _ _ _ hne]
                have HBg : Hid (Below w.heap.size w (((wf.setCell ⟨w.heap.size, 0, none⟩ (.int .i64 (imI ra rb 1))).setCell ⟨w.heap.size, 1, none⟩ (.int .i64 (rn - 1))).setCell ⟨w.heap.size, 2, none⟩ (.bool (rb && decide (1 < rn - 1))))) := below_put3 (bstep HBwe.out HBf.out) (Nat.le_refl _) _ _ _
                go_wp2_with fail
                go_roundg (rn - 1).toNat
                case measure => have h1 : rn.toNat ≤ gk := HGK.out; have := HN1.out; omega
                case rel => exact ⟨p ++ [(ca, cn + 1, D)], nrmR (imI ra rb 1, rn - 1, rb), HOg.out, HRg.out, HNx.out, Nat.le_refl _, HBg.out⟩
theorem ref_more (L : List Int) (A : Option Addr) (c : Nat) (r : Rn) (w : World) (ha : Rns w A (nfL L)) (hm : (nfL L).length ≤ 900000) (hL : ∀ x ∈ L, 0 ≤ x ∧ x < ml) (hl : (L.length : Int) ≤ 1108307720798208) (hr : gd r = true) :
    Calls Try.prog 62 #[.slice A (nfL L).length c, .agg #[.int .i64 r.1, .int .i64 r.2.1, .bool r.2.2]] w (Res1 (nfL (L ++ exR r)) w) := by
  refine (ref_moreF L A c r w ha hm hL hl hr).mono ?_
  rintro e w' ⟨A', c', h1, h2, -, h3⟩
  exact ⟨A', c', h1, h2, h3⟩
#print axioms ref_more
end Go.Proofs.Ytnblpooimgpgoaa.Iso
