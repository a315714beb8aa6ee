/- Image, Find, Single of the program. -/
import Derived.Test.YtnblpooimgpgoaaIsoR
import Derived.Test.YtnblpooimgpgoaaSpanR
namespace Go.Proofs.Ytnblpooimgpgoaa.Iso
open Go.ChangeShapes Go.WideShapes Go.RowKit Go.Lib Go.Proofs.Ytnblpooimgpgoaa.Rw
open Go.Proofs.Ytnblpooimgpgoaa.Span (inS inS_iff hasB hasB_iff hasB_nil IsNf Nrm Sps InL chkE chk_of okS Fil fil_start make_spans orF orF_nil SetRes TotRes cmbE cmbL cmbE_ok cmbL_ok cmbE_zero nfE_ok chk_nil tot span_Norm span_Total cnt)
set_option linter.unusedVariables false
set_option maxRecDepth 100000

/-! ### What a set's call gives -/
/-- A set in normal form and an error. -/
def SetR (E : Int) (f : Int → Bool) (w : World) (e : Ending) (w' : World) : Prop :=
  ∃ (M : List (Int × Int)) (V : Option Addr) (cap : Nat), e = .returned (.tuple #[.slice V M.length cap, .int .i64 E]) ∧ M.length ≤ 256 ∧ Sps w' V M ∧ (E = 0 → IsNf f M) ∧ (¬ E = 0 → M = []) ∧ Below w.heap.size w w'
theorem SetR.err {E : Int} {f : Int → Bool} {w w' : World} (h : ¬ E = 0) (hb : Below w.heap.size w w') : SetR E f w (.returned (.tuple #[.slice none 0 0, .int .i64 E])) w' :=
  ⟨[], none, 0, rfl, by simp, Sps.nil _ _, fun e => absurd e h, fun _ => rfl, hb⟩
theorem norm_out {a : List (Int × Int)} {f : Int → Bool} {w w' : World} {e : Ending} (hc : chkE a = 0) (hf : ∀ x, hasB a x = f x) (h : SetRes (orF a []) a [] w e w') : SetR 0 f w e w' := by
  obtain ⟨N, V, cap, rfl, hm, hin, hnf, hb⟩ := h.open_
  have hn := hnf hc chk_nil
  have hlen : N.length ≤ a.length := (hn.congr fun x => orF_nil a x).length
  have hal := Span.chk_len hc
  have e0 : cmbE a [] N = 0 := by rw [cmbE_ok hc chk_nil, nfE_ok (by omega)]
  rw [cmbL_ok e0] at hin hm ⊢
  rw [e0]
  obtain ⟨A', c', e', h1, h2, h3⟩ := hin
  cases e'
  exact ⟨N, V, cap, rfl, by omega, h3, fun _ => hn.congr fun x => (orF_nil a x).trans (hf x), fun h => absurd rfl h, hb⟩
theorem tot_out {a : List (Int × Int)} {f : Int → Bool} {w w' : World} {e : Ending} (hc : chkE a = 0) (hf : ∀ x, hasB a x = f x) (h : TotRes a w e w') : e = .returned (.tuple #[.int .i64 (cnt f 17179869184), .int .i64 0]) ∧ Below w.heap.size w w' := by
  obtain ⟨N, rfl, hnf, hb⟩ := h
  have hn := hnf hc
  have hn2 : IsNf f N := hn.congr fun x => (orF_nil a x).trans (hf x)
  have hlen : N.length ≤ a.length := (hn.congr fun x => orF_nil a x).length
  have hal := Span.chk_len hc
  have e0 : cmbE a [] N = 0 := by rw [cmbE_ok hc chk_nil, nfE_ok (by omega)]
  rw [cmbL_ok e0, e0, hn2.tot fun x hx => Span.chk_range hc ((hf x).trans hx)]
  exact ⟨rfl, hb⟩

/-! ### Images -/
def ims (L : List Rn) : List (Int × Int) := L.map fun r => (imF r.1 r.2.1 r.2.2, imT r.1 r.2.1 r.2.2)
theorem ims_len (L : List Rn) : (ims L).length = L.length := by simp [ims]
theorem ims_take {L : List Rn} {k : Nat} {r : Rn} (h : L[k]? = some r) : ims (L.take (k + 1)) = ims (L.take k) ++ [(imF r.1 r.2.1 r.2.2, imT r.1 r.2.1 r.2.2)] := by rw [take_snoc_of h]; simp [ims]
theorem sp_im {r : Rn} (h : 1 ≤ r.2.1) : spR r = (imF r.1 r.2.1 r.2.2, imT r.1 r.2.1 r.2.2) := by
  unfold spR
  rw [las_is h]
  unfold imF imT
  cases r.2.2 <;> simp <;> omega
theorem ims_sp {L : List Rn} (h : ∀ r ∈ L, 1 ≤ r.2.1) : ims L = L.map spR := by
  unfold ims
  apply List.map_congr_left
  intro r hr
  exact (sp_im (h r hr)).symm
theorem ims_has {L : List Rn} (h : ∀ r ∈ L, 1 ≤ r.2.1) (x : Int) : hasB (ims L) x = imgB L x := by rw [ims_sp h]; exact img_has h x
theorem ims_chk {L : List Rn} (h : Vd L) : chkE (ims L) = 0 := by
  refine chk_of (by rw [ims_len]; exact h.n) fun s hs => ?_
  obtain ⟨r, hr, rfl⟩ := List.mem_map.mp hs
  exact img_lim (h.all r hr)

set_option maxHeartbeats 1600000 in
theorem iso_imageSpans (L : List Rn) (A : Option Addr) (c : Nat) (w : World) (ha : Rns w A L) (hv : Vd L) :
    Calls Try.prog 45 #[.slice A L.length c] w fun e w' => ∃ V cap, e = .returned (.slice V L.length cap) ∧ Sps w' V (ims L) ∧ Below w.heap.size w w' := by
  have HA := Lib.hid ha
  have HV := Lib.hid hv
  have hm := hv.n
  obtain ⟨N, hN⟩ : ∃ N, L.length = N := ⟨_, rfl⟩
  have HN := Lib.hid hN
  rw [hN] at hm ⊢
  have hmk := make_spans N (by omega)
  clear ha hv hN
  go_enter Try.func45, Try.ntmps45
  go_upto_region 2 with fail
  generalize hw1 : w.alloc (.cells (madeCells #[.int .i64 0, .int .i64 0] (N * 2)) 28) = w1
  have HB1 : Hid (Below w.heap.size w w1) := hw1 ▸ below_alloc _ _
  have HF1 : Hid (Fil w1 w.heap.size N []) := hw1 ▸ fil_start w N
  clear hw1 hmk
  go_wp2_with fail
  go_loopw [11] (fun i wr => ∃ k : Nat, k ≤ N ∧ i = .int .i64 k ∧ Fil wr w.heap.size N (ims (L.take k)) ∧ Below w.heap.size w wr) (fun i _ => N - (intOf i).toNat)
  case atStart => exact ⟨0, Nat.zero_le _, rfl, HF1.out, HB1.out⟩
  case round =>
    obtain ⟨k, hk, rfl, hf, hbel⟩ := hrel
    have HF := Lib.hid hf
    have HB := Lib.hid hbel
    clear hf hbel
    rcases Nat.lt_or_ge k N with hlt | hge
    · obtain ⟨r, hr⟩ := get_lt (L := L) (k := k) (by rw [HN.out]; exact hlt)
      have HG := Lib.hid (HV.out.all r (List.mem_of_getElem? hr))
      obtain ⟨b, off, hA0, hb, d0, d1, d2⟩ := rd_at (HA.out.on HB.out) hr
      subst hA0
      obtain ⟨g1, g2, g3, g4, -, -⟩ := gd_iff.mp HG.out
      have HIm := Lib.hid fun W => iso_images r.1 r.2.1 r.2.2 W (by unfold big; unfold ml at *; omega) (by unfold big; unfold ml at *; omega)
      obtain ⟨T, hT⟩ : ∃ T, imT r.1 r.2.1 r.2.2 = T := ⟨_, rfl⟩
      obtain ⟨F, hF⟩ : ∃ F, imF r.1 r.2.1 r.2.2 = F := ⟨_, rfl⟩
      have HTk := Lib.hid (ims_take hr)
      rw [hT, hF] at HIm HTk
      have HLk : Hid (k = (ims (L.take k)).length) := by rw [ims_len, List.length_take, HN.out]; unfold Hid; omega
      have i1 : (k : Int) < (N : Int) := by omega
      have i2 : (0 : Int) ≤ (k : Int) := by omega
      clear hr g1 g2 g3 g4 hT hF
      go_upto_region 5 with fail
      generalize hw2 : wr.alloc (.cells #[.int .i64 r.1, .int .i64 r.2.1, .bool r.2.2] 48) = w2
      have HB2 : Hid (Below wr.heap.size wr w2) := hw2 ▸ below_alloc _ _
      have HR2 : Hid (Cel w2 wr.heap.size [.int .i64 r.1, .int .i64 r.2.1, .bool r.2.2]) := hw2 ▸ Cel.new _ _ _
      clear hw2 d0 d1 d2
      obtain ⟨r0, r1, r2⟩ := HR2.out.three
      go_wp2_with fail
      refine (HIm.out _).mono ?_
      rintro e w3 ⟨rfl, hb3⟩
      have HB3 := Lib.hid (bstep HB2.out hb3)
      have HF3 := Lib.hid (HF.out.on HB3.out)
      obtain ⟨⟨z0, x0⟩, y0⟩ := HF3.out.at_ (j := k * 2) (by omega)
      obtain ⟨⟨z1, x1⟩, y1⟩ := HF3.out.at_ (j := k * 2 + 1) (by omega)
      have HFN := Lib.hid (HF3.out.store HLk.out hlt F T)
      have HBN : Hid (Below w.heap.size w ((w3.setCell ⟨w.heap.size, k * 2, none⟩ (.int .i64 F)).setCell ⟨w.heap.size, k * 2 + 1, none⟩ (.int .i64 T))) := ((bstep HB.out HB3.out).setCell (p := ⟨w.heap.size, k * 2, none⟩) (Nat.le_refl _) _).setCell (p := ⟨w.heap.size, k * 2 + 1, none⟩) (Nat.le_refl _) _
      clear hb3 r0 r1 r2
      go_wp2_with fail
      go_roundw
      case rel => exact ⟨k + 1, by omega, by go_num, by rw [HTk.out]; exact HFN.out, HBN.out⟩
      case measure => simp [intOf]; omega
    · obtain rfl : k = N := by omega
      have hf := HF.out
      rw [← HN.out, List.take_length] at hf
      have HIn := Lib.hid (hf.inL (by rw [ims_len]) (by have := HN.out; unfold maxLen; omega))
      clear hf
      go_wp2_with fail
      go_ret
      obtain ⟨A', c', e', h1, h2, h3⟩ := HIn.out
      obtain ⟨rfl, -, rfl⟩ := Value.slice.inj e'
      exact ⟨_, _, rfl, h3, HB.out⟩
set_option maxHeartbeats 800000 in
theorem iso_Image (L : List Rn) (A : Option Addr) (c : Nat) (w : World) (ha : Rns w A L) (hm : L.length ≤ 9223372036854775807) :
    Calls Try.prog 25 #[.slice A L.length c] w (SetR (eC L) (imgB L) w) := by
  have HA := Lib.hid ha
  clear ha
  go_enter Try.func25, Try.ntmps25
  go_wp2_with fail
  refine (iso_Check L A c w HA.out hm).mono ?_
  rintro e w1 ⟨rfl, hb1⟩
  have HB1 := Lib.hid hb1
  clear hb1
  by_cases hz : eC L = 0
  · have HV := Lib.hid (Vd.ofE hz)
    rw [hz]
    have HZ := Lib.hid hz
    clear hz
    go_wp2_with fail
    refine (iso_imageSpans L A c w1 (HA.out.on HB1.out) HV.out).mono ?_
    rintro e w2 ⟨V, cap, rfl, hs, hb2⟩
    have HB2 := Lib.hid (bstep HB1.out hb2)
    have HNm := Lib.hid (span_Norm (ims L) V cap w2 hs (by rw [ims_len]; omega))
    rw [ims_len] at HNm
    clear hs hb2
    go_wp2_with fail
    refine HNm.out.mono ?_
    intro e w3 h
    obtain ⟨M, V3, c3, rfl, hl3, hs3, hn3, -, hb3⟩ := norm_out (ims_chk HV.out) (ims_has HV.out.pos) h
    have HS3 := Lib.hid hs3
    have HN3 := Lib.hid hn3
    have HB3 := Lib.hid (bstep HB2.out hb3)
    clear h hs3 hn3 hb3
    go_wp2_with fail
    go_ret2
    exact ⟨M, V3, c3, ret_map rfl HZ.out.symm, hl3, HS3.out, fun _ => HN3.out trivial, fun h => absurd HZ.out h, HB3.out⟩
  · obtain ⟨z1, z2⟩ := ne_tests hz
    have HZ := Lib.hid hz
    clear hz
    go_wp2_with fail
    go_ret2
    exact SetR.err HZ.out HB1.out

/-! ### Single -/
def sngB (L : List Rn) : Bool := decide (eC L = 0) && decide (cnt (imgB L) 17179869184 = lenM L)
set_option maxHeartbeats 800000 in
theorem iso_Single (L : List Rn) (A : Option Addr) (c : Nat) (w : World) (ha : Rns w A L) (hm : L.length ≤ 9223372036854775807) :
    Calls Try.prog 16 #[.slice A L.length c] w fun e w' => e = .returned (.bool (sngB L)) ∧ Below w.heap.size w w' := by
  have HA := Lib.hid ha
  clear ha
  go_enter Try.func16, Try.ntmps16
  go_wp2_with fail
  refine (iso_Length L A c w HA.out hm).mono ?_
  rintro e w1 ⟨rfl, hb1⟩
  have HB1 := Lib.hid hb1
  clear hb1
  by_cases hz : eC L = 0
  · have HV := Lib.hid (Vd.ofE hz)
    rw [hz, show lenV L = lenM L from if_pos hz]
    have HZ := Lib.hid hz
    clear hz
    go_wp2_with fail
    refine (iso_imageSpans L A c w1 (HA.out.on HB1.out) HV.out).mono ?_
    rintro e w2 ⟨V, cap, rfl, hs, hb2⟩
    have HB2 := Lib.hid (bstep HB1.out hb2)
    have HTt := Lib.hid (span_Total (ims L) V cap w2 hs (by rw [ims_len]; omega))
    rw [ims_len] at HTt
    clear hs hb2
    go_wp2_with fail
    refine HTt.out.mono ?_
    intro e w3 h
    obtain ⟨rfl, hb3⟩ := tot_out (ims_chk HV.out) (ims_has HV.out.pos) h
    have HB3 := Lib.hid (bstep HB2.out hb3)
    clear h hb3
    obtain ⟨C, hC⟩ : ∃ C, cnt (imgB L) 17179869184 = C := ⟨_, rfl⟩
    rw [hC]
    have HS : Hid (sngB L = (C == lenM L)) := by
      unfold sngB Hid
      rw [decide_eq_true HZ.out, hC, Bool.true_and]
      rw [Bool.eq_iff_iff]; simp
    clear hC
    go_wp2_with fail
    go_ret
    exact ⟨ret_bool HS.out.symm, HB3.out⟩
  · obtain ⟨z1, z2⟩ := ne_tests hz
    have HS : Hid (sngB L = false) := by unfold sngB Hid; rw [decide_eq_false hz, Bool.false_and]
    clear hz
    go_wp2_with fail
    go_ret
    exact ⟨ret_bool HS.out.symm, HB1.out⟩

/-! ### Find -/
/-- The spans of the program, the empty ones among them. -/
def fnS (f t : Int) : Int → List Rn → List (Int × Int)
  | _, [] => []
  | a, r :: m => (a + srF r.1 r.2.1 r.2.2 f t, a + srT r.1 r.2.1 r.2.2 f t) :: fnS f t (a + r.2.1) m
theorem fnS_len (f t : Int) : ∀ (a : Int) (m : List Rn), (fnS f t a m).length = m.length
  | _, [] => rfl
  | a, r :: m => by simp only [fnS, List.length_cons, fnS_len f t (a + r.2.1) m]
theorem fnS_snoc (f t : Int) (r : Rn) : ∀ (m : List Rn) (a : Int), fnS f t a (m ++ [r]) = fnS f t a m ++ [(a + lenM m + srF r.1 r.2.1 r.2.2 f t, a + lenM m + srT r.1 r.2.1 r.2.2 f t)]
  | [], a => by simp [fnS, lenM]
  | s :: m, a => by
    simp only [List.cons_append, fnS, lenM]
    rw [fnS_snoc f t r m (a + s.2.1), show a + s.2.1 + lenM m = a + (s.2.1 + lenM m) by omega]
theorem sr_lim {a n : Int} {b : Bool} {f t : Int} (hn : 1 ≤ n) (h : f ≤ t) : 0 ≤ srF a n b f t ∧ srF a n b f t ≤ srT a n b f t ∧ srT a n b f t ≤ n := by
  unfold srF srT clp
  cases b <;> simp <;> omega
theorem sr_fr {r : Rn} {f t : Int} (hn : 1 ≤ r.2.1) (h : f ≤ t) (k : Int) : (srF r.1 r.2.1 r.2.2 f t ≤ k ∧ k < srT r.1 r.2.1 r.2.2 f t) ↔ (frR r (f, t) ≤ k ∧ k < toR r (f, t)) := by
  unfold srF srT clp frR toR
  cases r.2.2 <;> simp <;> omega
theorem fnS_has {f t : Int} (h : f ≤ t) : ∀ (m : List Rn) (a x : Int), (∀ r ∈ m, 1 ≤ r.2.1) → hasB (fnS f t a m) x = hasB (fndL (f, t) a m) x
  | [], a, x, _ => rfl
  | r :: m, a, x, hp => by
    have hr := hp r (by simp)
    have ih := fnS_has h m (a + r.2.1) x fun s hs => hp s (by simp [hs])
    have hk := sr_fr hr h (x - a)
    simp only [fnS, fndL, Span.hasB_cons, ih]
    have e1 : inS (a + srF r.1 r.2.1 r.2.2 f t, a + srT r.1 r.2.1 r.2.2 f t) x = decide (frR r (f, t) ≤ x - a ∧ x - a < toR r (f, t)) := by
      rw [Bool.eq_iff_iff, inS_iff, decide_eq_true_iff, ← hk]
      simp only; omega
    rw [e1]
    by_cases hc : frR r (f, t) < toR r (f, t)
    · rw [if_pos hc, Span.hasB_cons]
      congr 1
      rw [Bool.eq_iff_iff, inS_iff, decide_eq_true_iff]
      simp only; omega
    · rw [if_neg hc, decide_eq_false (by omega), Bool.false_or]
theorem fnS_find {L : List Rn} (hp : ∀ r ∈ L, 1 ≤ r.2.1) {f t : Int} (h : f ≤ t) (x : Int) : hasB (fnS f t 0 L) x = fndB L (f, t) x := by rw [fnS_has h L 0 x hp, fnd_has hp]
theorem fnS_ok {f t : Int} (h : f ≤ t) : ∀ (m : List Rn) (a : Int), (∀ r ∈ m, 1 ≤ r.2.1) → 0 ≤ a → a + lenM m ≤ 17179869184 → ∀ s ∈ fnS f t a m, 0 ≤ s.1 ∧ s.1 ≤ s.2 ∧ s.2 ≤ 17179869184
  | [], a, _, _, _, s, hs => by simp [fnS] at hs
  | r :: m, a, hp, h0, h1, s, hs => by
    have hr := hp r (by simp)
    have hl := sr_lim (a := r.1) (b := r.2.2) hr h
    have hm := lenM_nonneg (m := m) fun s hs => hp s (by simp [hs])
    simp only [lenM] at h1
    simp only [fnS, List.mem_cons] at hs
    rcases hs with rfl | hs
    · simp only; omega
    · exact fnS_ok h m (a + r.2.1) (fun s hs => hp s (by simp [hs])) (by omega) (by omega) s hs
theorem fnS_chk {L : List Rn} (hv : Vd L) {f t : Int} (h : f ≤ t) : chkE (fnS f t 0 L) = 0 :=
  chk_of (by rw [fnS_len]; exact hv.n) (fnS_ok h L 0 hv.pos (by omega) (by have := hv.len; unfold ml at this; omega))
def fndE (L : List Rn) (f t : Int) : Int := if eC L = 0 then (if inW f t 17179869184 then 0 else 1) else eC L
set_option maxHeartbeats 1600000 in
theorem iso_Find (L : List Rn) (A : Option Addr) (c : Nat) (f t : Int) (w : World) (ha : Rns w A L) (hm : L.length ≤ 9223372036854775807) :
    Calls Try.prog 27 #[.slice A L.length c, .agg #[.int .i64 f, .int .i64 t]] w (SetR (fndE L f t) (fndB L (f, t)) w) := by
  have HA := Lib.hid ha
  clear ha
  obtain ⟨E, hE⟩ : ∃ E, fndE L f t = E := ⟨_, rfl⟩
  rw [hE]
  have HE := Lib.hid hE
  clear hE
  have HCk : Hid (∀ W, Rns W A L → Calls Try.prog 14 #[.slice A L.length c] W fun e w' => e = .returned (.int .i64 (eC L)) ∧ Below W.heap.size W w') := fun W h => iso_Check L A c W h hm
  obtain ⟨N, hN⟩ : ∃ N, L.length = N := ⟨_, rfl⟩
  have HN := Lib.hid hN
  rw [hN] at HCk hm ⊢
  clear hN
  go_enter Try.func27, Try.ntmps27
  go_upto_region 1 with fail
  generalize hw1 : w.alloc (.cells #[.int .i64 f, .int .i64 t] 28) = w1
  have HB1 : Hid (Below w.heap.size w w1) := hw1 ▸ below_alloc _ _
  have HC1 : Hid (Cel w1 w.heap.size [.int .i64 f, .int .i64 t]) := hw1 ▸ Cel.new _ _ _
  clear hw1
  go_wp2_with fail
  refine (HCk.out w1 (HA.out.on HB1.out)).mono ?_
  rintro e w2 ⟨rfl, hb2⟩
  have HB2 := Lib.hid (bstep HB1.out hb2)
  have HC2 := Lib.hid (HC1.out.on hb2)
  clear hb2
  by_cases hz : eC L = 0
  · have HV := Lib.hid (Vd.ofE hz)
    rw [hz]
    have HZ := Lib.hid hz
    clear hz
    obtain ⟨c0, c1⟩ := HC2.out.two
    go_wp2_with fail
    refine (iso_isWithin f t 17179869184 w2).mono ?_
    rintro e w3 ⟨rfl, hb3⟩
    have HB3 := Lib.hid (bstep HB2.out hb3)
    have HC3 := Lib.hid (HC2.out.on hb3)
    clear hb3 c0 c1
    cases hin : inW f t 17179869184 with
    | false =>
      obtain rfl : E = 1 := by rw [← HE.out]; unfold fndE; rw [if_pos HZ.out, hin]; rfl
      clear hin
      go_wp2_with fail
      go_ret2
      exact SetR.err (by decide) HB3.out
    | true =>
      obtain rfl : E = 0 := by rw [← HE.out]; unfold fndE; rw [if_pos HZ.out, hin]; rfl
      obtain ⟨h1, h2, h3⟩ := inW_iff.mp hin
      have HFT := Lib.hid h2
      have HFB : Hid (-big ≤ f ∧ f ≤ big) := by unfold Hid big; omega
      have HTB : Hid (-big ≤ t ∧ t ≤ big) := by unfold Hid big; omega
      have HNm : Hid (∀ (V : Option Addr) (cap : Nat) (W : World), Sps W V (fnS f t 0 L) → Calls Try.prog 53 #[.slice V N cap] W (SetR 0 (fndB L (f, t)) W)) := fun V cap W hs => by
        have h := span_Norm (fnS f t 0 L) V cap W hs (by rw [fnS_len, HN.out]; exact hm)
        rw [fnS_len, HN.out] at h
        exact h.mono fun e w' h => norm_out (fnS_chk HV.out HFT.out) (fnS_find HV.out.pos HFT.out) h
      have hn256 : N ≤ 256 := by have := HV.out.n; rw [HN.out] at this; exact this
      have hmk := make_spans N (by omega)
      clear hin h1 h2 h3
      go_upto_region 7 with fail
      generalize hw4 : w3.alloc (.cells (madeCells #[.int .i64 0, .int .i64 0] (N * 2)) 28) = w4
      have HB4 : Hid (Below w.heap.size w w4) := hw4 ▸ HB3.out.alloc HB3.out.size _
      have HF4 : Hid (Fil w4 w3.heap.size N []) := hw4 ▸ fil_start w3 N
      have HC4 : Hid (Cel w4 w.heap.size [.int .i64 f, .int .i64 t]) := hw4 ▸ HC3.out.alloc _
      have HG3 : Hid (w.heap.size < w3.heap.size) := HC3.out.lt
      clear hw4 hmk
      go_wp2_with fail
      go_loopw [25, 8] (fun i s wr => ∃ k : Nat, k ≤ N ∧ i = .int .i64 k ∧ s = .int .i64 (lenM (L.take k)) ∧ Fil wr w3.heap.size N (fnS f t 0 (L.take k)) ∧ Cel wr w.heap.size [.int .i64 f, .int .i64 t] ∧ Below w.heap.size w wr) (fun i s _ => N - (intOf i).toNat)
      case atStart => exact ⟨0, Nat.zero_le _, rfl, rfl, HF4.out, HC4.out, HB4.out⟩
      case round =>
        obtain ⟨k, hk, rfl, rfl, hf, hcl, hbel⟩ := hrel
        have HF := Lib.hid hf
        have HC := Lib.hid hcl
        have HB := Lib.hid hbel
        clear hf hcl hbel
        rcases Nat.lt_or_ge k N with hlt | hge
        · obtain ⟨r, hr⟩ := get_lt (L := L) (k := k) (by rw [HN.out]; exact hlt)
          have HG := Lib.hid (HV.out.all r (List.mem_of_getElem? hr))
          obtain ⟨b, off, hA0, hb, d0, d1, d2⟩ := rd_at (HA.out.on HB.out) hr
          subst hA0
          obtain ⟨g1, g2, g3, g4, -, -⟩ := gd_iff.mp HG.out
          have HSo := Lib.hid fun W => iso_sources r.1 r.2.1 r.2.2 f t W (by unfold big; unfold ml at *; omega) HFB.out HTB.out
          have hsr := sr_lim (a := r.1) (b := r.2.2) g1 HFT.out
          obtain ⟨X, hX⟩ : ∃ X, srF r.1 r.2.1 r.2.2 f t = X := ⟨_, rfl⟩
          obtain ⟨Y, hY⟩ : ∃ Y, srT r.1 r.2.1 r.2.2 f t = Y := ⟨_, rfl⟩
          have HTk : Hid (fnS f t 0 (L.take (k + 1)) = fnS f t 0 (L.take k) ++ [(lenM (L.take k) + X, lenM (L.take k) + Y)]) := by rw [take_snoc_of hr, fnS_snoc, hX, hY, Int.zero_add]; exact Lib.hid rfl
          have HTL := Lib.hid (lenM_take hr)
          rw [hX, hY] at HSo hsr
          have hq := lenM_le (m := L) HV.out.pos k
          have hq2 := HV.out.len
          obtain ⟨q, hqq⟩ : ∃ q, lenM (L.take k) = q := ⟨_, rfl⟩
          rw [hqq] at HTk HTL hq ⊢
          have e1 : IntKind.i64.wrap (q + X) = q + X := wrap_id (by unfold ml at *; omega)
          have e2 : IntKind.i64.wrap (q + Y) = q + Y := wrap_id (by unfold ml at *; omega)
          have e3 : IntKind.i64.wrap (q + r.2.1) = q + r.2.1 := wrap_id (by unfold ml at *; omega)
          have HLk : Hid (k = (fnS f t 0 (L.take k)).length) := by rw [fnS_len, List.length_take, HN.out]; unfold Hid; omega
          have i1 : (k : Int) < (N : Int) := by omega
          have i2 : (0 : Int) ≤ (k : Int) := by omega
          clear hr g1 g2 g3 g4 hX hY hsr hq hq2 hqq
          go_upto_region 11 with fail
          generalize hw5 : wr.alloc (.cells #[.int .i64 r.1, .int .i64 r.2.1, .bool r.2.2] 48) = w5
          have HB5 : Hid (Below wr.heap.size wr w5) := hw5 ▸ below_alloc _ _
          have HR5 : Hid (Cel w5 wr.heap.size [.int .i64 r.1, .int .i64 r.2.1, .bool r.2.2]) := hw5 ▸ Cel.new _ _ _
          have HC5 := Lib.hid (HC.out.on HB5.out)
          clear hw5 d0 d1 d2
          obtain ⟨r0, r1, r2⟩ := HR5.out.three
          obtain ⟨c0, c1⟩ := HC5.out.two
          go_wp2_with fail
          refine (HSo.out _).mono ?_
          rintro e w6 ⟨rfl, hb6⟩
          have HB6 := Lib.hid (bstep HB5.out hb6)
          have HR6 := Lib.hid (HR5.out.on hb6)
          clear hb6 r0 r1 r2 c0 c1
          go_upto_region 12 with fail
          generalize hw7 : w6.alloc (.cells #[.int .i64 X, .int .i64 Y] 28) = w7
          have HB7 : Hid (Below wr.heap.size wr w7) := hw7 ▸ HB6.out.alloc HB6.out.size _
          have HR7 : Hid (Cel w7 wr.heap.size [.int .i64 r.1, .int .i64 r.2.1, .bool r.2.2]) := hw7 ▸ HR6.out.alloc _
          have HX7 : Hid (Cel w7 w6.heap.size [.int .i64 X, .int .i64 Y]) := hw7 ▸ Cel.new _ _ _
          clear hw7
          have HF7 := Lib.hid (HF.out.on HB7.out)
          have HC7 := Lib.hid (HC.out.on HB7.out)
          obtain ⟨⟨z0, x0⟩, y0⟩ := HF7.out.at_ (j := k * 2) (by omega)
          obtain ⟨⟨z1, x1⟩, y1⟩ := HF7.out.at_ (j := k * 2 + 1) (by omega)
          have HFN := Lib.hid (HF7.out.store HLk.out hlt (q + X) (q + Y))
          have hgl : w3.heap.size < wr.heap.size := HF.out.lt
          have HW3 : Hid (w.heap.size ≤ w3.heap.size) := Nat.le_of_lt HG3.out
          have HBN : Hid (Below w.heap.size w ((w7.setCell ⟨w3.heap.size, k * 2, none⟩ (.int .i64 (q + X))).setCell ⟨w3.heap.size, k * 2 + 1, none⟩ (.int .i64 (q + Y)))) := ((bstep HB.out HB7.out).setCell (p := ⟨w3.heap.size, k * 2, none⟩) HW3.out _).setCell (p := ⟨w3.heap.size, k * 2 + 1, none⟩) HW3.out _
          have HCN : Hid (Cel ((w7.setCell ⟨w3.heap.size, k * 2, none⟩ (.int .i64 (q + X))).setCell ⟨w3.heap.size, k * 2 + 1, none⟩ (.int .i64 (q + Y))) w.heap.size [.int .i64 f, .int .i64 t]) := (HC7.out.far (p := ⟨w3.heap.size, k * 2, none⟩) (Nat.ne_of_gt HG3.out) _).far (p := ⟨w3.heap.size, k * 2 + 1, none⟩) (Nat.ne_of_gt HG3.out) _
          have HRN : Hid (Cel ((w7.setCell ⟨w3.heap.size, k * 2, none⟩ (.int .i64 (q + X))).setCell ⟨w3.heap.size, k * 2 + 1, none⟩ (.int .i64 (q + Y))) wr.heap.size [.int .i64 r.1, .int .i64 r.2.1, .bool r.2.2]) := (HR7.out.far (p := ⟨w3.heap.size, k * 2, none⟩) (Nat.ne_of_lt hgl) _).far (p := ⟨w3.heap.size, k * 2 + 1, none⟩) (Nat.ne_of_lt hgl) _
          obtain ⟨p0, p1⟩ := HX7.out.two
          go_upto_region 13 with fail
          generalize hw8 : (w7.setCell ⟨w3.heap.size, k * 2, none⟩ (.int .i64 (q + X))).setCell ⟨w3.heap.size, k * 2 + 1, none⟩ (.int .i64 (q + Y)) = w8
          rw [hw8] at HFN HBN HCN HRN
          clear hw8 p0 p1 x0 x1 y0 y1
          obtain ⟨r0, r1, r2⟩ := HRN.out.three
          go_wp2_with fail
          go_roundw
          case rel => exact ⟨k + 1, by omega, by go_num, by rw [HTL.out], by rw [HTk.out]; exact HFN.out, HCN.out, HBN.out⟩
          case measure => simp [intOf]; omega
        · obtain rfl : k = N := by omega
          have hf := HF.out
          rw [← HN.out, List.take_length] at hf
          have hin := hf.inL (by rw [fnS_len]) (by have := HN.out; unfold maxLen; omega)
          obtain ⟨A', c', e', -, -, hsp⟩ := hin
          obtain ⟨rfl, -, -⟩ := Value.slice.inj e'
          have HNc := Lib.hid (HNm.out _ k wr hsp)
          clear hf e' hsp
          go_wp2_with fail
          refine HNc.out.mono ?_
          rintro e w9 ⟨M, V9, c9, rfl, hl9, hs9, hn9, -, hb9⟩
          have HS9 := Lib.hid hs9
          have HN9 := Lib.hid hn9
          have HB9 := Lib.hid (bstep HB.out hb9)
          clear hs9 hn9 hb9
          go_wp2_with fail
          go_ret2
          exact ⟨M, V9, c9, rfl, hl9, HS9.out, fun _ => HN9.out trivial, fun h => absurd rfl h, HB9.out⟩
  · obtain ⟨z1, z2⟩ := ne_tests hz
    obtain rfl : eC L = E := by rw [← HE.out]; unfold fndE; rw [if_neg hz]
    have HZ := Lib.hid hz
    clear hz
    go_wp2_with fail
    go_ret2
    exact SetR.err HZ.out HB2.out
#print axioms iso_imageSpans
#print axioms iso_Single
#print axioms iso_Find
#print axioms iso_Image
end Go.Proofs.Ytnblpooimgpgoaa.Iso
