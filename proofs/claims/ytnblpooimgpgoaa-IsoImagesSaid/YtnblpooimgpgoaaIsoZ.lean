/- Image, Find, Single of the reference. -/
import Derived.Test.YtnblpooimgpgoaaIsoX
import Derived.Test.YtnblpooimgpgoaaIsoS
namespace Go.Proofs.Ytnblpooimgpgoaa.Iso
open Go.ChangeShapes Go.WideShapes Go.RowKit Go.Lib Go.Proofs.Ytnblpooimgpgoaa.Rw
open Go.Proofs.Ytnblpooimgpgoaa.Span (inS inS_iff hasB hasB_iff hasB_nil IsNf Nrm Sps InL chkE chk_of okS SetRes TotRes cnt)
set_option linter.unusedVariables false
set_option maxRecDepth 100000

abbrev TS : TypeId := 28
def cS (s : Int × Int) : List Value := [.int .i64 s.1, .int .i64 s.2]
theorem cS_len (s : Int × Int) : (cS s).length = 2 := rfl
theorem info_s : (Try.prog.info? TS).map (fun i => (i.zero, i.size, i.bytes)) = some (some (.agg #[.int .i64 0, .int .i64 0]), 2, 16) := by kernel_rfl
theorem kdS : Kd cS 2 35 TS := by
  obtain ⟨i, h1, h2, h3, h4⟩ := info_parts info_s
  exact ⟨Try.underlying35, ⟨i, _, _, h1, h2, h3, rfl, rfl, by rw [h4]; decide⟩, cS_len, by decide, fun z u hu => by
    simp [cS] at hu
    rcases hu with h | h <;> subst h <;> rfl⟩
theorem sps_of {w : World} {A : Option Addr} {L : List (Int × Int)} (h : Rd cS 2 w A L) : Sps w A L := by
  intro k s hk
  obtain ⟨b, off, e, hb, hc⟩ := h k s hk
  exact ⟨b, off, e, hb, hc 0 _ rfl, hc 1 _ rfl⟩
theorem las_lim {r : Rn} (h : gd r = true) : min r.1 (imI r.1 r.2.2 (r.2.1 - 1)) = imF r.1 r.2.1 r.2.2 ∧ max r.1 (imI r.1 r.2.2 (r.2.1 - 1)) + 1 = imT r.1 r.2.1 r.2.2 ∧ 0 ≤ imI r.1 r.2.2 (r.2.1 - 1) ∧ imI r.1 r.2.2 (r.2.1 - 1) < ml := by
  obtain ⟨g1, g2, g3, g4, g5, g6⟩ := gd_iff.mp h
  unfold imI imF imT
  cases hb : r.2.2 with
  | true => have := g5 hb; simp; unfold ml at *; omega
  | false => have := g6 hb; simp; unfold ml at *; omega

set_option maxHeartbeats 1600000 in
theorem ref_Image (L : List Rn) (A : Option Addr) (c : Nat) (w : World) (ha : Rns w A L) (hm : L.length ≤ 9223372036854775807) :
    Calls Try.prog 26 #[.slice A L.length c] w (SetR (eC L) (imgB L) w) := by
  have HA := Lib.hid ha
  clear ha
  have HCk := Lib.hid (ref_Check L A c w HA.out hm)
  obtain ⟨E, hE⟩ : ∃ E, eC L = E := ⟨_, rfl⟩
  rw [hE] at HCk ⊢
  have HE := Lib.hid hE
  clear hE
  go_enter Try.func26, Try.ntmps26
  go_wp2_with fail
  refine HCk.out.mono ?_
  rintro e w1 ⟨rfl, hb1⟩
  have HB1 := Lib.hid hb1
  clear hb1
  by_cases hz : E = 0
  · subst hz
    have HV := Lib.hid (Vd.ofE HE.out)
    have hn256 := HV.out.n
    obtain ⟨wq, rfl⟩ : ∃ W, W = w1 := ⟨w1, rfl⟩
    go_wp2_with fail
    go_loopw [5, 6] (fun v i wr => ∃ (k : Nat) (A' : Option Addr) (n' c' : Nat), k ≤ L.length ∧ i = .int .i64 k ∧ v = .slice A' n' c' ∧ n' = k ∧ Row cS 2 TS w.heap.size wr (.slice A' n' c') (ims (L.take k)) ∧ Below w.heap.size w wr) (fun v i _ => L.length - (intOf i).toNat)
    case atStart => exact ⟨0, none, 0, 0, Nat.zero_le _, rfl, rfl, rfl, Row.nil _ _ _ _ _, HB1.out⟩
    case round =>
      obtain ⟨k, A', n', c', hk, rfl, rfl, hn, hrow, hbel⟩ := hrel
      have HN := Lib.hid hn
      have HR := Lib.hid hrow
      have HB := Lib.hid hbel
      clear hn hrow hbel
      rcases Nat.lt_or_ge k L.length with hlt | hge
      · obtain ⟨r, hr⟩ := get_lt hlt
        have HG := Lib.hid (HV.out.all r (List.mem_of_getElem? hr))
        obtain ⟨b, off, hA0, hb, d0, d1, d2⟩ := rd_at (HA.out.on HB.out) hr
        subst hA0
        obtain ⟨g1, g2, g3, g4, -, -⟩ := gd_iff.mp HG.out
        have HIm := Lib.hid fun W => ref_image r.1 r.2.1 r.2.2 (r.2.1 - 1) W (by unfold big; unfold ml at *; omega) (by unfold big; unfold ml at *; omega)
        have hll := las_lim HG.out
        have hil := img_lim HG.out
        have HTk := Lib.hid (ims_take hr)
        have HD : Hid (∀ W : World, Below wr.heap.size wr W → W.cell? ⟨b, off + k * 3, none⟩ = some (.int .i64 r.1) ∧ W.cell? ⟨b, off + k * 3 + 1, none⟩ = some (.int .i64 r.2.1) ∧ W.cell? ⟨b, off + k * 3 + 2, none⟩ = some (.bool r.2.2)) := fun W hbw => ⟨(hbw.cell (p := ⟨b, off + k * 3, none⟩) hb).trans d0, (hbw.cell (p := ⟨b, off + k * 3 + 1, none⟩) hb).trans d1, (hbw.cell (p := ⟨b, off + k * 3 + 2, none⟩) hb).trans d2⟩
        obtain ⟨T, hT⟩ : ∃ T, imT r.1 r.2.1 r.2.2 = T := ⟨_, rfl⟩
        obtain ⟨F, hF⟩ : ∃ F, imF r.1 r.2.1 r.2.2 = F := ⟨_, rfl⟩
        obtain ⟨Z, hZ⟩ : ∃ Z, imI r.1 r.2.2 (r.2.1 - 1) = Z := ⟨_, rfl⟩
        rw [hT, hF] at HTk
        rw [hZ] at HIm
        rw [hT, hF, hZ] at hll
        rw [hT, hF] at hil
        have HLL := Lib.hid hll
        have e1 : IntKind.i64.wrap (r.2.1 - 1) = r.2.1 - 1 := wrap_id (by unfold ml at *; omega)
        have i1 : (k : Int) < (L.length : Int) := by omega
        have i2 : (0 : Int) ≤ (k : Int) := by omega
        have HTm : Hid (-9223372036854775808 ≤ T ∧ T ≤ 9223372036854775807) := (by omega : -9223372036854775808 ≤ T ∧ T ≤ 9223372036854775807)
        clear hr g1 g2 g3 g4 hT hF hZ hll hil
        go_upto_region 8 with fail
        go_cut [7, 8] from 20 to 35 (fun x y wz => x = .int .i64 r.1 ∧ y = .int .i64 Z ∧ Below wr.heap.size wr wz)
        case first =>
          go_region_held3 (fun W' => W'.cell? ⟨b, off + k * 3, none⟩ = some (.int .i64 r.1) ∧ W'.cell? ⟨b, off + k * 3 + 1, none⟩ = some (.int .i64 r.2.1) ∧ W'.cell? ⟨b, off + k * 3 + 2, none⟩ = some (.bool r.2.2))
            (first | exact HD.out _ (Below.refl _ _) | exact HD.out _ (drew_below _) | exact HD.out _ (bstep (drew_below _) hb3))
            ((go_at_call 50; (refine (HIm.out _).mono ?_); rintro e w3 ⟨rfl, hb3⟩))
          all_goals
            go_wp2_with fail
            go_meet
            case rel => exact ⟨rfl, rfl, bstep (drew_below _) hb3⟩
        case rest =>
          obtain ⟨rfl, rfl, hbc⟩ := hcut
          have HBc := Lib.hid (HB.out.trans (hbc.mono HB.out.size))
          have HRc := Lib.hid (HR.out.on hbc)
          clear d0 d1 d2 hbc
          obtain ⟨wy, rfl⟩ : ∃ W, W = wc := ⟨wc, rfl⟩
          have HLe : Hid ((ims (L.take k)).length + 1 ≤ 1000000) := by rw [ims_len, List.length_take]; unfold Hid; omega
          have e2 : IntKind.i64.wrap (max r.1 Z + 1) = max r.1 Z + 1 := wrap_id (by have := HLL.out.2.1; have := HTm.out; omega)
          go_wp2_with (at_builtin; refine append_rows kdS rfl (.tmp 36) (.tmp 45) rfl (.slice A' n' c') (ims (L.take k)) rfl (HRc.out.on (below_alloc _ _)) (some ⟨wy.heap.size, 0, none⟩) 1 1 [(min r.1 Z, max r.1 Z + 1)] rfl rfl (rd_one cS_len (heap_alloc_new _ _)) HLe.out (Nat.le_trans HBc.out.size (below_alloc _ _).size) ?_; intro A5 n5 c5 w5 hn5 hr5 hg5 hat5; have HN5 := Lib.hid hn5; have HR5 := Lib.hid hr5; have HG5 := Lib.hid hg5; clear hn5 hr5 hg5 hat5; refine Hid.out ?_)
          have HB5 : Hid (Below w.heap.size w w5) := (HBc.out.trans ((below_alloc wy _).mono HBc.out.size)).trans ((HRc.out.on (below_alloc wy _)).below HG5.out (Nat.le_trans HBc.out.size (below_alloc _ _).size))
          have HR6 : Hid (Row cS 2 TS w.heap.size w5 (.slice A5 n5 c5) (ims (L.take (k + 1)))) := by
            have h := HR5.out
            rw [HLL.out.1, HLL.out.2.1, ← HTk.out] at h
            exact h
          have HN6 : Hid (n5 = k + 1) := by have h := HN5.out; rw [ims_len, List.length_take] at h; unfold Hid; omega
          clear e2 HLe HN5 HR5 HG5
          refine Lib.hid ?_
          go_wp2_with fail
          go_roundw
          case rel => exact ⟨k + 1, A5, n5, c5, by omega, by go_num, rfl, HN6.out, HR6.out, HB5.out⟩
          case measure => simp [intOf]; omega
      · obtain rfl : k = L.length := by omega
        have HSp := Lib.hid (by have h := HR.out; rw [List.take_length] at h; exact h : Row cS 2 TS w.heap.size wr (.slice A' n' c') (ims L))
        have HNo := Lib.hid (Span.ref_Norm (ims L) A' c' wr (by obtain ⟨A6, c6, e6, -, -, hr6, -⟩ := HSp.out.one cS_len; cases e6; exact sps_of hr6) (by rw [ims_len]; omega))
        rw [ims_len] at HNo
        obtain rfl : n' = L.length := HN.out
        go_wp2_with fail
        refine HNo.out.mono ?_
        intro e w9 h
        obtain ⟨M, V9, c9, rfl, hl9, hs9, hn9, -, hb9⟩ := norm_out (ims_chk HV.out) (ims_has HV.out.pos) h
        have HS9 := Lib.hid hs9
        have HN9 := Lib.hid hn9
        have HB9 := Lib.hid (bstep HB.out hb9)
        clear h hs9 hn9 hb9
        go_wp2_with fail
        go_ret2
        exact ⟨M, V9, c9, rfl, hl9, HS9.out, fun _ => HN9.out trivial, fun h => absurd rfl h, HB9.out⟩
  · obtain ⟨z1, z2⟩ := ne_tests hz
    have HZ := Lib.hid hz
    clear hz
    go_wp2_with fail
    go_ret2
    exact SetR.err HZ.out HB1.out
theorem fndL_snoc (s : Int × Int) (r : Rn) : ∀ (m : List Rn) (a : Int), fndL s a (m ++ [r]) = fndL s a m ++ (if frR r s < toR r s then [(a + lenM m + frR r s, a + lenM m + toR r s)] else [])
  | [], a => by simp [fndL, lenM]
  | q :: m, a => by
    simp only [List.cons_append, fndL, lenM]
    rw [fndL_snoc s r m (a + q.2.1), show a + q.2.1 + lenM m = a + (q.2.1 + lenM m) by omega]
    split <;> simp
theorem fndL_len (s : Int × Int) : ∀ (m : List Rn) (a : Int), (fndL s a m).length ≤ m.length
  | [], a => by simp [fndL]
  | q :: m, a => by
    have := fndL_len s m (a + q.2.1)
    simp only [fndL]
    split <;> simp only [List.length_cons] <;> omega
theorem fr_lim (r : Rn) (s : Int × Int) : 0 ≤ frR r s ∧ toR r s ≤ r.2.1 := by
  unfold frR toR
  split <;> omega
theorem fndL_ok (s : Int × Int) : ∀ (m : List Rn) (a : Int), (∀ r ∈ m, 1 ≤ r.2.1) → 0 ≤ a → a + lenM m ≤ 17179869184 → ∀ z ∈ fndL s a m, 0 ≤ z.1 ∧ z.1 ≤ z.2 ∧ z.2 ≤ 17179869184
  | [], a, _, _, _, z, hz => by simp [fndL] at hz
  | r :: m, a, hp, h0, h1, z, hz => by
    have hr := hp r (by simp)
    have hl := fr_lim r s
    have hm := lenM_nonneg (m := m) fun s hs => hp s (by simp [hs])
    have ih := fndL_ok s m (a + r.2.1) (fun s hs => hp s (by simp [hs])) (by omega) (by simp only [lenM] at h1; omega)
    simp only [lenM] at h1
    simp only [fndL] at hz
    split at hz
    · rcases List.mem_cons.mp hz with rfl | hz
      · simp only; omega
      · exact ih z hz
    · exact ih z hz
theorem fndL_chk {L : List Rn} (hv : Vd L) (s : Int × Int) : chkE (fndL s 0 L) = 0 :=
  chk_of (Nat.le_trans (fndL_len s L 0) hv.n) (fndL_ok s L 0 hv.pos (by omega) (by have := hv.len; unfold ml at this; omega))

theorem tot_nf {L : List Rn} {M : List (Int × Int)} {w w' : World} {e : Ending} (hv : Vd L) (hn : IsNf (imgB L) M) (hl : M.length ≤ 256) (h : TotRes M w e w') : e = .returned (.tuple #[.int .i64 (cnt (imgB L) 17179869184), .int .i64 0]) ∧ Below w.heap.size w w' :=
  tot_out (hn.chk (fun x hx => ex_range hv.all x (of_decide_eq_true hx)) hl) hn.2 h

set_option maxHeartbeats 1600000 in
theorem ref_Single (L : List Rn) (A : Option Addr) (c : Nat) (w : World) (ha : Rns w A L) (hm : L.length ≤ 9223372036854775807) :
    Calls Try.prog 17 #[.slice A L.length c] w fun e w' => e = .returned (.bool (sngB L)) ∧ Below w.heap.size w w' := by
  have HA := Lib.hid ha
  clear ha
  have HCk := Lib.hid (ref_Check L A c w HA.out hm)
  have HIm := Lib.hid fun W h => ref_Image L A c W h hm
  obtain ⟨E, hE⟩ : ∃ E, eC L = E := ⟨_, rfl⟩
  rw [hE] at HCk HIm
  have HE := Lib.hid hE
  clear hE
  obtain ⟨S, hS⟩ : ∃ S, sngB L = S := ⟨_, rfl⟩
  have HS := Lib.hid hS
  rw [hS]
  clear hS
  go_enter Try.func17, Try.ntmps17
  go_wp2_with fail
  refine HCk.out.mono ?_
  rintro e w1 ⟨rfl, hb1⟩
  have HB1 := Lib.hid hb1
  clear hb1
  by_cases hz : E = 0
  · subst hz
    have HV := Lib.hid (Vd.ofE HE.out)
    go_wp2_with fail
    refine (HIm.out w1 (HA.out.on HB1.out)).mono ?_
    rintro e w2 ⟨M, V, cap, rfl, hl2, hs2, hn2, -, hb2⟩
    have HB2 := Lib.hid (bstep HB1.out hb2)
    have HTt := Lib.hid (Span.ref_Total M V cap w2 hs2 (by omega))
    have HN2 := Lib.hid (hn2 rfl)
    have HL2 := Lib.hid hl2
    clear hl2 hs2 hn2 hb2
    go_wp2_with fail
    refine HTt.out.mono ?_
    intro e w3 h
    obtain ⟨rfl, hb3⟩ := tot_nf HV.out HN2.out HL2.out h
    have HB3 := Lib.hid (bstep HB2.out hb3)
    clear h hb3
    have HLen := Lib.hid fun n => ref_length_same L A c (w3.drewN n) (HA.out.on (below_drewN HB3.out n)) (by have := HV.out.n; omega) HV.out.lims
    have HLe2 := Lib.hid (ref_length_same L A c w3 (HA.out.on HB3.out) (by have := HV.out.n; omega) HV.out.lims)
    obtain ⟨C, hC⟩ : ∃ C, cnt (imgB L) 17179869184 = C := ⟨_, rfl⟩
    rw [hC]
    have HS2 : Hid (S = (C == lenM L)) := by
      have h := HS.out
      unfold sngB at h
      rw [decide_eq_true HE.out, hC, Bool.true_and] at h
      rw [← h]
      unfold Hid
      rw [Bool.eq_iff_iff]; simp
    clear hC
    go_wp2_with fail
    refine HLe2.out.mono ?_
    rintro e w4 ⟨rfl, rfl⟩
    go_wp2_with fail
    go_ret
    exact ⟨ret_bool HS2.out.symm, HB3.out⟩
  · obtain ⟨z1, z2⟩ := ne_tests hz
    obtain rfl : S = false := by rw [← HS.out]; unfold sngB; rw [decide_eq_false (by rw [HE.out]; exact hz), Bool.false_and]
    clear hz
    go_wp2_with fail
    go_ret
    exact ⟨rfl, HB1.out⟩

theorem off_of {B : Nat} {a b : World} (h : Below B a b) : Off (fun k => B ≤ k) a b := ⟨h.os, h.tape, h.output, h.size, fun k _ hn => h.block k (Nat.lt_of_not_le hn)⟩
set_option maxHeartbeats 3200000 in
theorem ref_Find (L : List Rn) (A : Option Addr) (c : Nat) (f t : Int) (w : World) (ha : Rns w A L) (hm : L.length ≤ 9223372036854775807) :
    Calls Try.prog 28 #[.slice A L.length c, .agg #[.int .i64 f, .int .i64 t]] w (SetR (fndE L f t) (fndB L (f, t)) w) := by
  have HA := Lib.hid ha
  clear ha
  obtain ⟨E, hE⟩ : ∃ E, fndE L f t = E := ⟨_, rfl⟩
  rw [hE]
  have HE := Lib.hid hE
  clear hE
  go_enter Try.func28, Try.ntmps28
  go_upto_region 1 with fail
  generalize hw1 : w.alloc (.cells #[.int .i64 f, .int .i64 t] 28) = w1
  have HB1 : Hid (Below w.heap.size w w1) := hw1 ▸ below_alloc _ _
  have HC1 : Hid (Cel w1 w.heap.size [.int .i64 f, .int .i64 t]) := hw1 ▸ Cel.new _ _ _
  clear hw1
  go_wp2_with fail
  refine (ref_Check L A c w1 (HA.out.on HB1.out) hm).mono ?_
  rintro e w2 ⟨rfl, hb2⟩
  have HB2 := Lib.hid (bstep HB1.out hb2)
  have HC2 := Lib.hid (HC1.out.on hb2)
  clear hb2
  by_cases hz : eC L = 0
  · have HV := Lib.hid (Vd.ofE hz)
    rw [hz]
    have HZ := Lib.hid hz
    clear hz
    obtain ⟨c0, c1⟩ := HC2.out.two
    cases hin : inW f t 17179869184 with
    | false =>
      obtain rfl : E = 1 := by rw [← HE.out]; unfold fndE; rw [if_pos HZ.out, hin]; rfl
      rcases inW_false hin with h | ⟨h1, h⟩ | ⟨h1, h2, h⟩
      · have d1 : decide (f < 0) = true := decide_eq_true h
        clear h hin
        go_wp2_with fail
        go_ret2
        exact SetR.err (by decide) HB2.out
      · have d1 : decide (f < 0) = false := decide_eq_false (by omega)
        have d2 : decide (t < f) = true := decide_eq_true h
        clear h h1 hin
        go_wp2_with fail
        go_ret2
        exact SetR.err (by decide) HB2.out
      · have d1 : decide (f < 0) = false := decide_eq_false (by omega)
        have d2 : decide (t < f) = false := decide_eq_false (by omega)
        have d3 : decide (17179869184 < t) = true := decide_eq_true h
        clear h h1 h2 hin
        go_wp2_with fail
        go_ret2
        exact SetR.err (by decide) HB2.out
    | true =>
      obtain rfl : E = 0 := by rw [← HE.out]; unfold fndE; rw [if_pos HZ.out, hin]; rfl
      obtain ⟨h1, h2, h3⟩ := inW_iff.mp hin
      have HFT : Hid (0 ≤ f ∧ f ≤ t ∧ t ≤ 17179869184) := ⟨h1, h2, h3⟩
      have d1 : decide (f < 0) = false := decide_eq_false (by omega)
      have d2 : decide (t < f) = false := decide_eq_false (by omega)
      have d3 : decide (17179869184 < t) = false := decide_eq_false (by omega)
      have hn256 := HV.out.n
      clear h1 h2 h3 hin
      obtain ⟨wq, rfl⟩ : ∃ W, W = w2 := ⟨w2, rfl⟩
      go_wp2_with fail
      go_loopw [7, 8, 9] (fun v s i wr => ∃ (k : Nat) (A' : Option Addr) (n' c' : Nat), k ≤ L.length ∧ i = .int .i64 k ∧ s = .int .i64 (lenM (L.take k)) ∧ v = .slice A' n' c' ∧ n' = (fndL (f, t) 0 (L.take k)).length ∧ Row cS 2 TS (w.heap.size + 1) wr (.slice A' n' c') (fndL (f, t) 0 (L.take k)) ∧ Cel wr w.heap.size [.int .i64 f, .int .i64 t] ∧ Below w.heap.size w wr) (fun v s i _ => L.length - (intOf i).toNat)
      case atStart => exact ⟨0, none, 0, 0, Nat.zero_le _, rfl, rfl, rfl, rfl, Row.nil _ _ _ _ _, HC2.out, HB2.out⟩
      case round =>
        obtain ⟨k, A', n', c', hk, rfl, rfl, rfl, hn, hrow, hcel, hbel⟩ := hrel
        have HN := Lib.hid hn
        have HR := Lib.hid hrow
        have HCe := Lib.hid hcel
        have HB := Lib.hid hbel
        clear hn hrow hcel hbel d1 d2 d3 c0 c1
        rcases Nat.lt_or_ge k L.length with hlt | hge
        · obtain ⟨r, hr⟩ := get_lt hlt
          have HG := Lib.hid (HV.out.all r (List.mem_of_getElem? hr))
          obtain ⟨b, off, hA0, hb, d0, d1, d2⟩ := rd_at (HA.out.on HB.out) hr
          subst hA0
          obtain ⟨g1, g2, g3, g4, -, -⟩ := gd_iff.mp HG.out
          have HRk := Lib.hid hr
          have HTL := Lib.hid (lenM_take hr)
          have hq := lenM_le (m := L) HV.out.pos k
          have hq1 := HV.out.len
          have hq2 := lenM_nonneg (m := L.take k) (fun s hs => HV.out.pos s (List.mem_of_mem_take hs))
          have hq3 := lenM_le (m := L) HV.out.pos (k + 1)
          rw [lenM_take hr] at hq3
          obtain ⟨F, hF⟩ : ∃ F, frR r (f, t) = F := ⟨_, rfl⟩
          obtain ⟨T, hT⟩ : ∃ T, toR r (f, t) = T := ⟨_, rfl⟩
          have hFd : F = if r.2.2 then max 0 (r.1 - t + 1) else max 0 (f - r.1) := hF.symm
          have hTd : T = if r.2.2 then min r.2.1 (r.1 - f + 1) else min r.2.1 (t - r.1) := hT.symm
          have hfl := fr_lim r (f, t)
          have hsn := fndL_snoc (f, t) r (L.take k) 0
          rw [← take_snoc_of hr, Int.zero_add] at hsn
          rw [hF, hT] at hfl hsn
          have HTk := Lib.hid hsn
          have HLk := Lib.hid (fndL_len (f, t) (L.take k) 0)
          have hft := HFT.out
          have HSS := Lib.hid fun (W : World) (hbw : Below wr.heap.size wr W) => (⟨(HCe.out.on hbw).two, (hbw.cell (p := ⟨b, off + k * 3, none⟩) hb).trans d0, (hbw.cell (p := ⟨b, off + k * 3 + 1, none⟩) hb).trans d1, (hbw.cell (p := ⟨b, off + k * 3 + 2, none⟩) hb).trans d2⟩ : (W.cell? ⟨w.heap.size, 0, none⟩ = some (.int .i64 f) ∧ W.cell? ⟨w.heap.size, 1, none⟩ = some (.int .i64 t)) ∧ W.cell? ⟨b, off + k * 3, none⟩ = some (.int .i64 r.1) ∧ W.cell? ⟨b, off + k * 3 + 1, none⟩ = some (.int .i64 r.2.1) ∧ W.cell? ⟨b, off + k * 3 + 2, none⟩ = some (.bool r.2.2))
          have e1 : IntKind.i64.wrap (f - r.1) = f - r.1 := wrap_id (by unfold ml at *; omega)
          have e2 : IntKind.i64.wrap (t - r.1) = t - r.1 := wrap_id (by unfold ml at *; omega)
          have e3 : IntKind.i64.wrap (r.1 - t) = r.1 - t := wrap_id (by unfold ml at *; omega)
          have e4 : IntKind.i64.wrap (r.1 - f) = r.1 - f := wrap_id (by unfold ml at *; omega)
          have e5 : IntKind.i64.wrap (r.1 - t + 1) = r.1 - t + 1 := wrap_id (by unfold ml at *; omega)
          have e6 : IntKind.i64.wrap (r.1 - f + 1) = r.1 - f + 1 := wrap_id (by unfold ml at *; omega)
          obtain ⟨q, hqq⟩ : ∃ q, lenM (L.take k) = q := ⟨_, rfl⟩
          rw [hqq] at HTk HTL hq hq2 hq3 ⊢
          have e7 : IntKind.i64.wrap (q + r.2.1) = q + r.2.1 := wrap_id (by unfold ml at *; omega)
          have HQb : Hid (0 ≤ q ∧ q ≤ 17179869184 ∧ r.2.1 ≤ 17179869184) := (by unfold ml at *; omega : 0 ≤ q ∧ q ≤ 17179869184 ∧ r.2.1 ≤ 17179869184)
          have HFL := Lib.hid hfl
          have i1 : (k : Int) < (L.length : Int) := by omega
          have i2 : (0 : Int) ≤ (k : Int) := by omega
          obtain ⟨D, hD⟩ : ∃ D, r.2.2 = D := ⟨_, rfl⟩
          rw [hD] at HSS hFd hTd
          have HFd := Lib.hid hFd
          have HTd := Lib.hid hTd
          clear hr g1 g2 g3 g4 hF hT hFd hTd hfl hsn hft hq hq1 hq2 hq3 hqq d0 d1 d2
          go_upto_region 11 with fail
          go_cut [10, 11] from 38 to 60 (fun x y wz => x = .int .i64 (max 0 (f - r.1)) ∧ y = .int .i64 (min r.2.1 (t - r.1)) ∧ ∃ n, wr.drewN n = wz)
          case first =>
            go_region_held3 (fun W' => (W'.cell? ⟨w.heap.size, 0, none⟩ = some (.int .i64 f) ∧ W'.cell? ⟨w.heap.size, 1, none⟩ = some (.int .i64 t)) ∧ W'.cell? ⟨b, off + k * 3, none⟩ = some (.int .i64 r.1) ∧ W'.cell? ⟨b, off + k * 3 + 1, none⟩ = some (.int .i64 r.2.1) ∧ W'.cell? ⟨b, off + k * 3 + 2, none⟩ = some (.bool D))
              (first | exact HSS.out _ (Below.refl _ _) | exact HSS.out _ (drew_below _))
              (fail)
            all_goals (go_wp2_with fail)
            all_goals
              go_meet
              case rel => exact ⟨rfl, rfl, 1, rfl⟩
          case rest =>
          obtain ⟨rfl, rfl, nd, hw3⟩ := hcut
          have HSt := Lib.hid fun (W : World) (hbw : Below wc.heap.size wc W) => HSS.out W (bstep (show Below wr.heap.size wr wc from hw3 ▸ below_drewN (Below.refl _ _) _) hbw)
          have HND := Lib.hid hw3
          clear hw3
          obtain ⟨wv, rfl⟩ : ∃ W, W = wc := ⟨wc, rfl⟩
          obtain ⟨⟨c0, c1⟩, d0, d1, d2⟩ := HSt.out wv (Below.refl _ _)
          go_upto_if 65 with fail
          go_cut [10, 11] from 66 to 90 (fun x y wz => x = .int .i64 F ∧ y = .int .i64 T ∧ ∃ n, wr.drewN n = wz)
          case first =>
            cases D with
            | false =>
              go_wp2_with fail
              go_meet
              case rel => exact ⟨congrArg (Value.int .i64) HFd.out.symm, congrArg (Value.int .i64) HTd.out.symm, nd, HND.out⟩
            | true =>
              go_upto_region 13 with fail
              go_region_held3 (fun W' => (W'.cell? ⟨w.heap.size, 0, none⟩ = some (.int .i64 f) ∧ W'.cell? ⟨w.heap.size, 1, none⟩ = some (.int .i64 t)) ∧ W'.cell? ⟨b, off + k * 3, none⟩ = some (.int .i64 r.1) ∧ W'.cell? ⟨b, off + k * 3 + 1, none⟩ = some (.int .i64 r.2.1) ∧ W'.cell? ⟨b, off + k * 3 + 2, none⟩ = some (.bool true))
                (first | exact HSt.out _ (Below.refl _ _) | exact HSt.out _ (drew_below _))
                (fail)
              all_goals (go_wp2_with fail)
              all_goals
                go_meet
                case rel => exact ⟨congrArg (Value.int .i64) HFd.out.symm, congrArg (Value.int .i64) HTd.out.symm, nd + 1, by rw [← HND.out]; rfl⟩
          case rest =>
            obtain ⟨rfl, rfl, nd, hw3⟩ := hcut
            have HBd : Hid (Below wr.heap.size wr wc) := hw3 ▸ below_drewN (Below.refl _ _) _
            have HB4 := Lib.hid (bstep HB.out HBd.out)
            have HC4 := Lib.hid (HCe.out.on HBd.out)
            have HR4 := Lib.hid (HR.out.on HBd.out)
            clear hw3 e1 e2 e3 e4 e5 e6 c0 c1 d0 d1 d2 HSt HND
            obtain ⟨wu, rfl⟩ : ∃ W, W = wc := ⟨wc, rfl⟩
            obtain ⟨⟨c0, c1⟩, d0, d1, d2⟩ := HSS.out wu HBd.out
            by_cases hlt2 : F < T
            · have HPE : Hid (fndL (f, t) 0 (L.take (k + 1)) = fndL (f, t) 0 (L.take k) ++ [(q + F, q + T)]) := by rw [HTk.out, if_pos hlt2]; exact Lib.hid rfl
              have hfl := HFL.out
              have hqb := HQb.out
              have e1 : IntKind.i64.wrap (q + F) = q + F := wrap_id (by omega)
              have e2 : IntKind.i64.wrap (q + T) = q + T := wrap_id (by omega)
              have HLe : Hid ((fndL (f, t) 0 (L.take k)).length + 1 ≤ 1000000) := by have h := HLk.out; rw [List.length_take] at h; unfold Hid; omega
              clear hfl hqb
              go_upto_region 15 with fail
              go_wp2_with (at_builtin; refine append_rows kdS rfl (.tmp 94) (.tmp 102) rfl (.slice A' n' c') (fndL (f, t) 0 (L.take k)) rfl (HR4.out.on (below_alloc _ _)) (some ⟨wu.heap.size, 0, none⟩) 1 1 [(q + F, q + T)] rfl rfl (rd_one cS_len (heap_alloc_new _ _)) HLe.out (Nat.le_trans HC4.out.lt (below_alloc _ _).size) ?_; intro A5 n5 c5 w5 hn5 hr5 hg5 hat5; have HN5 := Lib.hid hn5; have HR5 := Lib.hid hr5; have HG5 := Lib.hid hg5; clear hn5 hr5 hg5 hat5; refine Hid.out ?_)
              have HW5 : Hid (Below (w.heap.size + 1) wu w5) := ((below_alloc wu _).mono HC4.out.lt).trans ((HR4.out.on (below_alloc wu _)).below HG5.out (Nat.le_trans HC4.out.lt (below_alloc _ _).size))
              have HB6 : Hid (Below w.heap.size w w5) := HB4.out.trans (HW5.out.mono (Nat.le_succ _))
              have HC6 : Hid (Cel w5 w.heap.size [.int .i64 f, .int .i64 t]) := HC4.out.off (S := fun k => w.heap.size + 1 ≤ k) (off_of HW5.out) (by omega)
              have HR6 : Hid (Row cS 2 TS (w.heap.size + 1) w5 (.slice A5 n5 c5) (fndL (f, t) 0 (L.take (k + 1)))) := by rw [HPE.out]; exact HR5.out
              have HN6 : Hid (n5 = (fndL (f, t) 0 (L.take (k + 1))).length) := by rw [HPE.out, List.length_append]; exact HN5.out
              clear e1 e2 HLe HN5 HR5 HG5 HW5 c0 c1 d0 d1 d2
              obtain ⟨b2, off2, hA2, hb2, d0, d1, d2⟩ := rd_at (HA.out.on HB6.out) HRk.out
              cases hA2
              refine Lib.hid ?_
              go_wp2_with fail
              go_roundw
              case rel => exact ⟨k + 1, A5, n5, c5, by omega, by go_num, by rw [HTL.out], rfl, HN6.out, HR6.out, HC6.out, HB6.out⟩
              case measure => simp [intOf]; omega
            · have HPE : Hid (fndL (f, t) 0 (L.take (k + 1)) = fndL (f, t) 0 (L.take k)) := by rw [HTk.out, if_neg hlt2, List.append_nil]; exact Lib.hid rfl
              have z1 : decide (F < T) = false := decide_eq_false hlt2
              clear hlt2
              go_wp2_with fail
              go_roundw
              case rel => exact ⟨k + 1, A', n', c', by omega, by go_num, by rw [HTL.out], rfl, by rw [HPE.out]; exact HN.out, by rw [HPE.out]; exact HR4.out, HC4.out, HB4.out⟩
              case measure => simp [intOf]; omega
        · obtain rfl : k = L.length := by omega
          have hrow := HR.out
          have hnn := HN.out
          rw [List.take_length] at hrow hnn
          have HNo := Lib.hid (Span.ref_Norm (fndL (f, t) 0 L) A' c' wr (by obtain ⟨A6, c6, e6, -, -, hr6, -⟩ := hrow.one cS_len; cases e6; exact sps_of hr6) (by have := fndL_len (f, t) L 0; omega))
          rw [← hnn] at HNo
          clear hrow hnn
          go_wp2_with fail
          refine HNo.out.mono ?_
          intro e w9 h
          obtain ⟨M, V9, c9, rfl, hl9, hs9, hn9, -, hb9⟩ := norm_out (fndL_chk HV.out (f, t)) (fun x => fnd_has HV.out.pos (f, t) x) h
          have HS9 := Lib.hid hs9
          have HN9 := Lib.hid hn9
          have HB9 := Lib.hid (bstep HB.out hb9)
          clear h hs9 hn9 hb9
          go_wp2_with fail
          go_ret2
          exact ⟨M, V9, c9, rfl, hl9, HS9.out, fun _ => HN9.out trivial, fun h => absurd rfl h, HB9.out⟩
  · obtain ⟨z1, z2⟩ := ne_tests hz
    obtain rfl : eC L = E := by rw [← HE.out]; unfold fndE; rw [if_neg hz]
    have HZ := Lib.hid hz
    clear hz
    go_wp2_with fail
    go_ret2
    exact SetR.err HZ.out HB2.out
#print axioms ref_Image
#print axioms ref_Single
#print axioms ref_Find
end Go.Proofs.Ytnblpooimgpgoaa.Iso
