/- Part of the reference. -/
import Derived.Test.YtnblpooimgpgoaaIsoW
import Derived.BigQuiet
namespace Go.Proofs.Ytnblpooimgpgoaa.Iso
open Go.ChangeShapes Go.WideShapes Go.RowKit Go.Lib Go.Proofs.Ytnblpooimgpgoaa.Rw
set_option linter.unusedVariables false
set_option maxRecDepth 100000

set_option maxHeartbeats 800000 in
theorem ref_length_same (L : List Rn) (A : Option Addr) (c : Nat) (w : World) (ha : Rns w A L) (hm : L.length ≤ 600) (hg : ∀ r ∈ L, 1 ≤ r.2.1 ∧ r.2.1 ≤ ml) :
    Calls Try.prog 44 #[.slice A L.length c] w fun e w' => e = .returned (.int .i64 (lenM L)) ∧ w' = w := by
  have HA := Lib.hid ha
  have HL := Lib.hid (lenM_lim hg hm)
  clear ha hg
  go_enter Try.func44, Try.ntmps44
  go_wp2_with fail
  go_loopw [4, 3] (fun i s wr => ∃ k : Nat, k ≤ L.length ∧ i = .int .i64 k ∧ s = .int .i64 (lenM (L.take k)) ∧ w = wr) (fun i s _ => L.length - (intOf i).toNat)
  case atStart => exact ⟨0, Nat.zero_le _, rfl, rfl, rfl⟩
  case round =>
    obtain ⟨k, hk, rfl, rfl, rfl⟩ := hrel
    rcases Nat.lt_or_ge k L.length with hlt | hge
    · obtain ⟨r, hr⟩ := get_lt hlt
      obtain ⟨b, off, hA0, hb, h0, h1, h2⟩ := rd_at HA.out hr
      subst hA0
      have HS := Lib.hid (lenM_take hr)
      have i1 : (k : Int) < (L.length : Int) := by omega
      have i2 : (0 : Int) ≤ (k : Int) := by omega
      have e1 : IntKind.i64.wrap (lenM (L.take k) + r.2.1) = lenM (L.take k) + r.2.1 := by
        have := HL.out (k + 1); rw [lenM_take hr] at this; exact wrap_id (by omega)
      clear hr
      go_wp2_with fail
      go_roundw
      case rel => exact ⟨k + 1, by omega, by go_num, by rw [HS.out], trivial⟩
      case measure => simp [intOf]; omega
    · obtain rfl : k = L.length := by omega
      have HE := Lib.hid (show lenM (L.take L.length) = lenM L by rw [List.take_length])
      go_wp2_with fail
      go_ret
      exact ⟨ret_int HE.out, rfl⟩
theorem pc_max {r : Rn} {f t q : Int} (hn : 1 ≤ r.2.1) (h : f ≤ t) : (max f q < min t (q + r.2.1) → pc r (f - q) (t - q) = [(imI r.1 r.2.2 (max f q - q), min t (q + r.2.1) - max f q, r.2.2)] ∧ 0 ≤ max f q - q ∧ max f q - q ≤ r.2.1 ∧ 1 ≤ min t (q + r.2.1) - max f q) ∧ (¬ max f q < min t (q + r.2.1) → pc r (f - q) (t - q) = []) := by
  constructor
  · intro hlt
    have e1 : clp (f - q) r.2.1 = max f q - q := by unfold clp; omega
    have e2 : clp (t - q) r.2.1 = min t (q + r.2.1) - q := by unfold clp; omega
    unfold pc
    rw [e1, e2, if_pos (by omega)]
    refine ⟨?_, by omega, by omega, by omega⟩
    rw [show min t (q + r.2.1) - q - (max f q - q) = min t (q + r.2.1) - max f q by omega]
  · intro hlt
    unfold pc
    rw [if_neg (by unfold clp; omega)]
theorem pcs_lim {L : List Rn} (hg : ∀ r ∈ L, gd r = true) (hm : L.length ≤ 600) (k : Nat) (f t : Int) : (∀ x ∈ ex (pcs (L.take k) f t), 0 ≤ x ∧ x < ml) ∧ ((ex (pcs (L.take k) f t)).length : Int) ≤ 1108307720798208 ∧ (nfL (ex (pcs (L.take k) f t))).length ≤ 600 := by
  have h1 := pcs_gd (gd_take hg k) f t
  have h0 := pcs_len (L.take k) f t
  rw [List.length_take] at h0
  have h2 := lenM_lim (fun r hr => gd_lim (h1 r hr)) (by omega) (pcs (L.take k) f t).length
  rw [List.take_length] at h2
  have h3 := nfL_len fun r hr => gd_pos (h1 r hr)
  exact ⟨ex_range h1, by rw [ex_len fun r hr => gd_pos (h1 r hr)]; omega, by omega⟩
/-- What tells of a span that it is out of a domain. -/
theorem inW_false {f t n : Int} (h : inW f t n = false) : f < 0 ∨ (0 ≤ f ∧ t < f) ∨ (0 ≤ f ∧ f ≤ t ∧ n < t) := by
  have : ¬ (0 ≤ f ∧ f ≤ t ∧ t ≤ n) := fun h2 => by rw [inW_iff.mpr h2] at h; cases h
  omega

set_option maxHeartbeats 3200000 in
theorem ref_Part (L : List Rn) (A : Option Addr) (c : Nat) (f t : Int) (w : World) (ha : Rns w A L) (hm : L.length ≤ 9223372036854775807) :
    Calls Try.prog 33 #[.slice A L.length c, .agg #[.int .i64 f, .int .i64 t]] w (Res (prtL L f t) (prtE L f t) w) := by
  have HA := Lib.hid ha
  clear ha
  obtain ⟨E, hE⟩ : ∃ E, prtE L f t = E := ⟨_, rfl⟩
  obtain ⟨M, hM⟩ : ∃ M, prtL L f t = M := ⟨_, rfl⟩
  rw [hE, hM]
  have HE := Lib.hid hE
  have HM := Lib.hid hM
  clear hE hM
  go_enter Try.func33, Try.ntmps33
  go_upto_region 1 with fail
  generalize hw1 : w.alloc (.cells #[.int .i64 f, .int .i64 t] 28) = w1
  have HB1 : Hid (Below w.heap.size w w1) := hw1 ▸ below_alloc _ _
  have HC1 : Hid (Cel w1 w.heap.size [.int .i64 f, .int .i64 t]) := hw1 ▸ Cel.new _ _ _
  clear hw1
  go_wp2_with fail
  refine (ref_Check L A c w1 (HA.out.on HB1.out) hm).mono ?_
  rintro e w2 ⟨rfl, hb2⟩
  have HB2 := Lib.hid (bstep HB1.out hb2)
  have HC2 := Lib.hid (HC1.out.on hb2)
  clear hb2
  by_cases hz : eC L = 0
  · have HV := Lib.hid (Vd.ofE hz)
    rw [hz]
    have HZ := Lib.hid hz
    clear hz
    obtain ⟨c0, c1⟩ := HC2.out.two
    have HLen := Lib.hid fun n => ref_length_same L A c (w2.drewN n) (HA.out.on (below_drewN HB2.out n)) (by have := HV.out.n; omega) HV.out.lims
    obtain ⟨Q, hQ⟩ : ∃ Q, lenM L = Q := ⟨_, rfl⟩
    rw [hQ] at HLen
    have HQ := Lib.hid hQ
    clear hQ
    obtain ⟨p9, hp9⟩ : ∃ p, inW f t Q = p := ⟨_, rfl⟩
    have HP9 := Lib.hid hp9
    obtain ⟨p8, hp8⟩ : ∃ p, (!p9) = p := ⟨_, rfl⟩
    have HP8 := Lib.hid hp8
    clear hp8
    go_upto_region 4 with fail
    go_cut [33] from 17 to 33 (fun v wz => v = .bool p8 ∧ ∃ n, w2.drewN n = wz)
    case first =>
      cases p9 with
      | true =>
        obtain rfl : p8 = false := HP8.out.symm
        obtain ⟨h1, h2, h3⟩ := inW_iff.mp hp9
        have d1 : decide (f < 0) = false := decide_eq_false (by omega)
        have d2 : decide (t < f) = false := decide_eq_false (by omega)
        have d3 : decide (Q < t) = false := decide_eq_false (by omega)
        clear h1 h2 h3 hp9
        go_quiet ((go_at_call 44; exact Calls.quiet_of_same (HLen.out _)))
        go_wp2_with fail
        go_meet
        case rel => exact ⟨rfl, _, rfl⟩
      | false =>
        obtain rfl : p8 = true := HP8.out.symm
        rcases inW_false hp9 with h | ⟨h1, h⟩ | ⟨h1, h2, h⟩
        · have d1 : decide (f < 0) = true := decide_eq_true h
          clear h hp9
          go_quiet (fail)
          go_wp2_with fail
          go_meet
          case rel => exact ⟨rfl, _, rfl⟩
        · have d1 : decide (f < 0) = false := decide_eq_false (by omega)
          have d2 : decide (t < f) = true := decide_eq_true h
          clear h h1 hp9
          go_quiet (fail)
          go_wp2_with fail
          go_meet
          case rel => exact ⟨rfl, _, rfl⟩
        · have d1 : decide (f < 0) = false := decide_eq_false (by omega)
          have d2 : decide (t < f) = false := decide_eq_false (by omega)
          have d3 : decide (Q < t) = true := decide_eq_true h
          clear h h1 h2 hp9
          go_quiet ((go_at_call 44; exact Calls.quiet_of_same (HLen.out _)))
          go_wp2_with fail
          go_meet
          case rel => exact ⟨rfl, _, rfl⟩
    case rest =>
      obtain ⟨rfl, nd, hw3⟩ := hcut
      have HBd : Hid (Below w2.heap.size w2 wc) := hw3 ▸ below_drewN (Below.refl _ _) _
      have HB3 := Lib.hid (bstep HB2.out HBd.out)
      have HC3 := Lib.hid (HC2.out.on HBd.out)
      clear hw3 hp9 c0 c1
      cases p9 with
      | false =>
        obtain rfl : p8 = true := HP8.out.symm
        obtain rfl : E = 1 := by rw [← HE.out]; unfold prtE; rw [if_pos HZ.out, HQ.out, HP9.out]; rfl
        obtain rfl : M = [] := by rw [← HM.out]; unfold prtL; rw [HE.out, if_neg (by decide)]
        go_wp2_with fail
        go_ret2
        exact Res.err HB3.out
      | true =>
        obtain rfl : p8 = false := HP8.out.symm
        obtain rfl : E = 0 := by rw [← HE.out]; unfold prtE; rw [if_pos HZ.out, HQ.out, HP9.out]; rfl
        have HM2 : Hid (nfL (ex (pcs L f t)) = M) := by rw [← HM.out, pcs_ex HV.out.pos]; unfold prtL; rw [HE.out, if_pos rfl]; exact Lib.hid rfl
        have HFT := Lib.hid (inW_iff.mp HP9.out)
        have HQl : Hid (Q ≤ 17179869184) := by rw [← HQ.out]; exact HV.out.len
        have hl256 := HV.out.n
        have HLim := Lib.hid fun k => pcs_lim HV.out.all (by omega) k f t
        obtain ⟨wq, rfl⟩ : ∃ W, W = wc := ⟨wc, rfl⟩
        go_wp2_with fail
        go_loopw [7, 8, 9] (fun v s i wr => ∃ (k : Nat) (A' : Option Addr) (n' c' : Nat), k ≤ L.length ∧ i = .int .i64 k ∧ s = .int .i64 (lenM (L.take k)) ∧ v = .slice A' n' c' ∧ (nfL (ex (pcs (L.take k) f t))).length = n' ∧ n' ≤ c' ∧ Rns wr A' (nfL (ex (pcs (L.take k) f t))) ∧ Cel wr w.heap.size [.int .i64 f, .int .i64 t] ∧ Below w.heap.size w wr) (fun v s i _ => L.length - (intOf i).toNat)
        case atStart => exact ⟨0, none, 0, 0, Nat.zero_le _, rfl, rfl, rfl, rfl, Nat.le_refl _, Rd.nil _ _ _ _, HC3.out, HB3.out⟩
        case round =>
          obtain ⟨k, A', n', c', hk, rfl, rfl, rfl, hn, hc, hrd, hcel, hbel⟩ := hrel
          have HN := Lib.hid hn
          have HC := Lib.hid hc
          have HR := Lib.hid hrd
          have HCe := Lib.hid hcel
          have HB := Lib.hid hbel
          clear hc hrd hcel hbel
          rcases Nat.lt_or_ge k L.length with hlt | hge
          · obtain ⟨r, hr⟩ := get_lt hlt
            have hgr := HV.out.all r (List.mem_of_getElem? hr)
            have HGr := Lib.hid hgr
            obtain ⟨b, off, hA0, hb, d0, d1, d2⟩ := rd_at (HA.out.on HB.out) hr
            subst hA0
            have HPS : Hid (pcs (L.take (k + 1)) f t = pcs (L.take k) f t ++ pc r (f - lenM (L.take k)) (t - lenM (L.take k))) := by rw [take_snoc_of hr, pcs_snoc]; exact Lib.hid rfl
            have HTL := Lib.hid (lenM_take hr)
            have hq := lenM_le (m := L) HV.out.pos k
            have hq1 := lenM_le (m := L) HV.out.pos (k + 1)
            rw [lenM_take hr, HQ.out] at hq1
            obtain ⟨q, hqq⟩ : ∃ q, lenM (L.take k) = q := ⟨_, rfl⟩
            rw [hqq] at HPS HTL hq hq1 ⊢
            obtain ⟨g1, g2, g3, g4, -, -⟩ := gd_iff.mp hgr
            have hpm := pc_max (r := r) (f := f) (t := t) (q := q) g1 HFT.out.2.1
            have hft := HFT.out
            have hQl := HQl.out
            obtain ⟨qe, hqe⟩ : ∃ qe, q + r.2.1 = qe := ⟨_, rfl⟩
            rw [hqe] at hpm
            have we : IntKind.i64.wrap qe = qe := wrap_id (by omega)
            obtain ⟨F, hF⟩ : ∃ F, max f q = F := ⟨_, rfl⟩
            obtain ⟨T, hT⟩ : ∃ T, min t qe = T := ⟨_, rfl⟩
            rw [hF, hT] at hpm
            have HF := Lib.hid hF
            have HT := Lib.hid hT
            have HPM := Lib.hid hpm
            have wf : IntKind.i64.wrap (F - q) = F - q := wrap_id (by omega)
            have wt : IntKind.i64.wrap (T - F) = T - F := wrap_id (by omega)
            have HFb : Hid (0 ≤ F ∧ F ≤ 17179869184 ∧ 0 ≤ q ∧ q ≤ 17179869184) := (by omega : 0 ≤ F ∧ F ≤ 17179869184 ∧ 0 ≤ q ∧ q ≤ 17179869184)
            have HGB : Hid (1 ≤ r.2.1 ∧ r.2.1 ≤ ml ∧ 0 ≤ r.1 ∧ r.1 < ml) := ⟨g1, g2, g3, g4⟩
            have i1 : (k : Int) < (L.length : Int) := by omega
            have i2 : (0 : Int) ≤ (k : Int) := by omega
            obtain ⟨c0, c1⟩ := HCe.out.two
            have HSS := Lib.hid fun (W : World) (hbw : Below wr.heap.size wr W) => (⟨(HCe.out.on hbw).two, (hbw.cell (p := ⟨b, off + k * 3 + 1, none⟩) hb).trans d1⟩ : (W.cell? ⟨w.heap.size, 0, none⟩ = some (.int .i64 f) ∧ W.cell? ⟨w.heap.size, 1, none⟩ = some (.int .i64 t)) ∧ W.cell? ⟨b, off + k * 3 + 1, none⟩ = some (.int .i64 r.2.1))
            have HD : Hid (∀ W : World, Below wr.heap.size wr W → W.cell? ⟨b, off + k * 3, none⟩ = some (.int .i64 r.1) ∧ W.cell? ⟨b, off + k * 3 + 1, none⟩ = some (.int .i64 r.2.1) ∧ W.cell? ⟨b, off + k * 3 + 2, none⟩ = some (.bool r.2.2)) := fun W hbw => ⟨(hbw.cell (p := ⟨b, off + k * 3, none⟩) hb).trans d0, (hbw.cell (p := ⟨b, off + k * 3 + 1, none⟩) hb).trans d1, (hbw.cell (p := ⟨b, off + k * 3 + 2, none⟩) hb).trans d2⟩
            clear hr hgr hq hq1 hqq hpm hft hQl hF hT g1 g2 g3 g4 hn d0 d2
            go_upto_region 11 with fail
            go_cut [10, 11] from 40 to 53 (fun x y wz => x = .int .i64 F ∧ y = .int .i64 T ∧ ∃ n, wr.drewN n = wz)
            case first =>
              have hF := HF.out
              have hT := HT.out
              rcases Int.lt_or_le f q with h1 | h1 <;> rcases Int.lt_or_le t qe with h2 | h2
              all_goals
                have HH1 := Lib.hid h1
                have HH2 := Lib.hid h2
                clear hF hT
                go_region_held3 (fun W' => (W'.cell? ⟨w.heap.size, 0, none⟩ = some (.int .i64 f) ∧ W'.cell? ⟨w.heap.size, 1, none⟩ = some (.int .i64 t)) ∧ W'.cell? ⟨b, off + k * 3 + 1, none⟩ = some (.int .i64 r.2.1))
                  (first | exact HSS.out _ (Below.refl _ _) | exact HSS.out _ (drew_below _))
                  (fail)
              all_goals (go_wp2_with fail)
              all_goals
                go_meet
                case rel =>
                  refine ⟨?_, ?_, 1, rfl⟩
                  · exact congrArg (Value.int .i64) (by have h3 := HF.out; have h4 := HH1.out; (try split) <;> omega)
                  · exact congrArg (Value.int .i64) (by have h3 := HT.out; have h4 := HH2.out; (try split) <;> omega)
            case rest =>
              obtain ⟨rfl, rfl, nd, hw3⟩ := hcut
              have HBd : Hid (Below wr.heap.size wr wc) := hw3 ▸ below_drewN (Below.refl _ _) _
              have HB4 := Lib.hid (bstep HB.out HBd.out)
              have HC4 := Lib.hid (HCe.out.on HBd.out)
              have HR4 := Lib.hid (HR.out.on HBd.out)
              have hb4 : b < wc.heap.size := Nat.lt_of_lt_of_le hb HBd.out.size
              obtain ⟨wv, rfl⟩ : ∃ W, W = wc := ⟨wc, rfl⟩
              obtain ⟨d0, d1', d2⟩ := HD.out wv HBd.out
              clear hw3 c0 c1 d1
              by_cases hlt2 : F < T
              · have HLT := Lib.hid hlt2
                obtain ⟨hpc, p1, p2, p3⟩ := HPM.out.1 hlt2
                have HPE : Hid (pcs (L.take (k + 1)) f t = pcs (L.take k) f t ++ [(imI r.1 r.2.2 (F - q), T - F, r.2.2)]) := by rw [HPS.out, hpc]; exact Lib.hid rfl
                have hgp : gd (imI r.1 r.2.2 (F - q), T - F, r.2.2) = true := by
                  have h := pc_gd (f := f - q) (t := t - q) HGr.out (imI r.1 r.2.2 (F - q), T - F, r.2.2) (by rw [hpc]; simp)
                  exact h
                have hg0 := HGB.out
                have hF0 := HFb.out
                have HCu := Lib.hid fun W => ref_cut r.1 r.2.1 r.2.2 (F - q) (T - F) W (by unfold big; unfold ml at *; omega) (by unfold big; omega)
                have HMo : Hid (∀ W, Rns W A' (nfL (ex (pcs (L.take k) f t))) → Calls Try.prog 62 #[.slice A' n' c', .agg #[.int .i64 (imI r.1 r.2.2 (F - q)), .int .i64 (T - F), .bool (r.2.2 && decide (1 < T - F))]] W (Res1 (nfL (ex (pcs (L.take (k + 1)) f t))) W)) := fun W h => by
                  have h2 := ref_more (ex (pcs (L.take k) f t)) A' c' (nrmR (imI r.1 r.2.2 (F - q), T - F, r.2.2)) W h (by have := (HLim.out k).2.2; omega) (HLim.out k).1 (HLim.out k).2.1 (gd_nrm hgp)
                  rw [HN.out, nrmR_ex] at h2
                  rw [HPE.out, ex_append, ex_one]
                  exact h2
                obtain ⟨N1, hN1⟩ : ∃ N, (nfL (ex (pcs (L.take (k + 1)) f t))).length = N := ⟨_, rfl⟩
                have HN1 := Lib.hid hN1
                obtain ⟨D, hD⟩ : ∃ D, (r.2.2 && decide (1 < T - F)) = D := ⟨_, rfl⟩
                rw [hD] at HCu HMo
                clear hpc p1 p2 p3 hgp hg0 hF0 hN1 hD hlt2
                have hlt3 : decide (F < T) = true := decide_eq_true HLT.out
                go_wp2_with fail
                refine (HCu.out _).mono ?_
                rintro e w5 ⟨rfl, hb5⟩
                have HB5 := Lib.hid (bstep HB4.out hb5)
                have HBd5 := Lib.hid (bstep HBd.out hb5)
                have HR5 := Lib.hid (HR4.out.on hb5)
                clear hb5 d0 d1' d2
                go_wp2_with fail
                refine (HMo.out w5 HR5.out).mono ?_
                rintro e w6 ⟨A6, c6, rfl, hr6, hb6⟩
                have HB6 := Lib.hid (bstep HB5.out hb6)
                have HBd6 := Lib.hid (bstep HBd5.out hb6)
                have HR6 := Lib.hid hr6
                have HC6 := Lib.hid (HCe.out.on HBd6.out)
                obtain ⟨d0, d1', d2⟩ := HD.out w6 HBd6.out
                rw [HN1.out]
                clear hr6 hb6
                go_wp2_with fail
                go_roundw
                case rel => exact ⟨k + 1, A6, N1, c6, by omega, by go_num, by rw [HTL.out, hqe], rfl, HN1.out, HN1.out ▸ HR6.out.2, HR6.out.1, HC6.out, HB6.out⟩
                case measure => simp [intOf]; omega
              · have HPE : Hid (pcs (L.take (k + 1)) f t = pcs (L.take k) f t) := by rw [HPS.out, HPM.out.2 hlt2, List.append_nil]; exact Lib.hid rfl
                have hlt3 : decide (F < T) = false := decide_eq_false hlt2
                clear hlt2
                go_wp2_with fail
                go_roundw
                case rel => exact ⟨k + 1, A', n', c', by omega, by go_num, by rw [HTL.out, hqe], rfl, by rw [HPE.out]; exact HN.out, HC.out, by rw [HPE.out]; exact HR4.out, HC4.out, HB4.out⟩
                case measure => simp [intOf]; omega
          · obtain rfl : k = L.length := by omega
            clear hn
            have hn := HN.out
            have hr := HR.out
            rw [List.take_length, HM2.out] at hn hr
            have HN2 := Lib.hid hn
            have HR2 := Lib.hid hr
            clear hn hr
            go_wp2_with fail
            go_ret2
            exact ⟨A', c', ret_map HN2.out.symm rfl, ⟨HR2.out, by rw [HN2.out]; exact HC.out⟩, HB.out⟩
  · obtain ⟨z1, z2⟩ := ne_tests hz
    obtain rfl : eC L = E := by rw [← HE.out]; unfold prtE; rw [if_neg hz]
    obtain rfl : M = [] := by rw [← HM.out]; unfold prtL; rw [HE.out, if_neg hz]
    clear hz
    go_wp2_with fail
    go_ret2
    exact Res.err HB2.out
#print axioms ref_Part
end Go.Proofs.Ytnblpooimgpgoaa.Iso
