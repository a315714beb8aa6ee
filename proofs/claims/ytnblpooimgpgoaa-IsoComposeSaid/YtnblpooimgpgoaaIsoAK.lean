/- IsoCompose. -/
import Derived.Test.YtnblpooimgpgoaaIsoAC
namespace Go.Proofs.Ytnblpooimgpgoaa.Iso
open Go.ChangeShapes Go.WideShapes Go.RowKit Go.Lib Go.Proofs.Ytnblpooimgpgoaa.Rw
open Go.Proofs.Ytnblpooimgpgoaa.Span (Sps IsNf Nrm hasB hasB_iff cnt inS_iff)
set_option linter.unusedVariables false
set_option maxRecDepth 100000

/-- The composition's images. -/
theorem cmp_at {a b : List Rn} (h : cmpE a b = 0) (x : Int) : atW (cmpL a b) x = atW b (atW a x) := by
  obtain ⟨X, ha, hb, hc, hl, -, hv⟩ := cmp_zero h
  rw [hl, atW_ok hv, atW_ok hb, atW_ok ha]
  exact comp_atI hc (nfL_ok _).2 x
theorem prt_at {L : List Rn} (hv : Vd L) {f t x : Int} (h : prtE L f t = 0) (hf : 0 ≤ f) (ht : 0 ≤ t) (h0 : 0 ≤ x) (h1 : x < t - f) : atW (prtL L f t) x = atW L (f + x) := by
  unfold prtL
  rw [if_pos h, atW_ok (vd_win hv f t), atW_ok hv]
  have h2 := win_atI (a := L) (p := nfL (win (ex L) f.toNat t.toNat)) (f := f.toNat) (t := t.toNat) (nfL_ok _).2 h0 (by omega)
  rw [h2, show ((f.toNat : Nat) : Int) = f by omega]
theorem rev_at {L : List Rn} (hv : Vd L) {x : Int} (h0 : 0 ≤ x) (h1 : x < lenM L) : atW (revL L) x = atW L (lenM L - 1 - x) := by
  unfold revL
  rw [if_pos hv.eC, atW_ok (vd_rev hv), atW_ok hv]
  exact rev_atI (nfL_ok _).2 hv.pos h0 h1
/-- Joined maps of few runs. -/
theorem jn_few {a b : List Rn} (ha : Vd a) (hb : Vd b) (h1 : a.length ≤ 60) (h2 : b.length ≤ 60) : (ml < lenM a + lenM b ∧ jnE a b = 21) ∨ (¬ ml < lenM a + lenM b ∧ jnE a b = 0 ∧ ex (jnL a b) = ex a ++ ex b ∧ Vd (jnL a b)) := by
  have hz : bothE a b = 0 := by unfold bothE; rw [if_pos ha.eC, hb.eC]
  unfold jnE jnL
  rw [if_pos hz, if_pos hz]
  by_cases hs : ml < lenM a + lenM b
  · left; rw [if_pos hs]; exact ⟨hs, rfl⟩
  · right
    rw [if_neg hs, if_neg hs]
    have hp : ∀ r ∈ a ++ b, 1 ≤ r.2.1 := fun r hr => by
      rcases List.mem_append.mp hr with h | h
      · exact ha.pos r h
      · exact hb.pos r h
    have hl := nfL_len hp
    rw [ex_append, List.length_append] at hl
    have e1 : fulE (nfL (ex a ++ ex b)) = 0 := by unfold fulE; rw [if_neg (by omega)]
    have e2 : fulL (nfL (ex a ++ ex b)) = nfL (ex a ++ ex b) := by unfold fulL; rw [if_neg (by omega)]
    rw [e1, e2]
    refine ⟨hs, rfl, (nfL_ok _).2, nfL_vd (fun y hy => ?_) ?_ (by omega)⟩
    · rcases List.mem_append.mp hy with h | h
      · exact ha.range h
      · exact hb.range h
    · rw [List.length_append]
      have := ex_len ha.pos
      have := ex_len hb.pos
      omega
/-- What tells of a span that it is out of a domain. -/
theorem inW_no {f t n : Int} (h : inW f t n = false) : f < 0 ∨ (0 ≤ f ∧ t < f) ∨ (0 ≤ f ∧ f ≤ t ∧ n < t) := by
  have : ¬ (0 ≤ f ∧ f ≤ t ∧ t ≤ n) := fun h2 => by rw [inW_iff.mpr h2] at h; cases h
  omega

set_option maxHeartbeats 6400000 in
theorem walk_IsoCompose (w : World) (A B : Option Addr) (c d : Nat) (L M : List Rn) (ha : Mp w A c L) (hm : L.length ≤ 9223372036854775807) (hb' : Mp w B d M) (hm2 : M.length ≤ 9223372036854775807) (f t x : Int) (hx : (Lit.int .i64 x).wf) :
    Calls Try.prog 7 #[.agg #[.slice A L.length c, .slice B M.length d], .agg #[.int .i64 f, .int .i64 t], .int .i64 x] w fun e w' => e = .returned (.bool true) ∧ Below w.heap.size w w' := by
  have Ra := Lib.hid ha
  have Rb := Lib.hid hb'
  have hx' : -9223372036854775808 ≤ x ∧ x ≤ 9223372036854775807 := by simpa [Lit.wf, IntKind.min, IntKind.max, IntKind.signed, IntKind.bits] using hx
  have HX := Lib.hid hx'
  clear ha hb' hx hx'
  obtain ⟨E1, hE1⟩ : ∃ E, eC L = E := ⟨_, rfl⟩
  obtain ⟨E2, hE2⟩ : ∃ E, eC M = E := ⟨_, rfl⟩
  have HE1 := Lib.hid hE1
  have HE2 := Lib.hid hE2
  have HCk1 := Lib.hid fun W h => iso_Check L A c W h hm
  have HCk2 := Lib.hid fun W h => iso_Check M B d W h hm2
  have HLn1 := Lib.hid fun W h => iso_Length L A c W h hm
  have HLn2 := Lib.hid fun W h => iso_Length M B d W h hm2
  rw [hE1] at HCk1 HLn1
  rw [hE2] at HCk2 HLn2
  clear hE1 hE2
  go_enter Try.func7, Try.ntmps7
  go_upto_region 1 with fail
  generalize hw1 : (w.alloc (.cells #[.slice A L.length c, .slice B M.length d] 44)).alloc (.cells #[.int .i64 f, .int .i64 t] 28) = wa
  have BA : Hid (Below w.heap.size w wa) := hw1 ▸ (below_alloc _ _).alloc (below_alloc _ _).size _
  have HT : Hid (Cel wa w.heap.size [.slice A L.length c, .slice B M.length d]) := hw1 ▸ (Cel.new w _ _).alloc _
  have HC : Hid (Cel wa (w.heap.size + 1) [.int .i64 f, .int .i64 t]) := hw1 ▸ Cel.new_at (w.alloc _) [.int .i64 f, .int .i64 t] _ (by simp)
  clear hw1
  replace Ra := Lib.hid (Ra.out.on BA.out)
  replace Rb := Lib.hid (Rb.out.on BA.out)
  obtain ⟨c0, c1⟩ := HT.out.two
  go_cut [7, 8] from 21 to 24 (fun p q wz => p = .slice A L.length c ∧ q = .slice B M.length d ∧ Below wa.heap.size wa wz)
  case first =>
    go_quiet (fail)
    go_wp2_with fail
    go_meet
    case rel => exact ⟨rfl, rfl, below_drewN (Below.refl _ _) _⟩
  case rest =>
    obtain ⟨rfl, rfl, hb⟩ := hcut
    obtain ⟨w1, rfl⟩ : ∃ W, W = wc := ⟨wc, rfl⟩
    have B1 := Lib.hid (bstep BA.out hb)
    replace Ra := Lib.hid (Ra.out.on hb)
    replace Rb := Lib.hid (Rb.out.on hb)
    replace HC := Lib.hid (HC.out.on hb)
    clear hb
    clear c0 c1 HT
    rcases Nat.lt_or_ge 60 L.length with g1 | g1
    · have t1 : decide ((60:Int) < (L.length:Int)) = true := decide_eq_true (by omega)
      clear g1
      go_wp2_with fail
      refine (iso_awake w1).mono ?_
      rintro e w2 ⟨rfl, hb⟩
      have B2 := Lib.hid (bstep B1.out hb)
      replace Ra := Lib.hid (Ra.out.on hb)
      replace Rb := Lib.hid (Rb.out.on hb)
      replace HC := Lib.hid (HC.out.on hb)
      clear hb
      go_wp2_with fail
      go_ret
      exact ⟨rfl, B2.out⟩
    have t1 : decide ((60:Int) < (L.length:Int)) = false := decide_eq_false (by omega)
    rcases Nat.lt_or_ge 60 M.length with g2 | g2
    · have t2 : decide ((60:Int) < (M.length:Int)) = true := decide_eq_true (by omega)
      clear g1 g2
      go_wp2_with fail
      refine (iso_awake w1).mono ?_
      rintro e w2 ⟨rfl, hb⟩
      have B2 := Lib.hid (bstep B1.out hb)
      replace Ra := Lib.hid (Ra.out.on hb)
      replace Rb := Lib.hid (Rb.out.on hb)
      replace HC := Lib.hid (HC.out.on hb)
      clear hb
      go_wp2_with fail
      go_ret
      exact ⟨rfl, B2.out⟩
    have t2 : decide ((60:Int) < (M.length:Int)) = false := decide_eq_false (by omega)
    have HF : Hid (L.length ≤ 60 ∧ M.length ≤ 60) := ⟨g1, g2⟩
    clear g1 g2
    go_wp2_with fail
    refine (HCk1.out w1 Ra.out.1).mono ?_
    rintro e w2 ⟨rfl, hb⟩
    have B2 := Lib.hid (bstep B1.out hb)
    replace Ra := Lib.hid (Ra.out.on hb)
    replace Rb := Lib.hid (Rb.out.on hb)
    replace HC := Lib.hid (HC.out.on hb)
    clear hb
    by_cases hz : E1 = 0
    rotate_left
    · obtain ⟨z1, z2⟩ := ne_tests hz
      clear hz
      go_wp2_with fail
      refine (iso_awake w2).mono ?_
      rintro e w3 ⟨rfl, hb⟩
      have B3 := Lib.hid (bstep B2.out hb)
      replace Ra := Lib.hid (Ra.out.on hb)
      replace Rb := Lib.hid (Rb.out.on hb)
      replace HC := Lib.hid (HC.out.on hb)
      clear hb
      go_wp2_with fail
      go_ret
      exact ⟨rfl, B3.out⟩
    subst hz
    go_wp2_with fail
    refine (HCk2.out w2 Rb.out.1).mono ?_
    rintro e w3 ⟨rfl, hb⟩
    have B3 := Lib.hid (bstep B2.out hb)
    replace Ra := Lib.hid (Ra.out.on hb)
    replace Rb := Lib.hid (Rb.out.on hb)
    replace HC := Lib.hid (HC.out.on hb)
    clear hb
    by_cases hz : E2 = 0
    rotate_left
    · obtain ⟨z1, z2⟩ := ne_tests hz
      clear hz
      go_wp2_with fail
      refine (iso_awake w3).mono ?_
      rintro e w4 ⟨rfl, hb⟩
      have B4 := Lib.hid (bstep B3.out hb)
      replace Ra := Lib.hid (Ra.out.on hb)
      replace Rb := Lib.hid (Rb.out.on hb)
      replace HC := Lib.hid (HC.out.on hb)
      clear hb
      go_wp2_with fail
      go_ret
      exact ⟨rfl, B4.out⟩
    subst hz
    have Hv1 := Lib.hid (Vd.ofE HE1.out)
    have Hv2 := Lib.hid (Vd.ofE HE2.out)
    obtain ⟨K1, hK1⟩ : ∃ K, lenM L = K := ⟨_, rfl⟩
    obtain ⟨K2, hK2⟩ : ∃ K, lenM M = K := ⟨_, rfl⟩
    have HK1 := Lib.hid hK1
    have HK2 := Lib.hid hK2
    have hl1 : lenV L = K1 := by rw [← hK1]; exact if_pos HE1.out
    have hl2 : lenV M = K2 := by rw [← hK2]; exact if_pos HE2.out
    rw [hl1] at HLn1
    rw [hl2] at HLn2
    have HKb : Hid (0 ≤ K1 ∧ K1 ≤ 17179869184 ∧ 0 ≤ K2 ∧ K2 ≤ 17179869184) := ⟨hK1 ▸ lenM_nonneg Hv1.out.pos, hK1 ▸ Hv1.out.len, hK2 ▸ lenM_nonneg Hv2.out.pos, hK2 ▸ Hv2.out.len⟩
    have hkb := HKb.out
    have d1 : decide (K1 < 0) = false := decide_eq_false (by omega)
    have d2 : decide (17179869184 < K1) = false := decide_eq_false (by omega)
    have d3 : decide (K2 < 0) = false := decide_eq_false (by omega)
    have d4 : decide (17179869184 < K2) = false := decide_eq_false (by omega)
    clear hl1 hl2 hK1 hK2 hkb t1 t2
    obtain ⟨G, hG⟩ : ∃ E, cmpE L M = E := ⟨_, rfl⟩
    obtain ⟨N1, hN1⟩ : ∃ N, cmpL L M = N := ⟨_, rfl⟩
    have HAt1 : Hid (G = 0 → ∀ y, atW N1 y = atW M (atW L y)) := fun h y => by rw [← hN1]; exact cmp_at (hG.trans h) y
    have HL1 : Hid (N1.length ≤ 9223372036854775807) := by rw [← hN1]; exact long_ok (cmpL_len L M)
    have H1 : Hid (∀ W, Rns W A L → Rns W B M → Calls Try.prog 30 #[.slice A L.length c, .slice B M.length d] W (Res N1 G W)) := fun W h1 h2 => by
      have h := iso_Compose L M A B c d W h1 h2 hm hm2
      rw [hG, hN1] at h; exact h
    clear hG hN1
    obtain ⟨H, hH⟩ : ∃ E, prtE L f t = E := ⟨_, rfl⟩
    obtain ⟨N2, hN2⟩ : ∃ N, prtL L f t = N := ⟨_, rfl⟩
    have HHp : Hid (H = if inW f t K1 then 0 else 1) := by rw [← hH]; unfold prtE; rw [if_pos HE1.out, HK1.out]; exact Lib.hid rfl
    have HAt2 : Hid (H = 0 → 0 ≤ f → 0 ≤ t → 0 ≤ x → x < t - f → atW N2 x = atW L (f + x)) := fun h hf ht h0 h1 => by rw [← hN2]; exact prt_at Hv1.out (hH.trans h) hf ht h0 h1
    have HL2 : Hid (N2.length ≤ 9223372036854775807) := by rw [← hN2]; exact long_ok (prtL_len L f t)
    have H2 : Hid (∀ W, Rns W A L → Calls Try.prog 32 #[.slice A L.length c, .agg #[.int .i64 f, .int .i64 t]] W (Res N2 H W)) := fun W h1 => by
      have h := iso_Part L A c f t W h1 hm
      rw [hH, hN2] at h; exact h
    clear hH hN2
    obtain ⟨N3, hN3⟩ : ∃ N, revL L = N := ⟨_, rfl⟩
    have HAt3 : Hid (0 ≤ x → x < K1 → atW N3 x = atW L (K1 - 1 - x)) := fun h0 h1 => by rw [← hN3, ← HK1.out]; exact rev_at Hv1.out h0 (HK1.out.symm ▸ h1)
    have HL3 : Hid (N3.length ≤ 9223372036854775807) := by rw [← hN3]; exact long_ok (revL_len L)
    have H3 : Hid (∀ W, Rns W A L → Calls Try.prog 36 #[.slice A L.length c] W (Res N3 0 W)) := fun W h1 => by
      have h := iso_Reverse L A c W h1 hm
      rw [HE1.out, hN3] at h; exact h
    clear hN3
    obtain ⟨J, hJ⟩ : ∃ E, jnE L M = E := ⟨_, rfl⟩
    obtain ⟨N4, hN4⟩ : ∃ N, jnL L M = N := ⟨_, rfl⟩
    have HJn : Hid ((17179869184 < K1 + K2 ∧ J = 21) ∨ (J = 0 ∧ (0 ≤ x → x < K1 → atW N4 x = atW L x) ∧ (K1 ≤ x → atW N4 x = atW M (x - K1)))) := by
      rcases jn_few Hv1.out Hv2.out HF.out.1 HF.out.2 with ⟨h1, h2⟩ | ⟨h1, h2, h3, h4⟩
      · rw [HK1.out, HK2.out] at h1
        exact Or.inl ⟨h1, hJ.symm.trans h2⟩
      · refine Or.inr ⟨hJ.symm.trans h2, fun k0 k1 => ?_, fun k1 => ?_⟩
        · rw [← hN4, atW_ok h4, atW_ok Hv1.out]; exact join_atI1 h3 Hv1.out.pos k0 (HK1.out.symm ▸ k1)
        · rw [← hN4, atW_ok h4, atW_ok Hv2.out, ← HK1.out]; exact join_atI2 h3 Hv1.out.pos (HK1.out.symm ▸ k1)
    have HL4 : Hid (N4.length ≤ 9223372036854775807) := by rw [← hN4]; exact long_ok (jnL_len L M)
    have H4 : Hid (∀ W, Mp W A c L → Mp W B d M → Calls Try.prog 34 #[.slice A L.length c, .slice B M.length d] W (Res N4 J W)) := fun W h1 h2 => by
      have h := iso_Join L M A B c d W h1 h2 hm hm2
      rw [hJ, hN4] at h; exact h
    clear hJ hN4
    have HA : Hid (∀ (y : Int) W, Rns W A L → Calls Try.prog 38 #[.slice A L.length c, .int .i64 y] W fun e w' => e = .returned (.int .i64 (atW L y)) ∧ Below W.heap.size W w') := fun y W h => iso_at L A c y W h hm
    have HB : Hid (∀ (y : Int) W, Rns W B M → Calls Try.prog 38 #[.slice B M.length d, .int .i64 y] W fun e w' => e = .returned (.int .i64 (atW M y)) ∧ Below W.heap.size W w') := fun y W h => iso_at M B d y W h hm2
    clear hm hm2 HE1 HE2 HF HCk1 HCk2
    go_wp2_with fail
    refine (HLn1.out w3 Ra.out.1).mono ?_
    rintro e w4 ⟨rfl, hb⟩
    have B4 := Lib.hid (bstep B3.out hb)
    replace Ra := Lib.hid (Ra.out.on hb)
    replace Rb := Lib.hid (Rb.out.on hb)
    replace HC := Lib.hid (HC.out.on hb)
    clear hb
    go_wp2_with fail
    refine (HLn2.out w4 Rb.out.1).mono ?_
    rintro e w5 ⟨rfl, hb⟩
    have B5 := Lib.hid (bstep B4.out hb)
    replace Ra := Lib.hid (Ra.out.on hb)
    replace Rb := Lib.hid (Rb.out.on hb)
    replace HC := Lib.hid (HC.out.on hb)
    clear hb
    go_wp2_with fail
    refine (H1.out w5 Ra.out.1 Rb.out.1).mono ?_
    rintro e w6 ⟨A6, c6, rfl, hr, hb⟩
    have B6 := Lib.hid (bstep B5.out hb)
    replace Ra := Lib.hid (Ra.out.on hb)
    replace Rb := Lib.hid (Rb.out.on hb)
    replace HC := Lib.hid (HC.out.on hb)
    have R1 := Lib.hid hr
    clear hr
    clear hb
    clear d1 d2 d3 d4 HLn1 HLn2 H1
    obtain ⟨U, hU⟩ : ∃ U, atW L x = U := ⟨_, rfl⟩
    have HU := Lib.hid hU
    have HA0 := Lib.hid fun W h => HA.out x W h
    rw [hU] at HA0
    clear hU
    go_upto_region 9 with fail
    go_cut [94] from 82 to 94 (fun v wz => v = .bool false ∧ Below w6.heap.size w6 wz)
    case first =>
      by_cases hz : G = 0
      rotate_left
      · obtain ⟨z1, z2⟩ := ne_tests hz
        clear hz
        go_wp2_with fail
        go_meet
        case rel => exact ⟨rfl, Below.refl _ _⟩
      subst hz
      obtain ⟨V, hV⟩ : ∃ V, atW M U = V := ⟨_, rfl⟩
      have HB0 := Lib.hid fun W h => HB.out U W h
      rw [hV] at HB0
      have HN0 := Lib.hid fun W h => iso_at N1 A6 c6 x W h HL1.out
      rw [HAt1.out rfl x, HU.out, hV] at HN0
      clear hV
      go_wp2_with fail
      refine (HN0.out w6 R1.out.1).mono ?_
      rintro e w7 ⟨rfl, hb⟩
      have B7 := Lib.hid hb
      replace Ra := Lib.hid (Ra.out.on hb)
      replace Rb := Lib.hid (Rb.out.on hb)
      replace HC := Lib.hid (HC.out.on hb)
      replace R1 := Lib.hid (R1.out.on hb)
      clear hb
      go_wp2_with fail
      refine (HA0.out w7 Ra.out.1).mono ?_
      rintro e w8 ⟨rfl, hb⟩
      have B8 := Lib.hid (bstep B7.out hb)
      replace Ra := Lib.hid (Ra.out.on hb)
      replace Rb := Lib.hid (Rb.out.on hb)
      replace HC := Lib.hid (HC.out.on hb)
      replace R1 := Lib.hid (R1.out.on hb)
      clear hb
      go_wp2_with fail
      refine (HB0.out w8 Rb.out.1).mono ?_
      rintro e w9 ⟨rfl, hb⟩
      have B9 := Lib.hid (bstep B8.out hb)
      replace Ra := Lib.hid (Ra.out.on hb)
      replace Rb := Lib.hid (Rb.out.on hb)
      replace HC := Lib.hid (HC.out.on hb)
      replace R1 := Lib.hid (R1.out.on hb)
      clear hb
      go_wp2_with fail
      go_meet
      case rel => exact ⟨rfl, B9.out⟩
    case rest =>
      obtain ⟨rfl, hb⟩ := hcut
      obtain ⟨w7, rfl⟩ : ∃ W, W = wc := ⟨wc, rfl⟩
      have B7 := Lib.hid (bstep B6.out hb)
      replace Ra := Lib.hid (Ra.out.on hb)
      replace Rb := Lib.hid (Rb.out.on hb)
      replace HC := Lib.hid (HC.out.on hb)
      replace R1 := Lib.hid (R1.out.on hb)
      clear hb
      clear HAt1 HL1 R1
      obtain ⟨z0, z1⟩ := HC.out.two
      go_wp2_with fail
      refine (H2.out w7 Ra.out.1).mono ?_
      rintro e w8 ⟨A8, c8, rfl, hr, hb⟩
      have B8 := Lib.hid (bstep B7.out hb)
      replace Ra := Lib.hid (Ra.out.on hb)
      replace Rb := Lib.hid (Rb.out.on hb)
      replace HC := Lib.hid (HC.out.on hb)
      have R2 := Lib.hid hr
      clear hr z0 z1
      clear hb
      obtain ⟨q0, q1⟩ := HC.out.two
      go_upto_region 12 with fail
      go_cut [119] from 101 to 119 (fun v wz => v = .bool false ∧ Below w8.heap.size w8 wz)
      case first =>
        have hh := HHp.out
        cases hin : inW f t K1 with
        | true =>
          rw [hin, if_pos rfl] at hh
          obtain ⟨h1, h2, h3⟩ := inW_iff.mp hin
          subst hh
          have d1 : decide (0 ≤ f) = true := decide_eq_true (by omega)
          have d2 : decide (f ≤ t) = true := decide_eq_true (by omega)
          have d3 : decide (t ≤ K1) = true := decide_eq_true (by omega)
          clear hin h1 h2 h3
          go_wp2_with fail
          go_meet
          case rel => exact ⟨rfl, Below.refl _ _⟩
        | false =>
          rw [hin, if_neg (by decide)] at hh
          subst hh
          rcases inW_no hin with h | ⟨h1, h⟩ | ⟨h1, h2, h⟩
          · skip
            have d1 : decide (0 ≤ f) = false := decide_eq_false (by omega)
            clear h hin
            go_wp2_with fail
            go_meet
            case rel => exact ⟨rfl, Below.refl _ _⟩
          · skip
            have d1 : decide (0 ≤ f) = true := decide_eq_true (by omega)
            have d2 : decide (f ≤ t) = false := decide_eq_false (by omega)
            clear h h1 hin
            go_wp2_with fail
            go_meet
            case rel => exact ⟨rfl, Below.refl _ _⟩
          · skip
            have d1 : decide (0 ≤ f) = true := decide_eq_true (by omega)
            have d2 : decide (f ≤ t) = true := decide_eq_true (by omega)
            have d3 : decide (t ≤ K1) = false := decide_eq_false (by omega)
            clear h h1 h2 hin
            go_wp2_with fail
            go_meet
            case rel => exact ⟨rfl, Below.refl _ _⟩
      case rest =>
        obtain ⟨rfl, hb⟩ := hcut
        obtain ⟨w9, rfl⟩ : ∃ W, W = wc := ⟨wc, rfl⟩
        have B9 := Lib.hid (bstep B8.out hb)
        replace Ra := Lib.hid (Ra.out.on hb)
        replace Rb := Lib.hid (Rb.out.on hb)
        replace HC := Lib.hid (HC.out.on hb)
        replace R2 := Lib.hid (R2.out.on hb)
        clear hb
        clear q0 q1
        obtain ⟨q0, q1⟩ := HC.out.two
        go_upto_region 14 with fail
        go_cut [146] from 120 to 146 (fun v wz => v = .bool false ∧ Below w9.heap.size w9 wz)
        case first =>
          by_cases hz : H = 0
          rotate_left
          · obtain ⟨z1, z2⟩ := ne_tests hz
            clear hz
            go_quiet (fail)
            go_wp2_with fail
            go_meet
            case rel => exact ⟨rfl, below_drewN (Below.refl _ _) _⟩
          subst hz
          have hin : inW f t K1 = true := by
            have h := HHp.out
            cases hh : inW f t K1 with
            | true => rfl
            | false => rw [hh, if_neg (by decide)] at h; cases h
          obtain ⟨h1, h2, h3⟩ := inW_iff.mp hin
          have hkb := HKb.out
          have s1 : IntKind.i64.wrap (t - f) = t - f := wrap_id (by omega)
          clear hin
          rcases Int.lt_or_le x 0 with h0 | h0
          · have d1 : decide (0 ≤ x) = false := decide_eq_false (by omega)
            clear h0 h1 h2 h3 hkb
            go_quiet (fail)
            go_wp2_with fail
            go_meet
            case rel => exact ⟨rfl, below_drewN (Below.refl _ _) _⟩
          have d1 : decide (0 ≤ x) = true := decide_eq_true h0
          rcases Int.lt_or_le x (t - f) with h4 | h4
          rotate_left
          · have d2 : decide (x < t - f) = false := decide_eq_false (by omega)
            clear h0 h1 h2 h3 h4 hkb
            go_quiet (fail)
            go_wp2_with fail
            go_meet
            case rel => exact ⟨rfl, below_drewN (Below.refl _ _) _⟩
          have d2 : decide (x < t - f) = true := decide_eq_true h4
          have s2 : IntKind.i64.wrap (f + x) = f + x := wrap_id (by omega)
          obtain ⟨V, hV⟩ : ∃ V, atW L (f + x) = V := ⟨_, rfl⟩
          have HP1 : Hid (∀ W, Below w9.heap.size w9 W → Calls Try.prog 38 #[.slice A8 N2.length c8, .int .i64 x] W fun e w' => e = .returned (.int .i64 V) ∧ Below W.heap.size W w') := fun W hb => by
            have h := iso_at N2 A8 c8 x W (R2.out.1.on hb) HL2.out
            rw [HAt2.out rfl h1 (by omega) h0 h4, hV] at h; exact h
          have HP2 : Hid (∀ W, Below w9.heap.size w9 W → Calls Try.prog 38 #[.slice A L.length c, .int .i64 (f + x)] W fun e w' => e = .returned (.int .i64 V) ∧ Below W.heap.size W w') := fun W hb => by
            have h := HA.out (f + x) W (Ra.out.1.on hb)
            rw [hV] at h; exact h
          have HSS := Lib.hid fun (W : World) (hbw : Below w9.heap.size w9 W) => (HC.out.on hbw).two
          clear h0 h1 h2 h3 h4 hkb hV
          go_region_held3 (fun W' => W'.cell? ⟨w.heap.size + 1, 0, none⟩ = some (.int .i64 f) ∧ W'.cell? ⟨w.heap.size + 1, 1, none⟩ = some (.int .i64 t))
            (first | exact HSS.out _ (Below.refl _ _) | exact HSS.out _ (drew_below _) | exact HSS.out _ (bstep (drew_below _) hb4) | exact HSS.out _ (bstep (bstep (drew_below _) hb4) hb5))
            ((go_at_call 38; first | ((have hq := bstep (drew_below _) hb4); (refine (HP2.out _ hq).mono ?_); clear hq; rintro e w5 ⟨rfl, hb5⟩) | ((refine (HP1.out _ (drew_below _)).mono ?_); rintro e w4 ⟨rfl, hb4⟩)))
          all_goals
            go_wp2_with fail
            go_meet
            case rel => exact ⟨rfl, bstep (bstep (drew_below _) hb4) hb5⟩
        case rest =>
          obtain ⟨rfl, hb⟩ := hcut
          obtain ⟨w10, rfl⟩ : ∃ W, W = wc := ⟨wc, rfl⟩
          have B10 := Lib.hid (bstep B9.out hb)
          replace Ra := Lib.hid (Ra.out.on hb)
          replace Rb := Lib.hid (Rb.out.on hb)
          replace HC := Lib.hid (HC.out.on hb)
          replace R2 := Lib.hid (R2.out.on hb)
          clear hb
          clear q0 q1 HAt2 HL2 R2 HHp H2
          go_wp2_with fail
          refine (H3.out w10 Ra.out.1).mono ?_
          rintro e w11 ⟨A11, c11, rfl, hr, hb⟩
          have B11 := Lib.hid (bstep B10.out hb)
          replace Ra := Lib.hid (Ra.out.on hb)
          replace Rb := Lib.hid (Rb.out.on hb)
          replace HC := Lib.hid (HC.out.on hb)
          have R3 := Lib.hid hr
          clear hr
          clear hb
          have hkb := HKb.out
          have hx9 := HX.out
          have hxr : x < 0 ∨ (0 ≤ x ∧ x < K1) ∨ (K1 ≤ x ∧ x < K1 + K2) ∨ (K1 + K2 ≤ x) := by omega
          have HXR := Lib.hid hxr
          clear hxr hkb hx9
          go_upto_region 17 with fail
          go_cut [174] from 152 to 174 (fun v wz => v = .bool false ∧ Below w11.heap.size w11 wz)
          case first =>
            have hkb := HKb.out
            have hx9 := HX.out
            rcases Int.lt_or_le x 0 with h0 | h0
            · have d1 : decide (0 ≤ x) = false := decide_eq_false (by omega)
              clear h0 hkb hx9
              go_wp2_with fail
              go_meet
              case rel => exact ⟨rfl, Below.refl _ _⟩
            have d1 : decide (0 ≤ x) = true := decide_eq_true h0
            rcases Int.lt_or_le x K1 with h1 | h1
            rotate_left
            · have d2 : decide (x < K1) = false := decide_eq_false (by omega)
              clear h0 h1 hkb hx9
              go_wp2_with fail
              go_meet
              case rel => exact ⟨rfl, Below.refl _ _⟩
            have d2 : decide (x < K1) = true := decide_eq_true h1
            have s1 : IntKind.i64.wrap (K1 - 1) = K1 - 1 := wrap_id (by omega)
            have s2 : IntKind.i64.wrap (K1 - 1 - x) = K1 - 1 - x := wrap_id (by omega)
            obtain ⟨V, hV⟩ : ∃ V, atW L (K1 - 1 - x) = V := ⟨_, rfl⟩
            have HA3 := Lib.hid fun W h => HA.out (K1 - 1 - x) W h
            rw [hV] at HA3
            have HN3 := Lib.hid fun W h => iso_at N3 A11 c11 x W h HL3.out
            rw [HAt3.out h0 h1, hV] at HN3
            clear h0 h1 hkb hx9 hV
            go_wp2_with fail
            refine (HN3.out w11 R3.out.1).mono ?_
            rintro e w12 ⟨rfl, hb⟩
            have B12 := Lib.hid hb
            replace Ra := Lib.hid (Ra.out.on hb)
            replace Rb := Lib.hid (Rb.out.on hb)
            replace HC := Lib.hid (HC.out.on hb)
            replace R3 := Lib.hid (R3.out.on hb)
            clear hb
            go_wp2_with fail
            refine (HA3.out w12 Ra.out.1).mono ?_
            rintro e w13 ⟨rfl, hb⟩
            have B13 := Lib.hid (bstep B12.out hb)
            replace Ra := Lib.hid (Ra.out.on hb)
            replace Rb := Lib.hid (Rb.out.on hb)
            replace HC := Lib.hid (HC.out.on hb)
            replace R3 := Lib.hid (R3.out.on hb)
            clear hb
            go_wp2_with fail
            go_meet
            case rel => exact ⟨rfl, B13.out⟩
          case rest =>
            obtain ⟨rfl, hb⟩ := hcut
            obtain ⟨w12, rfl⟩ : ∃ W, W = wc := ⟨wc, rfl⟩
            have B12 := Lib.hid (bstep B11.out hb)
            replace Ra := Lib.hid (Ra.out.on hb)
            replace Rb := Lib.hid (Rb.out.on hb)
            replace HC := Lib.hid (HC.out.on hb)
            replace R3 := Lib.hid (R3.out.on hb)
            clear hb
            clear R3 HAt3 HL3 H3
            go_wp2_with fail
            refine (H4.out w12 Ra.out Rb.out).mono ?_
            rintro e w13 ⟨A13, c13, rfl, hr, hb⟩
            have B13 := Lib.hid (bstep B12.out hb)
            replace Ra := Lib.hid (Ra.out.on hb)
            replace Rb := Lib.hid (Rb.out.on hb)
            replace HC := Lib.hid (HC.out.on hb)
            have R4 := Lib.hid hr
            clear hr
            clear hb
            have hkb := HKb.out
            have hx9 := HX.out
            have s1 : IntKind.i64.wrap (K1 + K2) = K1 + K2 := wrap_id (by omega)
            rcases HJn.out with ⟨hj, rfl⟩ | ⟨rfl, hj1, hj2⟩
            · have d1 : decide (17179869184 < K1 + K2) = true := decide_eq_true hj
              clear hj hkb hx9
              go_wp2_with fail
              refine (iso_awake w13).mono ?_
              rintro e w14 ⟨rfl, hb⟩
              have B14 := Lib.hid (bstep B13.out hb)
              replace Ra := Lib.hid (Ra.out.on hb)
              replace Rb := Lib.hid (Rb.out.on hb)
              replace HC := Lib.hid (HC.out.on hb)
              replace R4 := Lib.hid (R4.out.on hb)
              clear hb
              go_wp2_with fail
              go_ret
              exact ⟨rfl, B14.out⟩
            rcases HXR.out with h | ⟨h0, h1⟩ | ⟨h0, h1⟩ | h
            · have d1 : decide (x < 0) = true := decide_eq_true h
              have d2 : decide (x < K1) = true := decide_eq_true (by omega)
              clear h hkb hx9 hj1 hj2
              go_wp2_with fail
              refine (iso_awake w13).mono ?_
              rintro e w14 ⟨rfl, hb⟩
              have B14 := Lib.hid (bstep B13.out hb)
              replace Ra := Lib.hid (Ra.out.on hb)
              replace Rb := Lib.hid (Rb.out.on hb)
              replace HC := Lib.hid (HC.out.on hb)
              replace R4 := Lib.hid (R4.out.on hb)
              clear hb
              go_wp2_with fail
              go_ret
              exact ⟨rfl, B14.out⟩
            · have d1 : decide (x < 0) = false := decide_eq_false (by omega)
              have d2 : decide (x < K1) = true := decide_eq_true h1
              have d3 : decide (K1 ≤ x) = false := decide_eq_false (by omega)
              have HN4 := Lib.hid fun W h => iso_at N4 A13 c13 x W h HL4.out
              rw [hj1 h0 h1, HU.out] at HN4
              clear h0 h1 hkb hx9 hj1 hj2
              go_wp2_with fail
              refine (HN4.out w13 R4.out.1).mono ?_
              rintro e w14 ⟨rfl, hb⟩
              have B14 := Lib.hid (bstep B13.out hb)
              replace Ra := Lib.hid (Ra.out.on hb)
              replace Rb := Lib.hid (Rb.out.on hb)
              replace HC := Lib.hid (HC.out.on hb)
              replace R4 := Lib.hid (R4.out.on hb)
              clear hb
              go_wp2_with fail
              refine (HA0.out w14 Ra.out.1).mono ?_
              rintro e w15 ⟨rfl, hb⟩
              have B15 := Lib.hid (bstep B14.out hb)
              replace Ra := Lib.hid (Ra.out.on hb)
              replace Rb := Lib.hid (Rb.out.on hb)
              replace HC := Lib.hid (HC.out.on hb)
              replace R4 := Lib.hid (R4.out.on hb)
              clear hb
              go_wp2_with fail
              refine (iso_awake w15).mono ?_
              rintro e w16 ⟨rfl, hb⟩
              have B16 := Lib.hid (bstep B15.out hb)
              replace Ra := Lib.hid (Ra.out.on hb)
              replace Rb := Lib.hid (Rb.out.on hb)
              replace HC := Lib.hid (HC.out.on hb)
              replace R4 := Lib.hid (R4.out.on hb)
              clear hb
              go_wp2_with fail
              go_ret
              exact ⟨rfl, B16.out⟩
            · have d1 : decide (x < 0) = false := decide_eq_false (by omega)
              have d2 : decide (x < K1) = false := decide_eq_false (by omega)
              have d3 : decide (K1 ≤ x) = true := decide_eq_true h0
              have d4 : decide (K1 + K2 ≤ x) = false := decide_eq_false (by omega)
              have s2 : IntKind.i64.wrap (x - K1) = x - K1 := wrap_id (by omega)
              obtain ⟨V, hV⟩ : ∃ V, atW M (x - K1) = V := ⟨_, rfl⟩
              have HB4 := Lib.hid fun W h => HB.out (x - K1) W h
              rw [hV] at HB4
              have HN4 := Lib.hid fun W h => iso_at N4 A13 c13 x W h HL4.out
              rw [hj2 h0, hV] at HN4
              clear h0 h1 hkb hx9 hj1 hj2 hV
              go_wp2_with fail
              refine (HN4.out w13 R4.out.1).mono ?_
              rintro e w14 ⟨rfl, hb⟩
              have B14 := Lib.hid (bstep B13.out hb)
              replace Ra := Lib.hid (Ra.out.on hb)
              replace Rb := Lib.hid (Rb.out.on hb)
              replace HC := Lib.hid (HC.out.on hb)
              replace R4 := Lib.hid (R4.out.on hb)
              clear hb
              go_wp2_with fail
              refine (HB4.out w14 Rb.out.1).mono ?_
              rintro e w15 ⟨rfl, hb⟩
              have B15 := Lib.hid (bstep B14.out hb)
              replace Ra := Lib.hid (Ra.out.on hb)
              replace Rb := Lib.hid (Rb.out.on hb)
              replace HC := Lib.hid (HC.out.on hb)
              replace R4 := Lib.hid (R4.out.on hb)
              clear hb
              go_wp2_with fail
              refine (iso_awake w15).mono ?_
              rintro e w16 ⟨rfl, hb⟩
              have B16 := Lib.hid (bstep B15.out hb)
              replace Ra := Lib.hid (Ra.out.on hb)
              replace Rb := Lib.hid (Rb.out.on hb)
              replace HC := Lib.hid (HC.out.on hb)
              replace R4 := Lib.hid (R4.out.on hb)
              clear hb
              go_wp2_with fail
              go_ret
              exact ⟨rfl, B16.out⟩
            · have d1 : decide (x < 0) = false := decide_eq_false (by omega)
              have d2 : decide (x < K1) = false := decide_eq_false (by omega)
              have d3 : decide (K1 ≤ x) = true := decide_eq_true (by omega)
              have d4 : decide (K1 + K2 ≤ x) = true := decide_eq_true (by omega)
              clear h hkb hx9 hj1 hj2
              go_wp2_with fail
              refine (iso_awake w13).mono ?_
              rintro e w14 ⟨rfl, hb⟩
              have B14 := Lib.hid (bstep B13.out hb)
              replace Ra := Lib.hid (Ra.out.on hb)
              replace Rb := Lib.hid (Rb.out.on hb)
              replace HC := Lib.hid (HC.out.on hb)
              replace R4 := Lib.hid (R4.out.on hb)
              clear hb
              go_wp2_with fail
              go_ret
              exact ⟨rfl, B14.out⟩
#print axioms walk_IsoCompose
end Go.Proofs.Ytnblpooimgpgoaa.Iso
