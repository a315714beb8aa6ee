/- IsoHalves. -/
import Derived.Test.YtnblpooimgpgoaaIsoAC
namespace Go.Proofs.Ytnblpooimgpgoaa.Iso
open Go.ChangeShapes Go.WideShapes Go.RowKit Go.Lib Go.Proofs.Ytnblpooimgpgoaa.Rw
open Go.Proofs.Ytnblpooimgpgoaa.Span (Sps IsNf Nrm hasB hasB_iff cnt inS_iff)
set_option linter.unusedVariables false
set_option maxRecDepth 100000

set_option maxHeartbeats 6400000 in
theorem walk_IsoHalves (w : World) (A : Option Addr) (c : Nat) (L : List Rn) (ha : Mp w A c L) (hm : L.length ≤ 9223372036854775807) (x : Int) (hx : (Lit.int .i64 x).wf) :
    Calls Try.prog 9 #[.slice A L.length c, .int .i64 x] w fun e w' => e = .returned (.bool true) ∧ Below w.heap.size w w' := by
  have R := Lib.hid ha
  clear ha
  obtain ⟨g, hg⟩ : ∃ g, decide (300 < L.length) = g := ⟨_, rfl⟩
  have HGr := Lib.hid hg
  obtain ⟨E, hE⟩ : ∃ E, eC L = E := ⟨_, rfl⟩
  have HE := Lib.hid hE
  have HCk := Lib.hid fun W h => iso_Check L A c W h hm
  rw [hE] at HCk
  have HLn := Lib.hid fun W h => iso_Length L A c W h hm
  rw [hE] at HLn
  clear hE
  go_enter Try.func9, Try.ntmps9
  go_wp2_with fail
  refine (iso_great L A c w hm hg).mono ?_
  rintro e w' ⟨rfl, rfl⟩
  clear hg
  cases g with
  | true =>
    go_wp2_with fail
    refine (iso_awake w).mono ?_
    rintro e w1 ⟨rfl, hb⟩
    have B1 := Lib.hid hb
    replace R := Lib.hid (R.out.on hb)
    clear hb
    go_wp2_with fail
    go_ret
    exact ⟨rfl, B1.out⟩
  | false =>
    go_wp2_with fail
    refine (HCk.out w R.out.1).mono ?_
    rintro e w1 ⟨rfl, hb⟩
    have B1 := Lib.hid hb
    replace R := Lib.hid (R.out.on hb)
    clear hb
    by_cases hz : E = 0
    rotate_left
    · obtain ⟨z1, z2⟩ := ne_tests hz
      clear hz
      go_wp2_with fail
      refine (iso_awake w1).mono ?_
      rintro e w2 ⟨rfl, hb⟩
      have B2 := Lib.hid (bstep B1.out hb)
      replace R := Lib.hid (R.out.on hb)
      clear hb
      go_wp2_with fail
      go_ret
      exact ⟨rfl, B2.out⟩
    subst hz
    have HV := Lib.hid (Vd.ofE HE.out)
    obtain ⟨K, hK⟩ : ∃ K, lenM L = K := ⟨_, rfl⟩
    have HKl : Hid (lenM L = K) := hK
    have hlv : lenV L = K := by rw [← hK]; exact if_pos HE.out
    rw [hlv] at HLn
    have hk0 : 0 ≤ K ∧ K ≤ 17179869184 := ⟨hK ▸ lenM_nonneg HV.out.pos, hK ▸ HV.out.len⟩
    have d1 : decide (K < 0) = false := decide_eq_false (by omega)
    have d2 : decide (17179869184 < K) = false := decide_eq_false (by omega)
    clear hlv hK
    go_wp2_with fail
    refine (HLn.out w1 R.out.1).mono ?_
    rintro e w2 ⟨rfl, hb⟩
    have B2 := Lib.hid (bstep B1.out hb)
    replace R := Lib.hid (R.out.on hb)
    clear hb
    rcases Int.lt_or_le x 0 with h0 | h0
    · have d3 : decide (x < 0) = true := decide_eq_true h0
      clear h0
      go_wp2_with fail
      refine (iso_awake w2).mono ?_
      rintro e w3 ⟨rfl, hb⟩
      have B3 := Lib.hid (bstep B2.out hb)
      replace R := Lib.hid (R.out.on hb)
      clear hb
      go_wp2_with fail
      go_ret
      exact ⟨rfl, B3.out⟩
    rcases Int.lt_or_le K x with h1 | h1
    · have d3 : decide (x < 0) = false := decide_eq_false (by omega)
      have d4 : decide (K < x) = true := decide_eq_true h1
      clear h0 h1
      go_wp2_with fail
      refine (iso_awake w2).mono ?_
      rintro e w3 ⟨rfl, hb⟩
      have B3 := Lib.hid (bstep B2.out hb)
      replace R := Lib.hid (R.out.on hb)
      clear hb
      go_wp2_with fail
      go_ret
      exact ⟨rfl, B3.out⟩
    have d3 : decide (x < 0) = false := decide_eq_false (by omega)
    have d4 : decide (K < x) = false := decide_eq_false (by omega)
    have hin1 : inW 0 x (lenM L) = true := inW_iff.mpr ⟨by omega, h0, by rw [HKl.out]; exact h1⟩
    have hin2 : inW x K (lenM L) = true := inW_iff.mpr ⟨h0, h1, by rw [HKl.out]; exact Int.le_refl _⟩
    have he1 : prtE L 0 x = 0 := by unfold prtE; rw [if_pos HE.out, if_pos hin1]
    have he2 : prtE L x K = 0 := by unfold prtE; rw [if_pos HE.out, if_pos hin2]
    obtain ⟨M1, hM1⟩ : ∃ M, prtL L 0 x = M := ⟨_, rfl⟩
    obtain ⟨M2, hM2⟩ : ∃ M, prtL L x K = M := ⟨_, rfl⟩
    have hn1 : M1 = nfL (win (ex L) (0 : Int).toNat x.toNat) := by rw [← hM1]; unfold prtL; exact if_pos he1
    have hn2 : M2 = nfL (win (ex L) x.toNat K.toNat) := by rw [← hM2]; unfold prtL; exact if_pos he2
    have hv1 : Vd M1 := by rw [hn1]; exact vd_win HV.out 0 x
    have hv2 : Vd M2 := by rw [hn2]; exact vd_win HV.out x K
    have hx1 : ex M1 = win (ex L) 0 x.toNat := by rw [hn1]; exact (nfL_ok _).2
    have hlen := ex_len HV.out.pos
    have hx2 : ex M2 = win (ex L) x.toNat (ex L).length := by rw [hn2, (nfL_ok _).2]; congr 1; have := HKl.out; omega
    have hjoin : ex M1 ++ ex M2 = ex L := by rw [hx1, hx2]; exact win_join _ _ (by have := HKl.out; omega)
    obtain ⟨N, hN⟩ : ∃ N, nrmL L = N := ⟨_, rfl⟩
    have hNn : N = nfL (ex L) := by rw [← hN]; exact if_pos HE.out
    have hb0 : bothE M1 M2 = 0 := by unfold bothE; rw [if_pos hv1.eC, hv2.eC]
    have hsum : ¬ ml < lenM M1 + lenM M2 := by
      have e1 := ex_len hv1.pos
      have e2 := ex_len hv2.pos
      have e3 : (ex M1 ++ ex M2).length = (ex L).length := by rw [hjoin]
      rw [List.length_append] at e3
      have := HV.out.len
      omega
    have hnl : (nfL (ex L)).length ≤ 256 := by have := nfL_len HV.out.pos; have := HV.out.n; omega
    have hje : jnE M1 M2 = 0 := by unfold jnE; rw [if_pos hb0, if_neg hsum, hjoin]; unfold fulE; rw [if_neg (by omega)]
    have hjl : jnL M1 M2 = N := by unfold jnL; rw [if_pos hb0, if_neg hsum, hjoin, hNn]; unfold fulL; rw [if_neg (by omega)]
    have HL1 : Hid (M1.length ≤ 256) := hv1.n
    have HL2 : Hid (M2.length ≤ 256) := hv2.n
    have HLN : Hid (N.length ≤ 256) := by rw [hNn]; exact hnl
    have HP1 : Hid (∀ W, Rns W A L → Calls Try.prog 32 #[.slice A L.length c, .agg #[.int .i64 0, .int .i64 x]] W (Res M1 0 W)) := fun W h => by
      have h2 := iso_Part L A c 0 x W h hm
      rw [hM1, he1] at h2; exact h2
    have HP2 : Hid (∀ W, Rns W A L → Calls Try.prog 32 #[.slice A L.length c, .agg #[.int .i64 x, .int .i64 K]] W (Res M2 0 W)) := fun W h => by
      have h2 := iso_Part L A c x K W h hm
      rw [hM2, he2] at h2; exact h2
    have HJn : Hid (∀ (A1 A2 : Option Addr) (c1 c2 : Nat) W, Mp W A1 c1 M1 → Mp W A2 c2 M2 → Calls Try.prog 34 #[.slice A1 M1.length c1, .slice A2 M2.length c2] W (Res N 0 W)) := fun A1 A2 c1 c2 W h1 h2 => by
      have h3 := iso_Join M1 M2 A1 A2 c1 c2 W h1 h2 (long_ok HL1.out) (long_ok HL2.out)
      rw [hjl, hje] at h3; exact h3
    have HNo : Hid (∀ W, Rns W A L → Calls Try.prog 22 #[.slice A L.length c] W (Res N 0 W)) := fun W h => by
      have h2 := iso_Norm L A c W h hm
      rw [hN, HE.out] at h2; exact h2
    have HMM : Hid (∀ (A3 B3 : Option Addr) (c3 d3 : Nat) W, Rns W A3 N → Rns W B3 N → Calls Try.prog 24 #[.slice A3 N.length c3, .slice B3 N.length d3] W fun e w' => e = .returned (.bool true) ∧ Below W.heap.size W w') := fun A3 B3 c3 d3 W h1 h2 => e_Same N (by have := HLN.out; omega) A3 B3 c3 d3 W h1 h2
    clear h0 h1 hin1 hin2 he1 he2 hM1 hM2 hn1 hn2 hv1 hv2 hx1 hlen hx2 hjoin hN hNn hb0 hsum hnl hje hjl
    go_wp2_with fail
    refine (HP1.out w2 R.out.1).mono ?_
    rintro e w3 ⟨A1, c1, rfl, hr, hb⟩
    have B3 := Lib.hid (bstep B2.out hb)
    replace R := Lib.hid (R.out.on hb)
    have R1 := Lib.hid hr
    clear hr
    clear hb
    go_wp2_with fail
    refine (HP2.out w3 R.out.1).mono ?_
    rintro e w4 ⟨A2, c2, rfl, hr, hb⟩
    have B4 := Lib.hid (bstep B3.out hb)
    replace R := Lib.hid (R.out.on hb)
    replace R1 := Lib.hid (R1.out.on hb)
    have R2 := Lib.hid hr
    clear hr
    clear hb
    go_wp2_with fail
    refine (HJn.out _ _ _ _ w4 R1.out R2.out).mono ?_
    rintro e w5 ⟨A3, c3, rfl, hr, hb⟩
    have B5 := Lib.hid (bstep B4.out hb)
    replace R := Lib.hid (R.out.on hb)
    replace R1 := Lib.hid (R1.out.on hb)
    replace R2 := Lib.hid (R2.out.on hb)
    have R3 := Lib.hid hr
    clear hr
    clear hb
    go_wp2_with fail
    refine (HNo.out w5 R.out.1).mono ?_
    rintro e w6 ⟨A4, c4, rfl, hr, hb⟩
    have B6 := Lib.hid (bstep B5.out hb)
    replace R := Lib.hid (R.out.on hb)
    replace R1 := Lib.hid (R1.out.on hb)
    replace R2 := Lib.hid (R2.out.on hb)
    replace R3 := Lib.hid (R3.out.on hb)
    have R4 := Lib.hid hr
    clear hr
    clear hb
    go_wp2_with fail
    refine (HMM.out _ _ _ _ w6 R3.out.1 R4.out.1).mono ?_
    rintro e w7 ⟨rfl, hb⟩
    have B7 := Lib.hid (bstep B6.out hb)
    replace R := Lib.hid (R.out.on hb)
    replace R1 := Lib.hid (R1.out.on hb)
    replace R2 := Lib.hid (R2.out.on hb)
    replace R3 := Lib.hid (R3.out.on hb)
    replace R4 := Lib.hid (R4.out.on hb)
    clear hb
    go_wp2_with fail
    refine (iso_awake w7).mono ?_
    rintro e w8 ⟨rfl, hb⟩
    have B8 := Lib.hid (bstep B7.out hb)
    replace R := Lib.hid (R.out.on hb)
    replace R1 := Lib.hid (R1.out.on hb)
    replace R2 := Lib.hid (R2.out.on hb)
    replace R3 := Lib.hid (R3.out.on hb)
    replace R4 := Lib.hid (R4.out.on hb)
    clear hb
    go_wp2_with fail
    go_ret
    exact ⟨rfl, B8.out⟩
#print axioms walk_IsoHalves
end Go.Proofs.Ytnblpooimgpgoaa.Iso
