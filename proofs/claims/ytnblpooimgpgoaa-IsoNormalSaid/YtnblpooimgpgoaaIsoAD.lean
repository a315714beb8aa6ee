/- IsoNormal. -/
import Derived.Test.YtnblpooimgpgoaaIsoAC
namespace Go.Proofs.Ytnblpooimgpgoaa.Iso
open Go.ChangeShapes Go.WideShapes Go.RowKit Go.Lib Go.Proofs.Ytnblpooimgpgoaa.Rw
open Go.Proofs.Ytnblpooimgpgoaa.Span (Sps IsNf Nrm hasB hasB_iff cnt inS_iff)
set_option linter.unusedVariables false
set_option maxRecDepth 100000

set_option maxHeartbeats 6400000 in
theorem walk_IsoNormal (w : World) (A : Option Addr) (c : Nat) (L : List Rn) (ha : Mp w A c L) (hm : L.length ≤ 9223372036854775807) (x : Int) (hx : (Lit.int .i64 x).wf) :
    Calls Try.prog 8 #[.slice A L.length c, .int .i64 x] w fun e w' => e = .returned (.bool true) ∧ Below w.heap.size w w' := by
  have R := Lib.hid ha
  clear ha
  obtain ⟨g, hg⟩ : ∃ g, decide (300 < L.length) = g := ⟨_, rfl⟩
  have HGr := Lib.hid hg
  go_enter Try.func8, Try.ntmps8
  go_wp2_with fail
  refine (iso_great L A c w hm hg).mono ?_
  rintro e w' ⟨rfl, rfl⟩
  clear hg
  cases g with
  | true =>
    go_wp2_with fail
    refine (iso_awake w).mono ?_
    rintro e w1 ⟨rfl, hb⟩
    have B1 := Lib.hid hb
    replace R := Lib.hid (R.out.on hb)
    clear hb
    go_wp2_with fail
    go_ret
    exact ⟨rfl, B1.out⟩
  | false =>
    obtain ⟨E, hE⟩ : ∃ E, eC L = E := ⟨_, rfl⟩
    obtain ⟨M, hM⟩ : ∃ M, nrmL L = M := ⟨_, rfl⟩
    have HE := Lib.hid hE
    have HM := Lib.hid hM
    have HL : Hid (M.length ≤ 256) := by rw [← hM]; exact nrmL_len L
    have HK := Lib.hid (iso_Norm L A c w R.out.1 hm)
    rw [hE, hM] at HK
    clear hE hM
    go_wp2_with fail
    refine (HK.out).mono ?_
    rintro e w1 ⟨A1, c1, rfl, hr, hb⟩
    have B1 := Lib.hid hb
    replace R := Lib.hid (R.out.on hb)
    have R1 := Lib.hid hr
    clear hr
    clear hb
    by_cases hz : E = 0
    rotate_left
    · obtain ⟨z1, z2⟩ := ne_tests hz
      obtain rfl : M = [] := by rw [← HM.out]; unfold nrmL; rw [HE.out, if_neg hz]
      clear hz
      go_wp2_with fail
      refine (iso_awake w1).mono ?_
      rintro e w2 ⟨rfl, hb⟩
      have B2 := Lib.hid (bstep B1.out hb)
      replace R := Lib.hid (R.out.on hb)
      replace R1 := Lib.hid (R1.out.on hb)
      clear hb
      go_wp2_with fail
      go_ret
      exact ⟨rfl, B2.out⟩
    subst hz
    have HV := Lib.hid (Vd.ofE HE.out)
    have HMn : Hid (M = nfL (ex L)) := by rw [← HM.out]; exact if_pos HE.out
    have HVM : Hid (Vd M) := by rw [HMn.out]; exact vd_nf HV.out
    have HexM : Hid (ex M = ex L) := by rw [HMn.out]; exact (nfL_ok _).2
    have hN2 : nrmL M = M := by
      unfold nrmL
      rw [if_pos HVM.out.eC, HexM.out]
      exact HMn.out.symm
    obtain ⟨Q, hQ⟩ : ∃ Q, revL L = Q := ⟨_, rfl⟩
    have hQn : Q = nfL (ex L).reverse := by rw [← hQ]; exact if_pos HE.out
    have HVQ : Hid (Vd Q) := by rw [hQn]; exact vd_rev HV.out
    have hexQ : ex Q = (ex L).reverse := by rw [hQn]; exact (nfL_ok _).2
    have hR2 : revL Q = M := by
      unfold revL
      rw [if_pos HVQ.out.eC, hexQ, List.reverse_reverse]
      exact HMn.out.symm
    have HQL : Hid (Q.length ≤ 256) := by rw [← hQ]; exact revL_len L
    have HK1 : Hid (∀ W, Rns W A1 M → Calls Try.prog 22 #[.slice A1 M.length c1] W (Res M 0 W)) := fun W h => by
      have h2 := iso_Norm M A1 c1 W h (long_ok HL.out)
      rw [hN2, HVM.out.eC] at h2; exact h2
    have HK2 : Hid (∀ W, Rns W A L → Calls Try.prog 36 #[.slice A L.length c] W (Res Q 0 W)) := fun W h => by
      have h2 := iso_Reverse L A c W h hm
      rw [hQ, HE.out] at h2; exact h2
    have HK3 : Hid (∀ (A3 : Option Addr) (c3 : Nat) W, Rns W A3 Q → Calls Try.prog 36 #[.slice A3 Q.length c3] W (Res M 0 W)) := fun A3 c3 W h => by
      have h2 := iso_Reverse Q A3 c3 W h (long_ok HQL.out)
      rw [hR2, HVQ.out.eC] at h2; exact h2
    have HMM : Hid (∀ (A3 B3 : Option Addr) (c3 d3 : Nat) W, Rns W A3 M → Rns W B3 M → Calls Try.prog 24 #[.slice A3 M.length c3, .slice B3 M.length d3] W fun e w' => e = .returned (.bool true) ∧ Below W.heap.size W w') := fun A3 B3 c3 d3 W h1 h2 => e_Same M (by have := HL.out; omega) A3 B3 c3 d3 W h1 h2
    have hle : M.length ≤ L.length := by rw [HMn.out]; exact nfL_len HV.out.pos
    have d1 : decide ((L.length : Int) < (M.length : Int)) = false := decide_eq_false (by omega)
    have d2 : decide (L.length < M.length) = false := decide_eq_false (by omega)
    have HAt : Hid (atW M x = atW L x) := by rw [atW_ok HVM.out, atW_ok HV.out]; exact atI_congr HexM.out x
    have HNF : Hid (∀ (i : Nat) (r : Rn), M[i]? = some r → r.2.1 = 1 → r.2.2 = false) := fun i r hr h1 => by
      rw [HMn.out] at hr
      exact ((nfL_ok _).1.ok i r hr).2 h1
    have HML : Hid (M.length ≤ 9223372036854775807) := long_ok HL.out
    clear hN2 hQ hQn hexQ hR2 hle
    go_wp2_with fail
    refine (HK1.out w1 R1.out.1).mono ?_
    rintro e w2 ⟨A2, c2, rfl, hr, hb⟩
    have B2 := Lib.hid (bstep B1.out hb)
    replace R := Lib.hid (R.out.on hb)
    replace R1 := Lib.hid (R1.out.on hb)
    have R2 := Lib.hid hr
    clear hr
    clear hb
    go_wp2_with fail
    refine (HK2.out w2 R.out.1).mono ?_
    rintro e w3 ⟨A3, c3, rfl, hr, hb⟩
    have B3 := Lib.hid (bstep B2.out hb)
    replace R := Lib.hid (R.out.on hb)
    replace R1 := Lib.hid (R1.out.on hb)
    replace R2 := Lib.hid (R2.out.on hb)
    have R3 := Lib.hid hr
    clear hr
    clear hb
    go_wp2_with fail
    refine (HK3.out _ _ w3 R3.out.1).mono ?_
    rintro e w4 ⟨A4, c4, rfl, hr, hb⟩
    have B4 := Lib.hid (bstep B3.out hb)
    replace R := Lib.hid (R.out.on hb)
    replace R1 := Lib.hid (R1.out.on hb)
    replace R2 := Lib.hid (R2.out.on hb)
    replace R3 := Lib.hid (R3.out.on hb)
    have R4 := Lib.hid hr
    clear hr
    clear hb
    go_wp2_with fail
    refine (HMM.out _ _ _ _ w4 R2.out.1 R1.out.1).mono ?_
    rintro e w5 ⟨rfl, hb⟩
    have B5 := Lib.hid (bstep B4.out hb)
    replace R := Lib.hid (R.out.on hb)
    replace R1 := Lib.hid (R1.out.on hb)
    replace R2 := Lib.hid (R2.out.on hb)
    replace R3 := Lib.hid (R3.out.on hb)
    replace R4 := Lib.hid (R4.out.on hb)
    clear hb
    go_wp2_with fail
    refine (HMM.out _ _ _ _ w5 R4.out.1 R1.out.1).mono ?_
    rintro e w6 ⟨rfl, hb⟩
    have B6 := Lib.hid (bstep B5.out hb)
    replace R := Lib.hid (R.out.on hb)
    replace R1 := Lib.hid (R1.out.on hb)
    replace R2 := Lib.hid (R2.out.on hb)
    replace R3 := Lib.hid (R3.out.on hb)
    replace R4 := Lib.hid (R4.out.on hb)
    clear hb
    go_wp2_with fail
    have hml : M.length ≤ 9223372036854775807 := HML.out
    go_loopw [13] (fun i wr => ∃ k : Nat, k ≤ M.length ∧ i = .int .i64 k ∧ w6 = wr) (fun i _ => M.length - (intOf i).toNat)
    case atStart => exact ⟨0, Nat.zero_le _, rfl, rfl⟩
    case round =>
      obtain ⟨k, hk, rfl, rfl⟩ := hrel
      rcases Nat.lt_or_ge k M.length with hlt | hge
      · obtain ⟨r, hr⟩ := get_lt hlt
        have hnf := HNF.out k r hr
        obtain ⟨b, off, hA0, hb0, e0, e1, e2⟩ := rd_at R1.out.1 hr
        subst hA0
        have i1 : (k : Int) < (M.length : Int) := by omega
        have i2 : (0 : Int) ≤ (k : Int) := by omega
        clear hr
        by_cases h1 : r.2.1 = 1
        · rw [h1] at e1
          rw [hnf h1] at e2
          clear hnf h1
          go_wp2_with fail
          go_roundw
          case rel => exact ⟨k + 1, by omega, by go_num, trivial⟩
          case measure => simp [intOf]; omega
        · have s1 : (r.2.1 == 1) = false := beq_false_of_ne h1
          clear hnf h1
          go_wp2_with fail
          go_roundw
          case rel => exact ⟨k + 1, by omega, by go_num, trivial⟩
          case measure => simp [intOf]; omega
      · obtain rfl : k = M.length := by omega
        obtain ⟨V, hV⟩ : ∃ V, atW L x = V := ⟨_, rfl⟩
        have HA1 := Lib.hid fun W h => iso_at M A1 c1 x W h HML.out
        have HA2 := Lib.hid fun W h => iso_at L A c x W h hm
        rw [HAt.out, hV] at HA1
        rw [hV] at HA2
        clear hV
        go_wp2_with fail
        refine (HA1.out w6 R1.out.1).mono ?_
        rintro e w7 ⟨rfl, hb⟩
        have B7 := Lib.hid (bstep B6.out hb)
        replace R := Lib.hid (R.out.on hb)
        replace R1 := Lib.hid (R1.out.on hb)
        replace R2 := Lib.hid (R2.out.on hb)
        replace R3 := Lib.hid (R3.out.on hb)
        replace R4 := Lib.hid (R4.out.on hb)
        clear hb
        go_wp2_with fail
        refine (HA2.out w7 R.out.1).mono ?_
        rintro e w8 ⟨rfl, hb⟩
        have B8 := Lib.hid (bstep B7.out hb)
        replace R := Lib.hid (R.out.on hb)
        replace R1 := Lib.hid (R1.out.on hb)
        replace R2 := Lib.hid (R2.out.on hb)
        replace R3 := Lib.hid (R3.out.on hb)
        replace R4 := Lib.hid (R4.out.on hb)
        clear hb
        go_wp2_with fail
        refine (iso_awake w8).mono ?_
        rintro e w9 ⟨rfl, hb⟩
        have B9 := Lib.hid (bstep B8.out hb)
        replace R := Lib.hid (R.out.on hb)
        replace R1 := Lib.hid (R1.out.on hb)
        replace R2 := Lib.hid (R2.out.on hb)
        replace R3 := Lib.hid (R3.out.on hb)
        replace R4 := Lib.hid (R4.out.on hb)
        clear hb
        go_wp2_with fail
        go_ret
        exact ⟨rfl, B9.out⟩
#print axioms walk_IsoNormal
end Go.Proofs.Ytnblpooimgpgoaa.Iso
