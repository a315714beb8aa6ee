/- IsoSingles. -/
import Derived.Test.YtnblpooimgpgoaaIsoAC
namespace Go.Proofs.Ytnblpooimgpgoaa.Iso
open Go.ChangeShapes Go.WideShapes Go.RowKit Go.Lib Go.Proofs.Ytnblpooimgpgoaa.Rw
open Go.Proofs.Ytnblpooimgpgoaa.Span (Sps IsNf Nrm hasB hasB_iff cnt inS_iff)
set_option linter.unusedVariables false
set_option maxRecDepth 100000

open Go.Proofs.Ytnblpooimgpgoaa.Span (TotRes span_Total span_Has chkE)
theorem tot_nfS {L : List Rn} {M : List (Int × Int)} {w w' : World} {e : Ending} (hv : Vd L) (hn : IsNf (imgB L) M) (hl : M.length ≤ 256) (h : TotRes M w e w') : e = .returned (.tuple #[.int .i64 (cnt (imgB L) 17179869184), .int .i64 0]) ∧ Below w.heap.size w w' :=
  tot_out (hn.chk (fun x hx => hv.range (of_decide_eq_true hx)) hl) hn.2 h
theorem fnd_in {L : List Rn} {x y : Int} (h : atM L x = some y) : fndB L (y, y + 1) x = true := by
  unfold fndB; rw [h]; exact inS_iff.mpr ⟨by simp only; omega, by simp only; omega⟩
theorem nf_sing {f : Int → Bool} {M : List (Int × Int)} {x : Int} (h : IsNf f M) (hf : ∀ z, f z = true ↔ z = x) : M = [(x, x + 1)] := by
  refine h.one ⟨⟨by simp; omega, by simp⟩, fun z => ?_⟩
  rw [Bool.eq_iff_iff, hf, Span.hasB_iff]
  constructor
  · rintro ⟨s, hs, h1⟩
    simp only [List.mem_singleton] at hs
    subst hs
    simp only at h1
    omega
  · rintro rfl
    exact ⟨_, List.mem_singleton.mpr rfl, by simp only; omega⟩

set_option maxHeartbeats 6400000 in
theorem walk_IsoSingles (w : World) (A : Option Addr) (c : Nat) (L : List Rn) (ha : Mp w A c L) (hm : L.length ≤ 9223372036854775807) (x : Int) (hx : (Lit.int .i64 x).wf) :
    Calls Try.prog 11 #[.slice A L.length c, .int .i64 x] w fun e w' => e = .returned (.bool true) ∧ Below w.heap.size w w' := by
  have R := Lib.hid ha
  clear ha hx
  obtain ⟨g, hg⟩ : ∃ g, decide (300 < L.length) = g := ⟨_, rfl⟩
  have HGr := Lib.hid fun W => iso_great L A c W hm hg
  obtain ⟨E, hE⟩ : ∃ E, eC L = E := ⟨_, rfl⟩
  have HE := Lib.hid hE
  have HCk := Lib.hid fun W h => iso_Check L A c W h hm
  have HLn := Lib.hid fun W h => iso_Length L A c W h hm
  have HIm := Lib.hid fun W h => iso_Image L A c W h hm
  rw [hE] at HCk HLn HIm
  obtain ⟨S, hS⟩ : ∃ S, sngB L = S := ⟨_, rfl⟩
  have HS := Lib.hid hS
  have HSg := Lib.hid fun W h => iso_Single L A c W h hm
  rw [hS] at HSg
  obtain ⟨V, hV⟩ : ∃ V, atW L x = V := ⟨_, rfl⟩
  have HV := Lib.hid hV
  have HAt := Lib.hid fun W h => iso_at L A c x W h hm
  rw [hV] at HAt
  clear hg hE hS hV
  go_enter Try.func11, Try.ntmps11
  go_wp2_with fail
  refine (HGr.out _).mono ?_
  rintro e w' ⟨rfl, rfl⟩
  cases g with
  | true =>
    go_wp2_with fail
    refine (HGr.out _).mono ?_
    rintro e w' ⟨rfl, rfl⟩
    go_wp2_with fail
    refine (iso_awake w).mono ?_
    rintro e w1 ⟨rfl, hb⟩
    have B1 := Lib.hid hb
    replace R := Lib.hid (R.out.on hb)
    clear hb
    go_wp2_with fail
    go_ret
    exact ⟨rfl, B1.out⟩
  | false =>
    go_wp2_with fail
    refine (HCk.out w R.out.1).mono ?_
    rintro e w1 ⟨rfl, hb⟩
    have B1 := Lib.hid hb
    replace R := Lib.hid (R.out.on hb)
    clear hb
    by_cases hz : E = 0
    rotate_left
    · obtain ⟨z1, z2⟩ := ne_tests hz
      obtain rfl : S = false := by rw [← HS.out]; unfold sngB; rw [HE.out, decide_eq_false hz, Bool.false_and]
      clear hz
      go_wp2_with fail
      refine (HGr.out _).mono ?_
      rintro e w' ⟨rfl, rfl⟩
      go_wp2_with fail
      refine (HSg.out w1 R.out.1).mono ?_
      rintro e w2 ⟨rfl, hb⟩
      have B2 := Lib.hid (bstep B1.out hb)
      replace R := Lib.hid (R.out.on hb)
      clear hb
      go_wp2_with fail
      refine (iso_awake w2).mono ?_
      rintro e w3 ⟨rfl, hb⟩
      have B3 := Lib.hid (bstep B2.out hb)
      replace R := Lib.hid (R.out.on hb)
      clear hb
      go_wp2_with fail
      go_ret
      exact ⟨rfl, B3.out⟩
    subst hz
    have Hv := Lib.hid (Vd.ofE HE.out)
    obtain ⟨K, hK⟩ : ∃ K, lenM L = K := ⟨_, rfl⟩
    have HK := Lib.hid hK
    have hlv : lenV L = K := by rw [← hK]; exact if_pos HE.out
    rw [hlv] at HLn
    clear hlv hK
    go_wp2_with fail
    refine (HLn.out w1 R.out.1).mono ?_
    rintro e w2 ⟨rfl, hb⟩
    have B2 := Lib.hid (bstep B1.out hb)
    replace R := Lib.hid (R.out.on hb)
    clear hb
    go_wp2_with fail
    refine (HIm.out w2 R.out.1).mono ?_
    rintro e w3 ⟨M, VM, qM, rfl, hl, hs, hn, -, hb⟩
    have B3 := Lib.hid (bstep B2.out hb)
    replace R := Lib.hid (R.out.on hb)
    have RM := Lib.hid hs
    have HLM := Lib.hid hl
    have HnM := Lib.hid (hn rfl)
    clear hl hs hn
    clear hb
    obtain ⟨C, hC⟩ : ∃ C, cnt (imgB L) 17179869184 = C := ⟨_, rfl⟩
    have HTt : Hid (∀ W, Sps W VM M → Calls Try.prog 39 #[.slice VM M.length qM] W fun e w' => e = .returned (.tuple #[.int .i64 C, .int .i64 0]) ∧ Below W.heap.size W w') := fun W h => by
      rw [← hC]
      exact (span_Total M VM qM W h (Nat.le_trans HLM.out (by decide))).mono fun e w' h => tot_nfS Hv.out HnM.out HLM.out h
    have HSi := Lib.hid (single_iff Hv.out)
    rw [hC, HK.out] at HSi
    have e0 : (C == K) = S := by
      rw [← HS.out]; unfold sngB
      rw [HE.out, hC, HK.out, Bool.eq_iff_iff]; simp
    have e1 : decide (K < C) = false := decide_eq_false (by have := HSi.out.1; omega)
    clear hC
    go_wp2_with fail
    refine (HTt.out w3 RM.out).mono ?_
    rintro e w4 ⟨rfl, hb⟩
    have B4 := Lib.hid (bstep B3.out hb)
    replace R := Lib.hid (R.out.on hb)
    replace RM := Lib.hid (RM.out.on hb)
    clear hb
    go_wp2_with fail
    refine (HSg.out w4 R.out.1).mono ?_
    rintro e w5 ⟨rfl, hb⟩
    have B5 := Lib.hid (bstep B4.out hb)
    replace R := Lib.hid (R.out.on hb)
    replace RM := Lib.hid (RM.out.on hb)
    clear hb
    go_wp2_with fail
    refine (HAt.out w5 R.out.1).mono ?_
    rintro e w6 ⟨rfl, hb⟩
    have B6 := Lib.hid (bstep B5.out hb)
    replace R := Lib.hid (R.out.on hb)
    replace RM := Lib.hid (RM.out.on hb)
    clear hb
    cases hat : atM L x with
    | none =>
      obtain rfl : V = -1 := by rw [← HV.out, atW_ok Hv.out]; exact atI_none hat
      have hout := (atM_none Hv.out.pos).mp hat
      rw [HK.out] at hout
      clear hat
      rcases Int.lt_or_le x 0 with h0 | h0
      · have d1 : decide (x < 0) = true := decide_eq_true h0
        clear hout h0
        go_wp2_with fail
        refine (iso_awake w6).mono ?_
        rintro e w7 ⟨rfl, hb⟩
        have B7 := Lib.hid (bstep B6.out hb)
        replace R := Lib.hid (R.out.on hb)
        replace RM := Lib.hid (RM.out.on hb)
        clear hb
        go_wp2_with fail
        go_ret
        exact ⟨rfl, B7.out⟩
      have d1 : decide (x < 0) = false := decide_eq_false (by omega)
      have d2 : decide (K ≤ x) = true := decide_eq_true (by omega)
      clear hout h0
      go_wp2_with fail
      refine (iso_awake w6).mono ?_
      rintro e w7 ⟨rfl, hb⟩
      have B7 := Lib.hid (bstep B6.out hb)
      replace R := Lib.hid (R.out.on hb)
      replace RM := Lib.hid (RM.out.on hb)
      clear hb
      go_wp2_with fail
      go_ret
      exact ⟨rfl, B7.out⟩
    | some y =>
      obtain rfl : V = y := by rw [← HV.out, atW_ok Hv.out]; exact atI_some hat
      have hin : 0 ≤ x ∧ x < K := by
        have h := mt (atM_none Hv.out.pos).mpr (by rw [hat]; simp)
        rw [HK.out] at h; omega
      have hy : V ∈ ex L := by
        rw [atM_nn hin.1] at hat
        exact List.mem_of_getElem? hat
      have hyr := Hv.out.range hy
      have hkl := Hv.out.len
      rw [HK.out] at hkl
      unfold ml at hyr hkl
      have d1 : decide (V < 0) = false := decide_eq_false (by omega)
      have d2 : decide (17179869184 ≤ V) = false := decide_eq_false (by omega)
      have s1 : IntKind.i64.wrap (V + 1) = V + 1 := wrap_id (by omega)
      have s2 : IntKind.i64.wrap (x + 1) = x + 1 := wrap_id (by omega)
      have HFn : Hid (∀ W, Rns W A L → Calls Try.prog 27 #[.slice A L.length c, .agg #[.int .i64 V, .int .i64 (V + 1)]] W (SetR 0 (fndB L (V, V + 1)) W)) := fun W h => by
        have h2 := iso_Find L A c V (V + 1) W h hm
        have e : fndE L V (V + 1) = 0 := by
          unfold fndE; rw [if_pos HE.out, if_pos (inW_iff.mpr ⟨by omega, by omega, by omega⟩)]
        rw [e] at h2; exact h2
      have HHx : Hid (fndB L (V, V + 1) x = true) := fnd_in hat
      have HHy : Hid (hasB M V = true) := (HnM.out.2 V).trans (decide_eq_true hy)
      have HOne : Hid (C = K → ∀ z, fndB L (V, V + 1) z = true ↔ z = x) := fun h z => fnd_single (HSi.out.2.mp h) hat z
      have HHl : Hid (∀ W, Sps W VM M → Calls Try.prog 40 #[.slice VM M.length qM, .int .i64 V] W fun e w' => e = .returned (.bool true) ∧ Below W.heap.size W w') := fun W h => by
        have h2 := span_Has M V VM qM W h (Nat.le_trans HLM.out (by decide))
        rw [HHy.out] at h2; exact h2
      clear hat hin hy hyr hkl
      go_wp2_with fail
      refine (HFn.out w6 R.out.1).mono ?_
      rintro e w7 ⟨N, VN, qN, rfl, hl, hs, hn, -, hb⟩
      have B7 := Lib.hid (bstep B6.out hb)
      replace R := Lib.hid (R.out.on hb)
      replace RM := Lib.hid (RM.out.on hb)
      have RN := Lib.hid hs
      have HLN := Lib.hid hl
      have HnN := Lib.hid (hn rfl)
      clear hl hs hn
      clear hb
      have HHs : Hid (∀ W, Sps W VN N → Calls Try.prog 40 #[.slice VN N.length qN, .int .i64 x] W fun e w' => e = .returned (.bool true) ∧ Below W.heap.size W w') := fun W h => by
        have h2 := span_Has N x VN qN W h (Nat.le_trans HLN.out (by decide))
        rw [(HnN.out.2 x).trans HHx.out] at h2; exact h2
      go_wp2_with fail
      refine (HHs.out w7 RN.out).mono ?_
      rintro e w8 ⟨rfl, hb⟩
      have B8 := Lib.hid (bstep B7.out hb)
      replace R := Lib.hid (R.out.on hb)
      replace RM := Lib.hid (RM.out.on hb)
      replace RN := Lib.hid (RN.out.on hb)
      clear hb
      by_cases hck : C = K
      rotate_left
      · have z1 : (C == K) = false := by rw [beq_eq_false_iff_ne]; exact hck
        have z2 : (C != K) = true := by rw [bne, z1]; rfl
        clear hck
        go_wp2_with fail
        refine (HHl.out w8 RM.out).mono ?_
        rintro e w9 ⟨rfl, hb⟩
        have B9 := Lib.hid (bstep B8.out hb)
        replace R := Lib.hid (R.out.on hb)
        replace RM := Lib.hid (RM.out.on hb)
        replace RN := Lib.hid (RN.out.on hb)
        clear hb
        go_wp2_with fail
        refine (iso_awake w9).mono ?_
        rintro e w10 ⟨rfl, hb⟩
        have B10 := Lib.hid (bstep B9.out hb)
        replace R := Lib.hid (R.out.on hb)
        replace RM := Lib.hid (RM.out.on hb)
        replace RN := Lib.hid (RN.out.on hb)
        clear hb
        go_wp2_with fail
        go_ret
        exact ⟨rfl, B10.out⟩
      obtain rfl : N = [(x, x + 1)] := nf_sing HnN.out (HOne.out hck)
      subst hck
      have HSame : Hid (∀ W, Sps W VN [(x, x + 1)] → Calls Try.prog 29 #[.slice VN 1 qN, .slice (some ⟨W.heap.size, 0, none⟩) 1 1] (W.alloc (.cells #[.int .i64 x, .int .i64 (x + 1)] 28)) fun e w' => e = .returned (.bool true) ∧ Below W.heap.size W w') := fun W h =>
        (e_Same4 [(x, x + 1)] (by simp) VN _ qN 1 _ (h.on (below_alloc _ _)) (lit_sps W [(x, x + 1)])).mono fun e w' ⟨h1, h2⟩ => ⟨h1, bstep (below_alloc _ _) h2⟩
      go_wp2_with fail
      refine (HHl.out w8 RM.out).mono ?_
      rintro e w9 ⟨rfl, hb⟩
      have B9 := Lib.hid (bstep B8.out hb)
      replace R := Lib.hid (R.out.on hb)
      replace RM := Lib.hid (RM.out.on hb)
      replace RN := Lib.hid (RN.out.on hb)
      clear hb
      go_wp2_with fail
      refine (HSame.out w9 RN.out).mono ?_
      rintro e w10 ⟨rfl, hb⟩
      have B10 := Lib.hid (bstep B9.out hb)
      replace R := Lib.hid (R.out.on hb)
      replace RM := Lib.hid (RM.out.on hb)
      replace RN := Lib.hid (RN.out.on hb)
      clear hb
      go_wp2_with fail
      refine (iso_awake w10).mono ?_
      rintro e w11 ⟨rfl, hb⟩
      have B11 := Lib.hid (bstep B10.out hb)
      replace R := Lib.hid (R.out.on hb)
      replace RM := Lib.hid (RM.out.on hb)
      replace RN := Lib.hid (RN.out.on hb)
      clear hb
      go_wp2_with fail
      go_ret
      exact ⟨rfl, B11.out⟩
#print axioms walk_IsoSingles
end Go.Proofs.Ytnblpooimgpgoaa.Iso
