/- Part and Join of the reference. -/
import Derived.Test.YtnblpooimgpgoaaIsoV
namespace Go.Proofs.Ytnblpooimgpgoaa.Iso
open Go.ChangeShapes Go.WideShapes Go.RowKit Go.Lib Go.Proofs.Ytnblpooimgpgoaa.Rw
set_option linter.unusedVariables false
set_option maxRecDepth 100000

set_option maxHeartbeats 1600000 in
theorem ref_Join (a b : List Rn) (A B : Option Addr) (c d : Nat) (w : World) (ha : Rns w A a) (hb : Rns w B b) (hm : a.length ≤ 9223372036854775807) (hm2 : b.length ≤ 9223372036854775807) :
    Calls Try.prog 35 #[.slice A a.length c, .slice B b.length d] w (Res (jnL a b) (jnE a b) w) := by
  have HA := Lib.hid ha
  have HB := Lib.hid hb
  clear ha hb
  obtain ⟨E, hE⟩ : ∃ E, jnE a b = E := ⟨_, rfl⟩
  obtain ⟨M, hM⟩ : ∃ M, jnL a b = M := ⟨_, rfl⟩
  rw [hE, hM]
  have HE := Lib.hid hE
  have HM := Lib.hid hM
  clear hE hM
  obtain ⟨N1, hN1⟩ : ∃ N, a.length = N := ⟨_, rfl⟩
  obtain ⟨N2, hN2⟩ : ∃ N, b.length = N := ⟨_, rfl⟩
  have HC1 : Hid (∀ W, Rns W A a → Calls Try.prog 15 #[.slice A N1 c] W fun e w' => e = .returned (.int .i64 (eC a)) ∧ Below W.heap.size W w') := fun W h1 => by
    rw [← hN1]; exact ref_Check a A c W h1 hm
  have HC2 : Hid (∀ W, Rns W B b → Calls Try.prog 15 #[.slice B N2 d] W fun e w' => e = .returned (.int .i64 (eC b)) ∧ Below W.heap.size W w') := fun W h1 => by
    rw [← hN2]; exact ref_Check b B d W h1 hm2
  rw [hN1, hN2]
  have HN1 := Lib.hid hN1
  have HN2 := Lib.hid hN2
  clear hN1 hN2 hm hm2
  go_enter Try.func35, Try.ntmps35
  go_wp2_with fail
  refine (HC1.out w HA.out).mono ?_
  rintro e w1 ⟨rfl, hb1⟩
  have HB1 := Lib.hid hb1
  clear hb1
  by_cases hz : eC a = 0
  · have HZ := Lib.hid hz
    rw [hz]
    clear hz
    go_wp2_with fail
    refine (HC2.out w1 (HB.out.on HB1.out)).mono ?_
    rintro e w2 ⟨rfl, hb2⟩
    have HB2 := Lib.hid (bstep HB1.out hb2)
    clear hb2
    by_cases hz2 : eC b = 0
    · have HZ2 : Hid (bothE a b = 0) := Lib.hid (by unfold bothE; rw [if_pos HZ.out, hz2])
      have HV := Lib.hid (both_zero HZ2.out)
      rw [hz2]
      clear hz2
      have HL1 : Hid (∀ W, Rns W A a → Calls Try.prog 44 #[.slice A N1 c] W fun e w' => e = .returned (.int .i64 (lenM a)) ∧ Below W.heap.size W w') := fun W h => by
        rw [← HN1.out]; exact ref_length a A c W h (by have := HV.out.1.n; omega) HV.out.1.lims
      have HL2 : Hid (∀ W, Rns W B b → Calls Try.prog 44 #[.slice B N2 d] W fun e w' => e = .returned (.int .i64 (lenM b)) ∧ Below W.heap.size W w') := fun W h => by
        rw [← HN2.out]; exact ref_length b B d W h (by have := HV.out.2.n; omega) HV.out.2.lims
      have ws : IntKind.i64.wrap (lenM a + lenM b) = lenM a + lenM b := wrap_id (by
        have h1 := HV.out.1.len; have h2 := HV.out.2.len
        have h3 := lenM_nonneg HV.out.1.pos; have h4 := lenM_nonneg HV.out.2.pos
        unfold ml at h1 h2; omega)
      go_wp2_with fail
      refine (HL1.out w2 (HA.out.on HB2.out)).mono ?_
      rintro e w3 ⟨rfl, hb3⟩
      have HB3 := Lib.hid (bstep HB2.out hb3)
      clear hb3
      go_wp2_with fail
      refine (HL2.out w3 (HB.out.on HB3.out)).mono ?_
      rintro e w4 ⟨rfl, hb4⟩
      have HB4 := Lib.hid (bstep HB3.out hb4)
      clear hb4
      by_cases hl : ml < lenM a + lenM b
      · obtain rfl : E = 21 := by rw [← HE.out]; unfold jnE; rw [if_pos HZ2.out, if_pos hl]
        obtain rfl : M = [] := by rw [← HM.out]; unfold jnL; rw [if_pos HZ2.out, if_pos hl]
        have d1 : decide (17179869184 < lenM a + lenM b) = true := decide_eq_true hl
        clear hl
        go_wp2_with fail
        go_ret2
        exact Res.err HB4.out
      · have HE2 : Hid (fulE (nfL (ex a ++ ex b)) = E) := by rw [← HE.out]; unfold jnE; rw [if_pos HZ2.out, if_neg hl]; exact Lib.hid rfl
        have HM2 : Hid (fulL (nfL (ex a ++ ex b)) = M) := by rw [← HM.out]; unfold jnL; rw [if_pos HZ2.out, if_neg hl]; exact Lib.hid rfl
        have d1 : decide (17179869184 < lenM a + lenM b) = false := decide_eq_false hl
        have HAL : Hid (∀ r ∈ a ++ b, gd r = true) := fun r hr => by
          rcases List.mem_append.mp hr with h | h
          · exact HV.out.1.all r h
          · exact HV.out.2.all r h
        have HL6 : Hid ((a ++ b).length ≤ 600) := by rw [List.length_append]; have := HV.out.1.n; have := HV.out.2.n; unfold Hid; omega
        have HNL : Hid ((nfL (ex a ++ ex b)).length ≤ 600) := by
          have := nfL_len (m := a ++ b) fun r hr => gd_pos (HAL.out r hr)
          rw [ex_append] at this
          have := HL6.out
          unfold Hid; omega
        have HLa : Hid (N1 ≤ 256) := by rw [← HN1.out]; exact HV.out.1.n
        have HLb : Hid (N2 ≤ 256) := by rw [← HN2.out]; exact HV.out.2.n
        have HS0 : Hid (w4.heap.size ≤ (w4.alloc (.cells #[] 48)).heap.size) := (below_alloc _ _).size
        clear hl
        go_wp2_with (at_builtin; refine append_rows kdR rfl _ _ rfl (.slice (some ⟨w4.heap.size, 0, none⟩) 0 0) [] rfl (Row.empty cR 3 TR w4 (Nat.le_refl _)) A N1 c a HN1.out.symm rfl (HA.out.on (bstep HB4.out (below_alloc _ _))) (by have := HLa.out; simp; omega) HS0.out ?_; intro A5 n5 c5 w5 hn5 hr5 hg5 hat5; have HN5 := Lib.hid hn5; have HR5 := Lib.hid hr5; have HG5 := Lib.hid hg5; clear hn5 hr5 hg5 hat5; refine Hid.out ?_)
        have HB5 : Hid (Below w4.heap.size w4 w5) := (below_alloc w4 _).trans (Row.below (Row.empty cR 3 TR w4 (Nat.le_refl _)) HG5.out HS0.out)
        have HR5' : Hid (Row cR 3 TR w4.heap.size w5 (.slice A5 n5 c5) a) := by have := HR5.out; rw [List.nil_append] at this; exact this
        have HN5' : Hid (n5 = N1) := Lib.hid (by have := HN5.out; simpa using this)
        clear HR5 HN5
        refine Lib.hid ?_
        go_wp2_with (at_builtin; refine append_rows kdR rfl _ _ rfl (.slice A5 n5 c5) a rfl HR5'.out B N2 d b HN2.out.symm rfl (HB.out.on (bstep HB4.out HB5.out)) (by have := HLa.out; have := HLb.out; have := HN1.out; omega) HB5.out.size ?_; intro A6 n6 c6 w6 hn6 hr6 hg6 hat6; have HN6 := Lib.hid hn6; have HR6 := Lib.hid hr6; have HG6 := Lib.hid hg6; clear hn6 hr6 hg6 hat6; refine Hid.out ?_)
        have HB6 : Hid (Below w.heap.size w w6) := bstep HB4.out (HB5.out.trans (HR5'.out.below HG6.out HB5.out.size))
        obtain ⟨A7, c7, e7, hle7, -, hrd7, -, -⟩ := HR6.out.one cR_len
        obtain ⟨rfl, hn7, rfl⟩ := Value.slice.inj e7
        have HAl := Lib.hid (ref_all (a ++ b) A6 c6 w6 hrd7 HAL.out HL6.out)
        rw [← hn7, ex_append] at HAl
        clear e7 hle7 hrd7 hn7
        refine Lib.hid ?_
        go_wp2_with fail
        refine HAl.out.mono ?_
        rintro e w8 ⟨A8, c8, rfl, hr8, hb8⟩
        have HB8 := Lib.hid (bstep HB6.out hb8)
        have HLi := Lib.hid (ref_limited (nfL (ex a ++ ex b)) A8 c8 w8 hr8.1 hr8.2 (by have := HNL.out; omega))
        rw [HE2.out, HM2.out] at HLi
        obtain ⟨N8, hN8⟩ : ∃ N, (nfL (ex a ++ ex b)).length = N := ⟨_, rfl⟩
        rw [hN8] at HLi ⊢
        clear hr8 hb8 hN8
        go_wp2_with fail
        refine HLi.out.mono ?_
        rintro e w9 ⟨A9, c9, rfl, hr9, hb9⟩
        have HR9 := Lib.hid hr9
        have HB9 := Lib.hid (bstep HB8.out hb9)
        obtain ⟨N9, hN9⟩ : ∃ N, M.length = N := ⟨_, rfl⟩
        rw [hN9]
        have HN9 := Lib.hid hN9
        clear hr9 hb9 hN9
        go_wp2_with fail
        go_ret2
        exact ⟨A9, c9, ret_map HN9.out.symm rfl, HR9.out, HB9.out⟩
    · obtain ⟨z1, z2⟩ := ne_tests hz2
      have hbe : bothE a b = eC b := if_pos HZ.out
      obtain rfl : eC b = E := by rw [← HE.out]; unfold jnE; rw [hbe, if_neg hz2]
      obtain rfl : M = [] := by rw [← HM.out]; unfold jnL; rw [hbe, if_neg hz2]
      clear hz2 hbe
      go_wp2_with fail
      go_ret2
      exact Res.err HB2.out
  · obtain ⟨z1, z2⟩ := ne_tests hz
    have hbe : bothE a b = eC a := if_neg hz
    obtain rfl : eC a = E := by rw [← HE.out]; unfold jnE; rw [hbe, if_neg hz]
    obtain rfl : M = [] := by rw [← HM.out]; unfold jnL; rw [hbe, if_neg hz]
    clear hz hbe
    go_wp2_with fail
    go_ret2
    exact Res.err HB1.out
#print axioms ref_Join
end Go.Proofs.Ytnblpooimgpgoaa.Iso
