/- Join of the program; a composition run by run, purely. -/
import Derived.Test.YtnblpooimgpgoaaIsoP
import Derived.Test.YtnblpooimgpgoaaRowD
import Derived.Lib.SliceRun
namespace Go.Proofs.Ytnblpooimgpgoaa.Iso
open Go.ChangeShapes Go.WideShapes Go.RowKit Go.Lib Go.Proofs.Ytnblpooimgpgoaa.Rw
set_option linter.unusedVariables false
set_option maxRecDepth 100000

theorem slice_full (A : Option Addr) (n c : Nat) (hc : n ≤ c) (W : World) : (Instr.slice 22 (.slice A n c) none (some (.int .i64 (n : Int))) (some (.int .i64 (n : Int)))).run Try.prog W = .ok (.slice A n n) W := by
  have ht : Try.prog.underlying 22 = some (.slice (Try.prog.elem 22)) := by kernel_rfl
  have hs : (sizeOf (Try.prog.elem 22)).run Try.prog W = .ok 3 W := Try.sizeOf48 W
  rw [run_slice_hm W 22 A n c ht .i64 .i64 n n (by omega) (by omega) (by omega), hs]
  simp [sliced, Result.andThen]
  intro _
  cases A <;> simp [Addr.add]
def jnE (a b : List Rn) : Int := if bothE a b = 0 then (if ml < lenM a + lenM b then 21 else fulE (nfL (ex a ++ ex b))) else bothE a b
def jnL (a b : List Rn) : List Rn := if bothE a b = 0 then (if ml < lenM a + lenM b then [] else fulL (nfL (ex a ++ ex b))) else []
theorem both_zero {a b : List Rn} (h : bothE a b = 0) : Vd a ∧ Vd b := by
  unfold bothE at h
  by_cases hz : eC a = 0
  · rw [if_pos hz] at h; exact ⟨Vd.ofE hz, Vd.ofE h⟩
  · rw [if_neg hz] at h; exact absurd h hz
set_option maxHeartbeats 1600000 in
theorem iso_Join (a b : List Rn) (A B : Option Addr) (c d : Nat) (w : World) (ha : Mp w A c a) (hb : Mp w B d b) (hm : a.length ≤ 9223372036854775807) (hm2 : b.length ≤ 9223372036854775807) :
    Calls Try.prog 34 #[.slice A a.length c, .slice B b.length d] w (Res (jnL a b) (jnE a b) w) := by
  have HA := Lib.hid ha
  have HB := Lib.hid hb
  have hsl := slice_full A a.length c ha.2
  clear ha hb
  obtain ⟨E, hE⟩ : ∃ E, jnE a b = E := ⟨_, rfl⟩
  obtain ⟨M, hM⟩ : ∃ M, jnL a b = M := ⟨_, rfl⟩
  rw [hE, hM]
  have HE := Lib.hid hE
  have HM := Lib.hid hM
  clear hE hM
  obtain ⟨N1, hN1⟩ : ∃ N, a.length = N := ⟨_, rfl⟩
  obtain ⟨N2, hN2⟩ : ∃ N, b.length = N := ⟨_, rfl⟩
  have HCk : Hid (∀ W, Rns W A a → Rns W B b → Calls Try.prog 57 #[.slice A N1 c, .slice B N2 d] W fun e w' => e = .returned (.int .i64 (bothE a b)) ∧ Below W.heap.size W w') := fun W h1 h2 => by
    rw [← hN1, ← hN2]; exact iso_checkBoth a b A B c d W h1 h2 hm hm2
  rw [hN1] at hsl
  rw [hN1, hN2]
  have HN1 := Lib.hid hN1
  have HN2 := Lib.hid hN2
  clear hN1 hN2 hm hm2
  go_enter Try.func34, Try.ntmps34
  go_wp2_with fail
  refine (HCk.out w HA.out.1 HB.out.1).mono ?_
  rintro e w1 ⟨rfl, hb1⟩
  have HB1 := Lib.hid hb1
  clear hb1
  by_cases hz : bothE a b = 0
  · have HV := Lib.hid (both_zero hz)
    rw [hz]
    have HZ := Lib.hid hz
    clear hz
    go_wp2_with (at_builtin; refine append_full kdR rfl _ _ rfl A N1 a rfl HN1.out.symm (HA.out.1.on HB1.out) B N2 d b rfl HN2.out.symm (HB.out.1.on HB1.out) (by have := HV.out.1.n; have := HV.out.2.n; have := HN1.out; have := HN2.out; omega) ?_; intro A2 n2 c2 w2 hn2 hc2 hr2 hb2; have HNN := Lib.hid hn2; clear hn2; refine Hid.out ?_)
    have HAL : Hid (∀ r ∈ a ++ b, gd r = true) := fun r hr => by
      rcases List.mem_append.mp hr with h | h
      · exact HV.out.1.all r h
      · exact HV.out.2.all r h
    have HN : Hid (n2 = (a ++ b).length) := by rw [List.length_append, HN1.out, HN2.out]; exact HNN
    have HL6 : Hid ((a ++ b).length ≤ 600) := by rw [List.length_append]; have := HV.out.1.n; have := HV.out.2.n; unfold Hid; omega
    have HR2 := Lib.hid hr2
    have HB2 := Lib.hid (bstep HB1.out hb2)
    have HT : Hid (∀ W, Rns W A2 (a ++ b) → Calls Try.prog 42 #[.slice A2 n2 c2] W fun e w' => e = .returned (.int .i64 (lenM a + lenM b)) ∧ Below W.heap.size W w') := fun W h => by
      rw [HN.out, ← lenM_append]; exact iso_total (a ++ b) A2 c2 W h HL6.out fun r hr => gd_lim (HAL.out r hr)
    have HW : Hid (∀ W, Rns W A2 (a ++ b) → Calls Try.prog 51 #[.slice A2 n2 c2] W (Res1 (nfL (ex a ++ ex b)) W)) := fun W h => by
      rw [HN.out, ← ex_append]; exact iso_whole (a ++ b) A2 c2 W h HAL.out HL6.out
    clear hc2 hr2 hb2
    refine Lib.hid ?_
    go_wp2_with fail
    refine (HT.out w2 HR2.out).mono ?_
    rintro e w3 ⟨rfl, hb3⟩
    have HB3 := Lib.hid (bstep HB2.out hb3)
    have HR3 := Lib.hid (HR2.out.on hb3)
    clear hb3
    by_cases hl : ml < lenM a + lenM b
    · obtain rfl : E = 21 := by rw [← HE.out]; unfold jnE; rw [if_pos HZ.out, if_pos hl]
      obtain rfl : M = [] := by rw [← HM.out]; unfold jnL; rw [if_pos HZ.out, if_pos hl]
      have d1 : decide (17179869184 < lenM a + lenM b) = true := decide_eq_true hl
      clear hl
      go_wp2_with fail
      go_ret2
      exact Res.err HB3.out
    · have HE2 : Hid (fulE (nfL (ex a ++ ex b)) = E) := by rw [← HE.out]; unfold jnE; rw [if_pos HZ.out, if_neg hl]; exact Lib.hid rfl
      have HM2 : Hid (fulL (nfL (ex a ++ ex b)) = M) := by rw [← HM.out]; unfold jnL; rw [if_pos HZ.out, if_neg hl]; exact Lib.hid rfl
      have d1 : decide (17179869184 < lenM a + lenM b) = false := decide_eq_false hl
      have HNL : Hid ((nfL (ex a ++ ex b)).length ≤ 600) := by
        have := nfL_len (m := a ++ b) fun r hr => gd_pos (HAL.out r hr)
        rw [ex_append] at this
        have := HL6.out
        unfold Hid; omega
      clear hl
      go_wp2_with fail
      refine (HW.out w3 HR3.out).mono ?_
      rintro e w4 ⟨A4, c4, rfl, hr4, hb4⟩
      have HB4 := Lib.hid (bstep HB3.out hb4)
      have HLi := Lib.hid (iso_limited (nfL (ex a ++ ex b)) A4 c4 w4 hr4.1 hr4.2 (by have := HNL.out; omega))
      rw [HE2.out, HM2.out] at HLi
      obtain ⟨N4, hN4⟩ : ∃ N, (nfL (ex a ++ ex b)).length = N := ⟨_, rfl⟩
      rw [hN4] at HLi ⊢
      clear hr4 hb4 hN4
      go_wp2_with fail
      refine HLi.out.mono ?_
      rintro e w5 ⟨A5, c5, rfl, hr5, hb5⟩
      have HR5 := Lib.hid hr5
      have HB5 := Lib.hid (bstep HB4.out hb5)
      obtain ⟨N5, hN5⟩ : ∃ N, M.length = N := ⟨_, rfl⟩
      rw [hN5]
      have HN5 := Lib.hid hN5
      clear hr5 hb5 hN5
      go_wp2_with fail
      go_ret2
      exact ⟨A5, c5, ret_map HN5.out.symm rfl, HR5.out, HB5.out⟩
  · obtain ⟨z1, z2⟩ := ne_tests hz
    obtain rfl : bothE a b = E := by rw [← HE.out]; unfold jnE; rw [if_neg hz]
    obtain rfl : M = [] := by rw [← HM.out]; unfold jnL; rw [if_neg hz]
    clear hz
    go_wp2_with fail
    go_ret2
    exact Res.err HB1.out
#print axioms iso_Join
end Go.Proofs.Ytnblpooimgpgoaa.Iso
