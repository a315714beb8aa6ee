/- IsoChains. -/
import Derived.Test.YtnblpooimgpgoaaIsoAC
namespace Go.Proofs.Ytnblpooimgpgoaa.Iso
open Go.ChangeShapes Go.WideShapes Go.RowKit Go.Lib Go.Proofs.Ytnblpooimgpgoaa.Rw
open Go.Proofs.Ytnblpooimgpgoaa.Span (Sps IsNf Nrm hasB hasB_iff cnt inS_iff)
set_option linter.unusedVariables false
set_option maxRecDepth 100000

set_option maxHeartbeats 6400000 in
theorem walk_IsoChains (w : World) (A : Option Addr) (c : Nat) (a : List Rn) (ha : Mp w A c a) (hma : a.length ≤ 9223372036854775807) (B : Option Addr) (d : Nat) (b : List Rn) (hb' : Mp w B d b) (hmb : b.length ≤ 9223372036854775807) (C : Option Addr) (f : Nat) (q : List Rn) (hq : Mp w C f q) (hmq : q.length ≤ 9223372036854775807) :
    Calls Try.prog 10 #[.slice A a.length c, .slice B b.length d, .slice C q.length f] w fun e w' => e = .returned (.bool true) ∧ Below w.heap.size w w' := by
  have Ra := Lib.hid ha
  have Rb := Lib.hid hb'
  have Rq := Lib.hid hq
  clear ha hb' hq
  obtain ⟨E1, hE1⟩ : ∃ E, cmpE a b = E := ⟨_, rfl⟩
  obtain ⟨M1, hM1⟩ : ∃ M, cmpL a b = M := ⟨_, rfl⟩
  obtain ⟨E2, hE2⟩ : ∃ E, cmpE b q = E := ⟨_, rfl⟩
  obtain ⟨M2, hM2⟩ : ∃ M, cmpL b q = M := ⟨_, rfl⟩
  have HE1 := Lib.hid hE1
  have HM1 := Lib.hid hM1
  have HE2 := Lib.hid hE2
  have HM2 := Lib.hid hM2
  have HC1 := Lib.hid fun W h1 h2 => iso_Compose a b A B c d W h1 h2 hma hmb
  rw [hE1, hM1] at HC1
  have HC2 := Lib.hid fun W h1 h2 => iso_Compose b q B C d f W h1 h2 hmb hmq
  rw [hE2, hM2] at HC2
  have HL1 : Hid (M1.length ≤ 9223372036854775807) := by rw [← hM1]; exact long_ok (cmpL_len a b)
  have HL2 : Hid (M2.length ≤ 9223372036854775807) := by rw [← hM2]; exact long_ok (cmpL_len b q)
  clear hE1 hM1 hE2 hM2
  rcases Nat.lt_or_ge 20 a.length with g1 | g1
  · have t1 : decide ((20:Int) < (a.length:Int)) = true := decide_eq_true (by omega)
    go_enter Try.func10, Try.ntmps10
    go_wp2_with fail
    refine (iso_awake w).mono ?_
    rintro e w1 ⟨rfl, hb⟩
    have B1 := Lib.hid hb
    replace Ra := Lib.hid (Ra.out.on hb)
    replace Rb := Lib.hid (Rb.out.on hb)
    replace Rq := Lib.hid (Rq.out.on hb)
    clear hb
    go_wp2_with fail
    go_ret
    exact ⟨rfl, B1.out⟩
  have t1 : decide ((20:Int) < (a.length:Int)) = false := decide_eq_false (by omega)
  rcases Nat.lt_or_ge 20 b.length with g2 | g2
  · have t2 : decide ((20:Int) < (b.length:Int)) = true := decide_eq_true (by omega)
    go_enter Try.func10, Try.ntmps10
    go_wp2_with fail
    refine (iso_awake w).mono ?_
    rintro e w1 ⟨rfl, hb⟩
    have B1 := Lib.hid hb
    replace Ra := Lib.hid (Ra.out.on hb)
    replace Rb := Lib.hid (Rb.out.on hb)
    replace Rq := Lib.hid (Rq.out.on hb)
    clear hb
    go_wp2_with fail
    go_ret
    exact ⟨rfl, B1.out⟩
  have t2 : decide ((20:Int) < (b.length:Int)) = false := decide_eq_false (by omega)
  rcases Nat.lt_or_ge 20 q.length with g3 | g3
  · have t3 : decide ((20:Int) < (q.length:Int)) = true := decide_eq_true (by omega)
    go_enter Try.func10, Try.ntmps10
    go_wp2_with fail
    refine (iso_awake w).mono ?_
    rintro e w1 ⟨rfl, hb⟩
    have B1 := Lib.hid hb
    replace Ra := Lib.hid (Ra.out.on hb)
    replace Rb := Lib.hid (Rb.out.on hb)
    replace Rq := Lib.hid (Rq.out.on hb)
    clear hb
    go_wp2_with fail
    go_ret
    exact ⟨rfl, B1.out⟩
  have t3 : decide ((20:Int) < (q.length:Int)) = false := decide_eq_false (by omega)
  clear g1 g2 g3
  go_enter Try.func10, Try.ntmps10
  go_wp2_with fail
  refine (HC1.out w Ra.out.1 Rb.out.1).mono ?_
  rintro e w1 ⟨A1, c1, rfl, hr, hb⟩
  have B1 := Lib.hid hb
  replace Ra := Lib.hid (Ra.out.on hb)
  replace Rb := Lib.hid (Rb.out.on hb)
  replace Rq := Lib.hid (Rq.out.on hb)
  have R1 := Lib.hid hr
  clear hr
  clear hb
  go_wp2_with fail
  refine (HC2.out w1 Rb.out.1 Rq.out.1).mono ?_
  rintro e w2 ⟨A2, c2, rfl, hr, hb⟩
  have B2 := Lib.hid (bstep B1.out hb)
  replace Ra := Lib.hid (Ra.out.on hb)
  replace Rb := Lib.hid (Rb.out.on hb)
  replace Rq := Lib.hid (Rq.out.on hb)
  replace R1 := Lib.hid (R1.out.on hb)
  have R2 := Lib.hid hr
  clear hr
  clear hb
  by_cases hz1 : E1 = 0
  rotate_left
  · obtain ⟨z1, z2⟩ := ne_tests hz1
    clear hz1
    go_wp2_with fail
    refine (iso_awake w2).mono ?_
    rintro e w3 ⟨rfl, hb⟩
    have B3 := Lib.hid (bstep B2.out hb)
    replace Ra := Lib.hid (Ra.out.on hb)
    replace Rb := Lib.hid (Rb.out.on hb)
    replace Rq := Lib.hid (Rq.out.on hb)
    replace R1 := Lib.hid (R1.out.on hb)
    replace R2 := Lib.hid (R2.out.on hb)
    clear hb
    go_wp2_with fail
    go_ret
    exact ⟨rfl, B3.out⟩
  subst hz1
  by_cases hz2 : E2 = 0
  rotate_left
  · obtain ⟨z1, z2⟩ := ne_tests hz2
    clear hz2
    go_wp2_with fail
    refine (iso_awake w2).mono ?_
    rintro e w3 ⟨rfl, hb⟩
    have B3 := Lib.hid (bstep B2.out hb)
    replace Ra := Lib.hid (Ra.out.on hb)
    replace Rb := Lib.hid (Rb.out.on hb)
    replace Rq := Lib.hid (Rq.out.on hb)
    replace R1 := Lib.hid (R1.out.on hb)
    replace R2 := Lib.hid (R2.out.on hb)
    clear hb
    go_wp2_with fail
    go_ret
    exact ⟨rfl, B3.out⟩
  subst hz2
  obtain ⟨X, hva, hvb, hcX, hlX, hnX, hvX⟩ := cmp_zero HE1.out
  obtain ⟨Y, -, hvq, hcY, hlY, hnY, hvY⟩ := cmp_zero HE2.out
  have e1 : M1 = nfL X := HM1.out.symm.trans hlX
  have e2 : M2 = nfL Y := HM2.out.symm.trans hlY
  have x1 : ex M1 = X := by rw [e1]; exact (nfL_ok _).2
  have x2 : ex M2 = Y := by rw [e2]; exact (nfL_ok _).2
  have v1 : Vd M1 := by rw [e1]; exact hvX
  have v2 : Vd M2 := by rw [e2]; exact hvY
  obtain ⟨U, hU⟩ := chain_left hcX hcY x1
  obtain ⟨V, hV⟩ := chain_right hcX hcY x2
  have hUV : U = V := comp_assoc hcX hcY x1 x2 hU hV
  subst hUV
  have k1 := cmp_of v1 hvq hU
  have k2 := cmp_of hva v2 hV
  obtain ⟨E3, hE3⟩ : ∃ E, fulE (nfL U) = E := ⟨_, rfl⟩
  obtain ⟨M3, hM3⟩ : ∃ M, fulL (nfL U) = M := ⟨_, rfl⟩
  rw [hE3, hM3] at k1 k2
  have HC3 : Hid (∀ W, Rns W A1 M1 → Rns W C q → Calls Try.prog 30 #[.slice A1 M1.length c1, .slice C q.length f] W (Res M3 E3 W)) := fun W h1 h2 => by
    have h3 := iso_Compose M1 q A1 C c1 f W h1 h2 HL1.out hmq
    rw [k1.1, k1.2] at h3; exact h3
  have HC4 : Hid (∀ W, Rns W A a → Rns W A2 M2 → Calls Try.prog 30 #[.slice A a.length c, .slice A2 M2.length c2] W (Res M3 E3 W)) := fun W h1 h2 => by
    have h3 := iso_Compose a M2 A A2 c c2 W h1 h2 hma HL2.out
    rw [k2.1, k2.2] at h3; exact h3
  have HE3 : Hid (E3 = 0 ∧ M3.length ≤ 256 ∨ E3 = 8) := by
    rcases fulE_cases (nfL U) with ⟨h1, h2, h3⟩ | ⟨h1, h2⟩
    · exact Or.inl ⟨by rw [← hE3]; exact h1, by rw [← hM3, h2]; exact h3⟩
    · exact Or.inr (by rw [← hE3]; exact h1)
  clear hva hvb hcX hlX hnX hvX hvq hcY hlY hnY hvY e1 e2 x1 x2 v1 v2 hU hV k1 k2 hE3 hM3
  go_wp2_with fail
  refine (HC3.out w2 R1.out.1 Rq.out.1).mono ?_
  rintro e w3 ⟨A3, c3, rfl, hr, hb⟩
  have B3 := Lib.hid (bstep B2.out hb)
  replace Ra := Lib.hid (Ra.out.on hb)
  replace Rb := Lib.hid (Rb.out.on hb)
  replace Rq := Lib.hid (Rq.out.on hb)
  replace R1 := Lib.hid (R1.out.on hb)
  replace R2 := Lib.hid (R2.out.on hb)
  have R3 := Lib.hid hr
  clear hr
  clear hb
  go_wp2_with fail
  refine (HC4.out w3 Ra.out.1 R2.out.1).mono ?_
  rintro e w4 ⟨A4, c4, rfl, hr, hb⟩
  have B4 := Lib.hid (bstep B3.out hb)
  replace Ra := Lib.hid (Ra.out.on hb)
  replace Rb := Lib.hid (Rb.out.on hb)
  replace Rq := Lib.hid (Rq.out.on hb)
  replace R1 := Lib.hid (R1.out.on hb)
  replace R2 := Lib.hid (R2.out.on hb)
  replace R3 := Lib.hid (R3.out.on hb)
  have R4 := Lib.hid hr
  clear hr
  clear hb
  rcases HE3.out with ⟨h3, hl3⟩ | h3
  rotate_left
  · subst h3
    go_wp2_with fail
    refine (iso_awake w4).mono ?_
    rintro e w5 ⟨rfl, hb⟩
    have B5 := Lib.hid (bstep B4.out hb)
    replace Ra := Lib.hid (Ra.out.on hb)
    replace Rb := Lib.hid (Rb.out.on hb)
    replace Rq := Lib.hid (Rq.out.on hb)
    replace R1 := Lib.hid (R1.out.on hb)
    replace R2 := Lib.hid (R2.out.on hb)
    replace R3 := Lib.hid (R3.out.on hb)
    replace R4 := Lib.hid (R4.out.on hb)
    clear hb
    go_wp2_with fail
    go_ret
    exact ⟨rfl, B5.out⟩
  subst h3
  have HMM : Hid (∀ (A3 B3 : Option Addr) (c3 d3 : Nat) W, Rns W A3 M3 → Rns W B3 M3 → Calls Try.prog 24 #[.slice A3 M3.length c3, .slice B3 M3.length d3] W fun e w' => e = .returned (.bool true) ∧ Below W.heap.size W w') := fun A3 B3 c3 d3 W h1 h2 => e_Same M3 (by omega) A3 B3 c3 d3 W h1 h2
  clear hl3 HE3
  go_wp2_with fail
  refine (HMM.out _ _ _ _ w4 R3.out.1 R4.out.1).mono ?_
  rintro e w5 ⟨rfl, hb⟩
  have B5 := Lib.hid (bstep B4.out hb)
  replace Ra := Lib.hid (Ra.out.on hb)
  replace Rb := Lib.hid (Rb.out.on hb)
  replace Rq := Lib.hid (Rq.out.on hb)
  replace R1 := Lib.hid (R1.out.on hb)
  replace R2 := Lib.hid (R2.out.on hb)
  replace R3 := Lib.hid (R3.out.on hb)
  replace R4 := Lib.hid (R4.out.on hb)
  clear hb
  go_wp2_with fail
  refine (iso_awake w5).mono ?_
  rintro e w6 ⟨rfl, hb⟩
  have B6 := Lib.hid (bstep B5.out hb)
  replace Ra := Lib.hid (Ra.out.on hb)
  replace Rb := Lib.hid (Rb.out.on hb)
  replace Rq := Lib.hid (Rq.out.on hb)
  replace R1 := Lib.hid (R1.out.on hb)
  replace R2 := Lib.hid (R2.out.on hb)
  replace R3 := Lib.hid (R3.out.on hb)
  replace R4 := Lib.hid (R4.out.on hb)
  clear hb
  go_wp2_with fail
  go_ret
  exact ⟨rfl, B6.out⟩
#print axioms walk_IsoChains
end Go.Proofs.Ytnblpooimgpgoaa.Iso
