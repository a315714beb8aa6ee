/- IsoParts. -/
import Derived.Test.YtnblpooimgpgoaaIsoAC
import Derived.Test.YtnblpooimgpgoaaIsoX
namespace Go.Proofs.Ytnblpooimgpgoaa.Iso
open Go.ChangeShapes Go.WideShapes Go.RowKit Go.Lib Go.Proofs.Ytnblpooimgpgoaa.Rw
open Go.Proofs.Ytnblpooimgpgoaa.Span (Sps IsNf Nrm hasB hasB_iff cnt inS_iff)
set_option linter.unusedVariables false
set_option maxRecDepth 100000

set_option maxHeartbeats 6400000 in
theorem walk_IsoParts (w : World) (A : Option Addr) (c : Nat) (L : List Rn) (ha : Mp w A c L) (hm : L.length ≤ 9223372036854775807) (B : Option Addr) (d : Nat) (M : List Rn) (hb' : Mp w B d M) (hm2 : M.length ≤ 9223372036854775807) (f t : Int) :
    Calls Try.prog 6 #[.slice A L.length c, .slice B M.length d, .agg #[.int .i64 f, .int .i64 t]] w fun e w' => e = .returned (.bool true) ∧ Below w.heap.size w w' := by
  have R := Lib.hid ha
  have S := Lib.hid hb'
  clear ha hb'
  obtain ⟨g, hg⟩ : ∃ g, decide (300 < L.length) = g := ⟨_, rfl⟩
  obtain ⟨k, hk⟩ : ∃ k, decide (300 < M.length) = k := ⟨_, rfl⟩
  obtain ⟨E1, hE1⟩ : ∃ E, prtE L f t = E := ⟨_, rfl⟩
  obtain ⟨N1, hN1⟩ : ∃ N, prtL L f t = N := ⟨_, rfl⟩
  obtain ⟨E2, hE2⟩ : ∃ E, jnE L M = E := ⟨_, rfl⟩
  obtain ⟨N2, hN2⟩ : ∃ N, jnL L M = N := ⟨_, rfl⟩
  obtain ⟨E3, hE3⟩ : ∃ E, eC L = E := ⟨_, rfl⟩
  obtain ⟨N3, hN3⟩ : ∃ N, revL L = N := ⟨_, rfl⟩
  have H1 := Lib.hid fun W h => iso_Part L A c f t W h hm
  have H2 := Lib.hid fun W h => ref_Part L A c f t W h hm
  have H3 := Lib.hid fun W h1 h2 => iso_Join L M A B c d W h1 h2 hm hm2
  have H4 := Lib.hid fun W h1 h2 => ref_Join L M A B c d W h1 h2 hm hm2
  have H5 := Lib.hid fun W h => iso_Reverse L A c W h hm
  have H6 := Lib.hid fun W h => ref_Reverse L A c W h hm
  rw [hE1, hN1] at H1 H2
  rw [hE2, hN2] at H3 H4
  rw [hE3, hN3] at H5 H6
  have HL1 : Hid (N1.length ≤ 256) := by rw [← hN1]; exact prtL_len L f t
  have HL2 : Hid (N2.length ≤ 256) := by rw [← hN2]; exact jnL_len L M
  have HL3 : Hid (N3.length ≤ 256) := by rw [← hN3]; exact revL_len L
  clear hE1 hE2 hE3 hN1 hN2 hN3
  have HMM1 : Hid (∀ (A3 B3 : Option Addr) (c3 d3 : Nat) W, Rns W A3 N1 → Rns W B3 N1 → Calls Try.prog 24 #[.slice A3 N1.length c3, .slice B3 N1.length d3] W fun e w' => e = .returned (.bool true) ∧ Below W.heap.size W w') := fun A3 B3 c3 d3 W h1 h2 => e_Same N1 (by have := HL1.out; omega) A3 B3 c3 d3 W h1 h2
  have HMM2 : Hid (∀ (A3 B3 : Option Addr) (c3 d3 : Nat) W, Rns W A3 N2 → Rns W B3 N2 → Calls Try.prog 24 #[.slice A3 N2.length c3, .slice B3 N2.length d3] W fun e w' => e = .returned (.bool true) ∧ Below W.heap.size W w') := fun A3 B3 c3 d3 W h1 h2 => e_Same N2 (by have := HL2.out; omega) A3 B3 c3 d3 W h1 h2
  have HMM3 : Hid (∀ (A3 B3 : Option Addr) (c3 d3 : Nat) W, Rns W A3 N3 → Rns W B3 N3 → Calls Try.prog 24 #[.slice A3 N3.length c3, .slice B3 N3.length d3] W fun e w' => e = .returned (.bool true) ∧ Below W.heap.size W w') := fun A3 B3 c3 d3 W h1 h2 => e_Same N3 (by have := HL3.out; omega) A3 B3 c3 d3 W h1 h2
  go_enter Try.func6, Try.ntmps6
  go_upto_region 1 with fail
  generalize hw1 : w.alloc (.cells #[.int .i64 f, .int .i64 t] 28) = wa
  have BA : Hid (Below w.heap.size w wa) := hw1 ▸ below_alloc _ _
  have HC : Hid (Cel wa w.heap.size [.int .i64 f, .int .i64 t]) := hw1 ▸ Cel.new _ _ _
  clear hw1
  replace R := Lib.hid (R.out.on BA.out)
  replace S := Lib.hid (S.out.on BA.out)
  go_wp2_with fail
  refine (iso_great L A c _ hm hg).mono ?_
  rintro e w' ⟨rfl, rfl⟩
  clear hg
  cases g with
  | true =>
    go_wp2_with fail
    refine (iso_awake wa).mono ?_
    rintro e w1 ⟨rfl, hb⟩
    have B1 := Lib.hid (bstep BA.out hb)
    replace R := Lib.hid (R.out.on hb)
    replace S := Lib.hid (S.out.on hb)
    replace HC := Lib.hid (HC.out.on hb)
    clear hb
    go_wp2_with fail
    go_ret
    exact ⟨rfl, B1.out⟩
  | false =>
    go_wp2_with fail
    refine (iso_great M B d _ hm2 hk).mono ?_
    rintro e w' ⟨rfl, rfl⟩
    clear hk
    cases k with
    | true =>
      go_wp2_with fail
      refine (iso_awake wa).mono ?_
      rintro e w1 ⟨rfl, hb⟩
      have B1 := Lib.hid (bstep BA.out hb)
      replace R := Lib.hid (R.out.on hb)
      replace S := Lib.hid (S.out.on hb)
      replace HC := Lib.hid (HC.out.on hb)
      clear hb
      go_wp2_with fail
      go_ret
      exact ⟨rfl, B1.out⟩
    | false =>
      obtain ⟨z0, z1⟩ := HC.out.two
      go_wp2_with fail
      refine (H1.out wa R.out.1).mono ?_
      rintro e w1 ⟨A1, c1, rfl, hr, hb⟩
      have B1 := Lib.hid (bstep BA.out hb)
      replace R := Lib.hid (R.out.on hb)
      replace S := Lib.hid (S.out.on hb)
      replace HC := Lib.hid (HC.out.on hb)
      have R1 := Lib.hid hr
      clear hr z0 z1
      clear hb
      obtain ⟨z0, z1⟩ := HC.out.two
      go_wp2_with fail
      refine (H2.out w1 R.out.1).mono ?_
      rintro e w2 ⟨A2, c2, rfl, hr, hb⟩
      have B2 := Lib.hid (bstep B1.out hb)
      replace R := Lib.hid (R.out.on hb)
      replace S := Lib.hid (S.out.on hb)
      replace HC := Lib.hid (HC.out.on hb)
      replace R1 := Lib.hid (R1.out.on hb)
      have R2 := Lib.hid hr
      clear hr z0 z1
      clear hb
      go_wp2_with fail
      refine (H3.out w2 R.out S.out).mono ?_
      rintro e w3 ⟨A3, c3, rfl, hr, hb⟩
      have B3 := Lib.hid (bstep B2.out hb)
      replace R := Lib.hid (R.out.on hb)
      replace S := Lib.hid (S.out.on hb)
      replace HC := Lib.hid (HC.out.on hb)
      replace R1 := Lib.hid (R1.out.on hb)
      replace R2 := Lib.hid (R2.out.on hb)
      have R3 := Lib.hid hr
      clear hr
      clear hb
      go_wp2_with fail
      refine (H4.out w3 R.out.1 S.out.1).mono ?_
      rintro e w4 ⟨A4, c4, rfl, hr, hb⟩
      have B4 := Lib.hid (bstep B3.out hb)
      replace R := Lib.hid (R.out.on hb)
      replace S := Lib.hid (S.out.on hb)
      replace HC := Lib.hid (HC.out.on hb)
      replace R1 := Lib.hid (R1.out.on hb)
      replace R2 := Lib.hid (R2.out.on hb)
      replace R3 := Lib.hid (R3.out.on hb)
      have R4 := Lib.hid hr
      clear hr
      clear hb
      go_wp2_with fail
      refine (H5.out w4 R.out.1).mono ?_
      rintro e w5 ⟨A5, c5, rfl, hr, hb⟩
      have B5 := Lib.hid (bstep B4.out hb)
      replace R := Lib.hid (R.out.on hb)
      replace S := Lib.hid (S.out.on hb)
      replace HC := Lib.hid (HC.out.on hb)
      replace R1 := Lib.hid (R1.out.on hb)
      replace R2 := Lib.hid (R2.out.on hb)
      replace R3 := Lib.hid (R3.out.on hb)
      replace R4 := Lib.hid (R4.out.on hb)
      have R5 := Lib.hid hr
      clear hr
      clear hb
      go_wp2_with fail
      refine (H6.out w5 R.out.1).mono ?_
      rintro e w6 ⟨A6, c6, rfl, hr, hb⟩
      have B6 := Lib.hid (bstep B5.out hb)
      replace R := Lib.hid (R.out.on hb)
      replace S := Lib.hid (S.out.on hb)
      replace HC := Lib.hid (HC.out.on hb)
      replace R1 := Lib.hid (R1.out.on hb)
      replace R2 := Lib.hid (R2.out.on hb)
      replace R3 := Lib.hid (R3.out.on hb)
      replace R4 := Lib.hid (R4.out.on hb)
      replace R5 := Lib.hid (R5.out.on hb)
      have R6 := Lib.hid hr
      clear hr
      clear hb
      go_wp2_with fail
      refine (HMM1.out _ _ _ _ w6 R1.out.1 R2.out.1).mono ?_
      rintro e w7 ⟨rfl, hb⟩
      have B7 := Lib.hid (bstep B6.out hb)
      replace R := Lib.hid (R.out.on hb)
      replace S := Lib.hid (S.out.on hb)
      replace HC := Lib.hid (HC.out.on hb)
      replace R1 := Lib.hid (R1.out.on hb)
      replace R2 := Lib.hid (R2.out.on hb)
      replace R3 := Lib.hid (R3.out.on hb)
      replace R4 := Lib.hid (R4.out.on hb)
      replace R5 := Lib.hid (R5.out.on hb)
      replace R6 := Lib.hid (R6.out.on hb)
      clear hb
      go_wp2_with fail
      refine (HMM2.out _ _ _ _ w7 R3.out.1 R4.out.1).mono ?_
      rintro e w8 ⟨rfl, hb⟩
      have B8 := Lib.hid (bstep B7.out hb)
      replace R := Lib.hid (R.out.on hb)
      replace S := Lib.hid (S.out.on hb)
      replace HC := Lib.hid (HC.out.on hb)
      replace R1 := Lib.hid (R1.out.on hb)
      replace R2 := Lib.hid (R2.out.on hb)
      replace R3 := Lib.hid (R3.out.on hb)
      replace R4 := Lib.hid (R4.out.on hb)
      replace R5 := Lib.hid (R5.out.on hb)
      replace R6 := Lib.hid (R6.out.on hb)
      clear hb
      go_wp2_with fail
      refine (HMM3.out _ _ _ _ w8 R5.out.1 R6.out.1).mono ?_
      rintro e w9 ⟨rfl, hb⟩
      have B9 := Lib.hid (bstep B8.out hb)
      replace R := Lib.hid (R.out.on hb)
      replace S := Lib.hid (S.out.on hb)
      replace HC := Lib.hid (HC.out.on hb)
      replace R1 := Lib.hid (R1.out.on hb)
      replace R2 := Lib.hid (R2.out.on hb)
      replace R3 := Lib.hid (R3.out.on hb)
      replace R4 := Lib.hid (R4.out.on hb)
      replace R5 := Lib.hid (R5.out.on hb)
      replace R6 := Lib.hid (R6.out.on hb)
      clear hb
      go_wp2_with fail
      refine (iso_awake w9).mono ?_
      rintro e w10 ⟨rfl, hb⟩
      have B10 := Lib.hid (bstep B9.out hb)
      replace R := Lib.hid (R.out.on hb)
      replace S := Lib.hid (S.out.on hb)
      replace HC := Lib.hid (HC.out.on hb)
      replace R1 := Lib.hid (R1.out.on hb)
      replace R2 := Lib.hid (R2.out.on hb)
      replace R3 := Lib.hid (R3.out.on hb)
      replace R4 := Lib.hid (R4.out.on hb)
      replace R5 := Lib.hid (R5.out.on hb)
      replace R6 := Lib.hid (R6.out.on hb)
      clear hb
      go_wp2_with fail
      go_ret
      exact ⟨rfl, B10.out⟩
#print axioms walk_IsoParts
end Go.Proofs.Ytnblpooimgpgoaa.Iso
