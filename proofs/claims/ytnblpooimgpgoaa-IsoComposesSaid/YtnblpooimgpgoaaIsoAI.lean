/- IsoComposes. -/
import Derived.Test.YtnblpooimgpgoaaIsoAC
import Derived.Test.YtnblpooimgpgoaaIsoY
namespace Go.Proofs.Ytnblpooimgpgoaa.Iso
open Go.ChangeShapes Go.WideShapes Go.RowKit Go.Lib Go.Proofs.Ytnblpooimgpgoaa.Rw
open Go.Proofs.Ytnblpooimgpgoaa.Span (Sps IsNf Nrm hasB hasB_iff cnt inS_iff)
set_option linter.unusedVariables false
set_option maxRecDepth 100000

set_option maxHeartbeats 6400000 in
theorem walk_IsoComposes (w : World) (A : Option Addr) (c : Nat) (L : List Rn) (ha : Mp w A c L) (hm : L.length ≤ 9223372036854775807) (B : Option Addr) (d : Nat) (M : List Rn) (hb' : Mp w B d M) (hm2 : M.length ≤ 9223372036854775807) :
    Calls Try.prog 5 #[.slice A L.length c, .slice B M.length d] w fun e w' => e = .returned (.bool true) ∧ Below w.heap.size w w' := by
  have R := Lib.hid ha
  have S := Lib.hid hb'
  clear ha hb'
  obtain ⟨E, hE⟩ : ∃ E, cmpE L M = E := ⟨_, rfl⟩
  obtain ⟨N, hN⟩ : ∃ N, cmpL L M = N := ⟨_, rfl⟩
  have H1 := Lib.hid fun W h1 h2 => iso_Compose L M A B c d W h1 h2 hm hm2
  have H2 := Lib.hid fun W h1 h2 => ref_Compose L M A B c d W h1 h2 hm hm2
  rw [hE, hN] at H1 H2
  have HL1 : Hid (N.length ≤ 256) := by rw [← hN]; exact cmpL_len L M
  clear hE hN
  have HMM1 : Hid (∀ (A3 B3 : Option Addr) (c3 d3 : Nat) W, Rns W A3 N → Rns W B3 N → Calls Try.prog 24 #[.slice A3 N.length c3, .slice B3 N.length d3] W fun e w' => e = .returned (.bool true) ∧ Below W.heap.size W w') := fun A3 B3 c3 d3 W h1 h2 => e_Same N (by have := HL1.out; omega) A3 B3 c3 d3 W h1 h2
  rcases Nat.lt_or_ge 60 L.length with g1 | g1
  · have t1 : decide ((60:Int) < (L.length:Int)) = true := decide_eq_true (by omega)
    go_enter Try.func5, Try.ntmps5
    go_wp2_with fail
    refine (iso_awake w).mono ?_
    rintro e w1 ⟨rfl, hb⟩
    have B1 := Lib.hid hb
    replace R := Lib.hid (R.out.on hb)
    replace S := Lib.hid (S.out.on hb)
    clear hb
    go_wp2_with fail
    go_ret
    exact ⟨rfl, B1.out⟩
  have t1 : decide ((60:Int) < (L.length:Int)) = false := decide_eq_false (by omega)
  rcases Nat.lt_or_ge 60 M.length with g2 | g2
  · have t2 : decide ((60:Int) < (M.length:Int)) = true := decide_eq_true (by omega)
    go_enter Try.func5, Try.ntmps5
    go_wp2_with fail
    refine (iso_awake w).mono ?_
    rintro e w1 ⟨rfl, hb⟩
    have B1 := Lib.hid hb
    replace R := Lib.hid (R.out.on hb)
    replace S := Lib.hid (S.out.on hb)
    clear hb
    go_wp2_with fail
    go_ret
    exact ⟨rfl, B1.out⟩
  have t2 : decide ((60:Int) < (M.length:Int)) = false := decide_eq_false (by omega)
  clear g1 g2
  go_enter Try.func5, Try.ntmps5
  go_wp2_with fail
  refine (H1.out w R.out.1 S.out.1).mono ?_
  rintro e w1 ⟨A1, c1, rfl, hr, hb⟩
  have B1 := Lib.hid hb
  replace R := Lib.hid (R.out.on hb)
  replace S := Lib.hid (S.out.on hb)
  have R1 := Lib.hid hr
  clear hr
  clear hb
  go_wp2_with fail
  refine (H2.out w1 R.out.1 S.out.1).mono ?_
  rintro e w2 ⟨A2, c2, rfl, hr, hb⟩
  have B2 := Lib.hid (bstep B1.out hb)
  replace R := Lib.hid (R.out.on hb)
  replace S := Lib.hid (S.out.on hb)
  replace R1 := Lib.hid (R1.out.on hb)
  have R2 := Lib.hid hr
  clear hr
  clear hb
  go_wp2_with fail
  refine (HMM1.out _ _ _ _ w2 R1.out.1 R2.out.1).mono ?_
  rintro e w3 ⟨rfl, hb⟩
  have B3 := Lib.hid (bstep B2.out hb)
  replace R := Lib.hid (R.out.on hb)
  replace S := Lib.hid (S.out.on hb)
  replace R1 := Lib.hid (R1.out.on hb)
  replace R2 := Lib.hid (R2.out.on hb)
  clear hb
  go_wp2_with fail
  refine (iso_awake w3).mono ?_
  rintro e w4 ⟨rfl, hb⟩
  have B4 := Lib.hid (bstep B3.out hb)
  replace R := Lib.hid (R.out.on hb)
  replace S := Lib.hid (S.out.on hb)
  replace R1 := Lib.hid (R1.out.on hb)
  replace R2 := Lib.hid (R2.out.on hb)
  clear hb
  go_wp2_with fail
  go_ret
  exact ⟨rfl, B4.out⟩
#print axioms walk_IsoComposes
end Go.Proofs.Ytnblpooimgpgoaa.Iso
