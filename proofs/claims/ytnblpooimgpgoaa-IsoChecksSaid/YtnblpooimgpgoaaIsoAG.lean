/- IsoChecks. -/
import Derived.Test.YtnblpooimgpgoaaIsoAC
import Derived.Test.YtnblpooimgpgoaaIsoZ
namespace Go.Proofs.Ytnblpooimgpgoaa.Iso
open Go.ChangeShapes Go.WideShapes Go.RowKit Go.Lib Go.Proofs.Ytnblpooimgpgoaa.Rw
open Go.Proofs.Ytnblpooimgpgoaa.Span (Sps IsNf Nrm hasB hasB_iff cnt inS_iff)
set_option linter.unusedVariables false
set_option maxRecDepth 100000

set_option maxHeartbeats 6400000 in
theorem walk_IsoChecks (w : World) (A : Option Addr) (c : Nat) (L : List Rn) (ha : Mp w A c L) (hm : L.length ≤ 9223372036854775807) :
    Calls Try.prog 3 #[.slice A L.length c] w fun e w' => e = .returned (.bool true) ∧ Below w.heap.size w w' := by
  have R := Lib.hid ha
  clear ha
  obtain ⟨g, hg⟩ : ∃ g, decide (300 < L.length) = g := ⟨_, rfl⟩
  obtain ⟨E, hE⟩ : ∃ E, eC L = E := ⟨_, rfl⟩
  have H1 := Lib.hid fun W h => iso_Check L A c W h hm
  have H2 := Lib.hid fun W h => ref_Check L A c W h hm
  rw [hE] at H1 H2
  obtain ⟨S, hS⟩ : ∃ S, sngB L = S := ⟨_, rfl⟩
  have H3 := Lib.hid fun W h => iso_Single L A c W h hm
  have H4 := Lib.hid fun W h => ref_Single L A c W h hm
  rw [hS] at H3 H4
  clear hE hS
  go_enter Try.func3, Try.ntmps3
  go_wp2_with fail
  refine (iso_great L A c _ hm hg).mono ?_
  rintro e w' ⟨rfl, rfl⟩
  clear hg
  cases g with
  | true =>
    go_wp2_with fail
    refine (iso_awake w).mono ?_
    rintro e w1 ⟨rfl, hb⟩
    have B1 := Lib.hid hb
    replace R := Lib.hid (R.out.on hb)
    clear hb
    go_wp2_with fail
    go_ret
    exact ⟨rfl, B1.out⟩
  | false =>
    go_wp2_with fail
    refine (H1.out w R.out.1).mono ?_
    rintro e w1 ⟨rfl, hb⟩
    have B1 := Lib.hid hb
    replace R := Lib.hid (R.out.on hb)
    clear hb
    go_wp2_with fail
    refine (H2.out w1 R.out.1).mono ?_
    rintro e w2 ⟨rfl, hb⟩
    have B2 := Lib.hid (bstep B1.out hb)
    replace R := Lib.hid (R.out.on hb)
    clear hb
    go_wp2_with fail
    refine (H3.out w2 R.out.1).mono ?_
    rintro e w3 ⟨rfl, hb⟩
    have B3 := Lib.hid (bstep B2.out hb)
    replace R := Lib.hid (R.out.on hb)
    clear hb
    go_wp2_with fail
    refine (H4.out w3 R.out.1).mono ?_
    rintro e w4 ⟨rfl, hb⟩
    have B4 := Lib.hid (bstep B3.out hb)
    replace R := Lib.hid (R.out.on hb)
    clear hb
    go_wp2_with fail
    refine (iso_awake w4).mono ?_
    rintro e w5 ⟨rfl, hb⟩
    have B5 := Lib.hid (bstep B4.out hb)
    replace R := Lib.hid (R.out.on hb)
    clear hb
    go_wp2_with fail
    go_ret
    exact ⟨rfl, B5.out⟩
#print axioms walk_IsoChecks
end Go.Proofs.Ytnblpooimgpgoaa.Iso
