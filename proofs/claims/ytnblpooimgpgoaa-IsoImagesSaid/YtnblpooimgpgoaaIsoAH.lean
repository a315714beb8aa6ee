/- IsoImages. -/
import Derived.Test.YtnblpooimgpgoaaIsoAC
import Derived.Test.YtnblpooimgpgoaaIsoZ
namespace Go.Proofs.Ytnblpooimgpgoaa.Iso
open Go.ChangeShapes Go.WideShapes Go.RowKit Go.Lib Go.Proofs.Ytnblpooimgpgoaa.Rw
open Go.Proofs.Ytnblpooimgpgoaa.Span (Sps IsNf Nrm hasB hasB_iff cnt inS_iff)
set_option linter.unusedVariables false
set_option maxRecDepth 100000

set_option maxHeartbeats 6400000 in
theorem walk_IsoImages (w : World) (A : Option Addr) (c : Nat) (L : List Rn) (ha : Mp w A c L) (hm : L.length ≤ 9223372036854775807) (x : Int) (hx : (Lit.int .i64 x).wf) (f t : Int) :
    Calls Try.prog 4 #[.slice A L.length c, .int .i64 x, .agg #[.int .i64 f, .int .i64 t]] w fun e w' => e = .returned (.bool true) ∧ Below w.heap.size w w' := by
  have R := Lib.hid ha
  have hx' : -9223372036854775808 ≤ x ∧ x ≤ 9223372036854775807 := by simpa [Lit.wf, IntKind.min, IntKind.max, IntKind.signed, IntKind.bits] using hx
  clear ha hx
  obtain ⟨g, hg⟩ : ∃ g, decide (300 < L.length) = g := ⟨_, rfl⟩
  obtain ⟨E, hE⟩ : ∃ E, eC L = E := ⟨_, rfl⟩
  obtain ⟨K, hK⟩ : ∃ K, lenV L = K := ⟨_, rfl⟩
  obtain ⟨E2, hE2⟩ : ∃ E, atE L x = E := ⟨_, rfl⟩
  obtain ⟨V, hV⟩ : ∃ V, atV L x = V := ⟨_, rfl⟩
  obtain ⟨N1, hN1⟩ : ∃ N, nrmL L = N := ⟨_, rfl⟩
  obtain ⟨E3, hE3⟩ : ∃ E, fndE L f t = E := ⟨_, rfl⟩
  have H1 := Lib.hid fun W h => iso_Length L A c W h hm
  have H2 := Lib.hid fun W h => ref_Length L A c W h hm
  have H3 := Lib.hid fun W h => iso_At L A c x W h hm
  have H4 := Lib.hid fun W h => ref_At L A c x W h hm hx'
  have H5 := Lib.hid fun W h => iso_Norm L A c W h hm
  have H6 := Lib.hid fun W h => ref_Norm L A c W h hm
  have H7 := Lib.hid fun W h => iso_Image L A c W h hm
  have H8 := Lib.hid fun W h => ref_Image L A c W h hm
  have H9 := Lib.hid fun W h => iso_Find L A c f t W h hm
  have H10 := Lib.hid fun W h => ref_Find L A c f t W h hm
  rw [hE, hK] at H1 H2
  rw [hE2, hV] at H3 H4
  rw [hE, hN1] at H5 H6
  rw [hE] at H7 H8
  rw [hE3] at H9 H10
  have HL1 : Hid (N1.length ≤ 256) := by rw [← hN1]; exact nrmL_len L
  clear hE hK hE2 hV hN1 hE3 hx'
  have HMM1 : Hid (∀ (A3 B3 : Option Addr) (c3 d3 : Nat) W, Rns W A3 N1 → Rns W B3 N1 → Calls Try.prog 24 #[.slice A3 N1.length c3, .slice B3 N1.length d3] W fun e w' => e = .returned (.bool true) ∧ Below W.heap.size W w') := fun A3 B3 c3 d3 W h1 h2 => e_Same N1 (by have := HL1.out; omega) A3 B3 c3 d3 W h1 h2
  go_enter Try.func4, Try.ntmps4
  go_upto_region 1 with fail
  generalize hw1 : w.alloc (.cells #[.int .i64 f, .int .i64 t] 28) = wa
  have BA : Hid (Below w.heap.size w wa) := hw1 ▸ below_alloc _ _
  have HC : Hid (Cel wa w.heap.size [.int .i64 f, .int .i64 t]) := hw1 ▸ Cel.new _ _ _
  clear hw1
  replace R := Lib.hid (R.out.on BA.out)
  go_wp2_with fail
  refine (iso_great L A c _ hm hg).mono ?_
  rintro e w' ⟨rfl, rfl⟩
  clear hg
  cases g with
  | true =>
    go_wp2_with fail
    refine (iso_awake wa).mono ?_
    rintro e w1 ⟨rfl, hb⟩
    have B1 := Lib.hid (bstep BA.out hb)
    replace R := Lib.hid (R.out.on hb)
    replace HC := Lib.hid (HC.out.on hb)
    clear hb
    go_wp2_with fail
    go_ret
    exact ⟨rfl, B1.out⟩
  | false =>
    go_wp2_with fail
    refine (H1.out wa R.out.1).mono ?_
    rintro e w1 ⟨rfl, hb⟩
    have B1 := Lib.hid (bstep BA.out hb)
    replace R := Lib.hid (R.out.on hb)
    replace HC := Lib.hid (HC.out.on hb)
    clear hb
    go_wp2_with fail
    refine (H2.out w1 R.out.1).mono ?_
    rintro e w2 ⟨rfl, hb⟩
    have B2 := Lib.hid (bstep B1.out hb)
    replace R := Lib.hid (R.out.on hb)
    replace HC := Lib.hid (HC.out.on hb)
    clear hb
    go_wp2_with fail
    refine (H3.out w2 R.out.1).mono ?_
    rintro e w3 ⟨rfl, hb⟩
    have B3 := Lib.hid (bstep B2.out hb)
    replace R := Lib.hid (R.out.on hb)
    replace HC := Lib.hid (HC.out.on hb)
    clear hb
    go_wp2_with fail
    refine (H4.out w3 R.out.1).mono ?_
    rintro e w4 ⟨rfl, hb⟩
    have B4 := Lib.hid (bstep B3.out hb)
    replace R := Lib.hid (R.out.on hb)
    replace HC := Lib.hid (HC.out.on hb)
    clear hb
    go_wp2_with fail
    refine (H5.out w4 R.out.1).mono ?_
    rintro e w5 ⟨A5, c5, rfl, hr, hb⟩
    have B5 := Lib.hid (bstep B4.out hb)
    replace R := Lib.hid (R.out.on hb)
    replace HC := Lib.hid (HC.out.on hb)
    have R5 := Lib.hid hr
    clear hr
    clear hb
    go_wp2_with fail
    refine (H6.out w5 R.out.1).mono ?_
    rintro e w6 ⟨A6, c6, rfl, hr, hb⟩
    have B6 := Lib.hid (bstep B5.out hb)
    replace R := Lib.hid (R.out.on hb)
    replace HC := Lib.hid (HC.out.on hb)
    replace R5 := Lib.hid (R5.out.on hb)
    have R6 := Lib.hid hr
    clear hr
    clear hb
    go_wp2_with fail
    refine (HMM1.out _ _ _ _ w6 R5.out.1 R6.out.1).mono ?_
    rintro e w7 ⟨rfl, hb⟩
    have B7 := Lib.hid (bstep B6.out hb)
    replace R := Lib.hid (R.out.on hb)
    replace HC := Lib.hid (HC.out.on hb)
    replace R5 := Lib.hid (R5.out.on hb)
    replace R6 := Lib.hid (R6.out.on hb)
    clear hb
    go_wp2_with fail
    refine (H7.out w7 R.out.1).mono ?_
    rintro e w8 ⟨M7, V7, q7, rfl, hla, hs, hna, hoa, hb⟩
    have B8 := Lib.hid (bstep B7.out hb)
    replace R := Lib.hid (R.out.on hb)
    replace HC := Lib.hid (HC.out.on hb)
    replace R5 := Lib.hid (R5.out.on hb)
    replace R6 := Lib.hid (R6.out.on hb)
    have R7 := Lib.hid hs
    have HLn7 := Lib.hid hla
    have Hn7 := Lib.hid hna
    have Ho7 := Lib.hid hoa
    clear hs hla hna hoa
    clear hb
    go_wp2_with fail
    refine (H8.out w8 R.out.1).mono ?_
    rintro e w9 ⟨M8, V8, q8, rfl, hlb, hs, hnb, hob, hb⟩
    have B9 := Lib.hid (bstep B8.out hb)
    replace R := Lib.hid (R.out.on hb)
    replace HC := Lib.hid (HC.out.on hb)
    replace R5 := Lib.hid (R5.out.on hb)
    replace R6 := Lib.hid (R6.out.on hb)
    replace R7 := Lib.hid (R7.out.on hb)
    have R8 := Lib.hid hs
    have HLn8 := Lib.hid hlb
    have Hn8 := Lib.hid hnb
    have Ho8 := Lib.hid hob
    clear hs hlb hnb hob
    clear hb
    obtain rfl : M7 = M8 := set_one Hn7.out Ho7.out Hn8.out Ho8.out
    obtain ⟨z0, z1⟩ := HC.out.two
    go_wp2_with fail
    refine (H9.out w9 R.out.1).mono ?_
    rintro e w10 ⟨M9, V9, q9, rfl, hla, hs, hna, hoa, hb⟩
    have B10 := Lib.hid (bstep B9.out hb)
    replace R := Lib.hid (R.out.on hb)
    replace HC := Lib.hid (HC.out.on hb)
    replace R5 := Lib.hid (R5.out.on hb)
    replace R6 := Lib.hid (R6.out.on hb)
    replace R7 := Lib.hid (R7.out.on hb)
    replace R8 := Lib.hid (R8.out.on hb)
    have R9 := Lib.hid hs
    have HLn9 := Lib.hid hla
    have Hn9 := Lib.hid hna
    have Ho9 := Lib.hid hoa
    clear hs hla hna hoa
    clear z0 z1
    clear hb
    obtain ⟨z0, z1⟩ := HC.out.two
    go_wp2_with fail
    refine (H10.out w10 R.out.1).mono ?_
    rintro e w11 ⟨M10, V10, q10, rfl, hlb, hs, hnb, hob, hb⟩
    have B11 := Lib.hid (bstep B10.out hb)
    replace R := Lib.hid (R.out.on hb)
    replace HC := Lib.hid (HC.out.on hb)
    replace R5 := Lib.hid (R5.out.on hb)
    replace R6 := Lib.hid (R6.out.on hb)
    replace R7 := Lib.hid (R7.out.on hb)
    replace R8 := Lib.hid (R8.out.on hb)
    replace R9 := Lib.hid (R9.out.on hb)
    have R10 := Lib.hid hs
    have HLn10 := Lib.hid hlb
    have Hn10 := Lib.hid hnb
    have Ho10 := Lib.hid hob
    clear hs hlb hnb hob
    clear z0 z1
    clear hb
    obtain rfl : M9 = M10 := set_one Hn9.out Ho9.out Hn10.out Ho10.out
    go_wp2_with fail
    refine (e_Same4 M7 (Nat.le_trans HLn7.out (by decide)) _ _ _ _ w11 R7.out R8.out).mono ?_
    rintro e w12 ⟨rfl, hb⟩
    have B12 := Lib.hid (bstep B11.out hb)
    replace R := Lib.hid (R.out.on hb)
    replace HC := Lib.hid (HC.out.on hb)
    replace R5 := Lib.hid (R5.out.on hb)
    replace R6 := Lib.hid (R6.out.on hb)
    replace R7 := Lib.hid (R7.out.on hb)
    replace R8 := Lib.hid (R8.out.on hb)
    replace R9 := Lib.hid (R9.out.on hb)
    replace R10 := Lib.hid (R10.out.on hb)
    clear hb
    go_wp2_with fail
    refine (e_Same4 M9 (Nat.le_trans HLn9.out (by decide)) _ _ _ _ w12 R9.out R10.out).mono ?_
    rintro e w13 ⟨rfl, hb⟩
    have B13 := Lib.hid (bstep B12.out hb)
    replace R := Lib.hid (R.out.on hb)
    replace HC := Lib.hid (HC.out.on hb)
    replace R5 := Lib.hid (R5.out.on hb)
    replace R6 := Lib.hid (R6.out.on hb)
    replace R7 := Lib.hid (R7.out.on hb)
    replace R8 := Lib.hid (R8.out.on hb)
    replace R9 := Lib.hid (R9.out.on hb)
    replace R10 := Lib.hid (R10.out.on hb)
    clear hb
    go_wp2_with fail
    refine (iso_awake w13).mono ?_
    rintro e w14 ⟨rfl, hb⟩
    have B14 := Lib.hid (bstep B13.out hb)
    replace R := Lib.hid (R.out.on hb)
    replace HC := Lib.hid (HC.out.on hb)
    replace R5 := Lib.hid (R5.out.on hb)
    replace R6 := Lib.hid (R6.out.on hb)
    replace R7 := Lib.hid (R7.out.on hb)
    replace R8 := Lib.hid (R8.out.on hb)
    replace R9 := Lib.hid (R9.out.on hb)
    replace R10 := Lib.hid (R10.out.on hb)
    clear hb
    go_wp2_with fail
    go_ret
    exact ⟨rfl, B14.out⟩
#print axioms walk_IsoImages
end Go.Proofs.Ytnblpooimgpgoaa.Iso
