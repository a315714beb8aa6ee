/- RectArea -/
import Derived.Test.YtccbnobpighckaaRectQ
import Derived.Test.YtccbnobpighckaaRectV
import Derived.Test.YtccbnobpighckaaRectN
import Derived.Test.YtccbnobpighckaaRectX
namespace Go.Proofs.Ytccbnobpighckaa.Rect
open Go.ChangeShapes Go.WideShapes Go.RowKit Go.Lib Go.Proofs.Ytccbnobpighckaa.Rw
open Go.Proofs.Ytccbnobpighckaa.Span (hasB hasB_iff IsNf Nrm Sps inS inS_iff)
set_option linter.unusedVariables false
set_option maxRecDepth 100000

theorem rs_le {r : Rc} (h : ckB r = true) (L : List Rc) : rs r L ≤ siz r := by
  have := cv_pos (clp r L)
  rw [rs_is h L]; omega
theorem ls_snoc {L : List Rc} {r : Rc} (hl : L.length ≤ 40) (he : lsE L = 0) (hf : ckE r = 0) : lsE (L ++ [r]) = 0 := lsE_ok (by simp; omega) fun k s hs => by
  rcases List.mem_append.mp (List.mem_of_getElem? hs) with h | h
  · exact (lsE_of he).2 s h
  · rw [List.mem_singleton] at h; subst h; exact ckE_iff.mp hf
theorem ls_clp {L : List Rc} {r : Rc} (hl : L.length ≤ 40) (he : lsE L = 0) (hf : ckE r = 0) : lsE (clp r L) = 0 := lsE_ok (by have := clp_len r L; omega) fun k s hs => clp_ck (ckE_iff.mp hf) (lsE_of he).2 s (List.mem_of_getElem? hs)
theorem rsE_bad {r : Rc} {L : List Rc} (h : ¬ ckE r = 0) : rsE r L = ckE r := by unfold rsE; rw [if_neg h]
theorem rsE_good {r : Rc} {L : List Rc} (h : ckE r = 0) : rsE r L = lsE L := by unfold rsE; rw [if_pos h]
/-- What the walk of RectArea asks. -/
theorem area_fact {L : List Rc} {r : Rc} (hl : L.length ≤ 40) (he : lsE L = 0) (hf : ckE r = 0) : clV r L = clp r L ∧ lsE (L ++ [r]) = 0 ∧ lsE (clp r L) = 0 ∧ cvV (L ++ [r]) = cvV L + rsV r L ∧ rsV r L = arV r - cvV (clp r L) ∧
    (0 ≤ cvV L ∧ cvV L ≤ 206158430208000) ∧ (0 ≤ rsV r L ∧ rsV r L ≤ 206158430208000) ∧ (0 ≤ arV r ∧ arV r ≤ 206158430208000) ∧ 0 ≤ cvV (clp r L) ∧ cvV (clp r L) ≤ 206158430208000 := by
  have hck := ckE_iff.mp hf
  have hr : rsE r L = 0 := (rsE_good hf).trans he
  have h1 := ls_snoc hl he hf
  have h2 := ls_clp hl he hf
  have e1 : cvV L = cv L := by unfold cvV; rw [if_pos he]
  have e2 : rsV r L = rs r L := by unfold rsV; rw [if_pos hr]
  have e3 : arV r = siz r := by unfold arV; rw [if_pos hf]
  have e4 : cvV (clp r L) = cv (clp r L) := by unfold cvV; rw [if_pos h2]
  have e5 : cvV (L ++ [r]) = cv (L ++ [r]) := by unfold cvV; rw [if_pos h1]
  have e6 : clV r L = clp r L := by unfold clV; rw [if_pos hr]
  have l1 := cv_le L
  have l2 := cv_le (clp r L)
  have l3 := rs_le hck L
  rw [e1, e2, e3, e4, e5, e6]
  have hs := siz_le hck
  exact ⟨rfl, h1, h2, cv_snoc L r, rs_is hck L, ⟨cv_pos L, l1⟩, ⟨rs_pos r L, Int.le_trans l3 hs⟩, ⟨siz_pos hck, hs⟩, cv_pos _, l2⟩

set_option maxHeartbeats 6400000 in
theorem walk_RectArea (w : World) (A : Option Addr) (c : Nat) (L : List Rc) (ha : Rcs w A L) (hcap : L.length ≤ c) (hm : L.length ≤ 9223372036854775807) (r : Rc) :
    Calls Try.prog 7 #[.slice A L.length c, agQ r] w fun e w' => e = .returned (.bool true) ∧ Below w.heap.size w w' := by
  have HA := Lib.hid ha
  clear ha hcap
  by_cases hf : (40 : Int) < (L.length : Int)
  · skip
    go_enter Try.func7, Try.ntmps7
    go_upto_region 1 with fail
    obtain ⟨w1_, hw0⟩ : ∃ W, (w.alloc (.cells #[.int .i64 r.1, .int .i64 r.2.1, .int .i64 r.2.2.1, .int .i64 r.2.2.2] 23)) = W := ⟨_, rfl⟩
    have CR : Hid (Cel w1_ w.heap.size (cQ r)) := hw0 ▸ Cel.new w (cQ r) _
    have B1 : Hid (Below w.heap.size w w1_) := hw0 ▸ (below_alloc _ _)
    rw [hw0]
    clear hw0
    obtain ⟨r0, r1, r2, r3⟩ := cel4 CR.out
    go_wp2_with fail
    refine (law_awake w1_).mono ?_
    rintro e w2_ ⟨rfl, hb⟩
    have B2 := Lib.hid (bstep B1.out hb)
    replace CR := Lib.hid (CR.out.on hb)
    clear hb
    clear r0 r1 r2 r3
    obtain ⟨r0, r1, r2, r3⟩ := cel4 CR.out
    go_wp2_with fail
    go_ret
    exact ⟨rfl, B2.out⟩
  have hl : L.length ≤ 40 := by omega
  have HL := Lib.hid hl
  have HF := Lib.hid (area_fact (L := L) (r := r) hl)
  have HB1 := Lib.hid (rsE_bad (r := r) (L := L))
  have HB2 := Lib.hid (rsE_good (r := r) (L := L))
  have HZ := Lib.hid (ck_zo r)
  have HC := Lib.hid (clV_len r L)
  have K1 := Lib.hid fun (W : World) (h : Rcs W A L) => rect_Cover L A c W h hm
  have K2 := Lib.hid fun W => rect_Area r W
  have K3 := Lib.hid fun (W : World) (h : Rcs W A L) => rect_Rest L A c r W h hm
  have K4 := Lib.hid fun (W : World) (h : Rcs W A L) => rect_Clip L A c r W h hm
  have K5 := Lib.hid fun (A : Option Addr) (c n : Nat) (hn : n = (L ++ [r]).length) (W : World) (h : Rcs W A (L ++ [r])) => (show Calls Try.prog 20 #[.slice A n c] W fun e w' => e = .returned (.tuple #[.int .i64 (cvV (L ++ [r])), .int .i64 (lsE (L ++ [r]))]) ∧ Below W.heap.size W w' by subst hn; exact rect_Cover (L ++ [r]) A c W h (by simp; omega))
  have K6 := Lib.hid fun (A : Option Addr) (c : Nat) (W : World) (h : Rcs W A (clV r L)) => rect_Cover (clV r L) A c W h (by have := clV_len r L; omega)
  unfold LstR at K4
  obtain ⟨N, hN⟩ : ∃ x, cvV L = x := ⟨_, rfl⟩
  obtain ⟨E, hE⟩ : ∃ x, lsE L = x := ⟨_, rfl⟩
  obtain ⟨X, hX⟩ : ∃ x, arV r = x := ⟨_, rfl⟩
  obtain ⟨F, hF⟩ : ∃ x, ckE r = x := ⟨_, rfl⟩
  obtain ⟨R, hR⟩ : ∃ x, rsV r L = x := ⟨_, rfl⟩
  obtain ⟨G, hG⟩ : ∃ x, rsE r L = x := ⟨_, rfl⟩
  obtain ⟨T, hT⟩ : ∃ x, clV r L = x := ⟨_, rfl⟩
  have HT := Lib.hid hT
  rw [hN, hE, hX, hF, hR, hT] at HF
  rw [hG, hF] at HB1
  rw [hF, hG, hE] at HB2
  rw [hF] at HZ
  rw [hT] at HC
  rw [hN, hE] at K1
  rw [hX, hF] at K2
  rw [hR, hG] at K3
  rw [hT, hG] at K4
  rw [hT] at K6
  clear hN hE hX hF hR hG hT
  go_enter Try.func7, Try.ntmps7
  go_upto_region 1 with fail
  obtain ⟨w1_, hw0⟩ : ∃ W, (w.alloc (.cells #[.int .i64 r.1, .int .i64 r.2.1, .int .i64 r.2.2.1, .int .i64 r.2.2.2] 23)) = W := ⟨_, rfl⟩
  have CR : Hid (Cel w1_ w.heap.size (cQ r)) := hw0 ▸ Cel.new w (cQ r) _
  have B1 : Hid (Below w.heap.size w w1_) := hw0 ▸ (below_alloc _ _)
  rw [hw0]
  clear hw0
  obtain ⟨r0, r1, r2, r3⟩ := cel4 CR.out
  replace HA := Lib.hid (HA.out.on B1.out)
  go_wp2_with fail
  refine (K1.out w1_ HA.out).mono ?_
  rintro e w2_ ⟨rfl, hb⟩
  have B2 := Lib.hid (bstep B1.out hb)
  replace CR := Lib.hid (CR.out.on hb)
  replace HA := Lib.hid (HA.out.on hb)
  clear hb
  clear r0 r1 r2 r3
  obtain ⟨r0, r1, r2, r3⟩ := cel4 CR.out
  go_wp2_with fail
  refine (K2.out w2_).mono ?_
  rintro e w3_ ⟨rfl, hb⟩
  have B3 := Lib.hid (bstep B2.out hb)
  replace CR := Lib.hid (CR.out.on hb)
  replace HA := Lib.hid (HA.out.on hb)
  clear hb
  clear r0 r1 r2 r3
  obtain ⟨r0, r1, r2, r3⟩ := cel4 CR.out
  go_wp2_with fail
  refine (K3.out w3_ HA.out).mono ?_
  rintro e w4_ ⟨rfl, hb⟩
  have B4 := Lib.hid (bstep B3.out hb)
  replace CR := Lib.hid (CR.out.on hb)
  replace HA := Lib.hid (HA.out.on hb)
  clear hb
  clear r0 r1 r2 r3
  obtain ⟨r0, r1, r2, r3⟩ := cel4 CR.out
  go_wp2_with fail
  refine (K4.out w4_ HA.out).mono ?_
  rintro e w5_ ⟨A1, c1, rfl, -, hs, hb⟩
  have B5 := Lib.hid (bstep B4.out hb)
  replace CR := Lib.hid (CR.out.on hb)
  replace HA := Lib.hid (HA.out.on hb)
  have S1 := Lib.hid hs
  clear hs
  clear hb
  clear r0 r1 r2 r3
  obtain ⟨r0, r1, r2, r3⟩ := cel4 CR.out
  rcases HZ.out with rfl | rfl
  rotate_left
  · obtain rfl : G = 1 := HB1.out (by decide)
    go_wp2_with fail
    refine (law_awake w5_).mono ?_
    rintro e w6_ ⟨rfl, hb⟩
    have B6 := Lib.hid (bstep B5.out hb)
    replace CR := Lib.hid (CR.out.on hb)
    replace HA := Lib.hid (HA.out.on hb)
    replace S1 := Lib.hid (S1.out.on hb)
    clear hb
    clear r0 r1 r2 r3
    obtain ⟨r0, r1, r2, r3⟩ := cel4 CR.out
    go_wp2_with fail
    go_ret
    exact ⟨rfl, B6.out⟩
  obtain rfl : G = E := HB2.out rfl
  by_cases hz : G = 0
  rotate_left
  · obtain ⟨z1, z2⟩ := ne_tests hz
    go_wp2_with fail
    refine (law_awake w5_).mono ?_
    rintro e w6_ ⟨rfl, hb⟩
    have B6 := Lib.hid (bstep B5.out hb)
    replace CR := Lib.hid (CR.out.on hb)
    replace HA := Lib.hid (HA.out.on hb)
    replace S1 := Lib.hid (S1.out.on hb)
    clear hb
    clear r0 r1 r2 r3
    obtain ⟨r0, r1, r2, r3⟩ := cel4 CR.out
    go_wp2_with fail
    go_ret
    exact ⟨rfl, B6.out⟩
  subst hz
  obtain ⟨ec, l1, l2, q1, q2, ⟨n0, n1⟩, ⟨k0, k1⟩, ⟨x0, x1⟩, i0, i1⟩ := HF.out rfl rfl
  clear HF HB1 HB2 HT K1 K2 K3 K4
  subst ec
  rw [l1] at K5
  rw [l2] at K6
  obtain ⟨AL, hAL⟩ : ∃ x, cvV (L ++ [r]) = x := ⟨_, rfl⟩
  obtain ⟨IN, hIN⟩ : ∃ x, cvV (clp r L) = x := ⟨_, rfl⟩
  rw [hAL] at K5 q1
  rw [hIN] at K6 q2 i0 i1
  clear hAL hIN l1 l2
  subst q1 q2
  have k2 : IN ≤ X := by omega
  clear r0 r1 r2 r3
  obtain ⟨wA, hwA⟩ : ∃ W, W = w5_ := ⟨_, rfl⟩
  subst hwA
  obtain ⟨r0, r1, r2, r3⟩ := cel4 CR.out
  have HSl : Hid (0 + L.length ≤ 1000000) := Lib.hid (by omega)
  go_wp2_with (at_builtin; refine append_rows kdQ rfl (.tmp 74) (.tmp 75) rfl (.slice none 0 0) [] rfl (Row.nil cQ 4 TQ wA.heap.size wA) A L.length c L rfl rfl HA.out HSl.out (Nat.le_refl _) ?_; intro A2 n2 c2 w2 hn2 hr2 hg2 hat2; have HN2 := Lib.hid hn2; have HR2 := Lib.hid hr2; have HG2 := Lib.hid hg2; clear hn2 hr2 hg2 hat2; refine Hid.out ?_)
  have hb2 : Below wA.heap.size wA w2 := (Row.nil cQ 4 TQ wA.heap.size wA).below HG2.out (Nat.le_refl _)
  have HR2' : Hid (Row cQ 4 TQ wA.heap.size w2 (.slice A2 n2 c2) L) := HR2
  clear r0 r1 r2 r3
  obtain ⟨p0, p1, p2, p3⟩ := cel4 (CR.out.on hb2)
  have HBA := Lib.hid hb2
  have HW : Hid (wA.heap.size ≤ (w2.alloc (.cells #[.int .i64 r.1, .int .i64 r.2.1, .int .i64 r.2.2.1, .int .i64 r.2.2.2] 23)).heap.size) := Lib.hid (Nat.le_trans hb2.size (below_alloc _ _).size)
  have HLn : Hid (L.length + 1 ≤ 1000000) := Lib.hid (by omega)
  clear hb2
  refine Lib.hid ?_
  go_wp2_with (at_builtin; refine append_rows kdQ rfl (.tmp 77) (.tmp 79) rfl (.slice A2 n2 c2) L rfl (HR2'.out.on (below_alloc _ _)) (some ⟨w2.heap.size, 0, none⟩) 1 1 [r] rfl rfl (rd_one cQ_len (heap_alloc_new _ _)) HLn.out HW.out ?_; intro A3 n3 c3 w3 hn3 hr3 hg3 hat3; have HN3 := Lib.hid hn3; have HR3 := Lib.hid hr3; have HG3 := Lib.hid hg3; clear hn3 hr3 hg3 hat3; refine Hid.out ?_)
  have hb3 : Below wA.heap.size wA w3 := (HBA.out.trans ((below_alloc w2 _).mono HBA.out.size)).trans ((HR2'.out.on (below_alloc w2 (.cells #[.int .i64 r.1, .int .i64 r.2.1, .int .i64 r.2.2.1, .int .i64 r.2.2.2] 23))).below HG3.out HW.out)
  obtain ⟨A6, c6, e6, -, -, hrd6, -, -⟩ := HR3.out.one cQ_len
  obtain ⟨rfl, hn6, rfl⟩ := Value.slice.inj e6
  have S3 : Hid (Rcs w3 A3 (L ++ [r])) := Lib.hid hrd6
  have HN6 := Lib.hid hn6
  clear hrd6 hn6 e6 p0 p1 p2 p3
  have B6 := Lib.hid (bstep B5.out hb3)
  replace CR := Lib.hid (CR.out.on hb3)
  replace HA := Lib.hid (HA.out.on hb3)
  replace S1 := Lib.hid (S1.out.on hb3)
  clear hb3
  obtain ⟨r0, r1, r2, r3⟩ := cel4 CR.out
  refine Lib.hid ?_
  go_wp2_with fail
  refine (K5.out A3 c3 n3 HN6.out w3 S3.out).mono ?_
  rintro e w6_ ⟨rfl, hb⟩
  have B7 := Lib.hid (bstep B6.out hb)
  replace CR := Lib.hid (CR.out.on hb)
  replace HA := Lib.hid (HA.out.on hb)
  replace S1 := Lib.hid (S1.out.on hb)
  replace S3 := Lib.hid (S3.out.on hb)
  clear hb
  clear r0 r1 r2 r3
  obtain ⟨r0, r1, r2, r3⟩ := cel4 CR.out
  go_wp2_with fail
  refine (K6.out A1 c1 w6_ S1.out).mono ?_
  rintro e w7_ ⟨rfl, hb⟩
  have B8 := Lib.hid (bstep B7.out hb)
  replace CR := Lib.hid (CR.out.on hb)
  replace HA := Lib.hid (HA.out.on hb)
  replace S1 := Lib.hid (S1.out.on hb)
  replace S3 := Lib.hid (S3.out.on hb)
  clear hb
  clear r0 r1 r2 r3
  obtain ⟨r0, r1, r2, r3⟩ := cel4 CR.out
  go_wp2_with fail
  refine (law_awake w7_).mono ?_
  rintro e w8_ ⟨rfl, hb⟩
  have B9 := Lib.hid (bstep B8.out hb)
  replace CR := Lib.hid (CR.out.on hb)
  replace HA := Lib.hid (HA.out.on hb)
  replace S1 := Lib.hid (S1.out.on hb)
  replace S3 := Lib.hid (S3.out.on hb)
  clear hb
  clear r0 r1 r2 r3
  obtain ⟨r0, r1, r2, r3⟩ := cel4 CR.out
  go_wp2_with fail
  go_ret
  exact ⟨rfl, B9.out⟩
#print axioms walk_RectArea
end Go.Proofs.Ytccbnobpighckaa.Rect
