/- RectCovers, RectClips, RectSides -/
import Derived.Test.YtccbnobpighckaaRectQ
import Derived.Test.YtccbnobpighckaaRectV
namespace Go.Proofs.Ytccbnobpighckaa.Rect
open Go.ChangeShapes Go.WideShapes Go.RowKit Go.Lib Go.Proofs.Ytccbnobpighckaa.Rw
open Go.Proofs.Ytccbnobpighckaa.Span (hasB hasB_iff IsNf Nrm Sps inS inS_iff)
set_option linter.unusedVariables false
set_option maxRecDepth 100000

theorem clV_len (r : Rc) (L : List Rc) : (clV r L).length ≤ L.length := by
  unfold clV
  split
  · exact clp_len r L
  · simp

set_option maxHeartbeats 6400000 in
theorem walk_RectCovers (w : World) (A : Option Addr) (c : Nat) (L : List Rc) (ha : Rcs w A L) (hcap : L.length ≤ c) (hm : L.length ≤ 9223372036854775807) (r : Rc) :
    Calls Try.prog 4 #[.slice A L.length c, agQ r] w fun e w' => e = .returned (.bool true) ∧ Below w.heap.size w w' := by
  have HA := Lib.hid ha
  have HCap := Lib.hid hcap
  clear ha hcap
  obtain ⟨V, hV⟩ : ∃ x, cvV L = x := ⟨_, rfl⟩
  obtain ⟨E, hE⟩ : ∃ x, lsE L = x := ⟨_, rfl⟩
  obtain ⟨V2, hV2⟩ : ∃ x, rsV r L = x := ⟨_, rfl⟩
  obtain ⟨E2, hE2⟩ : ∃ x, rsE r L = x := ⟨_, rfl⟩
  have K1 := Lib.hid fun (W : World) (h : Rcs W A L) => rect_Cover L A c W h hm
  have K2 := Lib.hid fun (W : World) (h : Rcs W A L) => rr_Cover L A c W h hm
  have K3 := Lib.hid fun (W : World) (h : Rcs W A L) => rect_Rest L A c r W h hm
  have K4 := Lib.hid fun (W : World) (h : Rcs W A L) => rr_Rest L A c r W h hm
  rw [hV, hE] at K1 K2
  rw [hV2, hE2] at K3 K4
  clear hV hE hV2 hE2
  by_cases hf : (70 : Int) < (L.length : Int)
  · have hfd := Lib.hid hf
    go_enter Try.func4, Try.ntmps4
    go_upto_region 1 with fail
    obtain ⟨w1_, hw0⟩ : ∃ W, (w.alloc (.cells #[.int .i64 r.1, .int .i64 r.2.1, .int .i64 r.2.2.1, .int .i64 r.2.2.2] 23)) = W := ⟨_, rfl⟩
    have CR : Hid (Cel w1_ w.heap.size (cQ r)) := hw0 ▸ Cel.new w (cQ r) _
    have B1 : Hid (Below w.heap.size w w1_) := hw0 ▸ (below_alloc _ _)
    rw [hw0]
    clear hw0
    obtain ⟨r0, r1, r2, r3⟩ := cel4 CR.out
    go_wp2_with fail
    refine (law_awake w1_).mono ?_
    rintro e w2_ ⟨rfl, hb⟩
    have B2 := Lib.hid (bstep B1.out hb)
    replace CR := Lib.hid (CR.out.on hb)
    clear hb
    clear r0 r1 r2 r3
    obtain ⟨r0, r1, r2, r3⟩ := cel4 CR.out
    go_wp2_with fail
    go_ret
    exact ⟨rfl, B2.out⟩
  go_enter Try.func4, Try.ntmps4
  go_upto_region 1 with fail
  obtain ⟨w1_, hw0⟩ : ∃ W, (w.alloc (.cells #[.int .i64 r.1, .int .i64 r.2.1, .int .i64 r.2.2.1, .int .i64 r.2.2.2] 23)) = W := ⟨_, rfl⟩
  have CR : Hid (Cel w1_ w.heap.size (cQ r)) := hw0 ▸ Cel.new w (cQ r) _
  have B1 : Hid (Below w.heap.size w w1_) := hw0 ▸ (below_alloc _ _)
  rw [hw0]
  clear hw0
  obtain ⟨r0, r1, r2, r3⟩ := cel4 CR.out
  replace HA := Lib.hid (HA.out.on B1.out)
  go_wp2_with fail
  refine (K1.out w1_ HA.out).mono ?_
  rintro e w2_ ⟨rfl, hb⟩
  have B2 := Lib.hid (bstep B1.out hb)
  replace CR := Lib.hid (CR.out.on hb)
  replace HA := Lib.hid (HA.out.on hb)
  clear hb
  clear r0 r1 r2 r3
  obtain ⟨r0, r1, r2, r3⟩ := cel4 CR.out
  go_wp2_with fail
  refine (K2.out w2_ HA.out).mono ?_
  rintro e w3_ ⟨rfl, hb⟩
  have B3 := Lib.hid (bstep B2.out hb)
  replace CR := Lib.hid (CR.out.on hb)
  replace HA := Lib.hid (HA.out.on hb)
  clear hb
  clear r0 r1 r2 r3
  obtain ⟨r0, r1, r2, r3⟩ := cel4 CR.out
  go_wp2_with fail
  refine (K3.out w3_ HA.out).mono ?_
  rintro e w4_ ⟨rfl, hb⟩
  have B4 := Lib.hid (bstep B3.out hb)
  replace CR := Lib.hid (CR.out.on hb)
  replace HA := Lib.hid (HA.out.on hb)
  clear hb
  clear r0 r1 r2 r3
  obtain ⟨r0, r1, r2, r3⟩ := cel4 CR.out
  go_wp2_with fail
  refine (K4.out w4_ HA.out).mono ?_
  rintro e w5_ ⟨rfl, hb⟩
  have B5 := Lib.hid (bstep B4.out hb)
  replace CR := Lib.hid (CR.out.on hb)
  replace HA := Lib.hid (HA.out.on hb)
  clear hb
  clear r0 r1 r2 r3
  obtain ⟨r0, r1, r2, r3⟩ := cel4 CR.out
  go_wp2_with fail
  refine (law_awake w5_).mono ?_
  rintro e w6_ ⟨rfl, hb⟩
  have B6 := Lib.hid (bstep B5.out hb)
  replace CR := Lib.hid (CR.out.on hb)
  replace HA := Lib.hid (HA.out.on hb)
  clear hb
  clear r0 r1 r2 r3
  obtain ⟨r0, r1, r2, r3⟩ := cel4 CR.out
  go_wp2_with fail
  go_ret
  exact ⟨rfl, B6.out⟩

set_option maxHeartbeats 6400000 in
theorem walk_RectClips (w : World) (A : Option Addr) (c : Nat) (L : List Rc) (ha : Rcs w A L) (hcap : L.length ≤ c) (hm : L.length ≤ 9223372036854775807) (r : Rc) :
    Calls Try.prog 5 #[.slice A L.length c, agQ r] w fun e w' => e = .returned (.bool true) ∧ Below w.heap.size w w' := by
  have HA := Lib.hid ha
  have HCap := Lib.hid hcap
  clear ha hcap
  obtain ⟨V, hV⟩ : ∃ x, clV r L = x := ⟨_, rfl⟩
  obtain ⟨E, hE⟩ : ∃ x, rsE r L = x := ⟨_, rfl⟩
  have K1 := Lib.hid fun (W : World) (h : Rcs W A L) => rect_Clip L A c r W h hm
  have K2 := Lib.hid fun (W : World) (h : Rcs W A L) => rr_Clip L A c r W h hm
  have HV : V.length ≤ L.length := by rw [← hV]; exact clV_len r L
  unfold LstR at K1 K2
  rw [hV, hE] at K1 K2
  clear hV hE
  by_cases hf : (70 : Int) < (L.length : Int)
  · have hfd := Lib.hid hf
    go_enter Try.func5, Try.ntmps5
    go_upto_region 1 with fail
    obtain ⟨w1_, hw0⟩ : ∃ W, (w.alloc (.cells #[.int .i64 r.1, .int .i64 r.2.1, .int .i64 r.2.2.1, .int .i64 r.2.2.2] 23)) = W := ⟨_, rfl⟩
    have CR : Hid (Cel w1_ w.heap.size (cQ r)) := hw0 ▸ Cel.new w (cQ r) _
    have B1 : Hid (Below w.heap.size w w1_) := hw0 ▸ (below_alloc _ _)
    rw [hw0]
    clear hw0
    obtain ⟨r0, r1, r2, r3⟩ := cel4 CR.out
    go_wp2_with fail
    refine (law_awake w1_).mono ?_
    rintro e w2_ ⟨rfl, hb⟩
    have B2 := Lib.hid (bstep B1.out hb)
    replace CR := Lib.hid (CR.out.on hb)
    clear hb
    clear r0 r1 r2 r3
    obtain ⟨r0, r1, r2, r3⟩ := cel4 CR.out
    go_wp2_with fail
    go_ret
    exact ⟨rfl, B2.out⟩
  go_enter Try.func5, Try.ntmps5
  go_upto_region 1 with fail
  obtain ⟨w1_, hw0⟩ : ∃ W, (w.alloc (.cells #[.int .i64 r.1, .int .i64 r.2.1, .int .i64 r.2.2.1, .int .i64 r.2.2.2] 23)) = W := ⟨_, rfl⟩
  have CR : Hid (Cel w1_ w.heap.size (cQ r)) := hw0 ▸ Cel.new w (cQ r) _
  have B1 : Hid (Below w.heap.size w w1_) := hw0 ▸ (below_alloc _ _)
  rw [hw0]
  clear hw0
  obtain ⟨r0, r1, r2, r3⟩ := cel4 CR.out
  replace HA := Lib.hid (HA.out.on B1.out)
  go_wp2_with fail
  refine (K1.out w1_ HA.out).mono ?_
  rintro e w2_ ⟨A1, c1, rfl, -, hs, hb⟩
  have B2 := Lib.hid (bstep B1.out hb)
  replace CR := Lib.hid (CR.out.on hb)
  replace HA := Lib.hid (HA.out.on hb)
  have S1 := Lib.hid hs
  clear hs
  clear hb
  clear r0 r1 r2 r3
  obtain ⟨r0, r1, r2, r3⟩ := cel4 CR.out
  go_wp2_with fail
  refine (K2.out w2_ HA.out).mono ?_
  rintro e w3_ ⟨A2, c2, rfl, -, hs, hb⟩
  have B3 := Lib.hid (bstep B2.out hb)
  replace CR := Lib.hid (CR.out.on hb)
  replace HA := Lib.hid (HA.out.on hb)
  replace S1 := Lib.hid (S1.out.on hb)
  have S2 := Lib.hid hs
  clear hs
  clear hb
  clear r0 r1 r2 r3
  obtain ⟨r0, r1, r2, r3⟩ := cel4 CR.out
  go_wp2_with fail
  refine (rr_Same V V A1 A2 c1 c2 _ _ rfl rfl w3_ S1.out S2.out (by omega) (by omega)).mono ?_
  rintro e w4_ ⟨rfl, hb⟩
  have B4 := Lib.hid (bstep B3.out hb)
  replace CR := Lib.hid (CR.out.on hb)
  replace HA := Lib.hid (HA.out.on hb)
  replace S1 := Lib.hid (S1.out.on hb)
  replace S2 := Lib.hid (S2.out.on hb)
  rw [decide_eq_true (rfl : V = V)]
  clear hb
  clear r0 r1 r2 r3
  obtain ⟨r0, r1, r2, r3⟩ := cel4 CR.out
  go_wp2_with fail
  refine (law_awake w4_).mono ?_
  rintro e w5_ ⟨rfl, hb⟩
  have B5 := Lib.hid (bstep B4.out hb)
  replace CR := Lib.hid (CR.out.on hb)
  replace HA := Lib.hid (HA.out.on hb)
  replace S1 := Lib.hid (S1.out.on hb)
  replace S2 := Lib.hid (S2.out.on hb)
  clear hb
  clear r0 r1 r2 r3
  obtain ⟨r0, r1, r2, r3⟩ := cel4 CR.out
  go_wp2_with fail
  go_ret
  exact ⟨rfl, B5.out⟩

set_option maxHeartbeats 6400000 in
theorem walk_RectSides (w : World) (A : Option Addr) (c : Nat) (L : List Rc) (ha : Rcs w A L) (hcap : L.length ≤ c) (hm : L.length ≤ 9223372036854775807) :
    Calls Try.prog 6 #[.slice A L.length c] w fun e w' => e = .returned (.bool true) ∧ Below w.heap.size w w' := by
  have HA := Lib.hid ha
  have HCap := Lib.hid hcap
  clear ha hcap
  obtain ⟨E, hE⟩ : ∃ x, lsE L = x := ⟨_, rfl⟩
  obtain ⟨D, hD⟩ : ∃ x, dis L = x := ⟨_, rfl⟩
  have K1 := Lib.hid fun (W : World) (h : Rcs W A L) => rect_Along L A c W h hm
  have K2 := Lib.hid fun (W : World) (h : Rcs W A L) => rr_Along L A c W h hm
  have K3 := Lib.hid fun (W : World) (h : Rcs W A L) => rect_Across L A c W h hm
  have K4 := Lib.hid fun (W : World) (h : Rcs W A L) => rr_Across L A c W h hm
  have K5 := Lib.hid fun (W : World) (h : Rcs W A L) (hl : L.length ≤ 1000000) => rect_Disjoint L A c _ rfl W h hl
  have K6 := Lib.hid fun (W : World) (h : Rcs W A L) => rr_Disjoint L A c _ rfl W h hm
  unfold SetQ at K1 K2 K3 K4
  rw [hE] at K1 K2 K3 K4
  rw [hD] at K5 K6
  clear hE hD
  by_cases hf : (70 : Int) < (L.length : Int)
  · have hfd := Lib.hid hf
    go_enter Try.func6, Try.ntmps6
    go_wp2_with fail
    refine (law_awake w).mono ?_
    rintro e w1_ ⟨rfl, hb⟩
    have B1 := Lib.hid hb
    clear hb
    go_wp2_with fail
    go_ret
    exact ⟨rfl, B1.out⟩
  go_enter Try.func6, Try.ntmps6
  go_wp2_with fail
  refine (K1.out w HA.out).mono ?_
  rintro e w1_ ⟨M1, A1, c1, rfl, hl, hs, hn, hz, hb⟩
  have B1 := Lib.hid hb
  replace HA := Lib.hid (HA.out.on hb)
  have S1 := Lib.hid hs
  have N1 := Lib.hid (And.intro hl (And.intro hn hz))
  clear hs hl hn hz
  clear hb
  go_wp2_with fail
  refine (K2.out w1_ HA.out).mono ?_
  rintro e w2_ ⟨M2, A2, c2, rfl, hl, hs, hn, hz, hb⟩
  have B2 := Lib.hid (bstep B1.out hb)
  replace HA := Lib.hid (HA.out.on hb)
  replace S1 := Lib.hid (sps_on S1.out hb)
  have S2 := Lib.hid hs
  have N2 := Lib.hid (And.intro hl (And.intro hn hz))
  clear hs hl hn hz
  clear hb
  go_wp2_with fail
  refine (K3.out w2_ HA.out).mono ?_
  rintro e w3_ ⟨M3, A3, c3, rfl, hl, hs, hn, hz, hb⟩
  have B3 := Lib.hid (bstep B2.out hb)
  replace HA := Lib.hid (HA.out.on hb)
  replace S1 := Lib.hid (sps_on S1.out hb)
  replace S2 := Lib.hid (sps_on S2.out hb)
  have S3 := Lib.hid hs
  have N3 := Lib.hid (And.intro hl (And.intro hn hz))
  clear hs hl hn hz
  clear hb
  go_wp2_with fail
  refine (K4.out w3_ HA.out).mono ?_
  rintro e w4_ ⟨M4, A4, c4, rfl, hl, hs, hn, hz, hb⟩
  have B4 := Lib.hid (bstep B3.out hb)
  replace HA := Lib.hid (HA.out.on hb)
  replace S1 := Lib.hid (sps_on S1.out hb)
  replace S2 := Lib.hid (sps_on S2.out hb)
  replace S3 := Lib.hid (sps_on S3.out hb)
  have S4 := Lib.hid hs
  have N4 := Lib.hid (And.intro hl (And.intro hn hz))
  clear hs hl hn hz
  clear hb
  have e12 : M1 = M2 := by
    by_cases h : E = 0
    · exact (N1.out.2.1 h).one (N2.out.2.1 h)
    · rw [N1.out.2.2 h, N2.out.2.2 h]
  have e34 : M3 = M4 := by
    by_cases h : E = 0
    · exact (N3.out.2.1 h).one (N4.out.2.1 h)
    · rw [N3.out.2.2 h, N4.out.2.2 h]
  subst e12 e34
  have l1 := N1.out.1
  have l3 := N3.out.1
  go_wp2_with fail
  refine (rr_Spans M1 M1 A1 A2 c1 c2 _ _ rfl rfl w4_ S1.out S2.out (by omega) (by omega)).mono ?_
  rintro e w5_ ⟨rfl, hb⟩
  have B5 := Lib.hid (bstep B4.out hb)
  replace HA := Lib.hid (HA.out.on hb)
  replace S1 := Lib.hid (sps_on S1.out hb)
  replace S2 := Lib.hid (sps_on S2.out hb)
  replace S3 := Lib.hid (sps_on S3.out hb)
  replace S4 := Lib.hid (sps_on S4.out hb)
  rw [decide_eq_true (rfl : M1 = M1)]
  clear hb
  go_wp2_with fail
  refine (rr_Spans M3 M3 A3 A4 c3 c4 _ _ rfl rfl w5_ S3.out S4.out (by omega) (by omega)).mono ?_
  rintro e w6_ ⟨rfl, hb⟩
  have B6 := Lib.hid (bstep B5.out hb)
  replace HA := Lib.hid (HA.out.on hb)
  replace S1 := Lib.hid (sps_on S1.out hb)
  replace S2 := Lib.hid (sps_on S2.out hb)
  replace S3 := Lib.hid (sps_on S3.out hb)
  replace S4 := Lib.hid (sps_on S4.out hb)
  rw [decide_eq_true (rfl : M3 = M3)]
  clear hb
  go_wp2_with fail
  refine (K5.out w6_ HA.out (by omega)).mono ?_
  rintro e w7_ ⟨rfl, hb⟩
  have B7 := Lib.hid (bstep B6.out hb)
  replace HA := Lib.hid (HA.out.on hb)
  replace S1 := Lib.hid (sps_on S1.out hb)
  replace S2 := Lib.hid (sps_on S2.out hb)
  replace S3 := Lib.hid (sps_on S3.out hb)
  replace S4 := Lib.hid (sps_on S4.out hb)
  clear hb
  go_wp2_with fail
  refine (K6.out w7_ HA.out).mono ?_
  rintro e w8_ ⟨rfl, hb⟩
  have B8 := Lib.hid (bstep B7.out hb)
  replace HA := Lib.hid (HA.out.on hb)
  replace S1 := Lib.hid (sps_on S1.out hb)
  replace S2 := Lib.hid (sps_on S2.out hb)
  replace S3 := Lib.hid (sps_on S3.out hb)
  replace S4 := Lib.hid (sps_on S4.out hb)
  clear hb
  go_wp2_with fail
  refine (law_awake w8_).mono ?_
  rintro e w9_ ⟨rfl, hb⟩
  have B9 := Lib.hid (bstep B8.out hb)
  replace HA := Lib.hid (HA.out.on hb)
  replace S1 := Lib.hid (sps_on S1.out hb)
  replace S2 := Lib.hid (sps_on S2.out hb)
  replace S3 := Lib.hid (sps_on S3.out hb)
  replace S4 := Lib.hid (sps_on S4.out hb)
  clear hb
  go_wp2_with fail
  go_ret
  exact ⟨rfl, B9.out⟩
#print axioms walk_RectCovers
#print axioms walk_RectClips
#print axioms walk_RectSides
end Go.Proofs.Ytccbnobpighckaa.Rect
