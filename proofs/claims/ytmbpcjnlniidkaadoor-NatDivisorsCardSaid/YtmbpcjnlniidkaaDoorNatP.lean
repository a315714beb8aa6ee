/- The contract of 'awake'. -/
import Derived.Test.YtmbpcjnlniidkaaDoorNatO
namespace Go.Proofs.YtmbpcjnlniidkaaDoor
open Go.ChangeShapes Go.WideShapes Go.RowKit
set_option linter.unusedVariables false

theorem bstep {w0 w1 w2 : World} (h : Below w0.heap.size w0 w1) (k : Below w1.heap.size w1 w2) : Below w0.heap.size w0 w2 := h.trans (k.mono h.size)
theorem balloc {w0 w1 : World} (h : Below w0.heap.size w0 w1) (o : Obj) : Below w0.heap.size w0 (w1.alloc o) := h.alloc h.size _
theorem In.alloc {w : World} {v : Value} {zs : List Int} (h : In w v zs) (o : Obj) : In (w.alloc o) v zs := h.below (below_alloc _ _) (Nat.le_refl _)
theorem In.on {w w' : World} {v : Value} {zs : List Int} (h : In w v zs) (hb : Below w.heap.size w w') : In w' v zs := h.below hb (Nat.le_refl _)
theorem in_one (w : World) (t : TypeId) (x : Int) : In (w.alloc (.cells #[.int .i64 x] t)) (.slice (some ⟨w.heap.size, 0, none⟩) 1 1) [x] := in_built w t [x] (by simp)
theorem in_two (w : World) (t : TypeId) (x y : Int) : In (w.alloc (.cells #[.int .i64 x, .int .i64 y] t)) (.slice (some ⟨w.heap.size, 0, none⟩) 2 2) [x, y] := in_built w t [x, y] (by simp)

theorem aw_Of (w : World) : Calls Tryd.prog 14 #[.int .i64 1000000007] w fun e w' => ∃ v, e = .returned (.tuple #[v, .int .i64 0]) ∧ In w' v [7, 1] ∧ Below w.heap.size w w' := by
  refine (nat_Of 1000000007 w (by omega) (by omega)).mono ?_
  rintro e w1 ⟨va, rfl, hsa, hb1⟩
  rw [aw1] at hsa
  exact ⟨va, rfl, hsa.toIn, hb1⟩
theorem aw_Mul (w : World) (va : Value) (h : In w va [7, 1]) : Calls Tryd.prog 31 #[va, .slice (some ⟨w.heap.size, 0, none⟩) 1 1] (w.alloc (.cells #[.int .i64 3] 3)) fun e w' => ∃ v, e = .returned (.tuple #[v, .int .i64 0]) ∧ In w' v [21, 3] ∧ Below w.heap.size w w' := by
  refine (nat_Mul [7, 1] [3] _ _ _ (h.alloc _) (in_one _ _ 3)).mono ?_
  rintro e w2 ⟨vb, rfl, hsb, hb2⟩
  rw [aw2, aw2'] at hsb
  rw [aw3]
  exact ⟨vb, rfl, hsb.toIn, bstep (below_alloc _ _) hb2⟩
theorem nrm1 : nrm [21, 3] = true := by decide +kernel
theorem nrm2 : nrm [4] = true := by decide +kernel
theorem nrm3 : nrm [12] = true := by decide +kernel
theorem nrm4 : nrm [18] = true := by decide +kernel
theorem aw_DivMod (w : World) (va : Value) (h : In w va [21, 3]) : Calls Tryd.prog 33 #[va, .slice (some ⟨w.heap.size, 0, none⟩) 1 1] (w.alloc (.cells #[.int .i64 4] 3)) fun e w' => ∃ vq vr, e = .returned (.tuple #[vq, vr, .int .i64 0]) ∧ In w' vq [750000005] ∧ In w' vr [1] ∧ Below w.heap.size w w' := by
  refine (DivMod_of [21, 3] [4] _ _ _ (h.alloc _) (in_one _ _ 4) (fun _ _ _ => divide_short [21, 3] [4] _ _ _ (h.alloc _) (in_one _ _ 4) nrm1 nrm2 (by simp) (by simp))).mono ?_
  rintro e w3 ⟨vq, vr, rfl, hq, hr, hb3⟩
  rw [aw4, aw4'] at hq
  rw [aw5, aw5'] at hr
  rw [aw6]
  exact ⟨vq, vr, rfl, hq.toIn, hr.toIn, bstep (below_alloc _ _) hb3⟩
theorem aw_Gcd (w : World) : Calls Tryd.prog 35 #[.slice (some ⟨w.heap.size, 0, none⟩) 1 1, .slice (some ⟨w.heap.size + 1, 0, none⟩) 1 1] ((w.alloc (.cells #[.int .i64 12] 3)).alloc (.cells #[.int .i64 18] 3)) fun e w' => ∃ v, e = .returned (.tuple #[v, .int .i64 0]) ∧ In w' v [6] ∧ Below w.heap.size w w' := by
  have hi1 := (in_one w 3 12).alloc (.cells #[.int .i64 18] 3)
  have hi2 := in_one (w.alloc (.cells #[.int .i64 12] 3)) 3 18
  have hs : (w.alloc (.cells #[.int .i64 12] 3)).heap.size = w.heap.size + 1 := by simp
  rw [hs] at hi2
  refine (Gcd_of [12] [18] _ _ _ hi1 hi2 (fun _ _ => gcd_short [12] [18] _ _ _ hi1 hi2 nrm3 nrm4 (by simp) (by simp) (fun _ => divide_short [12] [18] _ _ _ hi1 hi2 nrm3 nrm4 (by simp) (by simp)))).mono ?_
  rintro e w4 ⟨vg, rfl, hg, hb4⟩
  rw [aw7, aw7'] at hg
  rw [aw8]
  exact ⟨vg, rfl, hg.toIn, bstep (balloc (below_alloc _ _) _) hb4⟩
theorem aw_Text (w : World) (va : Value) (h : In w va [21, 3]) (ht : Tab w) : Calls Tryd.prog 18 #[va] w fun e w' => e = .returned (.tuple #[.string ⟨#[51, 48, 48, 48, 48, 48, 48, 48, 50, 49]⟩, .int .i64 0]) ∧ Below w.heap.size w w' := by
  refine (nat_Text [21, 3] _ _ h ht).mono ?_
  rintro e w5 ⟨rfl, hb5⟩
  rw [aw9, aw10]
  exact ⟨rfl, hb5⟩
theorem aw_Parse (w : World) : Calls Tryd.prog 20 #[.string ⟨#[48, 48, 55]⟩] w fun e w' => ∃ v, e = .returned (.tuple #[v, .int .i64 3]) ∧ Below w.heap.size w w' := by
  refine (nat_Parse ⟨#[48, 48, 55]⟩ _ (by decide)).mono ?_
  rintro e w6 ⟨vp, rfl, hp, hb6⟩
  exact ⟨vp, by rw [show parE (ByteArray.mk #[48, 48, 55]).data.toList = 3 from aw12], hb6⟩
theorem aw_Same1 (w : World) (va : Value) (x : Int) (h : In w va [x]) : Calls Tryd.prog 24 #[va, .slice (some ⟨w.heap.size, 0, none⟩) 1 1] (w.alloc (.cells #[.int .i64 x] 3)) fun e w' => e = .returned (.bool true) ∧ Below w.heap.size w w' := by
  refine (same_in [x] [x] _ _ _ (h.alloc _) (in_one _ _ x)).mono ?_
  rintro e w1 ⟨rfl, hb⟩
  exact ⟨by rw [decide_eq_true rfl], bstep (below_alloc _ _) hb⟩
theorem aw_Same2 (w : World) (va : Value) (x y : Int) (h : In w va [x, y]) : Calls Tryd.prog 24 #[va, .slice (some ⟨w.heap.size, 0, none⟩) 2 2] (w.alloc (.cells #[.int .i64 x, .int .i64 y] 3)) fun e w' => e = .returned (.bool true) ∧ Below w.heap.size w w' := by
  refine (same_in [x, y] [x, y] _ _ _ (h.alloc _) (in_two _ _ x y)).mono ?_
  rintro e w1 ⟨rfl, hb⟩
  exact ⟨by rw [decide_eq_true rfl], bstep (below_alloc _ _) hb⟩

set_option maxRecDepth 100000 in
set_option maxHeartbeats 3200000 in
theorem awake_true (w : World) (ht : Tab w) :
    Calls Tryd.prog 13 #[] w fun e w' => e = .returned (.bool true) ∧ Below w.heap.size w w' := by
  have HT := Lib.hid ht
  clear ht
  go_enter Tryd.func13, Tryd.ntmps13
  go_wp2_with fail
  refine (aw_Of w).mono ?_
  rintro e w1 ⟨va, rfl, hsa, hb1⟩
  have HA := Lib.hid hsa
  have HB1 := Lib.hid hb1
  clear hsa hb1
  go_wp2_with fail
  refine (aw_Mul w1 va HA.out).mono ?_
  rintro e w2 ⟨vb, rfl, hsb, hb2⟩
  have HB := Lib.hid hsb
  have HB2 := Lib.hid (bstep HB1.out hb2)
  clear hsb hb2
  go_wp2_with fail
  refine (aw_DivMod w2 vb HB.out).mono ?_
  rintro e w3 ⟨vq, vr, rfl, hq, hr, hb3⟩
  have HBB := Lib.hid (HB.out.on hb3)
  have HQ := Lib.hid hq
  have HR := Lib.hid hr
  have HB3 := Lib.hid (bstep HB2.out hb3)
  clear hq hr hb3
  go_wp2_with fail
  refine (aw_Gcd w3).mono ?_
  rintro e w4 ⟨vg, rfl, hg, hb4⟩
  have HG := Lib.hid hg
  have HB' := Lib.hid (HBB.out.on hb4)
  have HQ' := Lib.hid (HQ.out.on hb4)
  have HR' := Lib.hid (HR.out.on hb4)
  have HB4 := Lib.hid (bstep HB3.out hb4)
  clear hg hb4
  go_wp2_with fail
  refine (aw_Text w4 vb HB'.out (HT.out.on HB4.out)).mono ?_
  rintro e w5 ⟨rfl, hb5⟩
  have HB5 := Lib.hid hb5
  clear hb5
  go_wp2_with fail
  refine (aw_Parse w5).mono ?_
  rintro e w6 ⟨vp, rfl, hb6⟩
  have hb46 := bstep HB5.out hb6
  have I1 := Lib.hid (HB'.out.on hb46)
  have I2 := Lib.hid (HQ'.out.on hb46)
  have I3 := Lib.hid (HR'.out.on hb46)
  have I4 := Lib.hid (HG.out.on hb46)
  have HB6 := Lib.hid (bstep HB4.out hb46)
  clear hb6 hb46
  go_wp2_with fail
  refine (aw_Same2 w6 vb 21 3 I1.out).mono ?_
  rintro e w7 ⟨rfl, hb7⟩
  have J2 := Lib.hid (I2.out.on hb7)
  have J3 := Lib.hid (I3.out.on hb7)
  have J4 := Lib.hid (I4.out.on hb7)
  have HB7 := Lib.hid (bstep HB6.out hb7)
  clear hb7
  go_wp2_with fail
  refine (aw_Same1 w7 vq 750000005 J2.out).mono ?_
  rintro e w8 ⟨rfl, hb8⟩
  have K3 := Lib.hid (J3.out.on hb8)
  have K4 := Lib.hid (J4.out.on hb8)
  have HB8 := Lib.hid (bstep HB7.out hb8)
  clear hb8
  go_wp2_with fail
  refine (aw_Same1 w8 vr 1 K3.out).mono ?_
  rintro e w9 ⟨rfl, hb9⟩
  have L4 := Lib.hid (K4.out.on hb9)
  have HB9 := Lib.hid (bstep HB8.out hb9)
  clear hb9
  go_wp2_with fail
  refine (aw_Same1 w9 vg 6 L4.out).mono ?_
  rintro e w10 ⟨rfl, hb10⟩
  have HB10 := Lib.hid (bstep HB9.out hb10)
  clear hb10
  go_wp2_with fail
  go_ret
  exact ⟨rfl, HB10.out⟩
#print axioms awake_true
end Go.Proofs.YtmbpcjnlniidkaaDoor
