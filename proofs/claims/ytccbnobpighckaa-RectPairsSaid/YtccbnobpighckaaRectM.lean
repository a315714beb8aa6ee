/- RectPairs -/
import Derived.Test.YtccbnobpighckaaRectQ
import Derived.Test.YtccbnobpighckaaRectV
namespace Go.Proofs.Ytccbnobpighckaa.Rect
open Go.ChangeShapes Go.WideShapes Go.RowKit Go.Lib Go.Proofs.Ytccbnobpighckaa.Rw
open Go.Proofs.Ytccbnobpighckaa.Span (hasB hasB_iff IsNf Nrm Sps inS inS_iff)
set_option linter.unusedVariables false
set_option maxRecDepth 100000

set_option maxHeartbeats 6400000 in
theorem walk_RectPairs (w : World) (a b : Rc) :
    Calls Try.prog 3 #[agQ a, agQ b] w fun e w' => e = .returned (.bool true) ∧ Below w.heap.size w w' := by
  obtain ⟨AV, hAV⟩ : ∃ x, arV a = x := ⟨_, rfl⟩
  obtain ⟨E, hE⟩ : ∃ x, ckE a = x := ⟨_, rfl⟩
  obtain ⟨CV, hCV⟩ : ∃ x, comV a b = x := ⟨_, rfl⟩
  obtain ⟨CB, hCB⟩ : ∃ x, comB a b = x := ⟨_, rfl⟩
  obtain ⟨WI, hWI⟩ : ∃ x, wiB a b = x := ⟨_, rfl⟩
  have K1 := Lib.hid fun W => rect_Area a W
  have K2 := Lib.hid fun W => rr_Area a W
  have K3 := Lib.hid fun W => rect_Common a b W
  have K4 := Lib.hid fun W => rr_Common a b W
  have K5 := Lib.hid fun W => rect_Check a W
  have K6 := Lib.hid fun W => rr_Check a W
  have K7 := Lib.hid fun W => rect_Within a b W
  have K8 := Lib.hid fun W => rr_Within a b W
  unfold ComP at K3 K4
  rw [hAV, hE] at K1 K2
  rw [hCV, hCB] at K3 K4
  rw [hE] at K5 K6
  rw [hWI] at K7 K8
  clear hAV hE hCV hCB hWI
  go_enter Try.func3, Try.ntmps3
  go_upto_region 1 with fail
  obtain ⟨w1_, hw0⟩ : ∃ W, ((w.alloc (.cells #[.int .i64 a.1, .int .i64 a.2.1, .int .i64 a.2.2.1, .int .i64 a.2.2.2] 23)).alloc (.cells #[.int .i64 b.1, .int .i64 b.2.1, .int .i64 b.2.2.1, .int .i64 b.2.2.2] 23)) = W := ⟨_, rfl⟩
  have CA : Hid (Cel w1_ w.heap.size (cQ a)) := hw0 ▸ (Cel.new w (cQ a) _).alloc _
  have CB' : Hid (Cel w1_ (w.heap.size + 1) (cQ b)) := hw0 ▸ Cel.new_at _ (cQ b) _ (by simp)
  have B1 : Hid (Below w.heap.size w w1_) := hw0 ▸ (bstep (below_alloc _ _) (below_alloc _ _))
  rw [hw0]
  clear hw0
  obtain ⟨a0, a1, a2, a3⟩ := cel4 CA.out
  obtain ⟨b0, b1, b2, b3⟩ := cel4 CB'.out
  go_wp2_with fail
  refine (K1.out w1_).mono ?_
  rintro e w2_ ⟨rfl, hb⟩
  have B2 := Lib.hid (bstep B1.out hb)
  replace CA := Lib.hid (CA.out.on hb)
  replace CB' := Lib.hid (CB'.out.on hb)
  clear hb
  clear a0 a1 a2 a3 b0 b1 b2 b3
  obtain ⟨a0, a1, a2, a3⟩ := cel4 CA.out
  obtain ⟨b0, b1, b2, b3⟩ := cel4 CB'.out
  go_wp2_with fail
  refine (K2.out w2_).mono ?_
  rintro e w3_ ⟨rfl, hb⟩
  have B3 := Lib.hid (bstep B2.out hb)
  replace CA := Lib.hid (CA.out.on hb)
  replace CB' := Lib.hid (CB'.out.on hb)
  clear hb
  clear a0 a1 a2 a3 b0 b1 b2 b3
  obtain ⟨a0, a1, a2, a3⟩ := cel4 CA.out
  obtain ⟨b0, b1, b2, b3⟩ := cel4 CB'.out
  go_wp2_with fail
  refine (K3.out w3_).mono ?_
  rintro e w4_ ⟨rfl, hb⟩
  have B4 := Lib.hid (bstep B3.out hb)
  replace CA := Lib.hid (CA.out.on hb)
  replace CB' := Lib.hid (CB'.out.on hb)
  clear hb
  clear a0 a1 a2 a3 b0 b1 b2 b3
  obtain ⟨a0, a1, a2, a3⟩ := cel4 CA.out
  obtain ⟨b0, b1, b2, b3⟩ := cel4 CB'.out
  go_upto_region 4 with fail
  obtain ⟨w5_, hw0⟩ : ∃ W, w4_.alloc (.cells #[.int .i64 CV.1, .int .i64 CV.2.1, .int .i64 CV.2.2.1, .int .i64 CV.2.2.2] 23) = W := ⟨_, rfl⟩
  have hb : Below w4_.heap.size w4_ w5_ := hw0 ▸ below_alloc _ _
  have CC : Hid (Cel w5_ w4_.heap.size (cQ CV)) := hw0 ▸ Cel.new w4_ (cQ CV) _
  rw [hw0]
  have B5 := Lib.hid (bstep B4.out hb)
  replace CA := Lib.hid (CA.out.on hb)
  replace CB' := Lib.hid (CB'.out.on hb)
  clear hb hw0
  clear a0 a1 a2 a3 b0 b1 b2 b3
  obtain ⟨a0, a1, a2, a3⟩ := cel4 CA.out
  obtain ⟨b0, b1, b2, b3⟩ := cel4 CB'.out
  obtain ⟨c0, c1, c2, c3⟩ := cel4 CC.out
  go_wp2_with fail
  refine (K4.out w5_).mono ?_
  rintro e w6_ ⟨rfl, hb⟩
  have B6 := Lib.hid (bstep B5.out hb)
  replace CA := Lib.hid (CA.out.on hb)
  replace CB' := Lib.hid (CB'.out.on hb)
  replace CC := Lib.hid (CC.out.on hb)
  clear hb
  clear a0 a1 a2 a3 b0 b1 b2 b3 c0 c1 c2 c3
  obtain ⟨a0, a1, a2, a3⟩ := cel4 CA.out
  obtain ⟨b0, b1, b2, b3⟩ := cel4 CB'.out
  obtain ⟨c0, c1, c2, c3⟩ := cel4 CC.out
  go_upto_region 5 with fail
  obtain ⟨w7_, hw0⟩ : ∃ W, w6_.alloc (.cells #[.int .i64 CV.1, .int .i64 CV.2.1, .int .i64 CV.2.2.1, .int .i64 CV.2.2.2] 23) = W := ⟨_, rfl⟩
  have hb : Below w6_.heap.size w6_ w7_ := hw0 ▸ below_alloc _ _
  have CD : Hid (Cel w7_ w6_.heap.size (cQ CV)) := hw0 ▸ Cel.new w6_ (cQ CV) _
  rw [hw0]
  have B7 := Lib.hid (bstep B6.out hb)
  replace CA := Lib.hid (CA.out.on hb)
  replace CB' := Lib.hid (CB'.out.on hb)
  replace CC := Lib.hid (CC.out.on hb)
  clear hb hw0
  clear a0 a1 a2 a3 b0 b1 b2 b3 c0 c1 c2 c3
  obtain ⟨a0, a1, a2, a3⟩ := cel4 CA.out
  obtain ⟨b0, b1, b2, b3⟩ := cel4 CB'.out
  obtain ⟨c0, c1, c2, c3⟩ := cel4 CC.out
  obtain ⟨d0, d1, d2, d3⟩ := cel4 CD.out
  have hq : ∀ W, (binOp .eql 23 (agQ CV) (agQ CV)).run Try.prog W = .ok (.bool true) W := fun W => by rw [eq_run .eql (Or.inl rfl)]; simp
  have HS : Hid (∀ W', Below w7_.heap.size w7_ W' → ((W'.cell? ⟨w.heap.size, 0, none⟩ = some (.int .i64 a.1) ∧ W'.cell? ⟨w.heap.size, 1, none⟩ = some (.int .i64 a.2.1) ∧ W'.cell? ⟨w.heap.size, 2, none⟩ = some (.int .i64 a.2.2.1) ∧ W'.cell? ⟨w.heap.size, 3, none⟩ = some (.int .i64 a.2.2.2)) ∧ (W'.cell? ⟨w.heap.size + 1, 0, none⟩ = some (.int .i64 b.1) ∧ W'.cell? ⟨w.heap.size + 1, 1, none⟩ = some (.int .i64 b.2.1) ∧ W'.cell? ⟨w.heap.size + 1, 2, none⟩ = some (.int .i64 b.2.2.1) ∧ W'.cell? ⟨w.heap.size + 1, 3, none⟩ = some (.int .i64 b.2.2.2))) ∧ (W'.cell? ⟨w4_.heap.size, 0, none⟩ = some (.int .i64 CV.1) ∧ W'.cell? ⟨w4_.heap.size, 1, none⟩ = some (.int .i64 CV.2.1) ∧ W'.cell? ⟨w4_.heap.size, 2, none⟩ = some (.int .i64 CV.2.2.1) ∧ W'.cell? ⟨w4_.heap.size, 3, none⟩ = some (.int .i64 CV.2.2.2)) ∧ (W'.cell? ⟨w6_.heap.size, 0, none⟩ = some (.int .i64 CV.1) ∧ W'.cell? ⟨w6_.heap.size, 1, none⟩ = some (.int .i64 CV.2.1) ∧ W'.cell? ⟨w6_.heap.size, 2, none⟩ = some (.int .i64 CV.2.2.1) ∧ W'.cell? ⟨w6_.heap.size, 3, none⟩ = some (.int .i64 CV.2.2.2))) := Lib.hid fun W hW => ⟨⟨cel4 (CA.out.on hW), cel4 (CB'.out.on hW)⟩, cel4 (CC.out.on hW), cel4 (CD.out.on hW)⟩
  go_region_held3 (fun W' => ((W'.cell? ⟨w.heap.size, 0, none⟩ = some (.int .i64 a.1) ∧ W'.cell? ⟨w.heap.size, 1, none⟩ = some (.int .i64 a.2.1) ∧ W'.cell? ⟨w.heap.size, 2, none⟩ = some (.int .i64 a.2.2.1) ∧ W'.cell? ⟨w.heap.size, 3, none⟩ = some (.int .i64 a.2.2.2)) ∧ (W'.cell? ⟨w.heap.size + 1, 0, none⟩ = some (.int .i64 b.1) ∧ W'.cell? ⟨w.heap.size + 1, 1, none⟩ = some (.int .i64 b.2.1) ∧ W'.cell? ⟨w.heap.size + 1, 2, none⟩ = some (.int .i64 b.2.2.1) ∧ W'.cell? ⟨w.heap.size + 1, 3, none⟩ = some (.int .i64 b.2.2.2))) ∧ (W'.cell? ⟨w4_.heap.size, 0, none⟩ = some (.int .i64 CV.1) ∧ W'.cell? ⟨w4_.heap.size, 1, none⟩ = some (.int .i64 CV.2.1) ∧ W'.cell? ⟨w4_.heap.size, 2, none⟩ = some (.int .i64 CV.2.2.1) ∧ W'.cell? ⟨w4_.heap.size, 3, none⟩ = some (.int .i64 CV.2.2.2)) ∧ (W'.cell? ⟨w6_.heap.size, 0, none⟩ = some (.int .i64 CV.1) ∧ W'.cell? ⟨w6_.heap.size, 1, none⟩ = some (.int .i64 CV.2.1) ∧ W'.cell? ⟨w6_.heap.size, 2, none⟩ = some (.int .i64 CV.2.2.1) ∧ W'.cell? ⟨w6_.heap.size, 3, none⟩ = some (.int .i64 CV.2.2.2)))
    (first | exact HS.out _ (Below.refl _ _).drew | exact HS.out _ (bstep (Below.refl _ _).drew d1) | exact HS.out _ (bstep (bstep (Below.refl _ _).drew d1) d2) | exact HS.out _ (bstep (bstep (bstep (Below.refl _ _).drew d1) d2) d3) | exact HS.out _ (bstep (bstep (bstep (bstep (Below.refl _ _).drew d1) d2) d3) d4) | exact HS.out _ (bstep (bstep (bstep (bstep (bstep (Below.refl _ _).drew d1) d2) d3) d4) d5))
    (first | (go_at_call 15; (with_reducible refine (K5.out _).mono ?_); rintro e v1 ⟨rfl, d1⟩) | (go_at_call 16; (with_reducible refine (K6.out _).mono ?_); rintro e v2 ⟨rfl, d2⟩) | (go_at_call 17; (with_reducible refine (K7.out _).mono ?_); rintro e v3 ⟨rfl, d3⟩) | (go_at_call 18; (with_reducible refine (K8.out _).mono ?_); rintro e v4 ⟨rfl, d4⟩) | (go_at_call 19; (with_reducible refine (law_awake _).mono ?_); rintro e v5 ⟨rfl, d5⟩))
  all_goals
    go_wp2_with fail
    go_ret
    exact ⟨rfl, bstep B7.out (bstep (bstep (bstep (bstep (bstep (Below.refl _ _).drew d1) d2) d3) d4) d5)⟩
#print axioms walk_RectPairs
end Go.Proofs.Ytccbnobpighckaa.Rect
