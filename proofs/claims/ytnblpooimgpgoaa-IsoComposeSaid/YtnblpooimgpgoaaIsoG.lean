/- Contracts of the functions of one run: sources, cut of the program; cut of the reference. -/
import Derived.Test.YtnblpooimgpgoaaIsoF
import Derived.Deep.RegionHeldLaw
namespace Go.Proofs.Ytnblpooimgpgoaa.Iso
open Go.ChangeShapes Go.WideShapes Go.RowKit Go.Lib Go.Proofs.Ytnblpooimgpgoaa.Rw
set_option linter.unusedVariables false
set_option maxRecDepth 100000

theorem cel1 (w : World) (us : List Value) (o2 o3 : Obj) (t : TypeId) : Cel (((w.alloc (.cells us.toArray t)).alloc o2).alloc o3) w.heap.size us := ((Cel.new w us t).alloc _).alloc _
theorem cel2 (w : World) (us : List Value) (o1 o3 : Obj) (t : TypeId) : Cel (((w.alloc o1).alloc (.cells us.toArray t)).alloc o3) (w.heap.size + 1) us := (two_new w o1 us t).alloc _
theorem cel3 (w : World) (us : List Value) (o1 o2 : Obj) (t : TypeId) : Cel (((w.alloc o1).alloc o2).alloc (.cells us.toArray t)) (w.heap.size + 1 + 1) us := Cel.new_at _ _ _ (by simp)
set_option maxHeartbeats 800000 in
theorem iso_sources (a n : Int) (b : Bool) (f t : Int) (w : World) (h1 : -big ≤ a ∧ a ≤ big) (h2 : -big ≤ f ∧ f ≤ big) (h3 : -big ≤ t ∧ t ≤ big) :
    Calls Try.prog 56 #[.agg #[.int .i64 a, .int .i64 n, .bool b], .agg #[.int .i64 f, .int .i64 t]] w fun e w' => e = .returned (.agg #[.int .i64 (srF a n b f t), .int .i64 (srT a n b f t)]) ∧ Below w.heap.size w w' := by
  have e1 : IntKind.i64.wrap (a - t) = a - t := wrap_id (by unfold big at *; omega)
  have e2 : IntKind.i64.wrap (a - t + 1) = a - t + 1 := wrap_id (by unfold big at *; omega)
  have e3 : IntKind.i64.wrap (a - f) = a - f := wrap_id (by unfold big at *; omega)
  have e4 : IntKind.i64.wrap (a - f + 1) = a - f + 1 := wrap_id (by unfold big at *; omega)
  have e5 : IntKind.i64.wrap (f - a) = f - a := wrap_id (by unfold big at *; omega)
  have e6 : IntKind.i64.wrap (t - a) = t - a := wrap_id (by unfold big at *; omega)
  clear h1 h2 h3
  go_enter Try.func56, Try.ntmps56
  cases b with
  | true =>
    go_upto_region 2 with fail
    obtain ⟨w1, hw1⟩ : ∃ W, ((w.alloc (.cells #[.int .i64 a, .int .i64 n, .bool true] 48)).alloc (.cells #[.int .i64 f, .int .i64 t] 28)).alloc (.cells #[.int .i64 0, .int .i64 0] 28) = W := ⟨_, rfl⟩
    have H1 := Lib.hid (hw1 ▸ cel1 w [.int .i64 a, .int .i64 n, .bool true] _ _ 48 : Cel w1 w.heap.size [.int .i64 a, .int .i64 n, .bool true])
    have H2 := Lib.hid (hw1 ▸ cel2 w [.int .i64 f, .int .i64 t] _ _ 28 : Cel w1 (w.heap.size + 1) [.int .i64 f, .int .i64 t])
    have H3 := Lib.hid (hw1 ▸ cel3 w [.int .i64 0, .int .i64 0] _ _ 28 : Cel w1 (w.heap.size + 1 + 1) [.int .i64 0, .int .i64 0])
    have HB := Lib.hid (hw1 ▸ below3 w _ _ _ : Below w.heap.size w w1)
    rw [hw1]
    clear hw1
    obtain ⟨a0, a1, a2⟩ := H1.out.three
    obtain ⟨s0, s1⟩ := H2.out.two
    go_wp2_with fail
    refine (iso_clamped _ _ _ _).mono ?_
    rintro e w2 ⟨rfl, hb⟩
    have H4 := Lib.hid (H3.out.on hb)
    have HB2 := Lib.hid (bstep HB.out hb)
    clear hb a0 a1 a2 s0 s1
    obtain ⟨z0, z1⟩ := H4.out.two
    obtain ⟨y0, y1⟩ := H4.out.warm2
    go_wp2_with fail
    exact bodyPost_ret (res_span Try.results56 rfl (H4.out.put2 _ _)) rfl ⟨rfl, below_put2 HB2.out (by omega) _ _⟩
  | false =>
    go_upto_region 3 with fail
    obtain ⟨w1, hw1⟩ : ∃ W, ((w.alloc (.cells #[.int .i64 a, .int .i64 n, .bool false] 48)).alloc (.cells #[.int .i64 f, .int .i64 t] 28)).alloc (.cells #[.int .i64 0, .int .i64 0] 28) = W := ⟨_, rfl⟩
    have H1 := Lib.hid (hw1 ▸ cel1 w [.int .i64 a, .int .i64 n, .bool false] _ _ 48 : Cel w1 w.heap.size [.int .i64 a, .int .i64 n, .bool false])
    have H2 := Lib.hid (hw1 ▸ cel2 w [.int .i64 f, .int .i64 t] _ _ 28 : Cel w1 (w.heap.size + 1) [.int .i64 f, .int .i64 t])
    have H3 := Lib.hid (hw1 ▸ cel3 w [.int .i64 0, .int .i64 0] _ _ 28 : Cel w1 (w.heap.size + 1 + 1) [.int .i64 0, .int .i64 0])
    have HB := Lib.hid (hw1 ▸ below3 w _ _ _ : Below w.heap.size w w1)
    rw [hw1]
    clear hw1
    obtain ⟨a0, a1, a2⟩ := H1.out.three
    obtain ⟨s0, s1⟩ := H2.out.two
    go_wp2_with fail
    refine (iso_clamped _ _ _ _).mono ?_
    rintro e w2 ⟨rfl, hb⟩
    have H4 := Lib.hid (H3.out.on hb)
    have HB2 := Lib.hid (bstep HB.out hb)
    clear hb a0 a1 a2 s0 s1
    obtain ⟨z0, z1⟩ := H4.out.two
    obtain ⟨y0, y1⟩ := H4.out.warm2
    go_wp2_with fail
    exact bodyPost_ret (res_span Try.results56 rfl (H4.out.put2 _ _)) rfl ⟨rfl, below_put2 HB2.out (by omega) _ _⟩

set_option maxHeartbeats 1600000 in
theorem iso_cut (a n : Int) (b : Bool) (f t : Int) (w : World) (h1 : -big ≤ a ∧ a ≤ big) (h2 : -big ≤ f ∧ f ≤ big) (h3 : -big ≤ t ∧ t ≤ big) :
    Calls Try.prog 69 #[.agg #[.int .i64 a, .int .i64 n, .bool b], .agg #[.int .i64 f, .int .i64 t]] w fun e w' => e = .returned (.agg #[.int .i64 (imI a b f), .int .i64 (t - f), .bool b]) ∧ Below w.heap.size w w' := by
  have e1 : IntKind.i64.wrap (t - f) = t - f := wrap_id (by unfold big at *; omega)
  have HC := Lib.hid fun W => iso_image a n b f W h1 h2
  clear h1 h2 h3
  go_enter Try.func69, Try.ntmps69
  go_upto_region 1 with fail
  obtain ⟨w1, hw1⟩ : ∃ W, ((w.alloc (.cells #[.int .i64 a, .int .i64 n, .bool b] 48)).alloc (.cells #[.int .i64 f, .int .i64 t] 28)).alloc (.cells #[.int .i64 0, .int .i64 0, .bool false] 48) = W := ⟨_, rfl⟩
  have H1 := Lib.hid (hw1 ▸ cel1 w [.int .i64 a, .int .i64 n, .bool b] _ _ 48 : Cel w1 w.heap.size [.int .i64 a, .int .i64 n, .bool b])
  have H2 := Lib.hid (hw1 ▸ cel2 w [.int .i64 f, .int .i64 t] _ _ 28 : Cel w1 (w.heap.size + 1) [.int .i64 f, .int .i64 t])
  have H3 := Lib.hid (hw1 ▸ cel3 w [.int .i64 0, .int .i64 0, .bool false] _ _ 48 : Cel w1 (w.heap.size + 1 + 1) [.int .i64 0, .int .i64 0, .bool false])
  have HB := Lib.hid (hw1 ▸ below3 w _ _ _ : Below w.heap.size w w1)
  rw [hw1]
  clear hw1
  obtain ⟨a0, a1, a2⟩ := H1.out.three
  obtain ⟨s0, s1⟩ := H2.out.two
  have HS := Lib.hid fun (W : World) (ho : Off (fun k => k = w.heap.size + 1 + 1) w1 W) => (⟨(H1.out.off ho (by omega)).three, (H2.out.off ho (by omega)).two⟩ : (W.cell? ⟨w.heap.size, 0, none⟩ = some (.int .i64 a) ∧ W.cell? ⟨w.heap.size, 1, none⟩ = some (.int .i64 n) ∧ W.cell? ⟨w.heap.size, 2, none⟩ = some (.bool b)) ∧ (W.cell? ⟨w.heap.size + 1, 0, none⟩ = some (.int .i64 f) ∧ W.cell? ⟨w.heap.size + 1, 1, none⟩ = some (.int .i64 t)))
  go_region_held3 (fun W' => (W'.cell? ⟨w.heap.size, 0, none⟩ = some (.int .i64 a) ∧ W'.cell? ⟨w.heap.size, 1, none⟩ = some (.int .i64 n) ∧ W'.cell? ⟨w.heap.size, 2, none⟩ = some (.bool b)) ∧ (W'.cell? ⟨w.heap.size + 1, 0, none⟩ = some (.int .i64 f) ∧ W'.cell? ⟨w.heap.size + 1, 1, none⟩ = some (.int .i64 t)))
    (first | exact HS.out _ (Off.refl _ _) | exact HS.out _ (Off.refl _ _).drew | exact HS.out _ ((Off.refl _ _).drew.then_below hb2) | exact HS.out _ (((Off.refl _ _).drew.then_below hb2).trans (off_put3 _ _ _ _ _) fun x e => Or.inl e))
    ((go_at_call 72; (refine (HC.out _).mono ?_); rintro e w2 ⟨rfl, hb2⟩; (have H4 := Lib.hid ((H3.out.drew).on hb2)); (obtain ⟨z0, z1, z2⟩ := H4.out.three); (obtain ⟨y0, y1, y2⟩ := H4.out.warm3)))
  all_goals
    go_wp2_with fail
    exact bodyPost_ret (res_run Try.results69 rfl (H4.out.put3 _ _ _)) rfl ⟨rfl, below_put3 (bstep HB.out (bstep (drew_below _) hb2)) (by omega) _ _ _⟩

set_option maxHeartbeats 1600000 in
theorem ref_cut (a n : Int) (b : Bool) (f t : Int) (w : World) (h1 : -big ≤ a ∧ a ≤ big) (h2 : -big ≤ f ∧ f ≤ big) :
    Calls Try.prog 65 #[.agg #[.int .i64 a, .int .i64 n, .bool b], .int .i64 f, .int .i64 t] w fun e w' => e = .returned (.agg #[.int .i64 (imI a b f), .int .i64 t, .bool (b && decide (1 < t))]) ∧ Below w.heap.size w w' := by
  have HC := Lib.hid fun W => ref_image a n b f W h1 h2
  clear h1 h2
  obtain ⟨q, hq⟩ : ∃ q, (b && decide (1 < t)) = q := ⟨_, rfl⟩
  rw [hq]
  go_enter Try.func65, Try.ntmps65
  go_upto_region 1 with fail
  obtain ⟨w1, hw1⟩ : ∃ W, (w.alloc (.cells #[.int .i64 a, .int .i64 n, .bool b] 48)).alloc (.cells #[.int .i64 0, .int .i64 0, .bool false] 48) = W := ⟨_, rfl⟩
  have H1 := Lib.hid (hw1 ▸ ((Cel.new w [.int .i64 a, .int .i64 n, .bool b] 48).alloc _) : Cel w1 w.heap.size [.int .i64 a, .int .i64 n, .bool b])
  have H3 := Lib.hid (hw1 ▸ two_new w _ [.int .i64 0, .int .i64 0, .bool false] 48 : Cel w1 (w.heap.size + 1) [.int .i64 0, .int .i64 0, .bool false])
  have HB := Lib.hid (hw1 ▸ below2 w _ _ : Below w.heap.size w w1)
  rw [hw1]
  clear hw1
  obtain ⟨a0, a1, a2⟩ := H1.out.three
  have HS := Lib.hid fun (W : World) (ho : Off (fun k => k = w.heap.size + 1) w1 W) => ((H1.out.off ho (by omega)).three : (W.cell? ⟨w.heap.size, 0, none⟩ = some (.int .i64 a) ∧ W.cell? ⟨w.heap.size, 1, none⟩ = some (.int .i64 n) ∧ W.cell? ⟨w.heap.size, 2, none⟩ = some (.bool b)))
  cases b with
  | true =>
    cases hd : decide (1 < t) with
    | true =>
      rw [hd] at hq
      subst hq
      go_region_held3 (fun W' => (W'.cell? ⟨w.heap.size, 0, none⟩ = some (.int .i64 a) ∧ W'.cell? ⟨w.heap.size, 1, none⟩ = some (.int .i64 n) ∧ W'.cell? ⟨w.heap.size, 2, none⟩ = some (.bool true)))
        (first | exact HS.out _ (Off.refl _ _) | exact HS.out _ (Off.refl _ _).drew | exact HS.out _ ((Off.refl _ _).drew.then_below hb2) | exact HS.out _ (((Off.refl _ _).drew.then_below hb2).trans (off_put3 _ _ _ _ _) fun x e => Or.inl e))
        ((go_at_call 50; (refine (HC.out _).mono ?_); rintro e w2 ⟨rfl, hb2⟩; (have H4 := Lib.hid ((H3.out.drew).on hb2)); (obtain ⟨z0, z1, z2⟩ := H4.out.three); (obtain ⟨y0, y1, y2⟩ := H4.out.warm3)))
      all_goals
        go_wp2_with fail
        exact bodyPost_ret (res_run Try.results65 rfl (H4.out.put3 _ _ _)) rfl ⟨rfl, below_put3 (bstep HB.out (bstep (drew_below _) hb2)) (by omega) _ _ _⟩
    | false =>
      rw [hd] at hq
      subst hq
      go_region_held3 (fun W' => (W'.cell? ⟨w.heap.size, 0, none⟩ = some (.int .i64 a) ∧ W'.cell? ⟨w.heap.size, 1, none⟩ = some (.int .i64 n) ∧ W'.cell? ⟨w.heap.size, 2, none⟩ = some (.bool true)))
        (first | exact HS.out _ (Off.refl _ _) | exact HS.out _ (Off.refl _ _).drew | exact HS.out _ ((Off.refl _ _).drew.then_below hb2) | exact HS.out _ (((Off.refl _ _).drew.then_below hb2).trans (off_put3 _ _ _ _ _) fun x e => Or.inl e))
        ((go_at_call 50; (refine (HC.out _).mono ?_); rintro e w2 ⟨rfl, hb2⟩; (have H4 := Lib.hid ((H3.out.drew).on hb2)); (obtain ⟨z0, z1, z2⟩ := H4.out.three); (obtain ⟨y0, y1, y2⟩ := H4.out.warm3)))
      all_goals
        go_wp2_with fail
        exact bodyPost_ret (res_run Try.results65 rfl (H4.out.put3 _ _ _)) rfl ⟨rfl, below_put3 (bstep HB.out (bstep (drew_below _) hb2)) (by omega) _ _ _⟩
  | false =>
    subst hq
    first | (go_region_held_law (fun W' => (W'.cell? ⟨w.heap.size, 0, none⟩ = some (.int .i64 a) ∧ W'.cell? ⟨w.heap.size, 1, none⟩ = some (.int .i64 n) ∧ W'.cell? ⟨w.heap.size, 2, none⟩ = some (.bool false)))
      (first | exact HS.out _ (Off.refl _ _) | exact HS.out _ (Off.refl _ _).drew | exact HS.out _ ((Off.refl _ _).drew.then_below hb2) | exact HS.out _ (((Off.refl _ _).drew.then_below hb2).trans (off_put3 _ _ _ _ _) fun x e => Or.inl e))
      ((go_at_call 50; (refine (HC.out _).mono ?_); rintro e w2 ⟨rfl, hb2⟩; (have H4 := Lib.hid ((H3.out.drew).on hb2)); (obtain ⟨z0, z1, z2⟩ := H4.out.three); (obtain ⟨y0, y1, y2⟩ := H4.out.warm3)))) | fail
    all_goals
      go_wp2_with fail
      exact bodyPost_ret (res_run Try.results65 rfl (H4.out.put3 _ _ _)) rfl ⟨rfl, below_put3 (bstep HB.out (bstep (drew_below _) hb2)) (by omega) _ _ _⟩
#print axioms iso_cut
#print axioms ref_cut
end Go.Proofs.Ytnblpooimgpgoaa.Iso
