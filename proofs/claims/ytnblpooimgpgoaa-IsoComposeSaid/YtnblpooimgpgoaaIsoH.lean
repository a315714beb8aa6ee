/- Contract of grown: how many integers the last run of a normal form takes. -/
import Derived.Test.YtnblpooimgpgoaaIsoG
namespace Go.Proofs.Ytnblpooimgpgoaa.Iso
open Go.ChangeShapes Go.WideShapes Go.RowKit Go.Lib Go.Proofs.Ytnblpooimgpgoaa.Rw
set_option linter.unusedVariables false
set_option maxRecDepth 100000

/-- The last run of a normal form and a further one: the direction; how many integers the last one takes. -/
def grB (a n : Int) (b : Bool) (c : Int) : Bool := if n = 1 then decide (c < a) else b
def grT (a n : Int) (b : Bool) (c m : Int) (d : Bool) : Int := if imI a (grB a n b c) n = c then (if d = grB a n b c then m else 1) else 0
def grV (a n : Int) (b : Bool) (c m : Int) (d : Bool) : Bool := if imI a (grB a n b c) n = c then grB a n b c else b
theorem cel4a (w : World) (us : List Value) (o2 o3 o4 : Obj) (t : TypeId) : Cel ((((w.alloc (.cells us.toArray t)).alloc o2).alloc o3).alloc o4) w.heap.size us := (cel1 w us o2 o3 t).alloc _
theorem cel4b (w : World) (us : List Value) (o1 o3 o4 : Obj) (t : TypeId) : Cel ((((w.alloc o1).alloc (.cells us.toArray t)).alloc o3).alloc o4) (w.heap.size + 1) us := (cel2 w us o1 o3 t).alloc _
theorem cel4c (w : World) (us : List Value) (o1 o2 o4 : Obj) (t : TypeId) : Cel ((((w.alloc o1).alloc o2).alloc (.cells us.toArray t)).alloc o4) (w.heap.size + 1 + 1) us := (cel3 w us o1 o2 t).alloc _
theorem cel4d (w : World) (us : List Value) (o1 o2 o3 : Obj) (t : TypeId) : Cel ((((w.alloc o1).alloc o2).alloc o3).alloc (.cells us.toArray t)) (w.heap.size + 1 + 1 + 1) us := Cel.new_at _ _ _ (by simp)
theorem below4 (w : World) (o1 o2 o3 o4 : Obj) : Below w.heap.size w ((((w.alloc o1).alloc o2).alloc o3).alloc o4) := bstep (below3 _ _ _ _) (below_alloc _ _)


set_option maxHeartbeats 1600000 in
theorem grown1 (a n : Int) (b : Bool) (c m : Int) (d B : Bool) (w : World) (HC : Hid (∀ W, Calls Try.prog 72 #[.agg #[.int .i64 a, .int .i64 1, .bool B], .int .i64 1] W fun e w' => e = .returned (.int .i64 (imI a B 1)) ∧ Below W.heap.size W w')) (e1 : IntKind.i64.wrap (1 + m) = 1 + m) (e2 : IntKind.i64.wrap (1 + 1) = 1 + 1) (hc : imI a B 1 = c) (hB' : decide (c < a) = B) (hd : d = B) :
    Calls Try.prog 73 #[.agg #[.int .i64 a, .int .i64 1, .bool b], .agg #[.int .i64 c, .int .i64 m, .bool d]] w fun e w' => e = .returned (.tuple #[.agg #[.int .i64 a, .int .i64 (1 + m), .bool B], .int .i64 (m)]) ∧ Below w.heap.size w w' := by
  have t1 : (imI a B 1 == c) = true := by rw [hc]; exact beq_self_eq_true c
  have t2 : (imI a B 1 != c) = false := by rw [bne, t1]; rfl
  subst hd
  clear hc
  go_enter Try.func73, Try.ntmps73
  go_upto_region 4 with fail
  obtain ⟨w1, hw1⟩ : ∃ W, (((w.alloc (.cells #[.int .i64 a, .int .i64 1, .bool b] 48)).alloc (.cells #[.int .i64 c, .int .i64 m, .bool d] 48)).alloc (.cells #[.int .i64 0, .int .i64 0, .bool false] 48)).alloc (.cells #[.int .i64 a, .int .i64 1, .bool d] 48) = W := ⟨_, rfl⟩
  have H1 := Lib.hid (hw1 ▸ cel4a w [.int .i64 a, .int .i64 1, .bool b] _ _ _ 48 : Cel w1 w.heap.size [.int .i64 a, .int .i64 1, .bool b])
  have H2 := Lib.hid (hw1 ▸ cel4b w [.int .i64 c, .int .i64 m, .bool d] _ _ _ 48 : Cel w1 (w.heap.size + 1) [.int .i64 c, .int .i64 m, .bool d])
  have H3 := Lib.hid (hw1 ▸ cel4c w [.int .i64 0, .int .i64 0, .bool false] _ _ _ 48 : Cel w1 (w.heap.size + 1 + 1) [.int .i64 0, .int .i64 0, .bool false])
  have H4 := Lib.hid (hw1 ▸ cel4d w [.int .i64 a, .int .i64 1, .bool d] _ _ _ 48 : Cel w1 (w.heap.size + 1 + 1 + 1) [.int .i64 a, .int .i64 1, .bool d])
  have HB := Lib.hid (hw1 ▸ below4 w _ _ _ _ : Below w.heap.size w w1)
  rw [hw1]
  clear hw1
  obtain ⟨⟨a0, a1, a2⟩, ⟨c0, c1, c2⟩, ⟨l0, l1, l2⟩⟩ := (⟨H1.out.three, H2.out.three, H4.out.three⟩ : (w1.cell? ⟨w.heap.size, 0, none⟩ = some (.int .i64 a) ∧ w1.cell? ⟨w.heap.size, 1, none⟩ = some (.int .i64 1) ∧ w1.cell? ⟨w.heap.size, 2, none⟩ = some (.bool b)) ∧ (w1.cell? ⟨w.heap.size + 1, 0, none⟩ = some (.int .i64 c) ∧ w1.cell? ⟨w.heap.size + 1, 1, none⟩ = some (.int .i64 m) ∧ w1.cell? ⟨w.heap.size + 1, 2, none⟩ = some (.bool d)) ∧ (w1.cell? ⟨w.heap.size + 1 + 1 + 1, 0, none⟩ = some (.int .i64 a) ∧ w1.cell? ⟨w.heap.size + 1 + 1 + 1, 1, none⟩ = some (.int .i64 1) ∧ w1.cell? ⟨w.heap.size + 1 + 1 + 1, 2, none⟩ = some (.bool d)))
  have HS := Lib.hid fun (W : World) (hb : Below w1.heap.size w1 W) => (⟨(H1.out.on hb).three, (H2.out.on hb).three, (H4.out.on hb).three⟩ : (W.cell? ⟨w.heap.size, 0, none⟩ = some (.int .i64 a) ∧ W.cell? ⟨w.heap.size, 1, none⟩ = some (.int .i64 1) ∧ W.cell? ⟨w.heap.size, 2, none⟩ = some (.bool b)) ∧ (W.cell? ⟨w.heap.size + 1, 0, none⟩ = some (.int .i64 c) ∧ W.cell? ⟨w.heap.size + 1, 1, none⟩ = some (.int .i64 m) ∧ W.cell? ⟨w.heap.size + 1, 2, none⟩ = some (.bool d)) ∧ (W.cell? ⟨w.heap.size + 1 + 1 + 1, 0, none⟩ = some (.int .i64 a) ∧ W.cell? ⟨w.heap.size + 1 + 1 + 1, 1, none⟩ = some (.int .i64 1) ∧ W.cell? ⟨w.heap.size + 1 + 1 + 1, 2, none⟩ = some (.bool d)))
  go_region_held3 (fun W' => (W'.cell? ⟨w.heap.size, 0, none⟩ = some (.int .i64 a) ∧ W'.cell? ⟨w.heap.size, 1, none⟩ = some (.int .i64 1) ∧ W'.cell? ⟨w.heap.size, 2, none⟩ = some (.bool b)) ∧ (W'.cell? ⟨w.heap.size + 1, 0, none⟩ = some (.int .i64 c) ∧ W'.cell? ⟨w.heap.size + 1, 1, none⟩ = some (.int .i64 m) ∧ W'.cell? ⟨w.heap.size + 1, 2, none⟩ = some (.bool d)) ∧ (W'.cell? ⟨w.heap.size + 1 + 1 + 1, 0, none⟩ = some (.int .i64 a) ∧ W'.cell? ⟨w.heap.size + 1 + 1 + 1, 1, none⟩ = some (.int .i64 1) ∧ W'.cell? ⟨w.heap.size + 1 + 1 + 1, 2, none⟩ = some (.bool d)))
    (first | exact HS.out _ (Below.refl _ _) | exact HS.out _ (drew_below _) | exact HS.out _ (bstep (drew_below _) hb2))
    ((go_at_call 72; (refine (HC.out _).mono ?_); rintro e w2 ⟨rfl, hb2⟩))
  all_goals
    have HB2 := Lib.hid (bstep (drew_below w1) hb2)
    obtain ⟨⟨a0, a1, a2⟩, ⟨c0, c1, c2⟩, ⟨l0, l1, l2⟩⟩ := (⟨(H1.out.on HB2.out).three, (H2.out.on HB2.out).three, (H4.out.on HB2.out).three⟩ : (w2.cell? ⟨w.heap.size, 0, none⟩ = some (.int .i64 a) ∧ w2.cell? ⟨w.heap.size, 1, none⟩ = some (.int .i64 1) ∧ w2.cell? ⟨w.heap.size, 2, none⟩ = some (.bool b)) ∧ (w2.cell? ⟨w.heap.size + 1, 0, none⟩ = some (.int .i64 c) ∧ w2.cell? ⟨w.heap.size + 1, 1, none⟩ = some (.int .i64 m) ∧ w2.cell? ⟨w.heap.size + 1, 2, none⟩ = some (.bool d)) ∧ (w2.cell? ⟨w.heap.size + 1 + 1 + 1, 0, none⟩ = some (.int .i64 a) ∧ w2.cell? ⟨w.heap.size + 1 + 1 + 1, 1, none⟩ = some (.int .i64 1) ∧ w2.cell? ⟨w.heap.size + 1 + 1 + 1, 2, none⟩ = some (.bool d)))
    have H3b := Lib.hid (H3.out.on HB2.out)
    obtain ⟨r0, r1, r2⟩ := H3b.out.three
    obtain ⟨f0, f1, f2⟩ := H3b.out.warm3
    obtain ⟨g0, g1, g2⟩ := (H4.out.on HB2.out).warm3
    have HBB := Lib.hid (bstep HB.out HB2.out)
    clear hb2
    go_wp2_with fail
    exact bodyPost_ret (res_run2 Try.results73 rfl ((H3b.out.far (p := ⟨w.heap.size + 1 + 1 + 1, 1, none⟩) (by simp) (.int .i64 (1 + m))).put3 _ _ _)) rfl ⟨rfl, below_put3 (HBB.out.setCell (p := ⟨w.heap.size + 1 + 1 + 1, 1, none⟩) (by simp; omega) _) (by omega) _ _ _⟩
set_option maxHeartbeats 1600000 in
theorem grown2 (a n : Int) (b : Bool) (c m : Int) (d B : Bool) (w : World) (HC : Hid (∀ W, Calls Try.prog 72 #[.agg #[.int .i64 a, .int .i64 1, .bool B], .int .i64 1] W fun e w' => e = .returned (.int .i64 (imI a B 1)) ∧ Below W.heap.size W w')) (e1 : IntKind.i64.wrap (1 + m) = 1 + m) (e2 : IntKind.i64.wrap (1 + 1) = 1 + 1) (hc : imI a B 1 = c) (hB' : decide (c < a) = B) (hd : d ≠ B) :
    Calls Try.prog 73 #[.agg #[.int .i64 a, .int .i64 1, .bool b], .agg #[.int .i64 c, .int .i64 m, .bool d]] w fun e w' => e = .returned (.tuple #[.agg #[.int .i64 a, .int .i64 (2), .bool B], .int .i64 (1)]) ∧ Below w.heap.size w w' := by
  have t1 : (imI a B 1 == c) = true := by rw [hc]; exact beq_self_eq_true c
  have t2 : (imI a B 1 != c) = false := by rw [bne, t1]; rfl
  obtain rfl : B = !d := by cases B <;> cases d <;> simp at hd ⊢
  clear hd
  clear hc
  go_enter Try.func73, Try.ntmps73
  go_upto_region 4 with fail
  obtain ⟨w1, hw1⟩ : ∃ W, (((w.alloc (.cells #[.int .i64 a, .int .i64 1, .bool b] 48)).alloc (.cells #[.int .i64 c, .int .i64 m, .bool d] 48)).alloc (.cells #[.int .i64 0, .int .i64 0, .bool false] 48)).alloc (.cells #[.int .i64 a, .int .i64 1, .bool (!d)] 48) = W := ⟨_, rfl⟩
  have H1 := Lib.hid (hw1 ▸ cel4a w [.int .i64 a, .int .i64 1, .bool b] _ _ _ 48 : Cel w1 w.heap.size [.int .i64 a, .int .i64 1, .bool b])
  have H2 := Lib.hid (hw1 ▸ cel4b w [.int .i64 c, .int .i64 m, .bool d] _ _ _ 48 : Cel w1 (w.heap.size + 1) [.int .i64 c, .int .i64 m, .bool d])
  have H3 := Lib.hid (hw1 ▸ cel4c w [.int .i64 0, .int .i64 0, .bool false] _ _ _ 48 : Cel w1 (w.heap.size + 1 + 1) [.int .i64 0, .int .i64 0, .bool false])
  have H4 := Lib.hid (hw1 ▸ cel4d w [.int .i64 a, .int .i64 1, .bool (!d)] _ _ _ 48 : Cel w1 (w.heap.size + 1 + 1 + 1) [.int .i64 a, .int .i64 1, .bool (!d)])
  have HB := Lib.hid (hw1 ▸ below4 w _ _ _ _ : Below w.heap.size w w1)
  rw [hw1]
  clear hw1
  obtain ⟨⟨a0, a1, a2⟩, ⟨c0, c1, c2⟩, ⟨l0, l1, l2⟩⟩ := (⟨H1.out.three, H2.out.three, H4.out.three⟩ : (w1.cell? ⟨w.heap.size, 0, none⟩ = some (.int .i64 a) ∧ w1.cell? ⟨w.heap.size, 1, none⟩ = some (.int .i64 1) ∧ w1.cell? ⟨w.heap.size, 2, none⟩ = some (.bool b)) ∧ (w1.cell? ⟨w.heap.size + 1, 0, none⟩ = some (.int .i64 c) ∧ w1.cell? ⟨w.heap.size + 1, 1, none⟩ = some (.int .i64 m) ∧ w1.cell? ⟨w.heap.size + 1, 2, none⟩ = some (.bool d)) ∧ (w1.cell? ⟨w.heap.size + 1 + 1 + 1, 0, none⟩ = some (.int .i64 a) ∧ w1.cell? ⟨w.heap.size + 1 + 1 + 1, 1, none⟩ = some (.int .i64 1) ∧ w1.cell? ⟨w.heap.size + 1 + 1 + 1, 2, none⟩ = some (.bool (!d))))
  have HS := Lib.hid fun (W : World) (hb : Below w1.heap.size w1 W) => (⟨(H1.out.on hb).three, (H2.out.on hb).three, (H4.out.on hb).three⟩ : (W.cell? ⟨w.heap.size, 0, none⟩ = some (.int .i64 a) ∧ W.cell? ⟨w.heap.size, 1, none⟩ = some (.int .i64 1) ∧ W.cell? ⟨w.heap.size, 2, none⟩ = some (.bool b)) ∧ (W.cell? ⟨w.heap.size + 1, 0, none⟩ = some (.int .i64 c) ∧ W.cell? ⟨w.heap.size + 1, 1, none⟩ = some (.int .i64 m) ∧ W.cell? ⟨w.heap.size + 1, 2, none⟩ = some (.bool d)) ∧ (W.cell? ⟨w.heap.size + 1 + 1 + 1, 0, none⟩ = some (.int .i64 a) ∧ W.cell? ⟨w.heap.size + 1 + 1 + 1, 1, none⟩ = some (.int .i64 1) ∧ W.cell? ⟨w.heap.size + 1 + 1 + 1, 2, none⟩ = some (.bool (!d))))
  go_region_held3 (fun W' => (W'.cell? ⟨w.heap.size, 0, none⟩ = some (.int .i64 a) ∧ W'.cell? ⟨w.heap.size, 1, none⟩ = some (.int .i64 1) ∧ W'.cell? ⟨w.heap.size, 2, none⟩ = some (.bool b)) ∧ (W'.cell? ⟨w.heap.size + 1, 0, none⟩ = some (.int .i64 c) ∧ W'.cell? ⟨w.heap.size + 1, 1, none⟩ = some (.int .i64 m) ∧ W'.cell? ⟨w.heap.size + 1, 2, none⟩ = some (.bool d)) ∧ (W'.cell? ⟨w.heap.size + 1 + 1 + 1, 0, none⟩ = some (.int .i64 a) ∧ W'.cell? ⟨w.heap.size + 1 + 1 + 1, 1, none⟩ = some (.int .i64 1) ∧ W'.cell? ⟨w.heap.size + 1 + 1 + 1, 2, none⟩ = some (.bool (!d))))
    (first | exact HS.out _ (Below.refl _ _) | exact HS.out _ (drew_below _) | exact HS.out _ (bstep (drew_below _) hb2))
    ((go_at_call 72; (refine (HC.out _).mono ?_); rintro e w2 ⟨rfl, hb2⟩))
  all_goals
    have HB2 := Lib.hid (bstep (drew_below w1) hb2)
    obtain ⟨⟨a0, a1, a2⟩, ⟨c0, c1, c2⟩, ⟨l0, l1, l2⟩⟩ := (⟨(H1.out.on HB2.out).three, (H2.out.on HB2.out).three, (H4.out.on HB2.out).three⟩ : (w2.cell? ⟨w.heap.size, 0, none⟩ = some (.int .i64 a) ∧ w2.cell? ⟨w.heap.size, 1, none⟩ = some (.int .i64 1) ∧ w2.cell? ⟨w.heap.size, 2, none⟩ = some (.bool b)) ∧ (w2.cell? ⟨w.heap.size + 1, 0, none⟩ = some (.int .i64 c) ∧ w2.cell? ⟨w.heap.size + 1, 1, none⟩ = some (.int .i64 m) ∧ w2.cell? ⟨w.heap.size + 1, 2, none⟩ = some (.bool d)) ∧ (w2.cell? ⟨w.heap.size + 1 + 1 + 1, 0, none⟩ = some (.int .i64 a) ∧ w2.cell? ⟨w.heap.size + 1 + 1 + 1, 1, none⟩ = some (.int .i64 1) ∧ w2.cell? ⟨w.heap.size + 1 + 1 + 1, 2, none⟩ = some (.bool (!d))))
    have H3b := Lib.hid (H3.out.on HB2.out)
    obtain ⟨r0, r1, r2⟩ := H3b.out.three
    obtain ⟨f0, f1, f2⟩ := H3b.out.warm3
    obtain ⟨g0, g1, g2⟩ := (H4.out.on HB2.out).warm3
    have HBB := Lib.hid (bstep HB.out HB2.out)
    clear hb2
    go_wp2_with fail
    exact bodyPost_ret (res_run2 Try.results73 rfl ((H3b.out.far (p := ⟨w.heap.size + 1 + 1 + 1, 1, none⟩) (by simp) (.int .i64 (2))).put3 _ _ _)) rfl ⟨rfl, below_put3 (HBB.out.setCell (p := ⟨w.heap.size + 1 + 1 + 1, 1, none⟩) (by simp; omega) _) (by omega) _ _ _⟩
set_option maxHeartbeats 1600000 in
theorem grown3 (a n : Int) (b : Bool) (c m : Int) (d B : Bool) (w : World) (HC : Hid (∀ W, Calls Try.prog 72 #[.agg #[.int .i64 a, .int .i64 1, .bool B], .int .i64 1] W fun e w' => e = .returned (.int .i64 (imI a B 1)) ∧ Below W.heap.size W w')) (e1 : IntKind.i64.wrap (1 + m) = 1 + m) (e2 : IntKind.i64.wrap (1 + 1) = 1 + 1) (hc : imI a B 1 ≠ c) (hB' : decide (c < a) = B) :
    Calls Try.prog 73 #[.agg #[.int .i64 a, .int .i64 1, .bool b], .agg #[.int .i64 c, .int .i64 m, .bool d]] w fun e w' => e = .returned (.tuple #[.agg #[.int .i64 a, .int .i64 (1), .bool b], .int .i64 (0)]) ∧ Below w.heap.size w w' := by
  have t1 : (imI a B 1 == c) = false := beq_false_of_ne hc
  have t2 : (imI a B 1 != c) = true := by rw [bne, t1]; rfl
  clear hc
  go_enter Try.func73, Try.ntmps73
  go_upto_region 4 with fail
  obtain ⟨w1, hw1⟩ : ∃ W, (((w.alloc (.cells #[.int .i64 a, .int .i64 1, .bool b] 48)).alloc (.cells #[.int .i64 c, .int .i64 m, .bool d] 48)).alloc (.cells #[.int .i64 0, .int .i64 0, .bool false] 48)).alloc (.cells #[.int .i64 a, .int .i64 1, .bool B] 48) = W := ⟨_, rfl⟩
  have H1 := Lib.hid (hw1 ▸ cel4a w [.int .i64 a, .int .i64 1, .bool b] _ _ _ 48 : Cel w1 w.heap.size [.int .i64 a, .int .i64 1, .bool b])
  have H2 := Lib.hid (hw1 ▸ cel4b w [.int .i64 c, .int .i64 m, .bool d] _ _ _ 48 : Cel w1 (w.heap.size + 1) [.int .i64 c, .int .i64 m, .bool d])
  have H3 := Lib.hid (hw1 ▸ cel4c w [.int .i64 0, .int .i64 0, .bool false] _ _ _ 48 : Cel w1 (w.heap.size + 1 + 1) [.int .i64 0, .int .i64 0, .bool false])
  have H4 := Lib.hid (hw1 ▸ cel4d w [.int .i64 a, .int .i64 1, .bool B] _ _ _ 48 : Cel w1 (w.heap.size + 1 + 1 + 1) [.int .i64 a, .int .i64 1, .bool B])
  have HB := Lib.hid (hw1 ▸ below4 w _ _ _ _ : Below w.heap.size w w1)
  rw [hw1]
  clear hw1
  obtain ⟨⟨a0, a1, a2⟩, ⟨c0, c1, c2⟩, ⟨l0, l1, l2⟩⟩ := (⟨H1.out.three, H2.out.three, H4.out.three⟩ : (w1.cell? ⟨w.heap.size, 0, none⟩ = some (.int .i64 a) ∧ w1.cell? ⟨w.heap.size, 1, none⟩ = some (.int .i64 1) ∧ w1.cell? ⟨w.heap.size, 2, none⟩ = some (.bool b)) ∧ (w1.cell? ⟨w.heap.size + 1, 0, none⟩ = some (.int .i64 c) ∧ w1.cell? ⟨w.heap.size + 1, 1, none⟩ = some (.int .i64 m) ∧ w1.cell? ⟨w.heap.size + 1, 2, none⟩ = some (.bool d)) ∧ (w1.cell? ⟨w.heap.size + 1 + 1 + 1, 0, none⟩ = some (.int .i64 a) ∧ w1.cell? ⟨w.heap.size + 1 + 1 + 1, 1, none⟩ = some (.int .i64 1) ∧ w1.cell? ⟨w.heap.size + 1 + 1 + 1, 2, none⟩ = some (.bool B)))
  have HS := Lib.hid fun (W : World) (hb : Below w1.heap.size w1 W) => (⟨(H1.out.on hb).three, (H2.out.on hb).three, (H4.out.on hb).three⟩ : (W.cell? ⟨w.heap.size, 0, none⟩ = some (.int .i64 a) ∧ W.cell? ⟨w.heap.size, 1, none⟩ = some (.int .i64 1) ∧ W.cell? ⟨w.heap.size, 2, none⟩ = some (.bool b)) ∧ (W.cell? ⟨w.heap.size + 1, 0, none⟩ = some (.int .i64 c) ∧ W.cell? ⟨w.heap.size + 1, 1, none⟩ = some (.int .i64 m) ∧ W.cell? ⟨w.heap.size + 1, 2, none⟩ = some (.bool d)) ∧ (W.cell? ⟨w.heap.size + 1 + 1 + 1, 0, none⟩ = some (.int .i64 a) ∧ W.cell? ⟨w.heap.size + 1 + 1 + 1, 1, none⟩ = some (.int .i64 1) ∧ W.cell? ⟨w.heap.size + 1 + 1 + 1, 2, none⟩ = some (.bool B)))
  go_region_held3 (fun W' => (W'.cell? ⟨w.heap.size, 0, none⟩ = some (.int .i64 a) ∧ W'.cell? ⟨w.heap.size, 1, none⟩ = some (.int .i64 1) ∧ W'.cell? ⟨w.heap.size, 2, none⟩ = some (.bool b)) ∧ (W'.cell? ⟨w.heap.size + 1, 0, none⟩ = some (.int .i64 c) ∧ W'.cell? ⟨w.heap.size + 1, 1, none⟩ = some (.int .i64 m) ∧ W'.cell? ⟨w.heap.size + 1, 2, none⟩ = some (.bool d)) ∧ (W'.cell? ⟨w.heap.size + 1 + 1 + 1, 0, none⟩ = some (.int .i64 a) ∧ W'.cell? ⟨w.heap.size + 1 + 1 + 1, 1, none⟩ = some (.int .i64 1) ∧ W'.cell? ⟨w.heap.size + 1 + 1 + 1, 2, none⟩ = some (.bool B)))
    (first | exact HS.out _ (Below.refl _ _) | exact HS.out _ (drew_below _) | exact HS.out _ (bstep (drew_below _) hb2))
    ((go_at_call 72; (refine (HC.out _).mono ?_); rintro e w2 ⟨rfl, hb2⟩))
  all_goals
    have HB2 := Lib.hid (bstep (drew_below w1) hb2)
    obtain ⟨⟨a0, a1, a2⟩, ⟨c0, c1, c2⟩, ⟨l0, l1, l2⟩⟩ := (⟨(H1.out.on HB2.out).three, (H2.out.on HB2.out).three, (H4.out.on HB2.out).three⟩ : (w2.cell? ⟨w.heap.size, 0, none⟩ = some (.int .i64 a) ∧ w2.cell? ⟨w.heap.size, 1, none⟩ = some (.int .i64 1) ∧ w2.cell? ⟨w.heap.size, 2, none⟩ = some (.bool b)) ∧ (w2.cell? ⟨w.heap.size + 1, 0, none⟩ = some (.int .i64 c) ∧ w2.cell? ⟨w.heap.size + 1, 1, none⟩ = some (.int .i64 m) ∧ w2.cell? ⟨w.heap.size + 1, 2, none⟩ = some (.bool d)) ∧ (w2.cell? ⟨w.heap.size + 1 + 1 + 1, 0, none⟩ = some (.int .i64 a) ∧ w2.cell? ⟨w.heap.size + 1 + 1 + 1, 1, none⟩ = some (.int .i64 1) ∧ w2.cell? ⟨w.heap.size + 1 + 1 + 1, 2, none⟩ = some (.bool B)))
    have H3b := Lib.hid (H3.out.on HB2.out)
    obtain ⟨r0, r1, r2⟩ := H3b.out.three
    obtain ⟨f0, f1, f2⟩ := H3b.out.warm3
    obtain ⟨g0, g1, g2⟩ := (H4.out.on HB2.out).warm3
    have HBB := Lib.hid (bstep HB.out HB2.out)
    clear hb2
    go_wp2_with fail
    exact bodyPost_ret (res_run2 Try.results73 rfl (H3b.out.put3 _ _ _)) rfl ⟨rfl, below_put3 HBB.out (by omega) _ _ _⟩
set_option maxHeartbeats 1600000 in
theorem grown4 (a n : Int) (b : Bool) (c m : Int) (d : Bool) (w : World) (HC : Hid (∀ W, Calls Try.prog 72 #[.agg #[.int .i64 a, .int .i64 n, .bool b], .int .i64 n] W fun e w' => e = .returned (.int .i64 (imI a b n)) ∧ Below W.heap.size W w')) (e1 : IntKind.i64.wrap (n + m) = n + m) (e2 : IntKind.i64.wrap (n + 1) = n + 1) (hc : imI a b n = c) (hn : n ≠ 1) (hd : d = b) :
    Calls Try.prog 73 #[.agg #[.int .i64 a, .int .i64 n, .bool b], .agg #[.int .i64 c, .int .i64 m, .bool d]] w fun e w' => e = .returned (.tuple #[.agg #[.int .i64 a, .int .i64 (n + m), .bool b], .int .i64 (m)]) ∧ Below w.heap.size w w' := by
  have hn' : (n == 1) = false := beq_false_of_ne hn
  have t1 : (imI a b n == c) = true := by rw [hc]; exact beq_self_eq_true c
  have t2 : (imI a b n != c) = false := by rw [bne, t1]; rfl
  subst hd
  clear hc hn
  go_enter Try.func73, Try.ntmps73
  go_upto_region 4 with fail
  obtain ⟨w1, hw1⟩ : ∃ W, (((w.alloc (.cells #[.int .i64 a, .int .i64 n, .bool d] 48)).alloc (.cells #[.int .i64 c, .int .i64 m, .bool d] 48)).alloc (.cells #[.int .i64 0, .int .i64 0, .bool false] 48)).alloc (.cells #[.int .i64 a, .int .i64 n, .bool d] 48) = W := ⟨_, rfl⟩
  have H1 := Lib.hid (hw1 ▸ cel4a w [.int .i64 a, .int .i64 n, .bool d] _ _ _ 48 : Cel w1 w.heap.size [.int .i64 a, .int .i64 n, .bool d])
  have H2 := Lib.hid (hw1 ▸ cel4b w [.int .i64 c, .int .i64 m, .bool d] _ _ _ 48 : Cel w1 (w.heap.size + 1) [.int .i64 c, .int .i64 m, .bool d])
  have H3 := Lib.hid (hw1 ▸ cel4c w [.int .i64 0, .int .i64 0, .bool false] _ _ _ 48 : Cel w1 (w.heap.size + 1 + 1) [.int .i64 0, .int .i64 0, .bool false])
  have H4 := Lib.hid (hw1 ▸ cel4d w [.int .i64 a, .int .i64 n, .bool d] _ _ _ 48 : Cel w1 (w.heap.size + 1 + 1 + 1) [.int .i64 a, .int .i64 n, .bool d])
  have HB := Lib.hid (hw1 ▸ below4 w _ _ _ _ : Below w.heap.size w w1)
  rw [hw1]
  clear hw1
  obtain ⟨⟨a0, a1, a2⟩, ⟨c0, c1, c2⟩, ⟨l0, l1, l2⟩⟩ := (⟨H1.out.three, H2.out.three, H4.out.three⟩ : (w1.cell? ⟨w.heap.size, 0, none⟩ = some (.int .i64 a) ∧ w1.cell? ⟨w.heap.size, 1, none⟩ = some (.int .i64 n) ∧ w1.cell? ⟨w.heap.size, 2, none⟩ = some (.bool d)) ∧ (w1.cell? ⟨w.heap.size + 1, 0, none⟩ = some (.int .i64 c) ∧ w1.cell? ⟨w.heap.size + 1, 1, none⟩ = some (.int .i64 m) ∧ w1.cell? ⟨w.heap.size + 1, 2, none⟩ = some (.bool d)) ∧ (w1.cell? ⟨w.heap.size + 1 + 1 + 1, 0, none⟩ = some (.int .i64 a) ∧ w1.cell? ⟨w.heap.size + 1 + 1 + 1, 1, none⟩ = some (.int .i64 n) ∧ w1.cell? ⟨w.heap.size + 1 + 1 + 1, 2, none⟩ = some (.bool d)))
  have HS := Lib.hid fun (W : World) (hb : Below w1.heap.size w1 W) => (⟨(H1.out.on hb).three, (H2.out.on hb).three, (H4.out.on hb).three⟩ : (W.cell? ⟨w.heap.size, 0, none⟩ = some (.int .i64 a) ∧ W.cell? ⟨w.heap.size, 1, none⟩ = some (.int .i64 n) ∧ W.cell? ⟨w.heap.size, 2, none⟩ = some (.bool d)) ∧ (W.cell? ⟨w.heap.size + 1, 0, none⟩ = some (.int .i64 c) ∧ W.cell? ⟨w.heap.size + 1, 1, none⟩ = some (.int .i64 m) ∧ W.cell? ⟨w.heap.size + 1, 2, none⟩ = some (.bool d)) ∧ (W.cell? ⟨w.heap.size + 1 + 1 + 1, 0, none⟩ = some (.int .i64 a) ∧ W.cell? ⟨w.heap.size + 1 + 1 + 1, 1, none⟩ = some (.int .i64 n) ∧ W.cell? ⟨w.heap.size + 1 + 1 + 1, 2, none⟩ = some (.bool d)))
  go_region_held3 (fun W' => (W'.cell? ⟨w.heap.size, 0, none⟩ = some (.int .i64 a) ∧ W'.cell? ⟨w.heap.size, 1, none⟩ = some (.int .i64 n) ∧ W'.cell? ⟨w.heap.size, 2, none⟩ = some (.bool d)) ∧ (W'.cell? ⟨w.heap.size + 1, 0, none⟩ = some (.int .i64 c) ∧ W'.cell? ⟨w.heap.size + 1, 1, none⟩ = some (.int .i64 m) ∧ W'.cell? ⟨w.heap.size + 1, 2, none⟩ = some (.bool d)) ∧ (W'.cell? ⟨w.heap.size + 1 + 1 + 1, 0, none⟩ = some (.int .i64 a) ∧ W'.cell? ⟨w.heap.size + 1 + 1 + 1, 1, none⟩ = some (.int .i64 n) ∧ W'.cell? ⟨w.heap.size + 1 + 1 + 1, 2, none⟩ = some (.bool d)))
    (first | exact HS.out _ (Below.refl _ _) | exact HS.out _ (drew_below _) | exact HS.out _ (bstep (drew_below _) hb2))
    ((go_at_call 72; (refine (HC.out _).mono ?_); rintro e w2 ⟨rfl, hb2⟩))
  all_goals
    have HB2 := Lib.hid (bstep (drew_below w1) hb2)
    obtain ⟨⟨a0, a1, a2⟩, ⟨c0, c1, c2⟩, ⟨l0, l1, l2⟩⟩ := (⟨(H1.out.on HB2.out).three, (H2.out.on HB2.out).three, (H4.out.on HB2.out).three⟩ : (w2.cell? ⟨w.heap.size, 0, none⟩ = some (.int .i64 a) ∧ w2.cell? ⟨w.heap.size, 1, none⟩ = some (.int .i64 n) ∧ w2.cell? ⟨w.heap.size, 2, none⟩ = some (.bool d)) ∧ (w2.cell? ⟨w.heap.size + 1, 0, none⟩ = some (.int .i64 c) ∧ w2.cell? ⟨w.heap.size + 1, 1, none⟩ = some (.int .i64 m) ∧ w2.cell? ⟨w.heap.size + 1, 2, none⟩ = some (.bool d)) ∧ (w2.cell? ⟨w.heap.size + 1 + 1 + 1, 0, none⟩ = some (.int .i64 a) ∧ w2.cell? ⟨w.heap.size + 1 + 1 + 1, 1, none⟩ = some (.int .i64 n) ∧ w2.cell? ⟨w.heap.size + 1 + 1 + 1, 2, none⟩ = some (.bool d)))
    have H3b := Lib.hid (H3.out.on HB2.out)
    obtain ⟨r0, r1, r2⟩ := H3b.out.three
    obtain ⟨f0, f1, f2⟩ := H3b.out.warm3
    obtain ⟨g0, g1, g2⟩ := (H4.out.on HB2.out).warm3
    have HBB := Lib.hid (bstep HB.out HB2.out)
    clear hb2
    go_wp2_with fail
    exact bodyPost_ret (res_run2 Try.results73 rfl ((H3b.out.far (p := ⟨w.heap.size + 1 + 1 + 1, 1, none⟩) (by simp) (.int .i64 (n + m))).put3 _ _ _)) rfl ⟨rfl, below_put3 (HBB.out.setCell (p := ⟨w.heap.size + 1 + 1 + 1, 1, none⟩) (by simp; omega) _) (by omega) _ _ _⟩
set_option maxHeartbeats 1600000 in
theorem grown5 (a n : Int) (b : Bool) (c m : Int) (d : Bool) (w : World) (HC : Hid (∀ W, Calls Try.prog 72 #[.agg #[.int .i64 a, .int .i64 n, .bool b], .int .i64 n] W fun e w' => e = .returned (.int .i64 (imI a b n)) ∧ Below W.heap.size W w')) (e1 : IntKind.i64.wrap (n + m) = n + m) (e2 : IntKind.i64.wrap (n + 1) = n + 1) (hc : imI a b n = c) (hn : n ≠ 1) (hd : d ≠ b) :
    Calls Try.prog 73 #[.agg #[.int .i64 a, .int .i64 n, .bool b], .agg #[.int .i64 c, .int .i64 m, .bool d]] w fun e w' => e = .returned (.tuple #[.agg #[.int .i64 a, .int .i64 (n + 1), .bool b], .int .i64 (1)]) ∧ Below w.heap.size w w' := by
  have hn' : (n == 1) = false := beq_false_of_ne hn
  have t1 : (imI a b n == c) = true := by rw [hc]; exact beq_self_eq_true c
  have t2 : (imI a b n != c) = false := by rw [bne, t1]; rfl
  obtain rfl : b = !d := by cases b <;> cases d <;> simp at hd ⊢
  clear hd
  clear hc hn
  go_enter Try.func73, Try.ntmps73
  go_upto_region 4 with fail
  obtain ⟨w1, hw1⟩ : ∃ W, (((w.alloc (.cells #[.int .i64 a, .int .i64 n, .bool (!d)] 48)).alloc (.cells #[.int .i64 c, .int .i64 m, .bool d] 48)).alloc (.cells #[.int .i64 0, .int .i64 0, .bool false] 48)).alloc (.cells #[.int .i64 a, .int .i64 n, .bool (!d)] 48) = W := ⟨_, rfl⟩
  have H1 := Lib.hid (hw1 ▸ cel4a w [.int .i64 a, .int .i64 n, .bool (!d)] _ _ _ 48 : Cel w1 w.heap.size [.int .i64 a, .int .i64 n, .bool (!d)])
  have H2 := Lib.hid (hw1 ▸ cel4b w [.int .i64 c, .int .i64 m, .bool d] _ _ _ 48 : Cel w1 (w.heap.size + 1) [.int .i64 c, .int .i64 m, .bool d])
  have H3 := Lib.hid (hw1 ▸ cel4c w [.int .i64 0, .int .i64 0, .bool false] _ _ _ 48 : Cel w1 (w.heap.size + 1 + 1) [.int .i64 0, .int .i64 0, .bool false])
  have H4 := Lib.hid (hw1 ▸ cel4d w [.int .i64 a, .int .i64 n, .bool (!d)] _ _ _ 48 : Cel w1 (w.heap.size + 1 + 1 + 1) [.int .i64 a, .int .i64 n, .bool (!d)])
  have HB := Lib.hid (hw1 ▸ below4 w _ _ _ _ : Below w.heap.size w w1)
  rw [hw1]
  clear hw1
  obtain ⟨⟨a0, a1, a2⟩, ⟨c0, c1, c2⟩, ⟨l0, l1, l2⟩⟩ := (⟨H1.out.three, H2.out.three, H4.out.three⟩ : (w1.cell? ⟨w.heap.size, 0, none⟩ = some (.int .i64 a) ∧ w1.cell? ⟨w.heap.size, 1, none⟩ = some (.int .i64 n) ∧ w1.cell? ⟨w.heap.size, 2, none⟩ = some (.bool (!d))) ∧ (w1.cell? ⟨w.heap.size + 1, 0, none⟩ = some (.int .i64 c) ∧ w1.cell? ⟨w.heap.size + 1, 1, none⟩ = some (.int .i64 m) ∧ w1.cell? ⟨w.heap.size + 1, 2, none⟩ = some (.bool d)) ∧ (w1.cell? ⟨w.heap.size + 1 + 1 + 1, 0, none⟩ = some (.int .i64 a) ∧ w1.cell? ⟨w.heap.size + 1 + 1 + 1, 1, none⟩ = some (.int .i64 n) ∧ w1.cell? ⟨w.heap.size + 1 + 1 + 1, 2, none⟩ = some (.bool (!d))))
  have HS := Lib.hid fun (W : World) (hb : Below w1.heap.size w1 W) => (⟨(H1.out.on hb).three, (H2.out.on hb).three, (H4.out.on hb).three⟩ : (W.cell? ⟨w.heap.size, 0, none⟩ = some (.int .i64 a) ∧ W.cell? ⟨w.heap.size, 1, none⟩ = some (.int .i64 n) ∧ W.cell? ⟨w.heap.size, 2, none⟩ = some (.bool (!d))) ∧ (W.cell? ⟨w.heap.size + 1, 0, none⟩ = some (.int .i64 c) ∧ W.cell? ⟨w.heap.size + 1, 1, none⟩ = some (.int .i64 m) ∧ W.cell? ⟨w.heap.size + 1, 2, none⟩ = some (.bool d)) ∧ (W.cell? ⟨w.heap.size + 1 + 1 + 1, 0, none⟩ = some (.int .i64 a) ∧ W.cell? ⟨w.heap.size + 1 + 1 + 1, 1, none⟩ = some (.int .i64 n) ∧ W.cell? ⟨w.heap.size + 1 + 1 + 1, 2, none⟩ = some (.bool (!d))))
  go_region_held3 (fun W' => (W'.cell? ⟨w.heap.size, 0, none⟩ = some (.int .i64 a) ∧ W'.cell? ⟨w.heap.size, 1, none⟩ = some (.int .i64 n) ∧ W'.cell? ⟨w.heap.size, 2, none⟩ = some (.bool (!d))) ∧ (W'.cell? ⟨w.heap.size + 1, 0, none⟩ = some (.int .i64 c) ∧ W'.cell? ⟨w.heap.size + 1, 1, none⟩ = some (.int .i64 m) ∧ W'.cell? ⟨w.heap.size + 1, 2, none⟩ = some (.bool d)) ∧ (W'.cell? ⟨w.heap.size + 1 + 1 + 1, 0, none⟩ = some (.int .i64 a) ∧ W'.cell? ⟨w.heap.size + 1 + 1 + 1, 1, none⟩ = some (.int .i64 n) ∧ W'.cell? ⟨w.heap.size + 1 + 1 + 1, 2, none⟩ = some (.bool (!d))))
    (first | exact HS.out _ (Below.refl _ _) | exact HS.out _ (drew_below _) | exact HS.out _ (bstep (drew_below _) hb2))
    ((go_at_call 72; (refine (HC.out _).mono ?_); rintro e w2 ⟨rfl, hb2⟩))
  all_goals
    have HB2 := Lib.hid (bstep (drew_below w1) hb2)
    obtain ⟨⟨a0, a1, a2⟩, ⟨c0, c1, c2⟩, ⟨l0, l1, l2⟩⟩ := (⟨(H1.out.on HB2.out).three, (H2.out.on HB2.out).three, (H4.out.on HB2.out).three⟩ : (w2.cell? ⟨w.heap.size, 0, none⟩ = some (.int .i64 a) ∧ w2.cell? ⟨w.heap.size, 1, none⟩ = some (.int .i64 n) ∧ w2.cell? ⟨w.heap.size, 2, none⟩ = some (.bool (!d))) ∧ (w2.cell? ⟨w.heap.size + 1, 0, none⟩ = some (.int .i64 c) ∧ w2.cell? ⟨w.heap.size + 1, 1, none⟩ = some (.int .i64 m) ∧ w2.cell? ⟨w.heap.size + 1, 2, none⟩ = some (.bool d)) ∧ (w2.cell? ⟨w.heap.size + 1 + 1 + 1, 0, none⟩ = some (.int .i64 a) ∧ w2.cell? ⟨w.heap.size + 1 + 1 + 1, 1, none⟩ = some (.int .i64 n) ∧ w2.cell? ⟨w.heap.size + 1 + 1 + 1, 2, none⟩ = some (.bool (!d))))
    have H3b := Lib.hid (H3.out.on HB2.out)
    obtain ⟨r0, r1, r2⟩ := H3b.out.three
    obtain ⟨f0, f1, f2⟩ := H3b.out.warm3
    obtain ⟨g0, g1, g2⟩ := (H4.out.on HB2.out).warm3
    have HBB := Lib.hid (bstep HB.out HB2.out)
    clear hb2
    go_wp2_with fail
    exact bodyPost_ret (res_run2 Try.results73 rfl ((H3b.out.far (p := ⟨w.heap.size + 1 + 1 + 1, 1, none⟩) (by simp) (.int .i64 (n + 1))).put3 _ _ _)) rfl ⟨rfl, below_put3 (HBB.out.setCell (p := ⟨w.heap.size + 1 + 1 + 1, 1, none⟩) (by simp; omega) _) (by omega) _ _ _⟩
set_option maxHeartbeats 1600000 in
theorem grown6 (a n : Int) (b : Bool) (c m : Int) (d : Bool) (w : World) (HC : Hid (∀ W, Calls Try.prog 72 #[.agg #[.int .i64 a, .int .i64 n, .bool b], .int .i64 n] W fun e w' => e = .returned (.int .i64 (imI a b n)) ∧ Below W.heap.size W w')) (e1 : IntKind.i64.wrap (n + m) = n + m) (e2 : IntKind.i64.wrap (n + 1) = n + 1) (hc : imI a b n ≠ c) (hn : n ≠ 1) :
    Calls Try.prog 73 #[.agg #[.int .i64 a, .int .i64 n, .bool b], .agg #[.int .i64 c, .int .i64 m, .bool d]] w fun e w' => e = .returned (.tuple #[.agg #[.int .i64 a, .int .i64 (n), .bool b], .int .i64 (0)]) ∧ Below w.heap.size w w' := by
  have hn' : (n == 1) = false := beq_false_of_ne hn
  have t1 : (imI a b n == c) = false := beq_false_of_ne hc
  have t2 : (imI a b n != c) = true := by rw [bne, t1]; rfl
  clear hc hn
  go_enter Try.func73, Try.ntmps73
  go_upto_region 4 with fail
  obtain ⟨w1, hw1⟩ : ∃ W, (((w.alloc (.cells #[.int .i64 a, .int .i64 n, .bool b] 48)).alloc (.cells #[.int .i64 c, .int .i64 m, .bool d] 48)).alloc (.cells #[.int .i64 0, .int .i64 0, .bool false] 48)).alloc (.cells #[.int .i64 a, .int .i64 n, .bool b] 48) = W := ⟨_, rfl⟩
  have H1 := Lib.hid (hw1 ▸ cel4a w [.int .i64 a, .int .i64 n, .bool b] _ _ _ 48 : Cel w1 w.heap.size [.int .i64 a, .int .i64 n, .bool b])
  have H2 := Lib.hid (hw1 ▸ cel4b w [.int .i64 c, .int .i64 m, .bool d] _ _ _ 48 : Cel w1 (w.heap.size + 1) [.int .i64 c, .int .i64 m, .bool d])
  have H3 := Lib.hid (hw1 ▸ cel4c w [.int .i64 0, .int .i64 0, .bool false] _ _ _ 48 : Cel w1 (w.heap.size + 1 + 1) [.int .i64 0, .int .i64 0, .bool false])
  have H4 := Lib.hid (hw1 ▸ cel4d w [.int .i64 a, .int .i64 n, .bool b] _ _ _ 48 : Cel w1 (w.heap.size + 1 + 1 + 1) [.int .i64 a, .int .i64 n, .bool b])
  have HB := Lib.hid (hw1 ▸ below4 w _ _ _ _ : Below w.heap.size w w1)
  rw [hw1]
  clear hw1
  obtain ⟨⟨a0, a1, a2⟩, ⟨c0, c1, c2⟩, ⟨l0, l1, l2⟩⟩ := (⟨H1.out.three, H2.out.three, H4.out.three⟩ : (w1.cell? ⟨w.heap.size, 0, none⟩ = some (.int .i64 a) ∧ w1.cell? ⟨w.heap.size, 1, none⟩ = some (.int .i64 n) ∧ w1.cell? ⟨w.heap.size, 2, none⟩ = some (.bool b)) ∧ (w1.cell? ⟨w.heap.size + 1, 0, none⟩ = some (.int .i64 c) ∧ w1.cell? ⟨w.heap.size + 1, 1, none⟩ = some (.int .i64 m) ∧ w1.cell? ⟨w.heap.size + 1, 2, none⟩ = some (.bool d)) ∧ (w1.cell? ⟨w.heap.size + 1 + 1 + 1, 0, none⟩ = some (.int .i64 a) ∧ w1.cell? ⟨w.heap.size + 1 + 1 + 1, 1, none⟩ = some (.int .i64 n) ∧ w1.cell? ⟨w.heap.size + 1 + 1 + 1, 2, none⟩ = some (.bool b)))
  have HS := Lib.hid fun (W : World) (hb : Below w1.heap.size w1 W) => (⟨(H1.out.on hb).three, (H2.out.on hb).three, (H4.out.on hb).three⟩ : (W.cell? ⟨w.heap.size, 0, none⟩ = some (.int .i64 a) ∧ W.cell? ⟨w.heap.size, 1, none⟩ = some (.int .i64 n) ∧ W.cell? ⟨w.heap.size, 2, none⟩ = some (.bool b)) ∧ (W.cell? ⟨w.heap.size + 1, 0, none⟩ = some (.int .i64 c) ∧ W.cell? ⟨w.heap.size + 1, 1, none⟩ = some (.int .i64 m) ∧ W.cell? ⟨w.heap.size + 1, 2, none⟩ = some (.bool d)) ∧ (W.cell? ⟨w.heap.size + 1 + 1 + 1, 0, none⟩ = some (.int .i64 a) ∧ W.cell? ⟨w.heap.size + 1 + 1 + 1, 1, none⟩ = some (.int .i64 n) ∧ W.cell? ⟨w.heap.size + 1 + 1 + 1, 2, none⟩ = some (.bool b)))
  go_region_held3 (fun W' => (W'.cell? ⟨w.heap.size, 0, none⟩ = some (.int .i64 a) ∧ W'.cell? ⟨w.heap.size, 1, none⟩ = some (.int .i64 n) ∧ W'.cell? ⟨w.heap.size, 2, none⟩ = some (.bool b)) ∧ (W'.cell? ⟨w.heap.size + 1, 0, none⟩ = some (.int .i64 c) ∧ W'.cell? ⟨w.heap.size + 1, 1, none⟩ = some (.int .i64 m) ∧ W'.cell? ⟨w.heap.size + 1, 2, none⟩ = some (.bool d)) ∧ (W'.cell? ⟨w.heap.size + 1 + 1 + 1, 0, none⟩ = some (.int .i64 a) ∧ W'.cell? ⟨w.heap.size + 1 + 1 + 1, 1, none⟩ = some (.int .i64 n) ∧ W'.cell? ⟨w.heap.size + 1 + 1 + 1, 2, none⟩ = some (.bool b)))
    (first | exact HS.out _ (Below.refl _ _) | exact HS.out _ (drew_below _) | exact HS.out _ (bstep (drew_below _) hb2))
    ((go_at_call 72; (refine (HC.out _).mono ?_); rintro e w2 ⟨rfl, hb2⟩))
  all_goals
    have HB2 := Lib.hid (bstep (drew_below w1) hb2)
    obtain ⟨⟨a0, a1, a2⟩, ⟨c0, c1, c2⟩, ⟨l0, l1, l2⟩⟩ := (⟨(H1.out.on HB2.out).three, (H2.out.on HB2.out).three, (H4.out.on HB2.out).three⟩ : (w2.cell? ⟨w.heap.size, 0, none⟩ = some (.int .i64 a) ∧ w2.cell? ⟨w.heap.size, 1, none⟩ = some (.int .i64 n) ∧ w2.cell? ⟨w.heap.size, 2, none⟩ = some (.bool b)) ∧ (w2.cell? ⟨w.heap.size + 1, 0, none⟩ = some (.int .i64 c) ∧ w2.cell? ⟨w.heap.size + 1, 1, none⟩ = some (.int .i64 m) ∧ w2.cell? ⟨w.heap.size + 1, 2, none⟩ = some (.bool d)) ∧ (w2.cell? ⟨w.heap.size + 1 + 1 + 1, 0, none⟩ = some (.int .i64 a) ∧ w2.cell? ⟨w.heap.size + 1 + 1 + 1, 1, none⟩ = some (.int .i64 n) ∧ w2.cell? ⟨w.heap.size + 1 + 1 + 1, 2, none⟩ = some (.bool b)))
    have H3b := Lib.hid (H3.out.on HB2.out)
    obtain ⟨r0, r1, r2⟩ := H3b.out.three
    obtain ⟨f0, f1, f2⟩ := H3b.out.warm3
    obtain ⟨g0, g1, g2⟩ := (H4.out.on HB2.out).warm3
    have HBB := Lib.hid (bstep HB.out HB2.out)
    clear hb2
    go_wp2_with fail
    exact bodyPost_ret (res_run2 Try.results73 rfl (H3b.out.put3 _ _ _)) rfl ⟨rfl, below_put3 HBB.out (by omega) _ _ _⟩
set_option maxHeartbeats 3200000 in
theorem iso_grown (a n : Int) (b : Bool) (c m : Int) (d : Bool) (w : World) (h1 : -big ≤ a ∧ a ≤ big) (h2 : -big ≤ n ∧ n ≤ big) (h3 : -big ≤ c ∧ c ≤ big) (h4 : -big ≤ m ∧ m ≤ big) :
    Calls Try.prog 73 #[.agg #[.int .i64 a, .int .i64 n, .bool b], .agg #[.int .i64 c, .int .i64 m, .bool d]] w fun e w' => e = .returned (.tuple #[.agg #[.int .i64 a, .int .i64 (n + grT a n b c m d), .bool (grV a n b c m d)], .int .i64 (grT a n b c m d)]) ∧ Below w.heap.size w w' := by
  obtain ⟨B, hB⟩ : ∃ B, grB a n b c = B := ⟨_, rfl⟩
  obtain ⟨T, hT⟩ : ∃ T, grT a n b c m d = T := ⟨_, rfl⟩
  obtain ⟨V, hV⟩ : ∃ V, grV a n b c m d = V := ⟨_, rfl⟩
  rw [hT, hV]
  unfold grT at hT
  unfold grV at hV
  rw [hB] at hT hV
  have HC := Lib.hid fun W => iso_image a n B n W h1 h2
  have e1 : IntKind.i64.wrap (n + m) = n + m := wrap_id (by unfold big at *; omega)
  have e2 : IntKind.i64.wrap (n + 1) = n + 1 := wrap_id (by unfold big at *; omega)
  clear h1 h2 h3 h4
  by_cases hn : n = 1
  · subst hn
    have hB' : decide (c < a) = B := by rw [← hB]; exact (if_pos rfl).symm
    by_cases ht : imI a B 1 = c
    · rw [if_pos ht] at hT hV
      subst hV
      by_cases hd : d = B
      · rw [if_pos hd] at hT; subst hT; exact grown1 a 1 b c m d B w HC e1 e2 ht hB' hd
      · rw [if_neg hd] at hT; subst hT; rw [show (1 : Int) + 1 = 2 from rfl]; exact grown2 a 1 b c m d B w HC e1 e2 ht hB' hd
    · rw [if_neg ht] at hT hV; subst hT; subst hV; rw [show (1 : Int) + 0 = 1 from rfl]; exact grown3 a 1 b c m d B w HC e1 e2 ht hB'
  · have hbB : B = b := by rw [← hB]; exact if_neg hn
    by_cases ht : imI a B n = c
    · rw [if_pos ht] at hT hV
      subst hV
      by_cases hd : d = B
      · rw [if_pos hd] at hT; subst hT; subst hbB; exact grown4 a n _ c m d w HC e1 e2 ht hn hd
      · rw [if_neg hd] at hT; subst hT; subst hbB; exact grown5 a n _ c m d w HC e1 e2 ht hn hd
    · rw [if_neg ht] at hT hV; subst hT; subst hV; rw [Int.add_zero]; subst hbB; exact grown6 a n _ c m d w HC e1 e2 ht hn
#print axioms iso_grown
end Go.Proofs.Ytnblpooimgpgoaa.Iso
