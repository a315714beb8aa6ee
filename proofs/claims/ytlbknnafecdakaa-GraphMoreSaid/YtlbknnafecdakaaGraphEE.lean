/- The chapter's examples. -/
import Derived.Test.YtlbknnafecdakaaGraphDD
import Derived.Test.YtlbknnafecdakaaGraphI
namespace Go.Proofs.Ytlbknnafecdakaa.Graph
open Go.ChangeShapes Go.WideShapes Go.RowKit Go.Lib
set_option linter.unusedVariables false
set_option maxRecDepth 100000

/-! ### What they are (pure) -/
theorem ok_of {N : Nat} {L : Arcs} (h : L.all (fun e => decide (e.1 < N) && decide (e.2 < N)) = true) : Ok N L := by
  intro a b hab
  have := List.all_eq_true.mp h _ hab
  simpa using this
theorem ex_order : OrdP 3 [(2, 0), (0, 1)] 0 [2, 0, 1] :=
  Or.inr ⟨3, [(2, 0), (0, 1)], ⟨rfl, rfl, by decide, by decide, ok_of (by decide)⟩, Or.inr ⟨[2, 0, 1], by decide, rfl, rfl⟩⟩
theorem ex_cycle : CycP 3 [(0, 1), (1, 2), (2, 0), (2, 1)] 0 [0, 1, 2] := by
  refine Or.inr ⟨3, [(0, 1), (1, 2), (2, 0), (2, 1)], ⟨rfl, rfl, by decide, by decide, ok_of (by decide)⟩, Or.inr ⟨0, [0, 1, 2], ⟨rfl, fun k hk => by omega, ⟨1, by decide, 2, by decide, 0, by decide, rfl⟩, fun j h1 h2 hw => ?_, fun j x y hx hy => ?_⟩, rfl, rfl⟩⟩
  · have h2 : j < 3 := h2
    rcases (by omega : j = 1 ∨ j = 2) with rfl | rfl
    · obtain ⟨b, hb, hw⟩ := hw
      have : b = 0 := hw
      subst this
      revert hb; decide
    · obtain ⟨b, hb, c, hc, hw⟩ := hw
      have : c = 0 := hw
      subst this
      simp at hb hc
      omega
  · match j, hx, hy with
    | 0, hx, hy =>
      simp at hx hy; subst hx; subst hy
      exact ⟨by decide, ⟨2, by decide, 0, by decide, rfl⟩, fun z hz hm => by simp at hm; omega⟩
    | 1, hx, hy =>
      simp at hx hy; subst hx; subst hy
      exact ⟨by decide, ⟨0, by decide, rfl⟩, fun z hz hm => by simp at hm; omega⟩
    | j + 2, hx, hy => simp at hy
theorem ex_reach : RchP 3 [(0, 2)] 0 0 [true, false, true] := by
  refine Or.inr (Or.inr ⟨3, [(0, 2)], 0, ⟨rfl, rfl, by decide, by decide, ok_of (by decide)⟩, rfl, by decide, rfl, rfl, fun b hb => ?_⟩)
  have key : ∀ b, Rp [(0, 2)] 0 b → b = 0 ∨ b = 2 := fun b h => h.closed (S := fun x => x = 0 ∨ x = 2) (Or.inl rfl) fun x y hxy _ => by simp at hxy; omega
  rcases (by omega : b = 0 ∨ b = 1 ∨ b = 2) with rfl | rfl | rfl
  · exact ⟨fun _ => Rp.refl _ _, fun _ => rfl⟩
  · exact ⟨fun h => by simp at h, fun h => by have := key 1 h; omega⟩
  · exact ⟨fun _ => Rp.arc (by decide), fun _ => rfl⟩
theorem ex_levels : LevP 3 [(0, 1), (1, 2), (0, 2)] 0 [0, 1, 2] := by
  have hok : Ok 3 [(0, 1), (1, 2), (0, 2)] := ok_of (by decide)
  have ho : ordO 3 [(0, 1), (1, 2), (0, 2)] = some [0, 1, 2] := by decide
  refine Or.inr ⟨3, [(0, 1), (1, 2), (0, 2)], ⟨rfl, rfl, by decide, by decide, hok⟩, Or.inr ⟨[0, 1, 2], ho, rfl, ?_⟩⟩
  refine LvI.done (T := [0, 1, 2]) (l := []) ⟨rfl, fun b v hv => ?_, fun p a hp ha b hb => ?_, fun n hn q c hq => by omega⟩ hok (ord_ok ho).1 rfl
  · match b, hv with
    | 0, hv => simp at hv; subst hv; exact ⟨0, rfl, 0, rfl⟩
    | 1, hv => simp at hv; subst hv; exact ⟨1, rfl, 0, 1, by decide, rfl⟩
    | 2, hv => simp at hv; subst hv; exact ⟨2, rfl, 0, 1, by decide, 2, by decide, rfl⟩
    | b + 3, hv => simp at hv
  · simp at hb
    rcases hb with ⟨rfl, rfl⟩ | ⟨rfl, rfl⟩ | ⟨rfl, rfl⟩
    · exact ⟨0, 1, rfl, rfl, by decide⟩
    · exact ⟨1, 2, rfl, rfl, by decide⟩
    · exact ⟨0, 2, rfl, rfl, by decide⟩
/-! ### Literals -/
theorem cl_lit {α : Type} (enc : α → Value) (L : List α) (W : World) (cs : Array Value) (T : TypeId) (h : cs.toList = L.map enc) : Cl enc (W.alloc (.cells cs T)) (some ⟨W.heap.size, 0, none⟩) L := by
  intro k z hk
  refine ⟨_, _, rfl, by simp, ?_⟩
  rw [cell_of_row _ W.heap.size _ cs T (0, 0) (heap_alloc_new W _), Nat.zero_add]
  have : cs.toList[k]? = some (enc z) := by rw [h, List.getElem?_map, hk]; rfl
  simpa using this
theorem ars_lit (L : List Pr) (W : World) (cs : Array Value) (T : TypeId) (h : cs.toList = cellsA L) : Ars (W.alloc (.cells cs T)) (some ⟨W.heap.size, 0, none⟩) L := by
  intro k s hk
  obtain ⟨h1, h2⟩ := cellsA_at hk
  rw [← h] at h1 h2
  refine ⟨_, _, rfl, by simp, ?_, ?_⟩
  · rw [cell_of_row _ W.heap.size _ cs T (0, 0) (heap_alloc_new W _), Nat.zero_add]; simpa using h1
  · rw [cell_of_row _ W.heap.size _ cs T (0, 0) (heap_alloc_new W _), Nat.zero_add]; simpa using h2
theorem res_at {α : Type} {enc : α → Value} {w : World} {P : Int → List α → Prop} {e : Ending} {w' : World} {E : Int} {l : List α} (h : Res enc w P e w') (one : ∀ {E F o p}, P E o → P F p → E = F ∧ o = p) (hP : P E l) :
    ∃ A c, e = .returned (.tuple #[.slice A l.length c, .int .i64 E]) ∧ Cl enc w' A l ∧ Below w.heap.size w w' := by
  obtain ⟨A, c, l', E', h1, _, h2, h3, h4⟩ := h
  obtain ⟨rfl, rfl⟩ := one h2 hP
  exact ⟨A, c, h1, h3, h4⟩

set_option maxHeartbeats 3200000 in
theorem awake_true (w : World) : Calls Try.prog 13 #[] w fun e w' => e = .returned (.bool true) ∧ Below w.heap.size w w' := by
  have H1 := Lib.hid (graph_Order 3 [(2, 0), (0, 1)] (some ⟨w.heap.size, 0, none⟩) 2 (w.alloc (.cells #[.int .i64 2, .int .i64 0, .int .i64 0, .int .i64 1] 42)) (ars_lit _ _ _ _ rfl) (by decide))
  have B1 := Lib.hid (below_alloc w (.cells #[.int .i64 2, .int .i64 0, .int .i64 0, .int .i64 1] 42))
  rw [show ([(2, 0), (0, 1)] : List Pr).length = 2 from rfl] at H1
  go_enter Try.func13, Try.ntmps13
  go_wp2_with fail
  refine H1.out.mono ?_
  intro e w1 hr1
  obtain ⟨A1, c1, rfl, k1, b1⟩ := res_at hr1 OrdP.one ex_order
  rw [show ([2, 0, 1] : List Int).length = 3 from rfl]
  have K1 := Lib.hid k1
  have BW1 := Lib.hid (bstep B1.out b1)
  have H2 := Lib.hid (graph_Cycle 3 [(0, 1), (1, 2), (2, 0), (2, 1)] (some ⟨w1.heap.size, 0, none⟩) 4 (w1.alloc (.cells #[.int .i64 0, .int .i64 1, .int .i64 1, .int .i64 2, .int .i64 2, .int .i64 0, .int .i64 2, .int .i64 1] 42)) (ars_lit _ _ _ _ rfl) (by decide))
  rw [show ([(0, 1), (1, 2), (2, 0), (2, 1)] : List Pr).length = 4 from rfl] at H2
  clear k1 b1 hr1 H1
  go_wp2_with fail
  refine H2.out.mono ?_
  intro e w2 hr2
  obtain ⟨A2, c2, rfl, k2, b2⟩ := res_at hr2 CycP.one ex_cycle
  rw [show ([0, 1, 2] : List Int).length = 3 from rfl]
  have BW2 := Lib.hid (bstep (below_alloc w1 _) b2)
  have K2 := Lib.hid k2
  have H3 := Lib.hid (graph_Reach 3 [(0, 2)] 0 (some ⟨w2.heap.size, 0, none⟩) 1 (w2.alloc (.cells #[.int .i64 0, .int .i64 2] 42)) (ars_lit _ _ _ _ rfl) (by decide))
  rw [show ([(0, 2)] : List Pr).length = 1 from rfl] at H3
  clear k2 b2 hr2 H2
  go_wp2_with fail
  refine H3.out.mono ?_
  intro e w3 hr3
  obtain ⟨A3, c3, rfl, k3, b3⟩ := res_at hr3 RchP.one ex_reach
  rw [show ([true, false, true] : List Bool).length = 3 from rfl]
  have BW3 := Lib.hid (bstep (below_alloc w2 _) b3)
  have K3 := Lib.hid k3
  have H4 := Lib.hid (graph_Levels 3 [(0, 1), (1, 2), (0, 2)] (some ⟨w3.heap.size, 0, none⟩) 3 (w3.alloc (.cells #[.int .i64 0, .int .i64 1, .int .i64 1, .int .i64 2, .int .i64 0, .int .i64 2] 42)) (ars_lit _ _ _ _ rfl) (by decide))
  rw [show ([(0, 1), (1, 2), (0, 2)] : List Pr).length = 3 from rfl] at H4
  clear k3 b3 hr3 H3
  go_wp2_with fail
  refine H4.out.mono ?_
  intro e w4 hr4
  obtain ⟨A4, c4, rfl, k4, b4⟩ := res_at hr4 LevP.one ex_levels
  rw [show ([0, 1, 2] : List Int).length = 3 from rfl]
  have BW4 := Lib.hid (bstep (below_alloc w3 _) b4)
  have K4 := Lib.hid k4
  have H5 := Lib.hid (graph_Reverse 2 [(0, 1)] (some ⟨w4.heap.size, 0, none⟩) 1 (w4.alloc (.cells #[.int .i64 0, .int .i64 1] 42)) (ars_lit _ _ _ _ rfl) (by decide))
  rw [show ([(0, 1)] : List Pr).length = 1 from rfl] at H5
  clear k4 b4 hr4 H4
  go_wp2_with fail
  refine H5.out.mono ?_
  intro e w5 hr5
  have hz : chkE 2 [(0, 1)] = 0 := by decide
  rcases hr5 with ⟨_, ⟨A5, c5, rfl, _, _, k5⟩, b5⟩ | ⟨h, _⟩
  · rw [show ([(0, 1)] : List Pr).length = 1 from rfl]
    have BW5 := Lib.hid (bstep (below_alloc w4 _) b5)
    have K5 := Lib.hid k5
    clear k5 b5 H5
    go_upto_region 6 with fail
    have BX := Bx.new w5 2 A5 1 c5 24
    have BW6 := Lib.hid (below_alloc w5 (.cells #[.int .i64 2, .slice A5 1 c5] 24))
    obtain ⟨w6, hw6⟩ : ∃ W, w5.alloc (.cells #[.int .i64 2, .slice A5 1 c5] 24) = W := ⟨_, rfl⟩
    have BX := Lib.hid (hw6 ▸ BX)
    have BW6 := Lib.hid (hw6 ▸ BW6.out)
    rw [hw6]
    clear hw6
    have L1 := Lib.hid (ref_Ints [2, 0, 1] [2, 0, 1] A1 (some ⟨w6.heap.size, 0, none⟩) c1 3 (w6.alloc (.cells #[.int .i64 2, .int .i64 0, .int .i64 1] 3))
      (K1.out.on (bstep (bstep BW2.out BW3.out) (bstep (bstep BW4.out BW5.out) (bstep BW6.out (below_alloc w6 _))))) (cl_lit _ _ _ _ _ rfl) (by decide) (by decide))
    rw [show ([2, 0, 1] : List Int).length = 3 from rfl, show decide (([2, 0, 1] : List Int) = [2, 0, 1]) = true from rfl] at L1
    go_wp2_with fail
    refine L1.out.mono ?_
    rintro e w7 ⟨rfl, b7⟩
    have BW7 := Lib.hid (bstep (below_alloc w6 _) b7)
    clear b7 L1 K1
    have L2 := Lib.hid (ref_Ints [0, 1, 2] [0, 1, 2] A2 (some ⟨w7.heap.size, 0, none⟩) c2 3 (w7.alloc (.cells #[.int .i64 0, .int .i64 1, .int .i64 2] 3))
      (K2.out.on (bstep BW3.out (bstep (bstep BW4.out BW5.out) (bstep BW6.out (bstep BW7.out (below_alloc w7 _)))))) (cl_lit _ _ _ _ _ rfl) (by decide) (by decide))
    rw [show ([0, 1, 2] : List Int).length = 3 from rfl, show decide (([0, 1, 2] : List Int) = [0, 1, 2]) = true from rfl] at L2
    go_wp2_with fail
    refine L2.out.mono ?_
    rintro e w8 ⟨rfl, b8⟩
    have BW8 := Lib.hid (bstep (below_alloc w7 _) b8)
    clear b8 L2 K2
    have L3 := Lib.hid (ref_Bools [true, false, true] [true, false, true] A3 (some ⟨w8.heap.size, 0, none⟩) c3 3 (w8.alloc (.cells #[.bool true, .bool false, .bool true] 4))
      (K3.out.on (bstep BW4.out (bstep BW5.out (bstep BW6.out (bstep (bstep BW7.out BW8.out) (below_alloc w8 _)))))) (cl_lit _ _ _ _ _ rfl) (by decide) (by decide))
    rw [show ([true, false, true] : List Bool).length = 3 from rfl, show decide (([true, false, true] : List Bool) = [true, false, true]) = true from rfl] at L3
    go_wp2_with fail
    refine L3.out.mono ?_
    rintro e w9 ⟨rfl, b9⟩
    have BW9 := Lib.hid (bstep (below_alloc w8 _) b9)
    clear b9 L3 K3
    have L4 := Lib.hid (ref_Ints [0, 1, 2] [0, 1, 2] A4 (some ⟨w9.heap.size, 0, none⟩) c4 3 (w9.alloc (.cells #[.int .i64 0, .int .i64 1, .int .i64 2] 3))
      (K4.out.on (bstep BW5.out (bstep BW6.out (bstep (bstep BW7.out BW8.out) (bstep BW9.out (below_alloc w9 _)))))) (cl_lit _ _ _ _ _ rfl) (by decide) (by decide))
    rw [show ([0, 1, 2] : List Int).length = 3 from rfl, show decide (([0, 1, 2] : List Int) = [0, 1, 2]) = true from rfl] at L4
    go_wp2_with fail
    refine L4.out.mono ?_
    rintro e w10 ⟨rfl, b10⟩
    have BW10 := Lib.hid (bstep (below_alloc w9 _) b10)
    clear b10 L4 K4
    have BY := Lib.hid (BX.out.on (bstep (bstep BW7.out BW8.out) (bstep BW9.out BW10.out)))
    have L5 := Lib.hid (ref_Same 2 2 [(1, 0)] [(1, 0)] A5 (some ⟨w10.heap.size, 0, none⟩) c5 1 (w10.alloc (.cells #[.int .i64 1, .int .i64 0] 42))
      (K5.out.on (bstep BW6.out (bstep (bstep BW7.out BW8.out) (bstep (bstep BW9.out BW10.out) (below_alloc w10 _))))) (ars_lit _ _ _ _ rfl) (by decide) (by decide))
    rw [show ([(1, 0)] : List Pr).length = 1 from rfl, show decide ((2 : Int) = 2 ∧ ([(1, 0)] : List Pr) = [(1, 0)]) = true from by decide] at L5
    obtain ⟨_, x0, x1⟩ := BY.out
    go_wp2_with fail
    refine L5.out.mono ?_
    rintro e w11 ⟨rfl, b11⟩
    have BW11 := Lib.hid (bstep (below_alloc w10 _) b11)
    clear x0 x1 b11
    go_wp2_with fail
    go_ret
    exact ⟨rfl, bstep BW1.out (bstep (bstep BW2.out BW3.out) (bstep (bstep BW4.out BW5.out) (bstep BW6.out (bstep (bstep BW7.out BW8.out) (bstep (bstep BW9.out BW10.out) BW11.out)))))⟩
  · exact absurd hz h
end Go.Proofs.Ytlbknnafecdakaa.Graph
