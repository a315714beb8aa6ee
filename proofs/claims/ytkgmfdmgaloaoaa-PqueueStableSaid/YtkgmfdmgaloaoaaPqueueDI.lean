/- A queue in memory; the test 'before'. -/
import Derived.Test.YtkgmfdmgaloaoaaPqueueC
namespace Go.Proofs.Ytkgmfdmgaloaoaa.PqueueI
open Go.ChangeShapes Go.WideShapes Go.RowKit Go.Lib Go.Proofs.Ytkgmfdmgaloaoaa.Pqueue
set_option linter.unusedVariables false
set_option maxRecDepth 100000

abbrev It := Int × Int
/-- A value's cells; an entry's. -/
abbrev cV (z : It) : List Value := [.int .i64 z.1, .int .i64 z.2]
abbrev cE (e : It × Nat) : List Value := [.int .i64 e.1.1, .int .i64 e.1.2, .int .i64 (e.2 : Int)]
abbrev eV (z : It) : Value := .agg #[.int .i64 z.1, .int .i64 z.2]
abbrev TQ : TypeId := 60
abbrev TE : TypeId := 62
abbrev TV : TypeId := 27
theorem cV_len (z : It) : (cV z).length = 2 := rfl
theorem cE_len (e : It × Nat) : (cE e).length = 3 := rfl
/-- Function n is the order lt. -/
structure Ord (n : Nat) (lt : It → It → Bool) : Prop where
  eg : ∀ args w, (callFunc n args).run Try.prog w = .ok (.enter n args) w
  call : ∀ x y W, Calls Try.prog n #[eV x, eV y] W fun e w' => e = .returned (.bool (lt x y)) ∧ Below W.heap.size W w'
/-- The queue at block g, of the order n, with the heap L, in which p values came; its blocks are in S. -/
structure Qu (w : World) (g : Nat) (S : Nat → Prop) (n : Nat) (L : List (It × Nat)) (p : Nat) : Prop where
  sg : S g
  lt : ∀ k, S k → k < w.heap.size
  ex : ∃ v, w.heap[g]? = some (.cells #[.func (.func n) #[] #[], v, .int .i64 (p : Int)] TQ (0, 0)) ∧ Row cE 3 TE 0 w v L ∧ (∀ h, v.ownBlock = some h → S h ∧ h ≠ g)
section
variable {w w' : World} {g n p : Nat} {S S' : Nat → Prop} {L : List (It × Nat)} {lt : It → It → Bool}
theorem Qu.keep (h : Qu w g S n L p) (hs : w.heap.size ≤ w'.heap.size) (hk : ∀ k, S k → w'.heap[k]? = w.heap[k]?) : Qu w' g S n L p := by
  obtain ⟨v, h1, h2, h7⟩ := h.ex
  exact ⟨h.sg, fun k hk => Nat.lt_of_lt_of_le (h.lt k hk) hs, v, (hk g h.sg).trans h1, h2.keep fun k e => hk k (h7 k e).1, h7⟩
theorem Qu.off (h : Qu w g S n L p) (ho : Off S' w w') (hd : ∀ k, S k → ¬ S' k) : Qu w' g S n L p :=
  h.keep ho.size fun k hk => ho.block k (h.lt k hk) (hd k hk)
theorem Qu.on (h : Qu w g S n L p) (hb : Below w.heap.size w w') : Qu w' g S n L p :=
  h.keep hb.size fun k hk => hb.block k (h.lt k hk)
/-- What the walks read of a queue's own block. -/
theorem Qu.reads (h : Qu w g S n L p) : ∃ A c, w.cell? ⟨g, 0, none⟩ = some (.func (.func n) #[] #[]) ∧ w.cell? ⟨g, 1, none⟩ = some (.slice A L.length c) ∧ w.cell? ⟨g, 2, none⟩ = some (.int .i64 (p : Int)) ∧
    Row cE 3 TE 0 w (.slice A L.length c) L ∧ w.heap[g]? = some (.cells #[.func (.func n) #[] #[], .slice A L.length c, .int .i64 (p : Int)] TQ (0, 0)) ∧ (∀ h, (Value.slice A L.length c).ownBlock = some h → S h ∧ h ≠ g) ∧ (L = [] ∨ ∃ h, A = some ⟨h, 0, none⟩) := by
  obtain ⟨v, h1, h2, h3⟩ := h.ex
  obtain ⟨A, c, rfl, -, -, hr, -, hA⟩ := h2.one cE_len
  refine ⟨A, c, by rw [cell_of_row _ _ _ _ _ _ h1]; rfl, by rw [cell_of_row _ _ _ _ _ _ h1]; rfl, by rw [cell_of_row _ _ _ _ _ _ h1]; rfl, h2, h1, h3, ?_⟩
  rcases hA with rfl | ⟨h, rfl, _⟩
  · exact Or.inl hr.none_
  · exact Or.inr ⟨h, rfl⟩
theorem cells_at {h c m : Nat} (hr : Row cE 3 TE 0 w (.slice (some ⟨h, 0, none⟩) m c) L) {i : Nat} {x : It × Nat} (hi : L[i]? = some x) : w.cell? ⟨h, i * 3, none⟩ = some (.int .i64 x.1.1) ∧ w.cell? ⟨h, i * 3 + 1, none⟩ = some (.int .i64 x.1.2) ∧ w.cell? ⟨h, i * 3 + 2, none⟩ = some (.int .i64 (x.2 : Int)) :=
  ⟨hr.cell cE_len hi (j := 0) rfl, hr.cell cE_len hi (j := 1) rfl, hr.cell cE_len hi (j := 2) rfl⟩
end

set_option maxHeartbeats 1600000 in
theorem q_before {w : World} {g n p : Nat} {S : Nat → Prop} {L : List (It × Nat)} {lt : It → It → Bool} (hq : Qu w g S n L p) (ho : Ord n lt) (hm : L.length ≤ 1000000) {i k : Nat} {x y : It × Nat} (hi : L[i]? = some x) (hk : L[k]? = some y) :
    Calls Try.prog 43 #[.pointer (some ⟨g, 0, none⟩), .int .i64 (i : Int), .int .i64 (k : Int)] w fun e w' => e = .returned (.bool (bfr lt x y)) ∧ Below w.heap.size w w' := by
  obtain ⟨A, c, c0, c1, c2, hrow, hb, hS, hA⟩ := hq.reads
  have il := glt hi
  have kl := glt hk
  have hgl := hq.lt g hq.sg
  obtain ⟨h, rfl⟩ : ∃ h, A = some ⟨h, 0, none⟩ := by
    rcases hA with rfl | h
    · simp at il
    · exact h
  have hhl := (hrow.lt h rfl).2
  obtain ⟨a0, a1, a2⟩ := cells_at hrow hi
  obtain ⟨b0, b1, b2⟩ := cells_at hrow hk
  have HQ := Lib.hid hq
  have eg := ho.eg
  have HC := Lib.hid ho.call
  obtain ⟨N, hN⟩ : ∃ N, L.length = N := ⟨_, rfl⟩
  rw [hN] at c1 il kl hm
  have i1 : (i : Int) < (N : Int) := by omega
  have i2 : (0 : Int) ≤ (i : Int) := by omega
  have k1 : (k : Int) < (N : Int) := by omega
  have k2 : (0 : Int) ≤ (k : Int) := by omega
  clear hq ho hrow hb hS hA hi hk hN
  go_enter Try.func43, Try.ntmps43
  go_upto_region 1 with fail
  go_cut [7, 8] from 7 to 22 (fun a b wc => ∃ ga gb, a = .pointer (some ⟨ga, 0, none⟩) ∧ b = .pointer (some ⟨gb, 0, none⟩) ∧ Below w.heap.size w wc ∧ (wc.cell? ⟨ga, 0, none⟩ = some (.int .i64 x.1.1) ∧ wc.cell? ⟨ga, 1, none⟩ = some (.int .i64 x.1.2) ∧ wc.cell? ⟨ga, 2, none⟩ = some (.int .i64 (x.2 : Int))) ∧ (wc.cell? ⟨gb, 0, none⟩ = some (.int .i64 y.1.1) ∧ wc.cell? ⟨gb, 1, none⟩ = some (.int .i64 y.1.2) ∧ wc.cell? ⟨gb, 2, none⟩ = some (.int .i64 (y.2 : Int))) ∧ ga < wc.heap.size ∧ gb < wc.heap.size)
  case first =>
    go_region_held3 (fun W' => (W'.cell? ⟨g, 1, none⟩ = some (.slice (some ⟨h, 0, none⟩) N c)) ∧ (W'.cell? ⟨h, i * 3, none⟩ = some (.int .i64 x.1.1) ∧ W'.cell? ⟨h, i * 3 + 1, none⟩ = some (.int .i64 x.1.2) ∧ W'.cell? ⟨h, i * 3 + 2, none⟩ = some (.int .i64 (x.2 : Int))) ∧ (W'.cell? ⟨h, k * 3, none⟩ = some (.int .i64 y.1.1) ∧ W'.cell? ⟨h, k * 3 + 1, none⟩ = some (.int .i64 y.1.2) ∧ W'.cell? ⟨h, k * 3 + 2, none⟩ = some (.int .i64 (y.2 : Int))))
      (first | go_keep) (first | fail)
    all_goals
      go_wp2_with fail
      go_meet
      case rel =>
        refine ⟨_, _, rfl, rfl, ?_, ?_, ?_, ?_, ?_⟩
        · exact below_drew (bstep (below_alloc _ _) (below_alloc _ _))
        all_goals (clear a0 a1 a2 b0 b1 b2 c0 c1 c2; simp <;> omega)
  case rest =>
    obtain ⟨ga, gb, rfl, rfl, hbel, ⟨p0, p1, p2⟩, ⟨q0, q1, q2⟩, la, lb⟩ := hcut
    have d0 : wc.cell? ⟨g, 0, none⟩ = some (.func (.func n) #[] #[]) := (hbel.cell (p := ⟨g, 0, none⟩) hgl).trans c0
    have HB := Lib.hid hbel
    have lg : g < wc.heap.size := Nat.lt_of_lt_of_le hgl hbel.size
    clear a0 a1 a2 b0 b1 b2 c0 c1 c2 hbel
    have HK := Lib.hid (show ∀ W, Below wc.heap.size wc W → (W.cell? ⟨g, 0, none⟩ = some (.func (.func n) #[] #[])) ∧ (W.cell? ⟨ga, 0, none⟩ = some (.int .i64 x.1.1) ∧ W.cell? ⟨ga, 1, none⟩ = some (.int .i64 x.1.2) ∧ W.cell? ⟨ga, 2, none⟩ = some (.int .i64 (x.2 : Int))) ∧ (W.cell? ⟨gb, 0, none⟩ = some (.int .i64 y.1.1) ∧ W.cell? ⟨gb, 1, none⟩ = some (.int .i64 y.1.2) ∧ W.cell? ⟨gb, 2, none⟩ = some (.int .i64 (y.2 : Int))) from fun W hW =>
      ⟨(hW.cell (p := ⟨g, 0, none⟩) lg).trans d0, ⟨(hW.cell (p := ⟨ga, 0, none⟩) la).trans p0, (hW.cell (p := ⟨ga, 1, none⟩) la).trans p1, (hW.cell (p := ⟨ga, 2, none⟩) la).trans p2⟩, (hW.cell (p := ⟨gb, 0, none⟩) lb).trans q0, (hW.cell (p := ⟨gb, 1, none⟩) lb).trans q1, (hW.cell (p := ⟨gb, 2, none⟩) lb).trans q2⟩)
    by_cases hlt : x.2 < y.2
    · have HE := Lib.hid (show bfr lt x y = !lt y.1 x.1 by unfold bfr; rw [if_pos hlt])
      have HX := Lib.hid (HC.out y.1 x.1)
      go_wp2_with fail
      go_region_held3 (fun W' => (W'.cell? ⟨g, 0, none⟩ = some (.func (.func n) #[] #[])) ∧ (W'.cell? ⟨ga, 0, none⟩ = some (.int .i64 x.1.1) ∧ W'.cell? ⟨ga, 1, none⟩ = some (.int .i64 x.1.2) ∧ W'.cell? ⟨ga, 2, none⟩ = some (.int .i64 (x.2 : Int))) ∧ (W'.cell? ⟨gb, 0, none⟩ = some (.int .i64 y.1.1) ∧ W'.cell? ⟨gb, 1, none⟩ = some (.int .i64 y.1.2) ∧ W'.cell? ⟨gb, 2, none⟩ = some (.int .i64 (y.2 : Int))))
        (first | go_keep | exact HK.out _ (bstep (drew_below _) hb2)) (first | (go_at_fn n; (with_reducible refine (HX.out _).mono ?_); rintro e w2 ⟨rfl, hb2⟩))
      go_wp2_with fail
      go_ret
      exact ⟨ret_bool HE.out.symm, bstep HB.out (bstep (drew_below _) hb2)⟩
    · have HE := Lib.hid (show bfr lt x y = lt x.1 y.1 by unfold bfr; rw [if_neg hlt])
      have HX := Lib.hid (HC.out x.1 y.1)
      go_wp2_with fail
      go_region_held3 (fun W' => (W'.cell? ⟨g, 0, none⟩ = some (.func (.func n) #[] #[])) ∧ (W'.cell? ⟨ga, 0, none⟩ = some (.int .i64 x.1.1) ∧ W'.cell? ⟨ga, 1, none⟩ = some (.int .i64 x.1.2) ∧ W'.cell? ⟨ga, 2, none⟩ = some (.int .i64 (x.2 : Int))) ∧ (W'.cell? ⟨gb, 0, none⟩ = some (.int .i64 y.1.1) ∧ W'.cell? ⟨gb, 1, none⟩ = some (.int .i64 y.1.2) ∧ W'.cell? ⟨gb, 2, none⟩ = some (.int .i64 (y.2 : Int))))
        (first | go_keep | exact HK.out _ (bstep (drew_below _) hb2)) (first | (go_at_fn n; (with_reducible refine (HX.out _).mono ?_); rintro e w2 ⟨rfl, hb2⟩))
      go_wp2_with fail
      go_ret
      exact ⟨ret_bool HE.out.symm, bstep HB.out (bstep (drew_below _) hb2)⟩
#print axioms q_before
end Go.Proofs.Ytkgmfdmgaloaoaa.PqueueI
