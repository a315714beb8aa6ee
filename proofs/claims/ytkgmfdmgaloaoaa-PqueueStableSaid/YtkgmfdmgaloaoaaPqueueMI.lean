/- Peek. -/
import Derived.Test.YtkgmfdmgaloaoaaPqueueKI
namespace Go.Proofs.Ytkgmfdmgaloaoaa.PqueueI
open Go.ChangeShapes Go.WideShapes Go.RowKit Go.Lib Go.Proofs.Ytkgmfdmgaloaoaa.Pqueue
set_option linter.unusedVariables false
set_option maxRecDepth 100000

/-- Results that hold a value in a box. -/
theorem res_box {fn : Func} {p u : Tmp} (h : fn.results = #[.cell p TV, .tmp u]) {tmps : Array Value} {w : World} {g : Nat} {x y : Int} (hp : tmps.getD p undef = .pointer (some ⟨g, 0, none⟩))
    (h0 : w.cell? ⟨g, 0, none⟩ = some (.int .i64 x)) (h1 : w.cell? ⟨g, 1, none⟩ = some (.int .i64 y)) : (results fn tmps).run Try.prog w = .ok (.tuple #[.agg #[.int .i64 x, .int .i64 y], tmps.getD u undef]) w := by
  have hp' : tmps[p]?.getD undef = .pointer (some ⟨g, 0, none⟩) := by simpa using hp
  simp [results, h, hp', go_sem, h0, h1]
theorem set_box {W : World} {b : Nat} {u v : Value} (h0 : W.cell? ⟨b, 0, none⟩ = some u) (h1 : W.cell? ⟨b, 1, none⟩ = some v) (x y : Value) :
    ((W.setCell ⟨b, 0, none⟩ x).setCell ⟨b, 1, none⟩ y).cell? ⟨b, 0, none⟩ = some x ∧ ((W.setCell ⟨b, 0, none⟩ x).setCell ⟨b, 1, none⟩ y).cell? ⟨b, 1, none⟩ = some y := by
  have e1 : (W.setCell ⟨b, 0, none⟩ x).cell? ⟨b, 0, none⟩ = some x := World.cell?_setCell_same _ _ _ h0
  have e2 : (W.setCell ⟨b, 0, none⟩ x).cell? ⟨b, 1, none⟩ = some v := (World.cell?_setCell_other _ _ _ _ (by simp)).trans h1
  exact ⟨(World.cell?_setCell_other _ _ _ _ (by simp)).trans e1, World.cell?_setCell_same _ _ _ e2⟩
theorem q_Peek_none {w : World} {g n p : Nat} {S : Nat → Prop} (hq : Qu w g S n [] p) :
    Calls Try.prog 17 #[.pointer (some ⟨g, 0, none⟩)] w fun e w' => e = .returned (.tuple #[eV zV, .bool false]) ∧ Below w.heap.size w w' := by
  have HQ := Lib.hid hq
  clear hq
  go_enter Try.func17, Try.ntmps17
  go_wp2_with fail
  refine (q_Len (HQ.out.on (below_alloc _ _))).mono ?_
  rintro e w' ⟨rfl, rfl⟩
  go_wp2_with fail
  (try simp only [Exit.inBlock, Exit.then])
  refine bodyPost_ret (res_box Try.results17 rfl (g := w.heap.size) (x := 0) (y := 0) (by simp) (by simp)) rfl ⟨rfl, ?_⟩
  exact bstep (below_alloc _ _) (below_alloc _ _)
theorem q_Peek_nil (w : World) :
    Calls Try.prog 17 #[.pointer none] w fun e w' => e = .returned (.tuple #[eV zV, .bool false]) ∧ Below w.heap.size w w' := by
  go_enter Try.func17, Try.ntmps17
  go_wp2_with fail
  refine (q_Len_nil _).mono ?_
  rintro e w' ⟨rfl, rfl⟩
  go_wp2_with fail
  (try simp only [Exit.inBlock, Exit.then])
  refine bodyPost_ret (res_box Try.results17 rfl (g := w.heap.size) (x := 0) (y := 0) (by simp) (by simp)) rfl ⟨rfl, ?_⟩
  exact bstep (below_alloc _ _) (below_alloc _ _)
theorem q_Peek {w : World} {g n p : Nat} {S : Nat → Prop} {L : List (It × Nat)} (hq : Qu w g S n L p) (hm : L.length ≤ 1000000) {m : It × Nat} (h0 : L[0]? = some m) :
    Calls Try.prog 17 #[.pointer (some ⟨g, 0, none⟩)] w fun e w' => e = .returned (.tuple #[eV m.1, .bool true]) ∧ Below w.heap.size w w' := by
  obtain ⟨A, c, c0, c1, c2, hrow, -, -, hA⟩ := hq.reads
  have hl0 := glt h0
  obtain ⟨h, rfl⟩ : ∃ h, A = some ⟨h, 0, none⟩ := by
    rcases hA with rfl | h
    · simp at hl0
    · exact h
  have hhl := (hrow.lt h rfl).2
  have hgl := hq.lt g hq.sg
  obtain ⟨a0, a1, a2⟩ := cells_at hrow h0
  rw [Nat.zero_mul] at a0 a1 a2
  simp only [Nat.zero_add] at a0 a1 a2
  have HQ := Lib.hid hq
  obtain ⟨N, hN⟩ : ∃ N, L.length = N := ⟨_, rfl⟩
  have HN := Lib.hid hN
  rw [hN] at c1 hl0 hm
  have hz : ((N : Int) == 0) = false := by simp; omega
  have hz2 : ¬ N = 0 := by omega
  clear hq hrow hA hN h0
  go_enter Try.func17, Try.ntmps17
  go_wp2_with fail
  refine (q_Len (HQ.out.on (below_alloc _ _))).mono ?_
  rintro e w' ⟨rfl, rfl⟩
  rw [HN.out]
  go_wp2_with fail
  (try simp only [Exit.inBlock, Exit.then])
  refine bodyPost_ret (res_box Try.results17 rfl (g := w.heap.size) (x := m.1.1) (y := m.1.2) (by simp) (by simp)) rfl ⟨rfl, ?_⟩
  exact below_alloc _ _
#print axioms q_Peek
end Go.Proofs.Ytkgmfdmgaloaoaa.PqueueI
