/- Peek. -/
import Derived.Test.YtkgmfdmgaloaoaaPqueueKS
namespace Go.Proofs.Ytkgmfdmgaloaoaa.PqueueS
open Go.ChangeShapes Go.WideShapes Go.RowKit Go.Lib Go.Proofs.Ytkgmfdmgaloaoaa.Pqueue
set_option linter.unusedVariables false
set_option maxRecDepth 100000

theorem q_Peek_none {w : World} {g n p : Nat} {S : Nat → Prop} (hq : Qu w g S n [] p) :
    Calls Try.prog 40 #[.pointer (some ⟨g, 0, none⟩)] w fun e w' => e = .returned (.tuple #[eV zV, .bool false]) ∧ Below w.heap.size w w' := by
  have HQ := Lib.hid hq
  clear hq
  go_enter Try.func40, Try.ntmps40
  go_wp2_with fail
  refine (q_Len HQ.out).mono ?_
  rintro e w' ⟨rfl, rfl⟩
  go_wp2_with fail
  go_ret2
  exact ⟨rfl, Below.refl _ _⟩
theorem q_Peek_nil (w : World) :
    Calls Try.prog 40 #[.pointer none] w fun e w' => e = .returned (.tuple #[eV zV, .bool false]) ∧ Below w.heap.size w w' := by
  go_enter Try.func40, Try.ntmps40
  go_wp2_with fail
  refine (q_Len_nil _).mono ?_
  rintro e w' ⟨rfl, rfl⟩
  go_wp2_with fail
  go_ret2
  exact ⟨rfl, Below.refl _ _⟩
theorem q_Peek {w : World} {g n p : Nat} {S : Nat → Prop} {L : List (ByteArray × Nat)} (hq : Qu w g S n L p) (hm : L.length ≤ 1000000) {m : ByteArray × Nat} (h0 : L[0]? = some m) :
    Calls Try.prog 40 #[.pointer (some ⟨g, 0, none⟩)] w fun e w' => e = .returned (.tuple #[eV m.1, .bool true]) ∧ Below w.heap.size w w' := by
  obtain ⟨A, c, c0, c1, c2, hrow, -, -, hA⟩ := hq.reads
  have hl0 := glt h0
  obtain ⟨h, rfl⟩ : ∃ h, A = some ⟨h, 0, none⟩ := by
    rcases hA with rfl | h
    · simp at hl0
    · exact h
  have hhl := (hrow.lt h rfl).2
  have hgl := hq.lt g hq.sg
  obtain ⟨a0, a1⟩ := cells_at hrow h0
  rw [Nat.zero_mul] at a0 a1
  simp only [Nat.zero_add] at a0 a1
  have HQ := Lib.hid hq
  obtain ⟨N, hN⟩ : ∃ N, L.length = N := ⟨_, rfl⟩
  have HN := Lib.hid hN
  rw [hN] at c1 hl0 hm
  have hz : ((N : Int) == 0) = false := by simp; omega
  have hz2 : ¬ N = 0 := by omega
  clear hq hrow hA hN h0
  go_enter Try.func40, Try.ntmps40
  go_wp2_with fail
  refine (q_Len HQ.out).mono ?_
  rintro e w' ⟨rfl, rfl⟩
  rw [HN.out]
  go_wp2_with fail
  go_ret2
  exact ⟨rfl, Below.refl _ _⟩
#print axioms q_Peek
end Go.Proofs.Ytkgmfdmgaloaoaa.PqueueS
