/- The examples of the chapter (awake); longer. Written by gen12/awake.py. -/
import Derived.Test.YtagjimdplmimoaaCShareL
namespace Go.Proofs.Ytagjimdplmimoaa.Share
open Go.ChangeShapes Go.WideShapes Go.RowKit Go.Lib Go.Proofs.Ytagjimdplmimoaa.Mem
set_option linter.unusedVariables false
set_option maxRecDepth 100000

theorem lit_cl (L : List Int) (w : World) (c : Array Value) (hc : c = (L.map eI).toArray) : Cl eI (w.alloc (.cells c 3)) (some ⟨w.heap.size, 0, none⟩) L := by
  subst hc
  intro k z hz
  refine ⟨w.heap.size, 0, rfl, by simp, ?_⟩
  rw [cell_of_row _ _ _ _ _ _ (heap_alloc_new _ _), Nat.zero_add]
  simp [hz]
theorem ex0 (A : Option Addr) (c : Nat) (W : World) (h : Cl eI W A [10, 5]) : Calls Try.prog 37 #[.int .i64 4, .slice A 2 c] W (ResL [3, 1] 0 W) := by
  have h1 := split_n 4 [10, 5] 2 rfl A c W h (by omega)
  have e1 : splL 4 [10, 5] = [3, 1] := by decide +kernel
  have e2 : errS 4 [10, 5] = 0 := by decide +kernel
  rw [e1, e2] at h1
  exact h1
theorem ex1 (A : Option Addr) (c : Nat) (W : World) (h : Cl eI W A [1, 1, 1]) : Calls Try.prog 37 #[.int .i64 10, .slice A 3 c] W (ResL [4, 3, 3] 0 W) := by
  have h1 := split_n 10 [1, 1, 1] 3 rfl A c W h (by omega)
  have e1 : splL 10 [1, 1, 1] = [4, 3, 3] := by decide +kernel
  have e2 : errS 10 [1, 1, 1] = 0 := by decide +kernel
  rw [e1, e2] at h1
  exact h1
theorem ex3 (A : Option Addr) (c : Nat) (W : World) (h : Cl eI W A [0, 0]) : Calls Try.prog 37 #[.int .i64 0, .slice A 2 c] W (ResL [0, 0] 0 W) := by
  have h1 := split_n 0 [0, 0] 2 rfl A c W h (by omega)
  have e1 : splL 0 [0, 0] = [0, 0] := by decide +kernel
  have e2 : errS 0 [0, 0] = 0 := by decide +kernel
  rw [e1, e2] at h1
  exact h1
theorem ex4 (A : Option Addr) (c : Nat) (W : World) (h : Cl eI W A [0, 0]) : Calls Try.prog 37 #[.int .i64 1, .slice A 2 c] W (ResL [] 16 W) := by
  have h1 := split_n 1 [0, 0] 2 rfl A c W h (by omega)
  have e1 : splL 1 [0, 0] = [] := by decide +kernel
  have e2 : errS 1 [0, 0] = 16 := by decide +kernel
  rw [e1, e2] at h1
  exact h1
theorem same_yes (L : List Int) (n : Nat) (hn : L.length = n) (A B : Option Addr) (c d : Nat) (w : World) (ha : Cl eI w A L) (hb : Cl eI w B L) (h1 : n ≤ 9223372036854775807) :
    Calls Try.prog 23 #[.slice A n c, .slice B n d] w fun e w' => e = .returned (.bool true) ∧ Below w.heap.size w w' := by
  have h := same_n L L n n hn hn A B c d w ha hb h1 h1
  rw [decide_eq_true rfl] at h
  exact h

end Go.Proofs.Ytagjimdplmimoaa.Share
