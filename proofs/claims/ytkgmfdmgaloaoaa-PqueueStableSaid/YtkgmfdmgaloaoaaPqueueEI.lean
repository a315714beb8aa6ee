/- The exchange of two entries. -/
import Derived.Test.YtkgmfdmgaloaoaaPqueueDI
import Derived.BigRegion
namespace Go.Proofs.Ytkgmfdmgaloaoaa.PqueueI
open Go.ChangeShapes Go.WideShapes Go.RowKit Go.Lib Go.Proofs.Ytkgmfdmgaloaoaa.Pqueue
set_option linter.unusedVariables false
set_option maxRecDepth 100000

theorem flat_put (L : List (It × Nat)) (k : Nat) (z : It × Nat) (hk : k < L.length) : (((L.flatMap cE).set (k * 3) (.int .i64 z.1.1)).set (k * 3 + 1) (.int .i64 z.1.2)).set (k * 3 + 2) (.int .i64 (z.2 : Int)) = (L.set k z).flatMap cE := by
  induction L generalizing k with
  | nil => simp at hk
  | cons y L ih =>
    cases k with
    | zero => simp
    | succ k =>
      have := ih k (by simpa using hk)
      rw [List.set_cons_succ, List.flatMap_cons, List.flatMap_cons, ← this, Nat.succ_mul]
      rfl
abbrev put (w : World) (h k : Nat) (z : It × Nat) : World := ((w.setCell ⟨h, k * 3, none⟩ (.int .i64 z.1.1)).setCell ⟨h, k * 3 + 1, none⟩ (.int .i64 z.1.2)).setCell ⟨h, k * 3 + 2, none⟩ (.int .i64 (z.2 : Int))
section
variable {w w' : World} {g h n m c p B : Nat} {S S' : Nat → Prop} {L : List (It × Nat)}
theorem row_put (hr : Row cE 3 TE B w (.slice (some ⟨h, 0, none⟩) m c) L) (hm : m = L.length) {k : Nat} (hk : k < L.length) (z : It × Nat) : Row cE 3 TE B (put w h k z) (.slice (some ⟨h, 0, none⟩) m c) (L.set k z) := by
  subst hm
  unfold Row
  rw [List.length_set, ← flat_put L k z hk]
  exact own_set (own_set (own_set hr _ _) _ _) _ _
theorem put_size (w : World) (h k : Nat) (z : It × Nat) : (put w h k z).heap.size = w.heap.size := by simp [put, World.setCell]
theorem put_else (w : World) (h k : Nat) (z : It × Nat) {b : Nat} (hb : b ≠ h) : (put w h k z).heap[b]? = w.heap[b]? := by
  exact (Below.heap_setCell _ _ _ _ hb).trans ((Below.heap_setCell _ _ _ _ hb).trans (Below.heap_setCell _ _ _ _ hb))
theorem put_off {a : World} (ho : Off S a w) {h : Nat} (hh : S h ∨ a.heap.size ≤ h) (k : Nat) (z : It × Nat) : Off S a (put w h k z) := by
  exact ((ho.set (p := ⟨h, _, none⟩) hh _).set (p := ⟨h, _, none⟩) hh _).set (p := ⟨h, _, none⟩) hh _
theorem Qu.putted (hq : Qu w g S n L p) (hb : w.heap[g]? = some (.cells #[.func (.func n) #[] #[], .slice (some ⟨h, 0, none⟩) L.length c, .int .i64 (p : Int)] TQ (0, 0))) (hr : Row cE 3 TE 0 w (.slice (some ⟨h, 0, none⟩) L.length c) L) (hS : S h ∧ h ≠ g) {k : Nat} (hk : k < L.length) (z : It × Nat) :
    Qu (put w h k z) g S n (L.set k z) p ∧ (put w h k z).heap[g]? = some (.cells #[.func (.func n) #[] #[], .slice (some ⟨h, 0, none⟩) L.length c, .int .i64 (p : Int)] TQ (0, 0)) ∧ Row cE 3 TE 0 (put w h k z) (.slice (some ⟨h, 0, none⟩) L.length c) (L.set k z) := by
  have hg := (put_else w h k z hS.2.symm).trans hb
  exact ⟨⟨hq.sg, fun j hj => by rw [put_size]; exact hq.lt j hj, _, hg, row_put hr rfl hk z, fun j hj => by cases hj; exact hS⟩, hg, row_put hr rfl hk z⟩
theorem Qu.drew (hq : Qu w g S n L p) : Qu w.drew g S n L p := hq.keep (Nat.le_refl _) fun _ _ => rfl
theorem Qu.swapped (hq : Qu w g S n L p) (hb : w.heap[g]? = some (.cells #[.func (.func n) #[] #[], .slice (some ⟨h, 0, none⟩) L.length c, .int .i64 (p : Int)] TQ (0, 0))) (hr : Row cE 3 TE 0 w (.slice (some ⟨h, 0, none⟩) L.length c) L) (hS : S h ∧ h ≠ g) {i k : Nat} {x y : It × Nat} (hi : L[i]? = some x) (hk : L[k]? = some y) :
    Qu (put (put w h i y) h k x).drew g S n (ex2 L i k x y) p ∧ Off S w (put (put w h i y) h k x).drew := by
  obtain ⟨q1, q2, q3⟩ := hq.putted hb hr hS (glt hi) y
  have hl : (L.set i y).length = L.length := List.length_set
  obtain ⟨q4, _, _⟩ := q1.putted (c := c) (by rw [hl]; exact q2) (by rw [hl]; exact q3) hS (k := k) (by rw [hl]; exact glt hk) x
  exact ⟨q4.drew, (put_off (put_off (Off.refl _ _) (Or.inl hS.1) i y) (Or.inl hS.1) k x).drew⟩
end

set_option maxHeartbeats 1600000 in
theorem q_swap {w : World} {g n p : Nat} {S : Nat → Prop} {L : List (It × Nat)} (hq : Qu w g S n L p) (hm : L.length ≤ 1000000) {i k : Nat} {x y : It × Nat} (hi : L[i]? = some x) (hk : L[k]? = some y) (hne : i ≠ k) :
    Calls Try.prog 44 #[.pointer (some ⟨g, 0, none⟩), .int .i64 (i : Int), .int .i64 (k : Int)] w fun e w' => e = .returned (.tuple #[]) ∧ Qu w' g S n (ex2 L i k x y) p ∧ Off S w w' := by
  obtain ⟨A, c, c0, c1, c2, hrow, hb, hS, hA⟩ := hq.reads
  have il := glt hi
  have kl := glt hk
  have hgl := hq.lt g hq.sg
  obtain ⟨h, rfl⟩ : ∃ h, A = some ⟨h, 0, none⟩ := by
    rcases hA with rfl | h
    · simp at il
    · exact h
  have hhl := (hrow.lt h rfl).2
  obtain ⟨a0, a1, a2⟩ := cells_at hrow hi
  obtain ⟨b0, b1, b2⟩ := cells_at hrow hk
  obtain ⟨hsh, hhg⟩ := hS h rfl
  have HE := Lib.hid (hq.swapped hb hrow ⟨hsh, hhg⟩ hi hk)
  have z := fun j => hrow.warm rfl j
  obtain ⟨N, hN⟩ : ∃ N, L.length = N := ⟨_, rfl⟩
  rw [hN] at c1 il kl hm
  have i1 : (i : Int) < (N : Int) := by omega
  have i2 : (0 : Int) ≤ (i : Int) := by omega
  have k1 : (k : Int) < (N : Int) := by omega
  have k2 : (0 : Int) ≤ (k : Int) := by omega
  have hgh : g ≠ h := hhg.symm
  have z0 := z (i * 3)
  have z1 := z (i * 3 + 1)
  have z2 := z (i * 3 + 2)
  have z3 := z (k * 3)
  have z4 := z (k * 3 + 1)
  have z5 := z (k * 3 + 2)
  clear z hq hrow hb hS hA hi hk hN
  go_enter Try.func44, Try.ntmps44
  go_wp2_with fail
  go_region
  all_goals (go_end0; exact ⟨rfl, HE.out⟩)
#print axioms q_swap
end Go.Proofs.Ytkgmfdmgaloaoaa.PqueueI
