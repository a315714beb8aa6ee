/- Two queues side by side: the program's and the reference's. -/
import Derived.Test.YtkgmfdmgaloaoaaPqueueAE
namespace Go.Proofs.Ytkgmfdmgaloaoaa.PqueueI
open Go.ChangeShapes Go.WideShapes Go.RowKit Go.Lib Go.Proofs.Ytkgmfdmgaloaoaa.Pqueue
set_option linter.unusedVariables false
set_option maxRecDepth 100000

/-- The program's queue at g holds R, the reference's at h holds T; no block is shared, none lies below B. -/
def Half (w : World) (B g h n : Nat) (m : Int) (R T : List It) (p : Nat) : Prop :=
  ∃ S U : Nat → Prop, Qr w g S n (lessM m) R p ∧ Rq w h U m T ∧ (∀ j, S j → B ≤ j) ∧ (∀ j, U j → B ≤ j) ∧ (∀ j, S j → ¬ U j) ∧ B ≤ w.heap.size
section
variable {w w' : World} {B g h n p : Nat} {m : Int} {R T : List It}
theorem Half.on (H : Half w B g h n m R T p) (hb : Below w.heap.size w w') : Half w' B g h n m R T p := by
  obtain ⟨S, U, h1, h2, h3, h4, h5, h6⟩ := H
  exact ⟨S, U, h1.on hb, h2.on hb, h3, h4, h5, Nat.le_trans h6 hb.size⟩
/-- Push. -/
theorem half_push (H : Half w B g h n m R T p) (ho : Ord n (lessM m)) (hm : R.length ≤ 900000) (hp : p ≤ 1000000) (x : It) :
    Calls Try.prog 13 #[.pointer (some ⟨g, 0, none⟩), eV x] w fun e w' => e = .returned (.tuple #[]) ∧ Half w' B g h n m (R ++ [x]) T (p + 1) ∧ Below B w w' := by
  obtain ⟨S, U, h1, h2, h3, h4, h5, h6⟩ := H
  refine (push_at h1 ho hm hp x).mono ?_
  rintro e w4 ⟨rfl, S', hq, hs, hoff⟩
  have hsz := hoff.size
  refine ⟨rfl, ⟨S', U, hq, h2.off hoff fun k hk hk' => h5 k hk' hk, fun j hj => ?_, h4, fun j hj hu => ?_, Nat.le_trans h6 hoff.size⟩, hoff.below h6 h3⟩
  · rcases hs j hj with h | h
    · exact h3 j h
    · omega
  · rcases hs j hj with h | h
    · exact h5 j h hu
    · have := h2.lt j hu; omega
theorem half_push2 (H : Half w B g h n m R T p) (hm : T.length ≤ 900000) (x : It) :
    Calls Try.prog 14 #[.pointer (some ⟨h, 0, none⟩), eV x] w fun e w' => e = .returned (.tuple #[]) ∧ Half w' B g h n m R (T ++ [x]) p ∧ Below B w w' := by
  obtain ⟨S, U, h1, h2, h3, h4, h5, h6⟩ := H
  refine (ref_Push h2 hm x).mono ?_
  rintro e w4 ⟨rfl, U', hq, hs, hoff⟩
  have hsz := hoff.size
  refine ⟨rfl, ⟨S, U', h1.off hoff fun k hk hk' => ?_, hq, h3, fun j hj => ?_, fun j hj hu => ?_, Nat.le_trans h6 hoff.size⟩, hoff.below h6 fun j hj => ?_⟩
  · subst hk'; exact h5 _ hk h2.sg
  · rcases hs j hj with rfl | h
    · exact h4 _ h2.sg
    · omega
  · rcases hs j hu with rfl | h
    · exact h5 _ hj h2.sg
    · have := h1.bnd j hj; omega
  · subst hj; exact h4 _ h2.sg
/-- Pop. -/
def HPop (w : World) (B g h n : Nat) (m : Int) (R T : List It) (p : Nat) (e : Ending) (w' : World) : Prop :=
  ∃ i x, R[i]? = some x ∧ IsF (lessM m) R i ∧ e = .returned (.tuple #[eV x, .bool true]) ∧ Half w' B g h n m (R.eraseIdx i) T p ∧ Below B w w'
theorem half_pop (H : Half w B g h n m R T p) (ho : Ord n (lessM m)) (hm : R.length ≤ 1000000) (h0 : 0 < R.length) :
    Calls Try.prog 15 #[.pointer (some ⟨g, 0, none⟩)] w (HPop w B g h n m R T p) := by
  obtain ⟨S, U, h1, h2, h3, h4, h5, h6⟩ := H
  refine (pop_at h1 ho hm h0).mono ?_
  rintro e w4 ⟨i, x, hx, hf, rfl, hq, hoff⟩
  have hsz := hoff.size
  exact ⟨i, x, hx, hf (sw_lessM m), rfl, ⟨S, U, hq, h2.off hoff fun k hk hk' => h5 k hk' hk, h3, h4, h5, Nat.le_trans h6 hoff.size⟩, hoff.below h6 h3⟩
def HPop2 (w : World) (B g h n : Nat) (m : Int) (R T : List It) (p : Nat) (e : Ending) (w' : World) : Prop :=
  ∃ i x, T[i]? = some x ∧ IsF (lessM m) T i ∧ e = .returned (.tuple #[eV x, .bool true]) ∧ Half w' B g h n m R (T.eraseIdx i) p ∧ Below B w w' ∧ (∀ j, j < w.heap.size → j ≠ h → w'.heap[j]? = w.heap[j]?)
theorem half_pop2 (H : Half w B g h n m R T p) (hm : T.length ≤ 1000000) (h0 : 0 < T.length) :
    Calls Try.prog 16 #[.pointer (some ⟨h, 0, none⟩)] w (HPop2 w B g h n m R T p) := by
  obtain ⟨S, U, h1, h2, h3, h4, h5, h6⟩ := H
  refine (ref_Pop h2 h0 hm).mono ?_
  rintro e w4 ⟨i, x, U', hx, hf, rfl, hq, hs, hoff⟩
  have hsz := hoff.size
  refine ⟨i, x, hx, hf, rfl, ⟨S, U', h1.off hoff fun k hk hk' => ?_, hq, h3, fun j hj => ?_, fun j hj hu => ?_, Nat.le_trans h6 hoff.size⟩, hoff.below h6 fun j hj => ?_, fun j hj hn => hoff.block j hj hn⟩
  · subst hk'; exact h5 _ hk h2.sg
  · rcases hs j hj with rfl | h
    · exact h4 _ h2.sg
    · omega
  · rcases hs j hu with rfl | h
    · exact h5 _ hj h2.sg
    · have := h1.bnd j hj; omega
  · subst hj; exact h4 _ h2.sg
/-- Peek. -/
def HPeek (w : World) (B g h n : Nat) (m : Int) (R T M : List It) (p : Nat) (e : Ending) (w' : World) : Prop :=
  ∃ i x, M[i]? = some x ∧ IsF (lessM m) M i ∧ e = .returned (.tuple #[eV x, .bool true]) ∧ Half w' B g h n m R T p ∧ Below B w w' ∧ (∀ j, j < w.heap.size → j ≠ h → w'.heap[j]? = w.heap[j]?)
theorem half_peek (H : Half w B g h n m R T p) (hm : R.length ≤ 1000000) (h0 : 0 < R.length) :
    Calls Try.prog 17 #[.pointer (some ⟨g, 0, none⟩)] w (HPeek w B g h n m R T R p) := by
  have H' := H
  obtain ⟨S, U, h1, h2, h3, h4, h5, h6⟩ := H
  refine (peek_at h1 hm h0).mono ?_
  rintro e w4 ⟨i, x, hx, hf, rfl, hb⟩
  exact ⟨i, x, hx, hf (sw_lessM m), rfl, H'.on hb, hb.mono h6, fun j hj _ => hb.block j hj⟩
theorem half_peek2 (H : Half w B g h n m R T p) (hm : T.length ≤ 1000000) (h0 : 0 < T.length) :
    Calls Try.prog 18 #[.pointer (some ⟨h, 0, none⟩)] w (HPeek w B g h n m R T T p) := by
  have H' := H
  obtain ⟨S, U, h1, h2, h3, h4, h5, h6⟩ := H
  refine (ref_Peek h2 h0 hm).mono ?_
  rintro e w4 ⟨i, x, hx, hf, rfl, hb⟩
  exact ⟨i, x, hx, hf, rfl, H'.on hb, hb.mono h6, fun j hj _ => hb.block j hj⟩
/-- Of nothing. -/
def HNo (w : World) (B g h n : Nat) (m : Int) (R T : List It) (p : Nat) (e : Ending) (w' : World) : Prop :=
  e = .returned (.tuple #[.agg #[.int .i64 0, .int .i64 0], .bool false]) ∧ Half w' B g h n m R T p ∧ Below B w w' ∧ (∀ j, j < w.heap.size → j ≠ h → w'.heap[j]? = w.heap[j]?)
theorem half_pop_no (H : Half w B g h n m [] T p) :
    Calls Try.prog 15 #[.pointer (some ⟨g, 0, none⟩)] w (HNo w B g h n m [] T p) := by
  have H' := H
  obtain ⟨S, U, h1, h2, h3, h4, h5, h6⟩ := H
  refine (pop_none h1).mono ?_
  rintro e w4 ⟨rfl, hb⟩
  exact ⟨rfl, H'.on hb, hb.mono h6, fun j hj _ => hb.block j hj⟩
theorem half_pop_no2 (H : Half w B g h n m R [] p) :
    Calls Try.prog 16 #[.pointer (some ⟨h, 0, none⟩)] w (HNo w B g h n m R [] p) := by
  have H' := H
  obtain ⟨S, U, h1, h2, h3, h4, h5, h6⟩ := H
  refine (ref_Pop_none h2).mono ?_
  rintro e w4 ⟨rfl, hb⟩
  exact ⟨rfl, H'.on hb, hb.mono h6, fun j hj _ => hb.block j hj⟩
theorem half_peek_no (H : Half w B g h n m [] T p) :
    Calls Try.prog 17 #[.pointer (some ⟨g, 0, none⟩)] w (HNo w B g h n m [] T p) := by
  have H' := H
  obtain ⟨S, U, h1, h2, h3, h4, h5, h6⟩ := H
  refine (peek_none h1).mono ?_
  rintro e w4 ⟨rfl, hb⟩
  exact ⟨rfl, H'.on hb, hb.mono h6, fun j hj _ => hb.block j hj⟩
theorem half_peek_no2 (H : Half w B g h n m R [] p) :
    Calls Try.prog 18 #[.pointer (some ⟨h, 0, none⟩)] w (HNo w B g h n m R [] p) := by
  have H' := H
  obtain ⟨S, U, h1, h2, h3, h4, h5, h6⟩ := H
  refine (ref_Peek_none h2).mono ?_
  rintro e w4 ⟨rfl, hb⟩
  exact ⟨rfl, H'.on hb, hb.mono h6, fun j hj _ => hb.block j hj⟩
/-- Len, and the reference's list. -/
theorem half_len (H : Half w B g h n m R T p) : Calls Try.prog 19 #[.pointer (some ⟨g, 0, none⟩)] w fun e w' => e = .returned (.int .i64 (R.length : Int)) ∧ w = w' := by
  obtain ⟨S, U, h1, -⟩ := H
  exact len_at h1
theorem half_read (H : Half w B g h n m R T p) : ∃ A c, h < w.heap.size ∧ w.cell? ⟨h, 1, none⟩ = some (.slice A T.length c) := by
  obtain ⟨S, U, h1, h2, -⟩ := H
  obtain ⟨A, c, -, h3, -⟩ := h2.reads
  exact ⟨A, c, h2.lt h h2.sg, h3⟩
/-- At the start. -/
theorem half_new {S : Nat → Prop} (hq : Qr w g S n (lessM m) [] 0) (hS : ∀ j, S j → B ≤ j) (hB : B ≤ w.heap.size) :
    Half (w.alloc (.cells #[.int .i64 m, .slice none 0 0] TR)) B g w.heap.size n m [] [] 0 := by
  have hb := below_alloc w (.cells #[.int .i64 m, .slice none 0 0] TR)
  refine ⟨S, fun k => k = w.heap.size, hq.on hb, ⟨rfl, fun k hk => ?_, none, 0, heap_alloc_new _ _, Rd.nil _ _ _ _, (fun b off e _ => by cases e), Nat.le_refl _, by unfold maxLen; omega⟩, hS, fun j hj => by rw [hj]; exact hB, fun j hj hk => ?_, Nat.le_trans hB hb.size⟩
  · subst hk; simp
  · have := hq.bnd j hj; omega
end
#print axioms half_new
end Go.Proofs.Ytkgmfdmgaloaoaa.PqueueI
