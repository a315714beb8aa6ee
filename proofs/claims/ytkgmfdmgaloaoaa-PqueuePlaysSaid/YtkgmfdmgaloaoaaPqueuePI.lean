/- Queues by the values that they hold, in the order in which these came. -/
import Derived.Test.YtkgmfdmgaloaoaaPqueueOI
namespace Go.Proofs.Ytkgmfdmgaloaoaa.PqueueI
open Go.ChangeShapes Go.WideShapes Go.RowKit Go.Lib Go.Proofs.Ytkgmfdmgaloaoaa.Pqueue
set_option linter.unusedVariables false
set_option maxRecDepth 100000

/-- The queue at block g, of the order n, holds the values R; p values came. -/
def Qr (w : World) (g : Nat) (S : Nat → Prop) (n : Nat) (lt : It → It → Bool) (R : List It) (p : Nat) : Prop := ∃ L, Qu w g S n L p ∧ Ab lt L p R
section
variable {w w' : World} {g n p : Nat} {S S' : Nat → Prop} {R : List It} {lt : It → It → Bool}
theorem Qr.on (h : Qr w g S n lt R p) (hb : Below w.heap.size w w') : Qr w' g S n lt R p := by
  obtain ⟨L, h1, h2⟩ := h; exact ⟨L, h1.on hb, h2⟩
theorem Qr.off (h : Qr w g S n lt R p) (ho : Off S' w w') (hd : ∀ k, S k → ¬ S' k) : Qr w' g S n lt R p := by
  obtain ⟨L, h1, h2⟩ := h; exact ⟨L, h1.off ho hd, h2⟩
theorem Qr.keep (h : Qr w g S n lt R p) (hs : w.heap.size ≤ w'.heap.size) (hk : ∀ k, S k → w'.heap[k]? = w.heap[k]?) : Qr w' g S n lt R p := by
  obtain ⟨L, h1, h2⟩ := h; exact ⟨L, h1.keep hs hk, h2⟩
theorem Qr.bnd (h : Qr w g S n lt R p) : ∀ k, S k → k < w.heap.size := by obtain ⟨L, h1, h2⟩ := h; exact h1.lt
/-- What a new queue is. -/
theorem NewP.open_ {e : Ending} (h : NewP w n e w') (lt : It → It → Bool) : e = .returned (.pointer (some ⟨w.heap.size, 0, none⟩)) ∧ Qr w' w.heap.size (fun k => k = w.heap.size) n lt [] 0 ∧ Below w.heap.size w w' :=
  ⟨h.1, ⟨[], h.2.1, Ab.nil⟩, h.2.2⟩
/-- What Push leaves. -/
def PushR (w : World) (g n p : Nat) (S : Nat → Prop) (lt : It → It → Bool) (R : List It) (x : It) (e : Ending) (w' : World) : Prop :=
  e = .returned (.tuple #[]) ∧ ∃ S', Qr w' g S' n lt (R ++ [x]) (p + 1) ∧ (∀ k, S' k → S k ∨ w.heap.size ≤ k) ∧ Off S w w'
theorem push_at (hq : Qr w g S n lt R p) (ho : Ord n lt) (hm : R.length ≤ 900000) (hp : p ≤ 1000000) (x : It) : Calls Try.prog 13 #[.pointer (some ⟨g, 0, none⟩), eV x] w (PushR w g n p S lt R x) := by
  obtain ⟨L, h1, h2⟩ := hq
  refine (q_Push h1 ho (by rw [h2.len]; exact hm) hp x).mono ?_
  rintro e w' ⟨rfl, M, S', h3, h4, h5, h6⟩
  exact ⟨rfl, S', ⟨M, h4, h2.push h3⟩, h5, h6⟩
/-- What Pop leaves. -/
def PopR (w : World) (g n p : Nat) (S : Nat → Prop) (lt : It → It → Bool) (R : List It) (e : Ending) (w' : World) : Prop :=
  ∃ i x, R[i]? = some x ∧ (Sw lt → IsF lt R i) ∧ e = .returned (.tuple #[eV x, .bool true]) ∧ Qr w' g S n lt (R.eraseIdx i) p ∧ Off S w w'
theorem pop_at (hq : Qr w g S n lt R p) (ho : Ord n lt) (hm : R.length ≤ 1000000) (h0 : 0 < R.length) : Calls Try.prog 15 #[.pointer (some ⟨g, 0, none⟩)] w (PopR w g n p S lt R) := by
  obtain ⟨L, h1, h2⟩ := hq
  have hl := h2.len
  obtain ⟨m, hm0⟩ := get_lt (L := L) (k := 0) (by omega)
  obtain ⟨l, hl0⟩ := get_lt (L := L) (k := L.length - 1) (by omega)
  refine (q_Pop h1 ho (by omega) hm0 hl0).mono ?_
  rintro e w' ⟨rfl, M, h3, h4, h5⟩
  obtain ⟨i, h6, h7, h8⟩ := h2.pop hm0 hl0 h3
  exact ⟨i, m.1, h6, h7, rfl, ⟨M, h4, h8⟩, h5⟩
theorem pop_none (hq : Qr w g S n lt [] p) : Calls Try.prog 15 #[.pointer (some ⟨g, 0, none⟩)] w fun e w' => e = .returned (.tuple #[eV zV, .bool false]) ∧ Below w.heap.size w w' := by
  obtain ⟨L, h1, h2⟩ := hq
  obtain rfl : L = [] := List.eq_nil_of_length_eq_zero h2.len
  exact q_Pop_none h1
/-- What Peek finds. -/
def PeekR (w : World) (lt : It → It → Bool) (R : List It) (e : Ending) (w' : World) : Prop :=
  ∃ i x, R[i]? = some x ∧ (Sw lt → IsF lt R i) ∧ e = .returned (.tuple #[eV x, .bool true]) ∧ Below w.heap.size w w'
theorem peek_at (hq : Qr w g S n lt R p) (hm : R.length ≤ 1000000) (h0 : 0 < R.length) : Calls Try.prog 17 #[.pointer (some ⟨g, 0, none⟩)] w (PeekR w lt R) := by
  obtain ⟨L, h1, h2⟩ := hq
  have hl := h2.len
  obtain ⟨m, hm0⟩ := get_lt (L := L) (k := 0) (by omega)
  refine (q_Peek h1 (by omega) hm0).mono ?_
  rintro e w' ⟨rfl, h3⟩
  obtain ⟨i, h6, h7⟩ := h2.first hm0
  exact ⟨i, m.1, h6, h7, rfl, h3⟩
theorem peek_none (hq : Qr w g S n lt [] p) : Calls Try.prog 17 #[.pointer (some ⟨g, 0, none⟩)] w fun e w' => e = .returned (.tuple #[eV zV, .bool false]) ∧ Below w.heap.size w w' := by
  obtain ⟨L, h1, h2⟩ := hq
  obtain rfl : L = [] := List.eq_nil_of_length_eq_zero h2.len
  exact q_Peek_none h1
theorem len_at (hq : Qr w g S n lt R p) : Calls Try.prog 19 #[.pointer (some ⟨g, 0, none⟩)] w fun e w' => e = .returned (.int .i64 (R.length : Int)) ∧ w = w' := by
  obtain ⟨L, h1, h2⟩ := hq
  rw [← h2.len]
  exact q_Len h1
end
#print axioms pop_at
#print axioms push_at
end Go.Proofs.Ytkgmfdmgaloaoaa.PqueueI
