/- Rows of elements in memory, whatever their cells; what a step leaves as it was. -/
import Derived.Test.YtccbnobpighckaaRows
import Derived.WalkKit
import Derived.WalkLawsBesides
import Derived.WalkSpells
import Derived.Outline
import Derived.Laws.OwnMore
import Derived.OwnWalk
import Derived.Deep.QuietTactic
import Derived.BigQuiet
import Derived.Laws.StructEq
import Derived.Laws.AppendOwnNone
import Derived.Laws.EntriesVeiled
import Derived.Deep.AppendLies
import Derived.Deep.RegionLaw
import Derived.Deep.RegionHeld3
import Derived.Deep.Cut
import Derived.Maps.AppendAt
import Derived.Shelf.Abstract
import Derived.Lib.Hide
import Derived.Deep.CutRange
import Derived.StillTailTactics
import Derived.Defers
import Derived.Recover
namespace Go.Proofs.Ytccbnobpighckaa.Rw
open Go.ChangeShapes Go.WideShapes Go.RowKit
set_option linter.unusedVariables false
set_option maxRecDepth 100000

theorem glt {β : Type} {L : List β} {k : Nat} {x : β} (h : L[k]? = some x) : k < L.length := by
  rw [List.getElem?_eq_some_iff] at h; exact h.1
/-- Of what was there all but the blocks in S is as it was. -/
structure Off (S : Nat → Prop) (w w' : World) : Prop where
  os : w'.os = w.os
  tape : w'.tape = w.tape
  output : w'.output = w.output
  size : w.heap.size ≤ w'.heap.size
  block : ∀ k, k < w.heap.size → ¬ S k → w'.heap[k]? = w.heap[k]?
theorem Off.refl (S : Nat → Prop) (w : World) : Off S w w := ⟨rfl, rfl, rfl, Nat.le_refl _, fun _ _ _ => rfl⟩
theorem Off.trans {S S' : Nat → Prop} {a b c : World} (h : Off S a b) (k : Off S' b c) (hs : ∀ x, S' x → S x ∨ a.heap.size ≤ x) : Off S a c :=
  ⟨k.os.trans h.os, k.tape.trans h.tape, k.output.trans h.output, Nat.le_trans h.size k.size, fun i hi hn =>
    (k.block i (Nat.lt_of_lt_of_le hi h.size) fun e => by rcases hs i e with h1 | h1; exact hn h1; omega).trans (h.block i hi hn)⟩
theorem Off.below {S : Nat → Prop} {a b : World} {B : Nat} (h : Off S a b) (hB : B ≤ a.heap.size) (hs : ∀ x, S x → B ≤ x) : Below B a b :=
  ⟨h.os, h.tape, h.output, h.size, fun i hi => h.block i (by omega) fun e => by have := hs i e; omega⟩
theorem Off.of_below {S : Nat → Prop} {a b : World} (h : Below a.heap.size a b) : Off S a b := ⟨h.os, h.tape, h.output, h.size, fun i hi _ => h.block i hi⟩
theorem Off.then_below {S : Nat → Prop} {a b c : World} (h : Off S a b) (k : Below b.heap.size b c) : Off S a c := h.trans (Off.of_below (S := fun _ => False) k) fun x e => e.elim
theorem Off.alloc {S : Nat → Prop} {a b : World} (h : Off S a b) (o : Obj) : Off S a (b.alloc o) := h.then_below ((Below.refl _ _).alloc (Nat.le_refl _) _)
theorem Off.drew {S : Nat → Prop} {a b : World} (h : Off S a b) : Off S a b.drew := ⟨h.os, h.tape, h.output, h.size, h.block⟩
theorem Off.set {S : Nat → Prop} {a b : World} (h : Off S a b) {p : Addr} (hp : S p.block ∨ a.heap.size ≤ p.block) (u : Value) : Off S a (b.setCell p u) :=
  h.trans (S' := fun k => k = p.block) ⟨rfl, rfl, rfl, by simp [World.setCell], fun i hi hn => Below.heap_setCell _ _ _ _ hn⟩ fun x e => e ▸ hp
theorem Off.grown {S : Nat → Prop} {a b c : World} {row : Option Nat} (h : Off S a b) (hg : b.grownBy c row) (hr : ∀ k, row = some k → S k ∨ a.heap.size ≤ k) : Off S a c :=
  h.trans (S' := fun k => row = some k) ⟨hg.os, hg.tape, hg.output, hg.size, fun i hi hn => hg.block i hi fun e => hn e.symm⟩ fun x e => hr x e
theorem Off.before {S : Nat → Prop} {a b c : World} (h : Below a.heap.size a b) (k : Off S b c) : Off S a c :=
  (Off.of_below h).trans k fun x e => Or.inl e
theorem Off.mono {S S' : Nat → Prop} {a b : World} (h : Off S a b) (hs : ∀ x, S x → S' x ∨ a.heap.size ≤ x) : Off S' a b :=
  ⟨h.os, h.tape, h.output, h.size, fun i hi hn => h.block i hi fun e => by rcases hs i e with h1 | h1; exact hn h1; omega⟩
theorem below_alloc (w : World) (o : Obj) : Below w.heap.size w (w.alloc o) := (Below.refl _ _).alloc (Nat.le_refl _) _
theorem bstep {a b c : World} (h : Below a.heap.size a b) (k : Below b.heap.size b c) : Below a.heap.size a c := h.trans (k.mono h.size)
theorem below_drewN {B : Nat} {a w : World} (h : Below B a w) (n : Nat) : Below B a (w.drewN n) := ⟨h.os, h.tape, h.output, h.size, h.block⟩
theorem below_drew {B : Nat} {a w : World} (h : Below B a w) : Below B a w.drew := ⟨h.os, h.tape, h.output, h.size, h.block⟩
theorem drew_below (w : World) : Below w.heap.size w w.drew := below_drew (Below.refl _ _)
theorem ret_bool {a b : Bool} (h : a = b) : Ending.returned (.bool a) = .returned (.bool b) := by rw [h]
theorem ret_int {k : IntKind} {a b : Int} (h : a = b) : Ending.returned (.int k a) = .returned (.int k b) := by rw [h]
theorem get_lt {α : Type} {L : List α} {k : Nat} (h : k < L.length) : ∃ s, L[k]? = some s := ⟨_, List.getElem?_eq_getElem h⟩
theorem take_snoc_of {α : Type} {l : List α} {k : Nat} {z : α} (h : l[k]? = some z) : l.take (k + 1) = l.take k ++ [z] := by
  rw [List.take_add_one, h]; rfl
theorem wrap_id {x : Int} (h : -9223372036854775808 ≤ x ∧ x ≤ 9223372036854775807) : IntKind.i64.wrap x = x := by rw [IntKind.wrap_i64]; omega
theorem frozen_of {W : World} {g : Nat} {cs : Array Value} {t : TypeId} (h : W.heap[g]? = some (.cells cs t (0, 0))) (i : Nat) : W.frozen? ⟨g, i, none⟩ = false := by simp [World.frozen?, h]

section
variable {α : Type} {cs : α → List Value} {s : Nat} {t : TypeId} {B : Nat} {w w' : World} {v : Value} {L : List α} {g n cap : Nat} {A : Option Addr}
/-- At the address lie the elements of L; cs: the cells of an element, s of them. -/
def Rd (cs : α → List Value) (s : Nat) (w : World) (A : Option Addr) (L : List α) : Prop :=
  ∀ (k : Nat) (z : α), L[k]? = some z → ∃ b off, A = some ⟨b, off, none⟩ ∧ b < w.heap.size ∧ ∀ j u, (cs z)[j]? = some u → w.cell? ⟨b, off + (k * s + j), none⟩ = some u
/-- A row of the call's own that holds L. -/
def Row (cs : α → List Value) (s : Nat) (t : TypeId) (B : Nat) (w : World) (v : Value) (L : List α) : Prop := w.ownsRow B t s v L.length (L.flatMap cs)
theorem Rd.nil (cs : α → List Value) (s : Nat) (w : World) (A : Option Addr) : Rd cs s w A [] := fun k z h => by simp at h
theorem Rd.keep (h : Rd cs s w A L) (hs : w.heap.size ≤ w'.heap.size) (hk : ∀ b off, A = some ⟨b, off, none⟩ → b < w.heap.size → w'.heap[b]? = w.heap[b]?) : Rd cs s w' A L := by
  intro k z hz
  obtain ⟨b, off, e, hlt, h0⟩ := h k z hz
  exact ⟨b, off, e, Nat.lt_of_lt_of_le hlt hs, fun j u hu => (World.cell?_of_block (a := ⟨b, off + (k * s + j), none⟩) (hk b off e hlt)).trans (h0 j u hu)⟩
theorem Rd.on (h : Rd cs s w A L) (hb : Below w.heap.size w w') : Rd cs s w' A L := h.keep hb.size fun b _ _ hlt => hb.block b hlt
theorem Rd.take (h : Rd cs s w A L) (n : Nat) : Rd cs s w A (L.take n) := by
  intro k z hk
  rw [List.getElem?_take] at hk
  split at hk
  · exact h k z hk
  · cases hk
theorem Rd.none_ (h : Rd cs s w none L) : L = [] := by
  cases L with
  | nil => rfl
  | cons z zs => obtain ⟨b, off, hA, _⟩ := h 0 z rfl; cases hA
theorem flat_len (hc : ∀ z, (cs z).length = s) (L : List α) : (L.flatMap cs).length = L.length * s := by
  induction L with
  | nil => simp
  | cons z L ih => rw [List.flatMap_cons, List.length_append, hc, ih, List.length_cons, Nat.succ_mul]; omega
theorem flat_at (hc : ∀ z, (cs z).length = s) {L : List α} {k : Nat} {z : α} (hk : L[k]? = some z) {j : Nat} {u : Value} (hu : (cs z)[j]? = some u) : (L.flatMap cs)[k * s + j]? = some u := by
  induction L generalizing k with
  | nil => simp at hk
  | cons y L ih =>
    rw [List.flatMap_cons]
    cases k with
    | zero =>
      simp at hk; subst hk
      rw [Nat.zero_mul, Nat.zero_add, List.getElem?_append_left (glt hu)]
      exact hu
    | succ k =>
      have := ih (k := k) (by simpa using hk)
      rw [List.getElem?_append_right (by rw [hc, Nat.succ_mul]; omega), hc, Nat.succ_mul, show k * s + s + j - s = k * s + j by omega]
      exact this
theorem Row.nil (cs : α → List Value) (s : Nat) (t : TypeId) (B : Nat) (w : World) : Row cs s t B w (.slice none 0 0) [] := World.ownsRow_nil _ _ _ _
theorem Row.lt (h : Row cs s t B w v L) : ∀ k, v.ownBlock = some k → B ≤ k ∧ k < w.heap.size := World.ownsRow.lt h
theorem Row.one (hc : ∀ z, (cs z).length = s) (h : Row cs s t B w v L) : ∃ A c, v = .slice A L.length c ∧ L.length ≤ c ∧ c ≤ maxLen ∧ Rd cs s w A L ∧ v.ownBlock = A.map (·.block) ∧ (A = none ∨ ∃ g, A = some ⟨g, 0, none⟩ ∧ B ≤ g ∧ g < w.heap.size) := by
  obtain ⟨h1, ⟨rfl, h2⟩ | ⟨g, cap, cur, rfl, h2, h3, h4, h5, h6, h7⟩⟩ := h
  · obtain rfl : L = [] := List.eq_nil_of_length_eq_zero h2
    exact ⟨none, 0, rfl, Nat.le_refl _, by unfold maxLen; omega, Rd.nil _ _ _ _, rfl, Or.inl rfl⟩
  · have hg := (Array.getElem?_eq_some_iff.mp h3).1
    refine ⟨some ⟨g, 0, none⟩, cap, rfl, h4, h5, fun k z hz => ⟨g, 0, rfl, hg, fun j u hu => ?_⟩, rfl, Or.inr ⟨g, rfl, h2, hg⟩⟩
    rw [cell_of_row w g _ cur _ (0, 0) h3, Nat.zero_add]
    have hu' := flat_at hc hz hu
    rw [← h7, List.getElem?_take] at hu'
    split at hu'
    · simpa using hu'
    · cases hu'
theorem Row.blk (h : Row cs s t B w v L) (h0 : 0 < L.length) : ∃ g cap, v = .slice (some ⟨g, 0, none⟩) L.length cap ∧ B ≤ g ∧ g < w.heap.size ∧ L.length ≤ cap ∧ cap ≤ maxLen := by
  obtain ⟨_, ⟨_, h1⟩ | ⟨g, cap, cur, h1, h2, h3, h4, h5, _⟩⟩ := h
  · omega
  · exact ⟨g, cap, h1, h2, (Array.getElem?_eq_some_iff.mp h3).1, h4, h5⟩
theorem Row.cell (hc : ∀ z, (cs z).length = s) (h : Row cs s t B w (.slice (some ⟨g, 0, none⟩) n cap) L) {k : Nat} {z : α} (hk : L[k]? = some z) {j : Nat} {u : Value} (hu : (cs z)[j]? = some u) : w.cell? ⟨g, k * s + j, none⟩ = some u := by
  obtain ⟨A, c, e, _, _, hy, _⟩ := h.one hc
  cases e
  obtain ⟨g', off, e, _, hcell⟩ := hy k z hk
  cases e
  have := hcell j u hu
  rw [Nat.zero_add] at this; exact this
theorem Row.keep (h : Row cs s t B w v L) (hk : ∀ k, v.ownBlock = some k → w'.heap[k]? = w.heap[k]?) : Row cs s t B w' v L := by
  obtain ⟨h1, h0 | ⟨g, cap, cur, rfl, h2, h3, h4⟩⟩ := h
  · exact ⟨h1, Or.inl h0⟩
  · exact ⟨h1, Or.inr ⟨g, cap, cur, rfl, h2, (hk g rfl).trans h3, h4⟩⟩
theorem Row.on (h : Row cs s t B w v L) (hb : Below w.heap.size w w') : Row cs s t B w' v L := h.keep fun k hk => hb.block k (h.lt k hk).2
theorem Row.less {B' : Nat} (h : Row cs s t B w v L) (hB : B' ≤ B) : Row cs s t B' w v L := by
  obtain ⟨h1, h0 | ⟨g, cap, cur, e, h2, h3⟩⟩ := h
  · exact ⟨h1, Or.inl h0⟩
  · exact ⟨h1, Or.inr ⟨g, cap, cur, e, Nat.le_trans hB h2, h3⟩⟩
theorem Row.warm (h : Row cs s t B w (.slice (some ⟨g, 0, none⟩) n cap) L) (hn : n = L.length) (j : Nat) : w.frozen? ⟨g, j, none⟩ = false := by
  subst hn
  exact World.ownsRow.frozenAt (h : w.ownsRow B t s (.slice (some ⟨g, 0, none⟩) L.length cap) L.length (L.flatMap cs)) j
/-- A cell that is set. -/
theorem own_set {xs : List Value} {m : Nat} (h : w.ownsRow B t s (.slice (some ⟨g, 0, none⟩) m cap) m xs) (j : Nat) (u : Value) : (w.setCell ⟨g, j, none⟩ u).ownsRow B t s (.slice (some ⟨g, 0, none⟩) m cap) m (xs.set j u) := (World.ownsRow.stored h j u).1
theorem Row.below (h : Row cs s t B w v L) (hg : w.grownBy w' v.ownBlock) (hB : B ≤ w.heap.size) : Below B w w' :=
  ⟨hg.os, hg.tape, hg.output, hg.size, fun i hi => hg.block i (Nat.lt_of_lt_of_le hi hB) fun e => by have := (h.lt i e.symm).1; omega⟩
theorem Row.empty (cs : α → List Value) (s : Nat) (t : TypeId) (w : World) (hB : B ≤ w.heap.size) : Row cs s t B (w.alloc (.cells #[] t)) (.slice (some ⟨w.heap.size, 0, none⟩) 0 0) [] :=
  World.ownsRow_lit (base := B) (e := t) (size := s) w #[] 0 hB (by unfold maxLen; omega) (by simp)
/-- The first n elements: 's[:n]'. -/
theorem Row.cut (hc : ∀ z, (cs z).length = s) (h : Row cs s t B w (.slice (some ⟨g, 0, none⟩) n cap) L) (hn : n = L.length) {m : Nat} (hm : m ≤ n) : Row cs s t B w (.slice (some ⟨g, 0, none⟩) m cap) (L.take m) := by
  subst hn
  obtain ⟨h1, ⟨h0, _⟩ | ⟨g', cap', cur, e, h2, h3, h4, h5, h6, h7⟩⟩ := h
  · cases h0
  · cases e
    have hfl : (L.take m).flatMap cs = (L.flatMap cs).take (m * s) := by
      conv => rhs; rw [← List.take_append_drop m L, List.flatMap_append]
      rw [List.take_left' (by rw [flat_len hc, List.length_take]; congr 1; omega)]
    have hlen : (L.take m).length = m := by rw [List.length_take]; omega
    refine ⟨by rw [flat_len hc], Or.inr ⟨g, cap, cur, by rw [hlen], h2, h3, by rw [hlen]; omega, h5, h6, ?_⟩⟩
    rw [hlen, hfl, ← h7, List.take_take]
    congr 1
    exact (Nat.min_eq_left (Nat.mul_le_mul_right _ hm)).symm
end
#print axioms Row.cut
#print axioms Row.one
end Go.Proofs.Ytccbnobpighckaa.Rw
