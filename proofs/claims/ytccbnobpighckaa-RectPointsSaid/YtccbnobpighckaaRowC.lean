/- A struct in a block of its own, whatever its cells. -/
import Derived.Test.YtccbnobpighckaaRowB
namespace Go.Proofs.Ytccbnobpighckaa.Rw
open Go.ChangeShapes Go.WideShapes Go.RowKit Go.Lib
set_option linter.unusedVariables false
set_option maxRecDepth 100000

/-- In block g lie the cells us, none frozen. -/
structure Cel (w : World) (g : Nat) (us : List Value) : Prop where
  lt : g < w.heap.size
  at_ : ∀ (j : Nat) (u : Value), us[j]? = some u → w.cell? ⟨g, j, none⟩ = some u
  warm : ∀ (j : Nat), w.frozen? ⟨g, j, none⟩ = false
section
variable {w w' : World} {g : Nat} {us : List Value} {u0 u1 u2 : Value}
theorem Cel.keep (h : Cel w g us) (hs : w.heap.size ≤ w'.heap.size) (hk : w'.heap[g]? = w.heap[g]?) : Cel w' g us :=
  ⟨Nat.lt_of_lt_of_le h.lt hs, fun j u hu => (World.cell?_of_block (a := ⟨g, j, none⟩) hk).trans (h.at_ j u hu), fun j => by
    have := h.warm j
    unfold World.frozen? at *
    simp only at *
    rw [hk]; exact this⟩
theorem Cel.on (h : Cel w g us) (hb : Below w.heap.size w w') : Cel w' g us := h.keep hb.size (hb.block g h.lt)
theorem Cel.below {B : Nat} (h : Cel w g us) (hb : Below B w w') (hg : g < B) : Cel w' g us := h.keep hb.size (hb.block g hg)
theorem Cel.drew (h : Cel w g us) : Cel w.drew g us := h.keep (Nat.le_refl _) rfl
theorem Cel.alloc (h : Cel w g us) (o : Obj) : Cel (w.alloc o) g us := h.on (below_alloc w o)
theorem Cel.off {S : Nat → Prop} (h : Cel w g us) (ho : Off S w w') (hS : ¬ S g) : Cel w' g us := h.keep ho.size (ho.block g h.lt hS)
theorem Cel.grown {row : Option Nat} (h : Cel w g us) (hg : w.grownBy w' row) (hr : row ≠ some g) : Cel w' g us := h.keep hg.size (hg.block g h.lt fun e => hr e.symm)
theorem Cel.far (h : Cel w g us) {p : Addr} (hp : p.block ≠ g) (u : Value) : Cel (w.setCell p u) g us :=
  h.keep (by simp [World.setCell]) (Below.heap_setCell w p u g fun e => hp e.symm)
theorem Cel.new (w : World) (us : List Value) (t : TypeId) : Cel (w.alloc (.cells us.toArray t)) w.heap.size us := by
  have hb := heap_alloc_new w (.cells us.toArray t)
  refine ⟨by simp, fun j u hu => ?_, fun j => frozen_of hb _⟩
  rw [cell_of_row _ _ _ _ _ _ hb]
  simpa using hu
theorem Cel.new_at (w : World) (us : List Value) (t : TypeId) {k : Nat} (hk : w.heap.size = k) : Cel (w.alloc (.cells us.toArray t)) k us := hk ▸ Cel.new w us t
theorem Cel.set (h : Cel w g us) (i : Nat) (x : Value) : Cel (w.setCell ⟨g, i, none⟩ x) g (us.set i x) := by
  refine ⟨by simp [World.setCell]; exact h.lt, fun j u hu => ?_, fun j => by simpa using h.warm j⟩
  by_cases hij : i = j
  · subst hij
    have hl : i < us.length := by
      have := glt hu
      rwa [List.length_set] at this
    rw [List.getElem?_set_self hl] at hu
    cases hu
    exact World.cell?_setCell_same w _ _ (h.at_ i _ (List.getElem?_eq_getElem hl))
  · rw [List.getElem?_set_ne hij] at hu
    rw [World.cell?_setCell_other w _ _ _ (fun e => hij (by cases e; rfl))]
    exact h.at_ j u hu
theorem Cel.two (h : Cel w g [u0, u1]) : w.cell? ⟨g, 0, none⟩ = some u0 ∧ w.cell? ⟨g, 1, none⟩ = some u1 := ⟨h.at_ 0 _ rfl, h.at_ 1 _ rfl⟩
theorem Cel.three (h : Cel w g [u0, u1, u2]) : w.cell? ⟨g, 0, none⟩ = some u0 ∧ w.cell? ⟨g, 1, none⟩ = some u1 ∧ w.cell? ⟨g, 2, none⟩ = some u2 := ⟨h.at_ 0 _ rfl, h.at_ 1 _ rfl, h.at_ 2 _ rfl⟩
theorem Cel.warm2 (h : Cel w g us) : w.frozen? ⟨g, 0, none⟩ = false ∧ w.frozen? ⟨g, 1, none⟩ = false := ⟨h.warm 0, h.warm 1⟩
theorem Cel.warm3 (h : Cel w g us) : w.frozen? ⟨g, 0, none⟩ = false ∧ w.frozen? ⟨g, 1, none⟩ = false ∧ w.frozen? ⟨g, 2, none⟩ = false := ⟨h.warm 0, h.warm 1, h.warm 2⟩
def put2 (w : World) (g : Nat) (x0 x1 : Value) : World := (w.setCell ⟨g, 0, none⟩ x0).setCell ⟨g, 1, none⟩ x1
def put3 (w : World) (g : Nat) (x0 x1 x2 : Value) : World := ((w.setCell ⟨g, 0, none⟩ x0).setCell ⟨g, 1, none⟩ x1).setCell ⟨g, 2, none⟩ x2
theorem Cel.put2 (h : Cel w g [u0, u1]) (x0 x1 : Value) : Cel ((w.setCell ⟨g, 0, none⟩ x0).setCell ⟨g, 1, none⟩ x1) g [x0, x1] := (h.set 0 x0).set 1 x1
theorem Cel.put3 (h : Cel w g [u0, u1, u2]) (x0 x1 x2 : Value) : Cel (((w.setCell ⟨g, 0, none⟩ x0).setCell ⟨g, 1, none⟩ x1).setCell ⟨g, 2, none⟩ x2) g [x0, x1, x2] := ((h.set 0 x0).set 1 x1).set 2 x2
theorem off_put3 (w : World) (g : Nat) (x0 x1 x2 : Value) : Off (fun k => k = g) w (((w.setCell ⟨g, 0, none⟩ x0).setCell ⟨g, 1, none⟩ x1).setCell ⟨g, 2, none⟩ x2) :=
  (((Off.refl (fun k => k = g) w).set (p := ⟨g, 0, none⟩) (Or.inl rfl) _).set (p := ⟨g, 1, none⟩) (Or.inl rfl) _).set (p := ⟨g, 2, none⟩) (Or.inl rfl) _
theorem off_put2 (w : World) (g : Nat) (x0 x1 : Value) : Off (fun k => k = g) w ((w.setCell ⟨g, 0, none⟩ x0).setCell ⟨g, 1, none⟩ x1) :=
  ((Off.refl (fun k => k = g) w).set (p := ⟨g, 0, none⟩) (Or.inl rfl) _).set (p := ⟨g, 1, none⟩) (Or.inl rfl) _
theorem below_put3 {B : Nat} (h : Below B w w') (hg : B ≤ g) (x0 x1 x2 : Value) : Below B w (((w'.setCell ⟨g, 0, none⟩ x0).setCell ⟨g, 1, none⟩ x1).setCell ⟨g, 2, none⟩ x2) :=
  ((h.setCell (p := ⟨g, 0, none⟩) hg _).setCell (p := ⟨g, 1, none⟩) hg _).setCell (p := ⟨g, 2, none⟩) hg _
theorem below_put2 {B : Nat} (h : Below B w w') (hg : B ≤ g) (x0 x1 : Value) : Below B w ((w'.setCell ⟨g, 0, none⟩ x0).setCell ⟨g, 1, none⟩ x1) :=
  (h.setCell (p := ⟨g, 0, none⟩) hg _).setCell (p := ⟨g, 1, none⟩) hg _
/-- An address in a block of one's own or an old one. -/
theorem Rd.off {α : Type} {cs : α → List Value} {s : Nat} {A : Option Addr} {L : List α} {S : Nat → Prop} (h : Rd cs s w A L) (ho : Off S w w') (hS : ∀ b off, A = some ⟨b, off, none⟩ → ¬ S b) : Rd cs s w' A L :=
  h.keep ho.size fun b off e hlt => ho.block b hlt (hS b off e)
end
#print axioms Cel.set
end Go.Proofs.Ytccbnobpighckaa.Rw
