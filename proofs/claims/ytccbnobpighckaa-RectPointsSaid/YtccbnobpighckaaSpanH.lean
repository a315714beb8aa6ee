/- Contract of span.combined: the sweep. -/
import Derived.Test.YtccbnobpighckaaSpanG
import Derived.StillTailTactics
namespace Go.Proofs.Ytccbnobpighckaa.Span
open Go.ChangeShapes Go.WideShapes Go.RowKit Go.Lib Go.Proofs
set_option linter.unusedVariables false
set_option maxRecDepth 100000

/-- A block of two integers, none frozen. -/
def Two (w : World) (g : Nat) (x y : Int) : Prop :=
  (w.cell? ⟨g, 0, none⟩ = some (.int .i64 x) ∧ w.cell? ⟨g, 1, none⟩ = some (.int .i64 y)) ∧ w.frozen? ⟨g, 0, none⟩ = false ∧ w.frozen? ⟨g, 1, none⟩ = false
theorem Two.lt {w : World} {g : Nat} {x y : Int} (h : Two w g x y) : g < w.heap.size := World.block_lt_of_cell? w _ h.1.1
theorem Two.keep {w w' : World} {g : Nat} {x y : Int} (h : Two w g x y) (hk : w'.heap[g]? = w.heap[g]?) : Two w' g x y :=
  ⟨⟨(World.cell?_of_block (a := ⟨g, 0, none⟩) hk).trans h.1.1, (World.cell?_of_block (a := ⟨g, 1, none⟩) hk).trans h.1.2⟩,
    (World.frozen?_of_block (a := ⟨g, 0, none⟩) hk).trans h.2.1, (World.frozen?_of_block (a := ⟨g, 1, none⟩) hk).trans h.2.2⟩
theorem Two.on {w w' : World} {g : Nat} {x y : Int} (h : Two w g x y) (hb : Below w.heap.size w w') : Two w' g x y := h.keep (hb.block g h.lt)
theorem frozen_of {W : World} {g : Nat} {cs : Array Value} {t : TypeId} (h : W.heap[g]? = some (.cells cs t (0, 0))) (i : Nat) : W.frozen? ⟨g, i, none⟩ = false := by simp [World.frozen?, h]
theorem Two.new (w : World) (x y : Int) (t : TypeId) : Two (w.alloc (.cells #[.int .i64 x, .int .i64 y] t)) w.heap.size x y := by
  have hb := heap_alloc_new w (.cells #[.int .i64 x, .int .i64 y] t)
  refine ⟨⟨?_, ?_⟩, ?_, ?_⟩
  · rw [cell_of_row _ _ _ _ _ _ hb]; rfl
  · rw [cell_of_row _ _ _ _ _ _ hb]; rfl
  · exact frozen_of hb _
  · exact frozen_of hb _
theorem Two.set0 {w : World} {g : Nat} {x y : Int} (h : Two w g x y) (z : Int) : Two (w.setCell ⟨g, 0, none⟩ (.int .i64 z)) g z y :=
  ⟨⟨World.cell?_setCell_same w _ _ h.1.1, (World.cell?_setCell_other w _ _ _ (by simp)).trans h.1.2⟩, by simpa using h.2.1, by simpa using h.2.2⟩
theorem Two.set1 {w : World} {g : Nat} {x y : Int} (h : Two w g x y) (z : Int) : Two (w.setCell ⟨g, 1, none⟩ (.int .i64 z)) g x z :=
  ⟨⟨(World.cell?_setCell_other w _ _ _ (by simp)).trans h.1.1, World.cell?_setCell_same w _ _ h.1.2⟩, by simpa using h.2.1, by simpa using h.2.2⟩
theorem Two.far {w : World} {g : Nat} {x y : Int} (h : Two w g x y) {p : Addr} (hp : p.block ≠ g) (u : Value) : Two (w.setCell p u) g x y := h.keep (Below.heap_setCell w p u g fun e => hp e.symm)
theorem Ens.far {w : World} {g : Nat} {E : List En} (h : Ens w g E) {p : Addr} (hp : p.block ≠ g) (u : Value) : Ens (w.setCell p u) g E := h.keep (by simp [World.setCell]) (Below.heap_setCell w p u g fun e => hp e.symm)

def CmbRes (f : Int → Bool) (w : World) (e : Ending) (w' : World) : Prop :=
  ∃ N v, e = .returned v ∧ InL w' v N ∧ IsNf f N ∧ N.length ≤ 2000 ∧ Below w.heap.size w w'
/-- What holds at the head of the sweep's loop, of the memory. -/
structure Mem (w : World) (gl gi gE B : Nat) (E : List En) (wr : World) (v : Value) (l : List Sp) (last : Sp) (i0 i1 : Int) : Prop where
  own : Own wr B v l
  last_ : Two wr gl last.1 last.2
  in_ : Two wr gi i0 i1
  ens : Ens wr gE E
  below : Below w.heap.size w wr
  size : B ≤ wr.heap.size
  glw : w.heap.size ≤ gl
  giw : w.heap.size ≤ gi
  glB : gl < B
  giB : gi < B
  gEB : gE < B
  lE : gl ≠ gE
  iE : gi ≠ gE
  li : gl ≠ gi
section
variable {w wr w' : World} {gl gi gE B : Nat} {E : List En} {v : Value} {l : List Sp} {last : Sp} {i0 i1 : Int}
theorem Mem.alloc (h : Mem w gl gi gE B E wr v l last i0 i1) (o : Obj) : Mem w gl gi gE B E (wr.alloc o) v l last i0 i1 :=
  have hb := below_alloc wr o
  { h with own := h.own.alloc o, last_ := h.last_.on hb, in_ := h.in_.on hb, ens := h.ens.on hb, below := h.below.alloc h.below.size o, size := Nat.le_trans h.size hb.size }
theorem Mem.drew (h : Mem w gl gi gE B E wr v l last i0 i1) : Mem w gl gi gE B E wr.drew v l last i0 i1 :=
  { h with own := h.own.keep fun _ _ _ => rfl, last_ := h.last_.keep rfl, in_ := h.in_.keep rfl, ens := h.ens.keep (Nat.le_refl _) rfl, below := h.below.drew, size := h.size }
theorem Mem.setFrom (h : Mem w gl gi gE B E wr v l last i0 i1) (z : Int) : Mem w gl gi gE B E (wr.setCell ⟨gl, 0, none⟩ (.int .i64 z)) v l (z, last.2) i0 i1 :=
  { h with own := h.own.set h.glB _, last_ := h.last_.set0 z, in_ := h.in_.far h.li _, ens := h.ens.far h.lE _, below := h.below.setCell h.glw _, size := by simpa [World.setCell] using h.size }
theorem Mem.setTo (h : Mem w gl gi gE B E wr v l last i0 i1) (z : Int) : Mem w gl gi gE B E (wr.setCell ⟨gl, 1, none⟩ (.int .i64 z)) v l (last.1, z) i0 i1 :=
  { h with own := h.own.set h.glB _, last_ := h.last_.set1 z, in_ := h.in_.far h.li _, ens := h.ens.far h.lE _, below := h.below.setCell h.glw _, size := by simpa [World.setCell] using h.size }
theorem Mem.setIn0 (h : Mem w gl gi gE B E wr v l last i0 i1) (z : Int) : Mem w gl gi gE B E (wr.setCell ⟨gi, 0, none⟩ (.int .i64 z)) v l last z i1 :=
  { h with own := h.own.set h.giB _, last_ := h.last_.far (fun e => h.li e.symm) _, in_ := h.in_.set0 z, ens := h.ens.far h.iE _, below := h.below.setCell h.giw _, size := by simpa [World.setCell] using h.size }
theorem Mem.setIn1 (h : Mem w gl gi gE B E wr v l last i0 i1) (z : Int) : Mem w gl gi gE B E (wr.setCell ⟨gi, 1, none⟩ (.int .i64 z)) v l last i0 z :=
  { h with own := h.own.set h.giB _, last_ := h.last_.far (fun e => h.li e.symm) _, in_ := h.in_.set1 z, ens := h.ens.far h.iE _, below := h.below.setCell h.giw _, size := by simpa [World.setCell] using h.size }
theorem Mem.grown {v' : Value} {l' : List Sp} (h : Mem w gl gi gE B E wr v l last i0 i1) (ho : Own w' B v' l') (hg : wr.grownBy w' v.ownBlock) : Mem w gl gi gE B E w' v' l' last i0 i1 := by
  have key : ∀ k, k < B → w'.heap[k]? = wr.heap[k]? := fun k hk => hg.block k (Nat.lt_of_lt_of_le hk h.size) fun e => by have := h.own.ge k e.symm; omega
  exact { h with own := ho, last_ := h.last_.keep (key _ h.glB), in_ := h.in_.keep (key _ h.giB), ens := h.ens.keep hg.size (key _ h.gEB), below := h.below.grown hg h.below.size fun k hk => by have := h.own.ge k hk; have := h.glB; have := h.glw; omega, size := Nat.le_trans h.size hg.size }
end
/-- The count of list z. -/
def pickI (z i0 i1 : Int) : Int := if z = 0 then i0 else i1
section
variable {w wr w' : World} {gl gi gE B : Nat} {E : List En} {v : Value} {l : List Sp} {last : Sp} {i0 i1 z : Int}
theorem Mem.pick (h : Mem w gl gi gE B E wr v l last i0 i1) (hz : z = 0 ∨ z = 1) : wr.cell? ⟨gi, z.toNat, none⟩ = some (.int .i64 (pickI z i0 i1)) ∧ wr.frozen? ⟨gi, z.toNat, none⟩ = false := by
  rcases hz with rfl | rfl
  · exact ⟨h.in_.1.1, h.in_.2.1⟩
  · exact ⟨h.in_.1.2, h.in_.2.2⟩
theorem Mem.bump (h : Mem w gl gi gE B E wr v l last i0 i1) (hz : z = 0 ∨ z = 1) (st : Int) :
    Mem w gl gi gE B E (wr.setCell ⟨gi, z.toNat, none⟩ (.int .i64 (pickI z i0 i1 + st))) v l last (i0 + if z = 0 then st else 0) (i1 + if z = 1 then st else 0) := by
  rcases hz with rfl | rfl
  · have := h.setIn0 (i0 + st)
    simpa [pickI] using this
  · have := h.setIn1 (i1 + st)
    simpa [pickI] using this
end
/-- The box of the end that is looked at. -/
def Box (w : World) (g : Nat) (e : En) : Prop := w.cell? ⟨g, 0, none⟩ = some (.int .i64 e.1) ∧ w.cell? ⟨g, 1, none⟩ = some (.int .i64 e.2.1) ∧ w.cell? ⟨g, 2, none⟩ = some (.int .i64 e.2.2)
theorem Box.new (w : World) (e : En) : Box (w.alloc (.cells #[.int .i64 e.1, .int .i64 e.2.1, .int .i64 e.2.2] 119)) w.heap.size e := by
  have hb := heap_alloc_new w (.cells #[.int .i64 e.1, .int .i64 e.2.1, .int .i64 e.2.2] 119)
  refine ⟨?_, ?_, ?_⟩
  · rw [cell_of_row _ _ _ _ _ _ hb]; rfl
  · rw [cell_of_row _ _ _ _ _ _ hb]; rfl
  · rw [cell_of_row _ _ _ _ _ _ hb]; rfl
theorem Box.new_at (w : World) (e : En) {g : Nat} (hg : w.heap.size = g) : Box (w.alloc (.cells #[.int .i64 e.1, .int .i64 e.2.1, .int .i64 e.2.2] 119)) g e := hg ▸ Box.new w e
theorem Box.keep {w w' : World} {g : Nat} {e : En} (h : Box w g e) (hk : w'.heap[g]? = w.heap[g]?) : Box w' g e :=
  ⟨(World.cell?_of_block (a := ⟨g, 0, none⟩) hk).trans h.1, (World.cell?_of_block (a := ⟨g, 1, none⟩) hk).trans h.2.1, (World.cell?_of_block (a := ⟨g, 2, none⟩) hk).trans h.2.2⟩
theorem Box.set {w : World} {g : Nat} {e : En} (h : Box w g e) {p : Addr} (hp : p.block ≠ g) (u : Value) : Box (w.setCell p u) g e := h.keep (Below.heap_setCell w p u g fun e => hp e.symm)
theorem Box.grown {w w' : World} {g : Nat} {e : En} {row : Option Nat} (h : Box w g e) (hg : w.grownBy w' row) (hr : some g ≠ row) : Box w' g e := h.keep (hg.block g (World.block_lt_of_cell? w _ h.1) hr)
#print axioms Mem.grown
#print axioms Mem.bump
#print axioms Box.grown
end Go.Proofs.Ytccbnobpighckaa.Span
