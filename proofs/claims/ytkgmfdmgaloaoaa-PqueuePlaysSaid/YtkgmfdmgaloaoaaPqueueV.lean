/- The reference's queue in memory; append twice in a region that draws its order; Push. -/
import Derived.Test.YtkgmfdmgaloaoaaPqueueU
namespace Go.Proofs.Ytkgmfdmgaloaoaa.PqueueI
open Go.ChangeShapes Go.WideShapes Go.RowKit Go.Lib Go.Proofs.Ytkgmfdmgaloaoaa.Pqueue
set_option linter.unusedVariables false
set_option maxRecDepth 100000

abbrev TR : TypeId := 33
/-- The reference's queue at block g: the mode m, the values R; S: the blocks that it reads. -/
structure Rq (w : World) (g : Nat) (S : Nat → Prop) (m : Int) (R : List It) : Prop where
  sg : S g
  lt : ∀ k, S k → k < w.heap.size
  ex : ∃ A c, w.heap[g]? = some (.cells #[.int .i64 m, .slice A R.length c] TR (0, 0)) ∧ Rd cV 2 w A R ∧ (∀ b off, A = some ⟨b, off, none⟩ → 0 < R.length → S b ∧ b ≠ g) ∧ R.length ≤ c ∧ c ≤ maxLen
section
variable {w w' : World} {g : Nat} {S S' : Nat → Prop} {m : Int} {R : List It}
theorem rd_keep {L : List It} {A : Option Addr} (h : Rd cV 2 w A L) (hs : w.heap.size ≤ w'.heap.size) (hk : ∀ b off, A = some ⟨b, off, none⟩ → 0 < L.length → w'.heap[b]? = w.heap[b]?) : Rd cV 2 w' A L := by
  intro k z hz
  obtain ⟨b, off, e, hlt, h0⟩ := h k z hz
  exact ⟨b, off, e, Nat.lt_of_lt_of_le hlt hs, fun j u hu => (World.cell?_of_block (a := ⟨b, off + (k * 2 + j), none⟩) (hk b off e (by have := glt hz; omega))).trans (h0 j u hu)⟩
theorem Rq.keep (h : Rq w g S m R) (hs : w.heap.size ≤ w'.heap.size) (hk : ∀ k, S k → w'.heap[k]? = w.heap[k]?) : Rq w' g S m R := by
  obtain ⟨A, c, h1, h2, h3, h4, h5⟩ := h.ex
  exact ⟨h.sg, fun k hk => Nat.lt_of_lt_of_le (h.lt k hk) hs, A, c, (hk g h.sg).trans h1, rd_keep h2 hs fun b off e h0 => hk b (h3 b off e h0).1, h3, h4, h5⟩
theorem Rq.off (h : Rq w g S m R) (ho : Off S' w w') (hd : ∀ k, S k → ¬ S' k) : Rq w' g S m R := h.keep ho.size fun k hk => ho.block k (h.lt k hk) (hd k hk)
theorem Rq.on (h : Rq w g S m R) (hb : Below w.heap.size w w') : Rq w' g S m R := h.keep hb.size fun k hk => hb.block k (h.lt k hk)
/-- What the walks read. -/
theorem Rq.reads (h : Rq w g S m R) : ∃ A c, w.cell? ⟨g, 0, none⟩ = some (.int .i64 m) ∧ w.cell? ⟨g, 1, none⟩ = some (.slice A R.length c) ∧ w.heap[g]? = some (.cells #[.int .i64 m, .slice A R.length c] TR (0, 0)) ∧ Rd cV 2 w A R ∧ R.length ≤ c ∧ c ≤ maxLen := by
  obtain ⟨A, c, h1, h2, h3, h4, h5⟩ := h.ex
  exact ⟨A, c, by rw [cell_of_row _ _ _ _ _ _ h1]; rfl, by rw [cell_of_row _ _ _ _ _ _ h1]; rfl, h1, h2, h4, h5⟩
/-- Another list is laid. -/
theorem Rq.laid (h : Rq w g S m R) {A A' : Option Addr} {n c n' c' : Nat} {R' : List It} (hb : w.heap[g]? = some (.cells #[.int .i64 m, .slice A n c] TR (0, 0))) (hbel : Below w.heap.size w w') (hr : Row cV 2 TV w.heap.size w' (.slice A' n' c') R') :
    ∃ S', Rq (w'.setCell ⟨g, 1, none⟩ (.slice A' n' c')) g S' m R' ∧ (∀ k, S' k → k = g ∨ w.heap.size ≤ k) ∧ Off (fun k => k = g) w (w'.setCell ⟨g, 1, none⟩ (.slice A' n' c')) := by
  have hgl := h.lt g h.sg
  have hb' := (hbel.block g hgl).trans hb
  obtain ⟨A2, c2, e, h1, h2, h3, h4, h5⟩ := hr.one cV_len
  cases e
  have hA : ∀ b off, A' = some ⟨b, off, none⟩ → w.heap.size ≤ b ∧ b < w'.heap.size := fun b off e => by
    rcases h5 with h | ⟨g', h, h6, h7⟩
    · rw [h] at e; cases e
    · rw [h] at e; cases e; exact ⟨h6, h7⟩
  refine ⟨fun k => k = g ∨ ∃ off, A' = some ⟨k, off, none⟩, ⟨Or.inl rfl, fun k hk => ?_, A', c', ?_, ?_, fun b off e _ => ⟨Or.inr ⟨off, e⟩, ?_⟩, h1, h2⟩, fun k hk => ?_, ?_⟩
  · have : (w'.setCell ⟨g, 1, none⟩ (.slice A' R'.length c')).heap.size = w'.heap.size := by simp [World.setCell]
    rw [this]
    rcases hk with rfl | ⟨off, e⟩
    · exact Nat.lt_of_lt_of_le hgl hbel.size
    · exact (hA k off e).2
  · rw [heap_setCell_same _ g 1 _ _ _ hb']; simp
  · exact rd_keep h3 (by simp [World.setCell]) fun b off e _ => Below.heap_setCell _ _ _ _ (by have := (hA b off e).1; show b ≠ g; omega)
  · have := (hA b off e).1; omega
  · rcases hk with rfl | ⟨off, e⟩
    · exact Or.inl rfl
    · exact Or.inr (hA k off e).1
  · exact (Off.of_below (S := fun k => k = g) hbel).set (p := ⟨g, 1, none⟩) (Or.inl rfl) _
end

/-- 'append([]Item{}, x...)' at a step of a region that draws its order; the empty literal lies at block ge; w1: the world ahead of the region. -/
theorem step_lit (w1 : World) {w : World} {ops : Array Oper} {o : Oper} {a : Act} {K : Act → World → Prop} {Q : Exit → Act → World → Prop} {E : Prop} (hgd : o.guard = none) (x y : Operand)
    (ho : o.op = .call { callee := .builtin .append, args := #[x, y], argTypes := #[31, 31] })
    (ge : Nat) (hs : a.eval x = .slice (some ⟨ge, 0, none⟩) 0 0) (hge : w.heap[ge]? = some (.cells #[] TV (0, 0))) (h1 : w1.heap.size ≤ ge) (hb : Below w1.heap.size w1 w)
    (A : Option Addr) (m c : Nat) (M : List It) (hm : m = M.length) (hx : a.eval y = .slice A m c) (hz : Rd cV 2 w1 A M) (hlen : m ≤ 1000000)
    (h : ∀ A' n' c' w', n' = m → Row cV 2 TV w1.heap.size w' (.slice A' n' c') M → Below w1.heap.size w1 w' → w.heap.size ≤ w'.heap.size → (∀ b cs, w.heap[b]? = some (.cells cs TV (0, 0)) → b ≠ ge → w'.heap[b]? = some (.cells cs TV (0, 0)) ∧ (Value.slice A' n' c').ownBlock ≠ some b) → K (a.put o.dst (.slice A' n' c')) w') :
    if Region.wanted o (yielded ops a.tmps) = true then Oper.wp Try.prog o a w K Q else E := by
  have hrow : Row cV 2 TV w1.heap.size w (.slice (some ⟨ge, 0, none⟩) 0 0) ([] : List It) := ⟨rfl, Or.inr ⟨ge, 0, #[], rfl, h1, hge, Nat.le_refl _, by unfold maxLen; omega, rfl, rfl⟩⟩
  refine step_rows kdV w hgd x y ho _ [] hs hrow (Below.refl _ _) A m c M hm hx (hz.on hb) (by simp; exact hlen) hb.size ?_
  intro A' n' c' w' hn' hr' hk' hg' hat'
  refine h A' n' c' w' (by simpa using hn') (by rw [List.nil_append] at hr'; exact hr') (hb.trans (hrow.below hg' hb.size)) hg'.size fun b cs hc hne => ⟨?_, fun e => ?_⟩
  · have hbl := (Array.getElem?_eq_some_iff.mp hc).1
    exact (hk' b hbl fun e => hne (by cases e; rfl)).trans hc
  · have hbl := (Array.getElem?_eq_some_iff.mp hc).1
    rcases hat' with h2 | ⟨k, h2, h3⟩
    · rw [h2] at e; exact hne (by cases e; rfl)
    · rw [h2] at e; cases e; omega
/-- The second append: onto the row that the first one left in world w2. -/
theorem step_end (w1 w2 : World) {w : World} {ops : Array Oper} {o : Oper} {a : Act} {K : Act → World → Prop} {Q : Exit → Act → World → Prop} {E : Prop} (hgd : o.guard = none) (x y : Operand)
    (ho : o.op = .call { callee := .builtin .append, args := #[x, y], argTypes := #[31, 31] })
    (A1 : Option Addr) (n1 c1 : Nat) (L : List It) (hs : a.eval x = .slice A1 n1 c1) (hrow : Row cV 2 TV w1.heap.size w2 (.slice A1 n1 c1) L) (hn1 : n1 = L.length) (h12 : Below w1.heap.size w1 w2) (hb : Below w2.heap.size w2 w)
    (A : Option Addr) (m c : Nat) (M : List It) (hm : m = M.length) (hx : a.eval y = .slice A m c) (hz : Rd cV 2 w A M) (hlen : n1 + m ≤ 1000000)
    (h : ∀ A' n' c' w', n' = n1 + m → Row cV 2 TV w1.heap.size w' (.slice A' n' c') (L ++ M) → Below w1.heap.size w1 w' → K (a.put o.dst (.slice A' n' c')) w') :
    if Region.wanted o (yielded ops a.tmps) = true then Oper.wp Try.prog o a w K Q else E := by
  refine step_rows kdV w2 hgd x y ho _ L hs hrow hb A m c M hm hx hz (by rw [← hn1]; exact hlen) h12.size ?_
  intro A' n' c' w' hn' hr' hk' hg' hat'
  exact h A' n' c' w' (by rw [hn1]; exact hn') hr' (h12.trans (hrow.below hg' h12.size))
#print axioms step_lit
#print axioms step_end
#print axioms Rq.laid
end Go.Proofs.Ytkgmfdmgaloaoaa.PqueueI
