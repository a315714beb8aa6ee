/- append as a step of a region that draws its order. -/
import Derived.Test.YtlbknnafecdakaaGraphH
import Derived.Deep.RegionLaw
import Derived.Deep.AppendLies
namespace Go.Proofs.Ytlbknnafecdakaa.Graph
open Go.ChangeShapes Go.WideShapes Go.RowKit Go.Lib
set_option linter.unusedVariables false
set_option maxRecDepth 100000

/-- 'append(s, x)' at a step of a region that draws its order: w0 is the world ahead of the region. -/
theorem step_arc (w0 : World) {w : World} {ops : Array Oper} {o : Oper} {a : Act} {K : Act → World → Prop} {Q : Exit → Act → World → Prop} {E : Prop} (hgd : o.guard = none) (s x : Operand)
    (ho : o.op = .call { callee := .builtin .append, args := #[s, x], argTypes := #[22, 22] })
    (B : Nat) (v : Value) (L : List Pr) (hs : a.eval s = v) (hown : OwnA B w0 v L) (hbm : Below w0.heap.size w0 w) (g c0 : Nat) (z : Pr) (hx : a.eval x = .slice (some ⟨g, 0, none⟩) 1 c0) (hz0 : w.cell? ⟨g, 0, none⟩ = some (.int .i64 z.1)) (hz1 : w.cell? ⟨g, 1, none⟩ = some (.int .i64 z.2))
    (m : Nat) (hm : m = L.length) (hlen : m + 1 ≤ 1000000) (hB : B ≤ w0.heap.size)
    (h : ∀ g' cap w', OwnA B w' (.slice (some ⟨g', 0, none⟩) (m + 1) cap) (L ++ [z]) → (∀ b, b < w0.heap.size → v.ownBlock ≠ some b → w'.heap[b]? = w0.heap[b]?) → Below B w0 w' → (v.ownBlock = some g' ∨ w0.heap.size ≤ g') → K (a.put o.dst (.slice (some ⟨g', 0, none⟩) (m + 1) cap)) w') :
    if Region.wanted o (yielded ops a.tmps) = true then Oper.wp Try.prog o a w K Q else E := by
  obtain ⟨i0, hi0, hz, hzs, hzb⟩ := info_parts info_arc
  have hown1 := hown.on hbm
  subst hm
  refine step_append_lies w hgd s x _ ho B 42 i0 (.agg #[.int .i64 0, .int .i64 0]) 2 16 Try.underlying22 hi0 hz hzs hzb rfl (by decide) v L.length _ hs hown1 ⟨g, 0, none⟩ 1 c0 [.int .i64 z.1, .int .i64 z.2] hx rfl ?_ (by intro u hu; simp at hu; rcases hu with rfl | rfl <;> rfl) (by omega) (by unfold maxLen; omega) (by omega) (Nat.le_trans hB hbm.size) _ rfl ?_
  · intro j u hj
    match j, hj with
    | 0, hj => simp at hj; subst hj; rw [Addr.add_lit]; exact hz0
    | 1, hj => simp at hj; subst hj; rw [Addr.add_lit]; exact hz1
  · intro g' cap w' hown' hg hat _
    refine h g' cap w' (by unfold OwnA; rw [List.length_append, cellsA_snoc]; exact hown') (fun b hb hv => (hg.block b (Nat.lt_of_lt_of_le hb hbm.size) fun e => hv e.symm).trans (hbm.block b hb)) ((hbm.mono hB).trans (hown1.below hg (Nat.le_trans hB hbm.size))) ?_
    rcases hat with h1 | h1
    · exact Or.inl h1
    · exact Or.inr (h1 ▸ hbm.size)
/-- 'append(s, x)' at a step of a region that draws its order: w0 is the world ahead of the region. -/
theorem step_int (w0 : World) {w : World} {ops : Array Oper} {o : Oper} {a : Act} {K : Act → World → Prop} {Q : Exit → Act → World → Prop} {E : Prop} (hgd : o.guard = none) (s x : Operand)
    (ho : o.op = .call { callee := .builtin .append, args := #[s, x], argTypes := #[29, 29] })
    (B : Nat) (v : Value) (L : List Int) (hs : a.eval s = v) (hown : Own eI 3 B w0 v L) (hbm : Below w0.heap.size w0 w) (g c0 : Nat) (z : Int) (hx : a.eval x = .slice (some ⟨g, 0, none⟩) 1 c0) (hz0 : w.cell? ⟨g, 0, none⟩ = some (.int .i64 z))
    (m : Nat) (hm : m = L.length) (hlen : m + 1 ≤ 1000000) (hB : B ≤ w0.heap.size)
    (h : ∀ g' cap w', Own eI 3 B w' (.slice (some ⟨g', 0, none⟩) (m + 1) cap) (L ++ [z]) → (∀ b, b < w0.heap.size → v.ownBlock ≠ some b → w'.heap[b]? = w0.heap[b]?) → Below B w0 w' → (v.ownBlock = some g' ∨ w0.heap.size ≤ g') → K (a.put o.dst (.slice (some ⟨g', 0, none⟩) (m + 1) cap)) w') :
    if Region.wanted o (yielded ops a.tmps) = true then Oper.wp Try.prog o a w K Q else E := by
  obtain ⟨i0, hi0, hz, hzs, hzb⟩ := info_parts info_int
  have hown1 := hown.on hbm
  subst hm
  refine step_append_lies w hgd s x _ ho B 3 i0 (.int .i64 0) 1 8 Try.underlying29 hi0 hz hzs hzb rfl (by decide) v L.length _ hs hown1 ⟨g, 0, none⟩ 1 c0 [.int .i64 z] hx rfl ?_ (by intro u hu; simp at hu; subst hu; rfl) (by omega) (by unfold maxLen; omega) (by omega) (Nat.le_trans hB hbm.size) _ rfl ?_
  · intro j u hj
    match j, hj with
    | 0, hj => simp at hj; subst hj; rw [Addr.add_lit]; exact hz0
  · intro g' cap w' hown' hg hat _
    refine h g' cap w' (by unfold Own; rw [List.length_append, List.map_append]; exact hown') (fun b hb hv => (hg.block b (Nat.lt_of_lt_of_le hb hbm.size) fun e => hv e.symm).trans (hbm.block b hb)) ((hbm.mono hB).trans (hown1.below hg (Nat.le_trans hB hbm.size))) ?_
    rcases hat with h1 | h1
    · exact Or.inl h1
    · exact Or.inr (h1 ▸ hbm.size)
#print axioms step_arc
#print axioms step_int
end Go.Proofs.Ytlbknnafecdakaa.Graph
