/- A queue in memory; breadth first (pure). -/
import Derived.Test.YtlbknnafecdakaaGraphX
import Derived.ArgAppend
namespace Go.Proofs.Ytlbknnafecdakaa.Graph
open Go.ChangeShapes Go.WideShapes Go.RowKit Go.Lib
set_option linter.unusedVariables false
set_option maxRecDepth 100000

/-! ### A queue -/
structure Que (B : Nat) (w : World) (b off m cap : Nat) (L : List Int) : Prop where
  ge : B ≤ b
  len : m = L.length
  fit : m ≤ cap
  row : ∃ cur, w.heap[b]? = some (.cells cur 3 (0, 0)) ∧ off + cap ≤ cur.size ∧ ∀ (j : Nat) (z : Int), L[j]? = some z → cur[off + j]? = some (.int .i64 z)
theorem Que.lt {B : Nat} {w : World} {b off m cap : Nat} {L : List Int} (h : Que B w b off m cap L) : b < w.heap.size := by
  obtain ⟨cur, hc, _⟩ := h.row; exact (Array.getElem?_eq_some_iff.mp hc).1
theorem Que.keep {B : Nat} {w w' : World} {b off m cap : Nat} {L : List Int} (h : Que B w b off m cap L) (hk : w'.heap[b]? = w.heap[b]?) : Que B w' b off m cap L := by
  obtain ⟨cur, hc, h1⟩ := h.row; exact ⟨h.ge, h.len, h.fit, cur, hk.trans hc, h1⟩
theorem Que.on {B : Nat} {w w' : World} {b off m cap : Nat} {L : List Int} (h : Que B w b off m cap L) (hb : Below w.heap.size w w') : Que B w' b off m cap L := h.keep (hb.block b h.lt)
theorem Que.cell {B : Nat} {w : World} {b off m cap : Nat} {L : List Int} (h : Que B w b off m cap L) {j : Nat} {z : Int} (hj : L[j]? = some z) : w.cell? ⟨b, off + j, none⟩ = some (.int .i64 z) := by
  obtain ⟨cur, hc, _, h1⟩ := h.row
  rw [cell_of_row w b _ cur _ (0, 0) hc]; exact h1 j z hj
theorem Que.other {B : Nat} {w : World} {b off m cap : Nat} {L : List Int} (h : Que B w b off m cap L) {p : Addr} (hp : p.block ≠ b) (u : Value) : Que B (w.setCell p u) b off m cap L := h.keep (Below.heap_setCell w p u b fun e => hp e.symm)
theorem Que.lit (W : World) (x : Int) : Que W.heap.size (W.alloc (.cells #[.int .i64 x] 3)) W.heap.size 0 1 1 [x] :=
  ⟨Nat.le_refl _, rfl, Nat.le_refl _, _, heap_alloc_new W _, by simp, fun j z hj => by
    match j, hj with
    | 0, hj => simp at hj; subst hj; rfl
    | j + 1, hj => simp at hj⟩
/-- 'queue[1:]' -/
theorem Que.tail {B : Nat} {w : World} {b off m cap : Nat} {x : Int} {L : List Int} (h : Que B w b off m cap (x :: L)) :
    ∃ off' m' cap', (∀ W : World, (Instr.slice 29 (.slice (some ⟨b, off, none⟩) m cap) (some (.int .i64 1)) none none).run Try.prog W = .ok (.slice (some ⟨b, off', none⟩) m' cap') W) ∧ Que B w b off' m' cap' L := by
  have hlen := h.len
  have hfit := h.fit
  simp only [List.length_cons] at hlen
  have ht : Try.prog.underlying 29 = some (.slice (Try.prog.elem 29)) := by kernel_rfl
  obtain ⟨cur, hc, h1, h2⟩ := h.row
  refine ⟨if cap = 1 then off else off + 1, m - 1, cap - 1, fun W => ?_, h.ge, by omega, by omega, cur, hc, ?_, fun j z hj => ?_⟩
  · have hs : (sizeOf (Try.prog.elem 29)).run Try.prog W = .ok 1 W := Try.sizeOf3 W
    rw [run_slice_l W 29 (some ⟨b, off, none⟩) m cap ht .i64 1 (by omega) (by omega), hs]
    simp [sliced, Result.andThen, Addr.add_lit]
    by_cases e : cap = 1
    · simp [e]
    · simp [e]
  · split <;> omega
  · have hjl := lt_of_get hj
    rw [if_neg (by omega)]
    have := h2 (j + 1) z (by simpa using hj)
    rw [show off + 1 + j = off + (j + 1) by omega]; exact this
/-- 'append(queue, x)' -/
theorem append_que {w : World} {ops : Array Oper} {rest : List Oper} {o : Oper} {a : Act} {Q : Exit → Act → World → Prop} (hgd : o.guard = none) (s x : Operand)
    (ho : o.op = .call { callee := .builtin .append, args := #[s, x], argTypes := #[29, 29] })
    (B b off m cap : Nat) (L : List Int) (hs : a.eval s = .slice (some ⟨b, off, none⟩) m cap) (hq : Que B w b off m cap L) (g c0 : Nat) (z : Int) (hx : a.eval x = .slice (some ⟨g, 0, none⟩) 1 c0) (hz : w.cell? ⟨g, 0, none⟩ = some (.int .i64 z))
    (hlen : m + 1 ≤ 100000) (hB : B ≤ w.heap.size)
    (h : ∀ b' off' cap' w', Que B w' b' off' (m + 1) cap' (L ++ [z]) → w.grownBy w' (some b) → (b' = b ∨ w.heap.size ≤ b') → wpList Try.prog ops Q rest (a.put o.dst (.slice (some ⟨b', off', none⟩) (m + 1) cap')) w') : wpList Try.prog ops Q (o :: rest) a w := by
  obtain ⟨i0, hi0, hz0, hz1, hz2⟩ := info_parts info_int
  obtain ⟨cur, hc, h1, h2⟩ := hq.row
  have hl := hq.len
  refine wpList_append_arg w hgd s x _ ho 3 i0 (.int .i64 0) 1 8 Try.underlying29 hi0 hz0 hz1 hz2 rfl (by decide) b off m cap (L.map eI) hs (by rw [List.length_map]; omega) ?_ ⟨g, 0, none⟩ 1 c0 [.int .i64 z] hx rfl ?_ (by intro u hu; simp at hu; subst hu; rfl) ?_ (by unfold maxLen; omega) (by omega) ?_ ?_
  · intro j u hj
    rw [List.getElem?_map] at hj
    cases hLj : L[j]? with
    | none => rw [hLj] at hj; cases hj
    | some y =>
      rw [hLj] at hj
      cases hj
      exact hq.cell hLj
  · intro j u hj
    match j, hj with
    | 0, hj => simp at hj; subst hj; rw [Addr.add_lit]; exact hz
  · intro hroom j hj
    have hj0 : j = 0 := by simpa using hj
    subst hj0
    constructor
    · rw [cell_of_row w b _ cur _ (0, 0) hc, Array.getElem?_eq_getElem (by omega)]; rfl
    · exact frozen_of hc _
  · intro hroom
    refine h b off cap _ ⟨hq.ge, by simp; omega, hroom, cur.set! (off + m) (.int .i64 z), ?_, by simpa using h1, fun j y hj => ?_⟩ ?_ (Or.inl rfl)
    · simp [World.setCells, World.setCell, Array.getElem?_modify, hc]
    · have hjl := lt_of_get hj
      rw [List.length_append, List.length_singleton] at hjl
      simp only [Array.set!_eq_setIfInBounds, Array.getElem?_setIfInBounds]
      rcases Nat.lt_or_eq_of_le (Nat.le_of_lt_succ hjl) with h3 | rfl
      · rw [if_neg (by omega)]
        rw [List.getElem?_append_left h3] at hj
        exact h2 j y hj
      · rw [List.getElem?_append_right (Nat.le_refl _), Nat.sub_self] at hj
        simp at hj; subst hj
        rw [if_pos (by omega), if_pos (by omega)]
    · refine ⟨rfl, rfl, rfl, by simp [World.setCells, World.setCell], fun k hk hne => ?_⟩
      have : ¬ b = k := fun e => hne (by rw [e])
      simp [World.setCells, World.setCell, Array.getElem?_modify, this]
  · intro hgrow v' w' hown hg
    obtain ⟨e1, ⟨_, h0⟩ | ⟨g', cap', cur', rfl, h3, h4, h5, h6, h7, h8⟩⟩ := hown
    · omega
    · refine h g' 0 cap' w' ⟨Nat.le_trans hB h3, by simp; omega, h5, cur', h4, by omega, fun j y hj => ?_⟩ ⟨hg.os, hg.tape, hg.output, hg.size, fun k hk _ => hg.block k hk (by simp)⟩ (Or.inr h3)
      have hjl := lt_of_get hj
      have hu : (cur'.toList.take ((m + 1) * 1))[j]? = some (.int .i64 y) := by
        rw [h8]
        rw [show L.map eI ++ [Value.int .i64 z] = (L ++ [z]).map eI by simp, List.getElem?_map, hj]; rfl
      rw [List.getElem?_take] at hu
      split at hu
      · rw [Nat.zero_add]; simpa using hu
      · cases hu
#print axioms Que.tail
#print axioms append_que
end Go.Proofs.Ytlbknnafecdakaa.Graph
