/- Append all arcs to an empty list, and one more, in whatever order. -/
import Derived.Test.YtlbknnafecdakaaGraphJJ
import Derived.Test.YtlbknnafecdakaaGraphS
import Derived.Deep.RegionHeld3
import Derived.Deep.RegionLaw
import Derived.Deep.CutRange
namespace Go.Proofs.Ytlbknnafecdakaa.Graph
open Go.ChangeShapes Go.WideShapes Go.RowKit Go.Lib
set_option linter.unusedVariables false
set_option maxRecDepth 100000

/-- A block of two cells that lies there. -/
def Duo (w : World) (b : Nat) (u v : Value) : Prop := b < w.heap.size ∧ w.cell? ⟨b, 0, none⟩ = some u ∧ w.cell? ⟨b, 1, none⟩ = some v ∧ w.frozen? ⟨b, 0, none⟩ = false ∧ w.frozen? ⟨b, 1, none⟩ = false
theorem Duo.new (w : World) (u v : Value) (T : TypeId) : Duo (w.alloc (.cells #[u, v] T)) w.heap.size u v := ⟨by simp, by simp, by simp, by simp, by simp⟩
theorem Duo.on {w w' : World} {b : Nat} {u v : Value} (h : Duo w b u v) (hb : Below w.heap.size w w') : Duo w' b u v :=
  ⟨Nat.lt_of_lt_of_le h.1 hb.size, (hb.cell (p := ⟨b, 0, none⟩) h.1).trans h.2.1, (hb.cell (p := ⟨b, 1, none⟩) h.1).trans h.2.2.1, (hb.frozen (p := ⟨b, 0, none⟩) h.1).trans h.2.2.2.1, (hb.frozen (p := ⟨b, 1, none⟩) h.1).trans h.2.2.2.2⟩
theorem Duo.al {w : World} {b : Nat} {u v : Value} (h : Duo w b u v) (o : Obj) : Duo (w.alloc o) b u v := h.on (below_alloc _ _)
theorem Duo.dr {w : World} {b : Nat} {u v : Value} (h : Duo w b u v) : Duo w.drew b u v := h
theorem own_empty {w : World} {B g : Nat} (h : w.heap[g]? = some (.cells #[] 42 (0, 0))) (hB : B ≤ g) : OwnA B w (.slice (some ⟨g, 0, none⟩) 0 0) [] :=
  ⟨rfl, Or.inr ⟨g, 0, #[], rfl, hB, h, Nat.le_refl _, by unfold maxLen; omega, rfl, rfl⟩⟩
theorem cellsA_len (L : List Pr) : (cellsA L).length = L.length * 2 := by
  induction L with
  | nil => rfl
  | cons z L ih => simp [cellsA] at ih ⊢; omega

/-- All arcs onto a slice that is empty. -/
theorem step_more (w0 : World) {w : World} {ops : Array Oper} {o : Oper} {a : Act} {K : Act → World → Prop} {Q : Exit → Act → World → Prop} {E : Prop} (hgd : o.guard = none) (s x : Operand)
    (ho : o.op = .call { callee := .builtin .append, args := #[s, x], argTypes := #[22, 22] })
    (g : Nat) (hs : a.eval s = .slice (some ⟨g, 0, none⟩) 0 0) (hg0 : w0.heap.size ≤ g) (hg : w.heap[g]? = some (.cells #[] 42 (0, 0))) (hbm : Below w0.heap.size w0 w)
    (zs : List Pr) (A : Option Addr) (m c : Nat) (hm : m = zs.length) (hx : a.eval x = .slice A m c) (ha : Ars w0 A zs) (hnil : A = none → c = 0) (hlen : m ≤ 1000)
    (h : ∀ v' w', OwnA w0.heap.size w' v' zs → Below w0.heap.size w0 w' → w.heap.size ≤ w'.heap.size → (∀ b u v, Duo w b u v → Duo w' b u v ∧ v'.ownBlock ≠ some b) → K (a.put o.dst v') w') :
    if Region.wanted o (yielded ops a.tmps) = true then Oper.wp Try.prog o a w K Q else E := by
  have hw : Region.wanted o (yielded ops a.tmps) = true := by simp [Region.wanted, hgd]
  rw [if_pos hw]
  obtain ⟨i0, hi0, hz, hzs, hzb⟩ := info_parts info_arc
  have hown : OwnA w0.heap.size w (.slice (some ⟨g, 0, none⟩) 0 0) [] := own_empty hg hg0
  have hB : w0.heap.size ≤ w.heap.size := hbm.size
  have ha1 := ha.on hbm
  have hgc : ∀ b u v, Duo w b u v → b ≠ g := fun b u v hd e => by
    subst e
    have := hd.2.1
    rw [cell_of_row w b 0 _ _ _ hg] at this
    simp at this
  have key : ∃ v' w', (Builtin.append_ #[22, 22] o.type #[.slice (some ⟨g, 0, none⟩) 0 0, .slice A m c]).run Try.prog w = .ok v' w' ∧ OwnA w0.heap.size w' v' zs ∧ w.grownBy w' (some g) ∧ (v'.ownBlock = some g ∨ v'.ownBlock = some w.heap.size) := by
    cases A with
    | none =>
      obtain rfl := hnil rfl
      have hz0 : zs = [] := by
        match zs, ha with
        | [], _ => rfl
        | z :: zs, ha =>
          obtain ⟨b, off, e, _⟩ := ha 0 z rfl
          cases e
      subst hz0
      subst hm
      exact ⟨_, _, run_append_owned_none (P := Try.prog) (w := w) w0.heap.size 22 o.type 42 i0 2 Try.underlying22 hi0 _ 0 [] hown, hown, World.grownBy.refl _ _, Or.inl rfl⟩
    | some ad =>
      subst hm
      have hn1 : ∀ j u, (cellsA zs)[j]? = some u → w.cell? (ad.add j) = some u := by
        intro j u hj
        have hjl : j < (cellsA zs).length := lt_of_get hj
        rw [cellsA_len] at hjl
        obtain ⟨z, hz1⟩ := get_lt (L := zs) (k := j / 2) (by omega)
        obtain ⟨b, off, e, _, h1, h2⟩ := ha1 _ _ hz1
        obtain ⟨g1, g2⟩ := cellsA_at hz1
        cases e
        rw [Addr.add_lit]
        rcases Nat.mod_two_eq_zero_or_one j with hp | hp
        · have e : j = j / 2 * 2 := by omega
          rw [← e] at h1 g1
          rw [g1] at hj
          rw [h1]; exact hj
        · have e : j = j / 2 * 2 + 1 := by omega
          rw [← e] at g2
          rw [g2] at hj
          rw [show off + j = off + j / 2 * 2 + 1 by omega, h2]; exact hj
      have hn2 : ∀ u ∈ cellsA zs, u.oneCell' = true := by
        intro u hu
        obtain ⟨j, hj⟩ := List.mem_iff_getElem?.mp hu
        have hjl : j < (cellsA zs).length := lt_of_get hj
        rw [cellsA_len] at hjl
        obtain ⟨z, hz1⟩ := get_lt (L := zs) (k := j / 2) (by omega)
        obtain ⟨g1, g2⟩ := cellsA_at hz1
        rcases Nat.mod_two_eq_zero_or_one j with hp | hp
        · have e : j = j / 2 * 2 := by omega
          rw [← e] at g1
          rw [g1] at hj
          cases hj; rfl
        · have e : j = j / 2 * 2 + 1 := by omega
          rw [← e] at g2
          rw [g2] at hj
          cases hj; rfl
      obtain ⟨v', w', hr, h1, h2, _, h3⟩ := run_append_own_at (P := Try.prog) w w0.heap.size 22 o.type 42 i0 (.agg #[.int .i64 0, .int .i64 0]) 2 16 Try.underlying22 hi0 hz hzs hzb rfl (by decide) _ 0 [] hown ad zs.length c (cellsA zs) (cellsA_len zs) hn1 hn2 (by unfold maxLen; omega) (by omega) hB
      refine ⟨v', w', hr, ?_, h2, ?_⟩
      · unfold OwnA; rw [Nat.zero_add] at h1; exact h1
      · rcases h3 with h3 | h3
        · exact Or.inl h3
        · exact Or.inr h3
  obtain ⟨v', w', hr, h1, h2, h3⟩ := key
  unfold Oper.wp execOp
  simp only [ho, resolve, invoke, builtin, Sem.run_bind, Sem.run_pure, Result.andThen_ok, List.map_toArray, List.map_cons, List.map_nil, hs, hx, hr]
  refine h v' w' h1 (hbm.trans (hown.below (by exact h2) hB)) h2.size fun b u v hd => ⟨?_, ?_⟩
  · have e : w'.heap[b]? = w.heap[b]? := h2.block b hd.1 fun e => hgc b u v hd (by simpa using e)
    exact ⟨Nat.lt_of_lt_of_le hd.1 h2.size, (World.cell?_of_block (a := ⟨b, 0, none⟩) e).trans hd.2.1, (World.cell?_of_block (a := ⟨b, 1, none⟩) e).trans hd.2.2.1, (World.frozen?_of_block (a := ⟨b, 0, none⟩) e).trans hd.2.2.2.1, (World.frozen?_of_block (a := ⟨b, 1, none⟩) e).trans hd.2.2.2.2⟩
  · intro e
    rcases h3 with h3 | h3
    · rw [h3] at e
      exact hgc b u v hd (by simpa using e.symm)
    · rw [h3] at e
      have := hd.1
      simp at e
      omega
/-- One more arc. -/
theorem step_last (w0 w1 : World) {w : World} {ops : Array Oper} {o : Oper} {a : Act} {K : Act → World → Prop} {Q : Exit → Act → World → Prop} {E : Prop} (hgd : o.guard = none) (s x : Operand)
    (ho : o.op = .call { callee := .builtin .append, args := #[s, x], argTypes := #[22, 22] })
    (v : Value) (zs : List Pr) (hs : a.eval s = v) (hown : OwnA w0.heap.size w1 v zs) (hb0 : Below w0.heap.size w0 w1) (hbm : Below w1.heap.size w1 w) (g c0 : Nat) (z : Pr) (hx : a.eval x = .slice (some ⟨g, 0, none⟩) 1 c0) (hz : Duo w g (.int .i64 z.1) (.int .i64 z.2))
    (m : Nat) (hm : m = zs.length) (hlen : m + 1 ≤ 1000)
    (h : ∀ g' cap w', OwnA w0.heap.size w' (.slice (some ⟨g', 0, none⟩) (m + 1) cap) (zs ++ [z]) → Below w0.heap.size w0 w' → w.heap.size ≤ w'.heap.size → (∀ b u u', Duo w b u u' → v.ownBlock ≠ some b → Duo w' b u u' ∧ g' ≠ b) → K (a.put o.dst (.slice (some ⟨g', 0, none⟩) (m + 1) cap)) w') :
    if Region.wanted o (yielded ops a.tmps) = true then Oper.wp Try.prog o a w K Q else E := by
  obtain ⟨i0, hi0, hzz, hzs, hzb⟩ := info_parts info_arc
  have hown1 := hown.on hbm
  have hB : w0.heap.size ≤ w.heap.size := Nat.le_trans hb0.size hbm.size
  subst hm
  refine step_append_lies w hgd s x _ ho w0.heap.size 42 i0 (.agg #[.int .i64 0, .int .i64 0]) 2 16 Try.underlying22 hi0 hzz hzs hzb rfl (by decide) v zs.length _ hs hown1 ⟨g, 0, none⟩ 1 c0 [.int .i64 z.1, .int .i64 z.2] hx rfl ?_ (by intro u hu; simp at hu; rcases hu with rfl | rfl <;> rfl) (by omega) (by unfold maxLen; omega) (by omega) hB _ rfl ?_
  · intro j u hj
    match j, hj with
    | 0, hj => simp at hj; subst hj; rw [Addr.add_lit]; exact hz.2.1
    | 1, hj => simp at hj; subst hj; rw [Addr.add_lit]; exact hz.2.2.1
  · intro g' cap w' hown' hg hat _
    refine h g' cap w' (by unfold OwnA; rw [List.length_append, cellsA_snoc]; exact hown') ((hb0.trans (hbm.mono hb0.size)).trans (hown1.below hg hB)) hg.size fun b u u' hd hne => ⟨?_, ?_⟩
    · have e : w'.heap[b]? = w.heap[b]? := hg.block b hd.1 fun e => hne e.symm
      exact ⟨Nat.lt_of_lt_of_le hd.1 hg.size, (World.cell?_of_block (a := ⟨b, 0, none⟩) e).trans hd.2.1, (World.cell?_of_block (a := ⟨b, 1, none⟩) e).trans hd.2.2.1, (World.frozen?_of_block (a := ⟨b, 0, none⟩) e).trans hd.2.2.2.1, (World.frozen?_of_block (a := ⟨b, 1, none⟩) e).trans hd.2.2.2.2⟩
    · intro e
      subst e
      rcases hat with h1 | h1
      · exact hne h1
      · have := hd.1; omega
end Go.Proofs.Ytlbknnafecdakaa.Graph
