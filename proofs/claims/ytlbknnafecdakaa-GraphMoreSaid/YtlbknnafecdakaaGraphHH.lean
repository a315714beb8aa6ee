/- For the frames of layer 10: what comes in. -/
import Derived.Test.YtlbknnafecdakaaGraphE
import Derived.Test.YtlbknnafecdakaaLawKit
import Derived.Lib.SmallJoins
namespace Go.Proofs.Ytlbknnafecdakaa.Graph
open Go.ChangeShapes Go.WideShapes Go.RowKit Go.Lib Go.Joins
set_option linter.unusedVariables false
set_option maxRecDepth 100000

section
variable {H : Type} {enc : TypeId × Value → H} {w : World} {held : Bool}
theorem list_any {α : Type} {P : Nat → α → Prop} : ∀ n, (∀ i, i < n → ∃ s, P i s) → ∃ L : List α, L.length = n ∧ ∀ (i : Nat) (s : α), L[i]? = some s → P i s := by
  intro n
  induction n with
  | zero => intro _; exact ⟨[], rfl, fun i s hs => by simp at hs⟩
  | succ n ih =>
    intro h
    obtain ⟨L, hl, hL⟩ := ih fun i hi => h i (by omega)
    obtain ⟨t, ht⟩ := h n (by omega)
    refine ⟨L ++ [t], by simp [hl], fun i u hu => ?_⟩
    have hlt : i < (L ++ [t]).length := by
      rcases Nat.lt_or_ge i (L ++ [t]).length with h1 | h1
      · exact h1
      · rw [List.getElem?_eq_none h1] at hu; cases hu
    rw [List.length_append, List.length_singleton] at hlt
    rcases Nat.lt_or_ge i L.length with h1 | h1
    · rw [List.getElem?_append_left h1] at hu; exact hL i u hu
    · obtain rfl : i = n := by omega
      rw [List.getElem?_append_right h1, hl, Nat.sub_self] at hu
      obtain rfl : t = u := by simpa using hu
      exact ht
/-- A graph that came in. -/
theorem open_graph {r : Reach} {b0 : Nat} {v : Value} {d : DataW H} {p : List MemPlace} (hv : Value.okWide Try.prog w r b0 24 v) (h : DataW.Trod enc Try.prog w 0 (fun _ => true) held 24 v d p) :
    ∃ n A c L, v = .agg #[.int .i64 n, .slice A (L : List Pr).length c] ∧ Ars w A L ∧ L.length ≤ 9223372036854775807 := by
  obtain ⟨v0, v1, y0, y1, n, rfl, _, _, h0, h1⟩ := open_agg2 Try.underlying24 (by kernel_rfl) (by kernel_rfl) hv h
  obtain ⟨x0, f0, _, _⟩ := DataW.trod_int Try.underlying3 h0
  simp at f0
  subst f0
  rcases Deep.open_slice Try.underlying22 h1 with ⟨hcs, _⟩ | ⟨a, len, cap, m, k, D, Pl, hcs, _, hl, hm, hmm, _, hel⟩
  · simp at hcs
    subst hcs
    exact ⟨x0, none, 0, [], rfl, fun k s hk => by simp at hk, by simp⟩
  · simp at hcs
    subst hcs
    have hmc : m = cap := by simpa using hmm
    subst hmc
    have hC : Try.prog.cellsOf 42 = 2 := by kernel_rfl
    have key : ∀ i, i < len → ∃ s : Pr, ∃ b off, a = ⟨b, off, none⟩ ∧ b < w.heap.size ∧
        w.cell? ⟨b, off + i * 2, none⟩ = some (.int .i64 s.1) ∧ w.cell? ⟨b, off + i * 2 + 1, none⟩ = some (.int .i64 s.2) := by
      intro i hi
      obtain ⟨cs, hc, ht⟩ := hel i (by omega)
      rw [hC] at hc
      obtain ⟨xs, n', _, _, hlen, hyl, hg⟩ := DataW.trod_struct Try.underlying42 ht
      obtain ⟨_, hcl, hat⟩ := World.cells?_some hc
      obtain ⟨c0, c1, rfl⟩ : ∃ c0 c1, cs = [c0, c1] := by
        match cs, hcl with
        | [c0, c1], _ => exact ⟨c0, c1, rfl⟩
      obtain ⟨y0, y1, rfl⟩ : ∃ y0 y1, xs = [y0, y1] := by
        match xs, hyl with
        | [y0, y1], _ => exact ⟨y0, y1, rfl⟩
      have g0 := hg 0 _ rfl
      have g1 := hg 1 _ rfl
      change DataW.trod enc Try.prog w 0 (fun _ => true) held n' 3 (([c0, c1].drop 0).take (Try.prog.cellsOf 3)) = some y0 at g0
      change DataW.trod enc Try.prog w 0 (fun _ => true) held n' 3 (([c0, c1].drop 1).take (Try.prog.cellsOf 3)) = some y1 at g1
      rw [show Try.prog.cellsOf 3 = 1 by kernel_rfl] at g0 g1
      obtain ⟨x0, f0, _, _⟩ := DataW.trod_int Try.underlying3 g0
      obtain ⟨x1, f1, _, _⟩ := DataW.trod_int Try.underlying3 g1
      have e0 : c0 = .int .i64 x0 := by simpa using f0
      have e1 : c1 = .int .i64 x1 := by simpa using f1
      clear f0 f1
      subst e0 e1
      obtain ⟨b, off, spot⟩ := a
      have hspot : spot = none := by
        obtain ⟨cs0, hc0, ht0⟩ := hel 0 (by omega)
        rw [hC] at hc0
        obtain ⟨_, hl0, hat0⟩ := World.cells?_some hc0
        match cs0, hl0 with
        | [z0, z1], _ =>
          have h := hat0 0 (by omega)
          have e : ∀ x : Addr, x.add 0 = x := fun x => by unfold Addr.add; rw [if_pos rfl]
          rw [Nat.zero_mul, e, e] at h
          exact World.cell?_spot h
      subst hspot
      have k : ∀ j, j < 2 → w.cell? ⟨b, off + i * 2 + j, none⟩ = [Value.int .i64 x0, Value.int .i64 x1][j]? := fun j hj => by
        have := hat j (by omega)
        rw [Go.WideShapes.add_plain, Go.WideShapes.add_plain] at this
        exact this
      have k0 := k 0 (by omega)
      exact ⟨(x0, x1), b, off, rfl, World.block_lt_of_cell? w _ k0, k0, k 1 (by omega)⟩
    obtain ⟨L, rfl, hL⟩ := list_any (P := fun i (s : Pr) => ∃ b off, a = ⟨b, off, none⟩ ∧ b < w.heap.size ∧
        w.cell? ⟨b, off + i * 2, none⟩ = some (.int .i64 s.1) ∧ w.cell? ⟨b, off + i * 2 + 1, none⟩ = some (.int .i64 s.2)) len key
    refine ⟨x0, some a, m, L, rfl, fun k s hk => ?_, by unfold maxLen at hm; omega⟩
    obtain ⟨b, off, e, h1, h2⟩ := hL k s hk
    exact ⟨b, off, by rw [e], h1, h2⟩
/-- An arc that came in. -/
theorem open_arc {r : Reach} {b0 : Nat} {v : Value} {d : DataW H} {p : List MemPlace} (hv : Value.okWide Try.prog w r b0 42 v) (h : DataW.Trod enc Try.prog w 0 (fun _ => true) held 42 v d p) :
    ∃ a c : Int, v = .agg #[.int .i64 a, .int .i64 c] := by
  obtain ⟨v0, v1, y0, y1, n, rfl, _, _, h0, h1⟩ := open_agg2 Try.underlying42 (by kernel_rfl) (by kernel_rfl) hv h
  obtain ⟨x0, f0, _, _⟩ := DataW.trod_int Try.underlying3 h0
  obtain ⟨x1, f1, _, _⟩ := DataW.trod_int Try.underlying3 h1
  simp at f0 f1
  subst f0 f1
  exact ⟨x0, x1, rfl⟩
theorem u8_of {n : Int} (h : (Lit.int .u8 n).wf = true) : 0 ≤ n ∧ n < 256 := by
  have := bounds_u8 h
  omega
end
#print axioms open_graph
end Go.Proofs.Ytlbknnafecdakaa.Graph
