/- What comes in: marks, a span. -/
import Derived.Test.YtkbnhmgladkojaaAlignU
import Derived.Test.YtkbnhmgladkojaaAlignT
import Derived.Test.YtkbnhmgladkojaaAlignL
import Derived.Test.YtkbnhmgladkojaaLawKit
import Derived.OpenShut
namespace Go.Proofs.Ytkbnhmgladkojaa.Align
open Go.ChangeShapes Go.WideShapes Go.RowKit Go.Lib Go.Joins Go.Proofs.Ytkbnhmgladkojaa.Rw
set_option linter.unusedVariables false
set_option maxRecDepth 100000

section
variable {H : Type} {enc : TypeId × Value → H} {w : World} {held : Bool}
theorem marks_of {fuel : Nat} {cs : List Value} {x : DataW H × List MemPlace} (hf : DataW.trod enc Try.prog w 0 (fun _ => true) held fuel 22 cs = some x) :
    ∃ (A : Option Addr) (c : Nat) (L : List Mk), cs = [.slice A L.length c] ∧ Mks w A L ∧ L.length ≤ c ∧ L.length ≤ 9223372036854775807 := by
  rcases Deep.open_slice Try.underlying22 hf with ⟨hcs, _⟩ | ⟨a, n, cap, m, k, D, Pl, hcs, _, hl, hm, hmm, _, hel⟩
  · exact ⟨none, 0, [], hcs, Rd.nil _ _ _ _, Nat.le_refl _, by simp⟩
  · have hmc : m = cap := by simpa using hmm
    subst hmc
    have hC : Try.prog.cellsOf 41 = 2 := by kernel_rfl
    have key : ∀ i, i < n → ∃ s : Mk, ∃ b off, a = ⟨b, off, none⟩ ∧ b < w.heap.size ∧ ∀ j u, (cM s)[j]? = some u → w.cell? ⟨b, off + (i * 2 + j), none⟩ = some u := by
      intro i hi
      obtain ⟨cs, hc, ht⟩ := hel i (by omega)
      rw [hC] at hc
      obtain ⟨xs, n', _, _, hlen, hyl, hg⟩ := DataW.trod_struct Try.underlying41 ht
      obtain ⟨_, hcl, hat⟩ := World.cells?_some hc
      obtain ⟨c0, c1, rfl⟩ : ∃ c0 c1, cs = [c0, c1] := by
        match cs, hcl with
        | [c0, c1], _ => exact ⟨c0, c1, rfl⟩
      obtain ⟨y0, y1, rfl⟩ : ∃ y0 y1, xs = [y0, y1] := by
        match xs, hyl with
        | [y0, y1], _ => exact ⟨y0, y1, rfl⟩
      have g0 := hg 0 _ rfl
      have g1 := hg 1 _ rfl
      change DataW.trod enc Try.prog w 0 (fun _ => true) held n' 3 (([c0, c1].drop 0).take (Try.prog.cellsOf 3)) = some y0 at g0
      change DataW.trod enc Try.prog w 0 (fun _ => true) held n' 3 (([c0, c1].drop 1).take (Try.prog.cellsOf 3)) = some y1 at g1
      rw [show Try.prog.cellsOf 3 = 1 by kernel_rfl] at g0 g1
      obtain ⟨x0, f0, _, _⟩ := DataW.trod_int Try.underlying3 g0
      obtain ⟨x1, f1, _, _⟩ := DataW.trod_int Try.underlying3 g1
      have e0 : c0 = .int .i64 x0 := by simpa using f0
      have e1 : c1 = .int .i64 x1 := by simpa using f1
      clear f0 f1
      subst e0 e1
      obtain ⟨b, off, spot⟩ := a
      have hspot : spot = none := by
        obtain ⟨cs0, hc0, ht0⟩ := hel 0 (by omega)
        rw [hC] at hc0
        obtain ⟨_, hl0, hat0⟩ := World.cells?_some hc0
        match cs0, hl0 with
        | [z0, z1], _ =>
          have h := hat0 0 (by omega)
          have e : ∀ x : Addr, x.add 0 = x := fun x => by unfold Addr.add; rw [if_pos rfl]
          rw [Nat.zero_mul, e, e] at h
          exact World.cell?_spot h
      subst hspot
      have kk : ∀ j, j < 2 → w.cell? ⟨b, off + i * 2 + j, none⟩ = [Value.int .i64 x0, Value.int .i64 x1][j]? := fun j hj => by
        have := hat j (by omega)
        rw [Go.WideShapes.add_plain, Go.WideShapes.add_plain] at this
        exact this
      have k0 := kk 0 (by omega)
      refine ⟨(x0, x1), b, off, rfl, World.block_lt_of_cell? w _ k0, fun j u hu => ?_⟩
      have hj : j < 2 := by have := glt hu; exact this
      rw [← Nat.add_assoc, kk j hj]
      exact hu
    have lists : ∀ n, (∀ i, i < n → ∃ s : Mk, ∃ b off, a = ⟨b, off, none⟩ ∧ b < w.heap.size ∧ ∀ j u, (cM s)[j]? = some u → w.cell? ⟨b, off + (i * 2 + j), none⟩ = some u) →
        ∃ L : List Mk, L.length = n ∧ ∀ (i : Nat) (s : Mk), L[i]? = some s → ∃ b off, a = ⟨b, off, none⟩ ∧ b < w.heap.size ∧ ∀ j u, (cM s)[j]? = some u → w.cell? ⟨b, off + (i * 2 + j), none⟩ = some u := by
      intro n
      induction n with
      | zero => intro _; exact ⟨[], rfl, fun i s hs => by simp at hs⟩
      | succ n ih =>
        intro h
        obtain ⟨L, hl, hL⟩ := ih fun i hi => h i (by omega)
        obtain ⟨t, ht⟩ := h n (by omega)
        refine ⟨L ++ [t], by simp [hl], fun i u hu => ?_⟩
        have hlt := glt hu
        rw [List.length_append, List.length_singleton] at hlt
        rcases Nat.lt_or_ge i L.length with h1 | h1
        · rw [List.getElem?_append_left h1] at hu; exact hL i u hu
        · obtain rfl : i = n := by omega
          rw [List.getElem?_append_right h1, hl, Nat.sub_self] at hu
          obtain rfl : t = u := by simpa using hu
          exact ht
    obtain ⟨L, rfl, hL⟩ := lists n key
    refine ⟨some a, m, L, hcs, fun k s hk => ?_, hl, by unfold maxLen at hm; omega⟩
    obtain ⟨b, off, e, h⟩ := hL k s hk
    exact ⟨b, off, by rw [e], h⟩
/-- A slice of marks that came in. -/
theorem open_marks {r : Reach} {b0 : Nat} {v : Value} {d : DataW H} {p : List MemPlace} (hv : Value.okWide Try.prog w r b0 22 v) (h : DataW.Trod enc Try.prog w 0 (fun _ => true) held 22 v d p) :
    ∃ (A : Option Addr) (c : Nat) (L : List Mk), v = .slice A L.length c ∧ Mks w A L ∧ L.length ≤ c ∧ L.length ≤ 9223372036854775807 := by
  obtain ⟨A, n, c, rfl⟩ := okWide_slice Try.underlying22 hv
  obtain ⟨fuel, hf⟩ := h
  obtain ⟨A', c', L, hcs, h1, h2, h3⟩ := marks_of hf
  simp [Value.cells] at hcs
  obtain ⟨rfl, rfl, rfl⟩ := hcs
  exact ⟨A, c, L, rfl, h1, h2, h3⟩
theorem i64_lim {x : Int} (hx : (Lit.int .i64 x).wf = true) : -9223372036854775808 ≤ x ∧ x ≤ 9223372036854775807 := by simpa [Lit.wf, IntKind.min, IntKind.max, IntKind.signed, IntKind.bits] using hx
theorem open_span {r : Reach} {b0 : Nat} {v : Value} {d : DataW H} {p : List MemPlace} (hv : Value.okWide Try.prog w r b0 31 v) (h : DataW.Trod enc Try.prog w 0 (fun _ => true) held 31 v d p) :
    ∃ a b : Int, v = .agg #[.int .i64 a, .int .i64 b] ∧ (-9223372036854775808 ≤ a ∧ a ≤ 9223372036854775807) ∧ (-9223372036854775808 ≤ b ∧ b ≤ 9223372036854775807) := by
  obtain ⟨v0, v1, y0, y1, n, rfl, _, _, h0, h1⟩ := open_agg2 Try.underlying31 (by kernel_rfl) (by kernel_rfl) hv h
  obtain ⟨x0, f0, _, wf0⟩ := DataW.trod_int Try.underlying3 h0
  obtain ⟨x1, f1, _, wf1⟩ := DataW.trod_int Try.underlying3 h1
  simp at f0 f1
  subst f0 f1
  exact ⟨x0, x1, rfl, i64_lim wf0, i64_lim wf1⟩
end
#print axioms open_marks
#print axioms open_span
end Go.Proofs.Ytkbnhmgladkojaa.Align
