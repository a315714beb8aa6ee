/- What comes in: rectangles, a rectangle, a point. -/
import Derived.Test.YtccbnobpighckaaRectE
import Derived.Test.YtccbnobpighckaaLawKit
import Derived.OpenShut
namespace Go.Proofs.Ytccbnobpighckaa.Rect
open Go.ChangeShapes Go.WideShapes Go.RowKit Go.Lib Go.Joins Go.Proofs.Ytccbnobpighckaa.Rw
set_option linter.unusedVariables false
set_option maxRecDepth 100000

section
variable {H : Type} {enc : TypeId × Value → H} {w : World} {held : Bool}
theorem rects_of {fuel : Nat} {cs : List Value} {x : DataW H × List MemPlace} (hf : DataW.trod enc Try.prog w 0 (fun _ => true) held fuel 32 cs = some x) :
    ∃ (A : Option Addr) (c : Nat) (L : List Rc), cs = [.slice A L.length c] ∧ Rcs w A L ∧ L.length ≤ c ∧ L.length ≤ 9223372036854775807 := by
  rcases Deep.open_slice Try.underlying32 hf with ⟨hcs, _⟩ | ⟨a, n, cap, m, k, D, Pl, hcs, _, hl, hm, hmm, _, hel⟩
  · exact ⟨none, 0, [], hcs, Rd.nil _ _ _ _, Nat.le_refl _, by simp⟩
  · have hmc : m = cap := by simpa using hmm
    subst hmc
    have hC : Try.prog.cellsOf 23 = 4 := by kernel_rfl
    have key : ∀ i, i < n → ∃ s : Rc, ∃ b off, a = ⟨b, off, none⟩ ∧ b < w.heap.size ∧ ∀ j u, (cQ s)[j]? = some u → w.cell? ⟨b, off + (i * 4 + j), none⟩ = some u := by
      intro i hi
      obtain ⟨cs, hc, ht⟩ := hel i (by omega)
      rw [hC] at hc
      obtain ⟨xs, n', _, _, hlen, hyl, hg⟩ := DataW.trod_struct Try.underlying23 ht
      obtain ⟨_, hcl, hat⟩ := World.cells?_some hc
      obtain ⟨c0, c1, c2, c3, rfl⟩ : ∃ c0 c1 c2 c3, cs = [c0, c1, c2, c3] := by
        match cs, hcl with
        | [c0, c1, c2, c3], _ => exact ⟨c0, c1, c2, c3, rfl⟩
      obtain ⟨y0, y1, y2, y3, rfl⟩ : ∃ y0 y1 y2 y3, xs = [y0, y1, y2, y3] := by
        match xs, hyl with
        | [y0, y1, y2, y3], _ => exact ⟨y0, y1, y2, y3, rfl⟩
      have g0 := hg 0 _ rfl
      have g1 := hg 1 _ rfl
      have g2 := hg 2 _ rfl
      have g3 := hg 3 _ rfl
      change DataW.trod enc Try.prog w 0 (fun _ => true) held n' 3 (([c0, c1, c2, c3].drop 0).take (Try.prog.cellsOf 3)) = some y0 at g0
      change DataW.trod enc Try.prog w 0 (fun _ => true) held n' 3 (([c0, c1, c2, c3].drop 1).take (Try.prog.cellsOf 3)) = some y1 at g1
      change DataW.trod enc Try.prog w 0 (fun _ => true) held n' 3 (([c0, c1, c2, c3].drop 2).take (Try.prog.cellsOf 3)) = some y2 at g2
      change DataW.trod enc Try.prog w 0 (fun _ => true) held n' 3 (([c0, c1, c2, c3].drop 3).take (Try.prog.cellsOf 3)) = some y3 at g3
      rw [show Try.prog.cellsOf 3 = 1 by kernel_rfl] at g0 g1 g2 g3
      obtain ⟨x0, f0, _, _⟩ := DataW.trod_int Try.underlying3 g0
      obtain ⟨x1, f1, _, _⟩ := DataW.trod_int Try.underlying3 g1
      obtain ⟨x2, f2, _, _⟩ := DataW.trod_int Try.underlying3 g2
      obtain ⟨x3, f3, _, _⟩ := DataW.trod_int Try.underlying3 g3
      have e0 : c0 = .int .i64 x0 := by simpa using f0
      have e1 : c1 = .int .i64 x1 := by simpa using f1
      have e2 : c2 = .int .i64 x2 := by simpa using f2
      have e3 : c3 = .int .i64 x3 := by simpa using f3
      clear f0 f1 f2 f3
      subst e0 e1 e2 e3
      obtain ⟨b, off, spot⟩ := a
      have hspot : spot = none := by
        obtain ⟨cs0, hc0, ht0⟩ := hel 0 (by omega)
        rw [hC] at hc0
        obtain ⟨_, hl0, hat0⟩ := World.cells?_some hc0
        match cs0, hl0 with
        | [z0, z1, z2, z3], _ =>
          have h := hat0 0 (by omega)
          have e : ∀ x : Addr, x.add 0 = x := fun x => by unfold Addr.add; rw [if_pos rfl]
          rw [Nat.zero_mul, e, e] at h
          exact World.cell?_spot h
      subst hspot
      have kk : ∀ j, j < 4 → w.cell? ⟨b, off + i * 4 + j, none⟩ = [Value.int .i64 x0, Value.int .i64 x1, Value.int .i64 x2, Value.int .i64 x3][j]? := fun j hj => by
        have := hat j (by omega)
        rw [Go.WideShapes.add_plain, Go.WideShapes.add_plain] at this
        exact this
      have k0 := kk 0 (by omega)
      refine ⟨(x0, x1, x2, x3), b, off, rfl, World.block_lt_of_cell? w _ k0, fun j u hu => ?_⟩
      have hj : j < 4 := by have := glt hu; exact this
      rw [← Nat.add_assoc, kk j hj]
      exact hu
    have lists : ∀ n, (∀ i, i < n → ∃ s : Rc, ∃ b off, a = ⟨b, off, none⟩ ∧ b < w.heap.size ∧ ∀ j u, (cQ s)[j]? = some u → w.cell? ⟨b, off + (i * 4 + j), none⟩ = some u) →
        ∃ L : List Rc, L.length = n ∧ ∀ (i : Nat) (s : Rc), L[i]? = some s → ∃ b off, a = ⟨b, off, none⟩ ∧ b < w.heap.size ∧ ∀ j u, (cQ s)[j]? = some u → w.cell? ⟨b, off + (i * 4 + j), none⟩ = some u := by
      intro n
      induction n with
      | zero => intro _; exact ⟨[], rfl, fun i s hs => by simp at hs⟩
      | succ n ih =>
        intro h
        obtain ⟨L, hl, hL⟩ := ih fun i hi => h i (by omega)
        obtain ⟨t, ht⟩ := h n (by omega)
        refine ⟨L ++ [t], by simp [hl], fun i u hu => ?_⟩
        have hlt := glt hu
        rw [List.length_append, List.length_singleton] at hlt
        rcases Nat.lt_or_ge i L.length with h1 | h1
        · rw [List.getElem?_append_left h1] at hu; exact hL i u hu
        · obtain rfl : i = n := by omega
          rw [List.getElem?_append_right h1, hl, Nat.sub_self] at hu
          obtain rfl : t = u := by simpa using hu
          exact ht
    obtain ⟨L, rfl, hL⟩ := lists n key
    refine ⟨some a, m, L, hcs, fun k s hk => ?_, hl, by unfold maxLen at hm; omega⟩
    obtain ⟨b, off, e, h⟩ := hL k s hk
    exact ⟨b, off, by rw [e], h⟩
/-- A slice of rects that came in. -/
theorem open_rects {r : Reach} {b0 : Nat} {v : Value} {d : DataW H} {p : List MemPlace} (hv : Value.okWide Try.prog w r b0 32 v) (h : DataW.Trod enc Try.prog w 0 (fun _ => true) held 32 v d p) :
    ∃ (A : Option Addr) (c : Nat) (L : List Rc), v = .slice A L.length c ∧ Rcs w A L ∧ L.length ≤ c ∧ L.length ≤ 9223372036854775807 := by
  obtain ⟨A, n, c, rfl⟩ := okWide_slice Try.underlying32 hv
  obtain ⟨fuel, hf⟩ := h
  obtain ⟨A', c', L, hcs, h1, h2, h3⟩ := rects_of hf
  simp [Value.cells] at hcs
  obtain ⟨rfl, rfl, rfl⟩ := hcs
  exact ⟨A, c, L, rfl, h1, h2, h3⟩
theorem i64_lim {x : Int} (hx : (Lit.int .i64 x).wf = true) : -9223372036854775808 ≤ x ∧ x ≤ 9223372036854775807 := by simpa [Lit.wf, IntKind.min, IntKind.max, IntKind.signed, IntKind.bits] using hx
/-- A rectangle by value. -/
theorem open_rect {r : Reach} {b0 : Nat} {v : Value} {d : DataW H} {p : List MemPlace} (hv : Value.okWide Try.prog w r b0 23 v) (h : DataW.Trod enc Try.prog w 0 (fun _ => true) held 23 v d p) :
    ∃ r : Rc, v = agQ r := by
  obtain ⟨v0, v1, v2, v3, y0, y1, y2, y3, n, rfl, _, _, h0, h1, h2, h3⟩ := open_agg4 Try.underlying23 (by kernel_rfl) (by kernel_rfl) hv h
  obtain ⟨x0, f0, _, wf0⟩ := DataW.trod_int Try.underlying3 h0
  obtain ⟨x1, f1, _, wf1⟩ := DataW.trod_int Try.underlying3 h1
  obtain ⟨x2, f2, _, wf2⟩ := DataW.trod_int Try.underlying3 h2
  obtain ⟨x3, f3, _, wf3⟩ := DataW.trod_int Try.underlying3 h3
  simp at f0 f1 f2 f3
  subst f0 f1 f2 f3
  exact ⟨(x0, x1, x2, x3), rfl⟩
/-- A point by value. -/
theorem open_spot {r : Reach} {b0 : Nat} {v : Value} {d : DataW H} {p : List MemPlace} (hv : Value.okWide Try.prog w r b0 45 v) (h : DataW.Trod enc Try.prog w 0 (fun _ => true) held 45 v d p) :
    ∃ a b : Int, v = .agg #[.int .i64 a, .int .i64 b] := by
  obtain ⟨v0, v1, y0, y1, n, rfl, _, _, h0, h1⟩ := open_agg2 Try.underlying45 (by kernel_rfl) (by kernel_rfl) hv h
  obtain ⟨x0, f0, _, wf0⟩ := DataW.trod_int Try.underlying3 h0
  obtain ⟨x1, f1, _, wf1⟩ := DataW.trod_int Try.underlying3 h1
  simp at f0 f1
  subst f0 f1
  exact ⟨x0, x1, rfl⟩
end
#print axioms open_rects
#print axioms open_rect
#print axioms open_spot
end Go.Proofs.Ytccbnobpighckaa.Rect
