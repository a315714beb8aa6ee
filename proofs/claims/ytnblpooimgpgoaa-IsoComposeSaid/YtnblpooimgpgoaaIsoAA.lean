/- What comes in: runs, a span, two lists of runs. -/
import Derived.Test.YtnblpooimgpgoaaIsoS
import Derived.Test.YtnblpooimgpgoaaLawKit
import Derived.OpenShut
namespace Go.Proofs.Ytnblpooimgpgoaa.Iso
open Go.ChangeShapes Go.WideShapes Go.RowKit Go.Lib Go.Joins Go.Proofs.Ytnblpooimgpgoaa.Rw
set_option linter.unusedVariables false
set_option maxRecDepth 100000

section
variable {H : Type} {enc : TypeId × Value → H} {w : World} {held : Bool}
theorem runs_of {fuel : Nat} {cs : List Value} {x : DataW H × List MemPlace} (hf : DataW.trod enc Try.prog w 0 (fun _ => true) held fuel 22 cs = some x) :
    ∃ (A : Option Addr) (c : Nat) (L : List Rn), cs = [.slice A L.length c] ∧ Mp w A c L ∧ L.length ≤ 9223372036854775807 := by
  rcases Deep.open_slice Try.underlying22 hf with ⟨hcs, _⟩ | ⟨a, n, cap, m, k, D, Pl, hcs, _, hl, hm, hmm, _, hel⟩
  · exact ⟨none, 0, [], hcs, ⟨Rd.nil _ _ _ _, Nat.le_refl _⟩, by simp⟩
  · have hmc : m = cap := by simpa using hmm
    subst hmc
    have hC : Try.prog.cellsOf 48 = 3 := by kernel_rfl
    have key : ∀ i, i < n → ∃ s : Rn, ∃ b off, a = ⟨b, off, none⟩ ∧ b < w.heap.size ∧ ∀ j u, (cR s)[j]? = some u → w.cell? ⟨b, off + (i * 3 + j), none⟩ = some u := by
      intro i hi
      obtain ⟨cs, hc, ht⟩ := hel i (by omega)
      rw [hC] at hc
      obtain ⟨xs, n', _, _, hlen, hyl, hg⟩ := DataW.trod_struct Try.underlying48 ht
      obtain ⟨_, hcl, hat⟩ := World.cells?_some hc
      obtain ⟨c0, c1, c2, rfl⟩ : ∃ c0 c1 c2, cs = [c0, c1, c2] := by
        match cs, hcl with
        | [c0, c1, c2], _ => exact ⟨c0, c1, c2, rfl⟩
      obtain ⟨y0, y1, y2, rfl⟩ : ∃ y0 y1 y2, xs = [y0, y1, y2] := by
        match xs, hyl with
        | [y0, y1, y2], _ => exact ⟨y0, y1, y2, rfl⟩
      have g0 := hg 0 _ rfl
      have g1 := hg 1 _ rfl
      have g2 := hg 2 _ rfl
      change DataW.trod enc Try.prog w 0 (fun _ => true) held n' 3 (([c0, c1, c2].drop 0).take (Try.prog.cellsOf 3)) = some y0 at g0
      change DataW.trod enc Try.prog w 0 (fun _ => true) held n' 3 (([c0, c1, c2].drop 1).take (Try.prog.cellsOf 3)) = some y1 at g1
      change DataW.trod enc Try.prog w 0 (fun _ => true) held n' 4 (([c0, c1, c2].drop 2).take (Try.prog.cellsOf 4)) = some y2 at g2
      rw [show Try.prog.cellsOf 3 = 1 by kernel_rfl] at g0 g1
      rw [show Try.prog.cellsOf 4 = 1 by kernel_rfl] at g2
      obtain ⟨x0, f0, _, _⟩ := DataW.trod_int Try.underlying3 g0
      obtain ⟨x1, f1, _, _⟩ := DataW.trod_int Try.underlying3 g1
      obtain ⟨x2, f2, _⟩ := DataW.trod_bool Try.underlying4 g2
      have e0 : c0 = .int .i64 x0 := by simpa using f0
      have e1 : c1 = .int .i64 x1 := by simpa using f1
      have e2 : c2 = .bool x2 := by simpa using f2
      clear f0 f1 f2
      subst e0 e1 e2
      obtain ⟨b, off, spot⟩ := a
      have hspot : spot = none := by
        obtain ⟨cs0, hc0, ht0⟩ := hel 0 (by omega)
        rw [hC] at hc0
        obtain ⟨_, hl0, hat0⟩ := World.cells?_some hc0
        match cs0, hl0 with
        | [z0, z1, z2], _ =>
          have h := hat0 0 (by omega)
          have e : ∀ x : Addr, x.add 0 = x := fun x => by unfold Addr.add; rw [if_pos rfl]
          rw [Nat.zero_mul, e, e] at h
          exact World.cell?_spot h
      subst hspot
      have kk : ∀ j, j < 3 → w.cell? ⟨b, off + i * 3 + j, none⟩ = [Value.int .i64 x0, Value.int .i64 x1, Value.bool x2][j]? := fun j hj => by
        have := hat j (by omega)
        rw [Go.WideShapes.add_plain, Go.WideShapes.add_plain] at this
        exact this
      have k0 := kk 0 (by omega)
      refine ⟨(x0, x1, x2), b, off, rfl, World.block_lt_of_cell? w _ k0, fun j u hu => ?_⟩
      have hj : j < 3 := by have := glt hu; exact this
      rw [← Nat.add_assoc, kk j hj]
      exact hu
    have lists : ∀ n, (∀ i, i < n → ∃ s : Rn, ∃ b off, a = ⟨b, off, none⟩ ∧ b < w.heap.size ∧ ∀ j u, (cR s)[j]? = some u → w.cell? ⟨b, off + (i * 3 + j), none⟩ = some u) →
        ∃ L : List Rn, L.length = n ∧ ∀ (i : Nat) (s : Rn), L[i]? = some s → ∃ b off, a = ⟨b, off, none⟩ ∧ b < w.heap.size ∧ ∀ j u, (cR s)[j]? = some u → w.cell? ⟨b, off + (i * 3 + j), none⟩ = some u := by
      intro n
      induction n with
      | zero => intro _; exact ⟨[], rfl, fun i s hs => by simp at hs⟩
      | succ n ih =>
        intro h
        obtain ⟨L, hl, hL⟩ := ih fun i hi => h i (by omega)
        obtain ⟨t, ht⟩ := h n (by omega)
        refine ⟨L ++ [t], by simp [hl], fun i u hu => ?_⟩
        have hlt := glt hu
        rw [List.length_append, List.length_singleton] at hlt
        rcases Nat.lt_or_ge i L.length with h1 | h1
        · rw [List.getElem?_append_left h1] at hu; exact hL i u hu
        · obtain rfl : i = n := by omega
          rw [List.getElem?_append_right h1, hl, Nat.sub_self] at hu
          obtain rfl : t = u := by simpa using hu
          exact ht
    obtain ⟨L, rfl, hL⟩ := lists n key
    refine ⟨some a, m, L, hcs, ⟨fun k s hk => ?_, hl⟩, by unfold maxLen at hm; omega⟩
    obtain ⟨b, off, e, h⟩ := hL k s hk
    exact ⟨b, off, by rw [e], h⟩
/-- A slice of runs that came in. -/
theorem open_runs {r : Reach} {b0 : Nat} {v : Value} {d : DataW H} {p : List MemPlace} (hv : Value.okWide Try.prog w r b0 22 v) (h : DataW.Trod enc Try.prog w 0 (fun _ => true) held 22 v d p) :
    ∃ (A : Option Addr) (c : Nat) (L : List Rn), v = .slice A L.length c ∧ Mp w A c L ∧ L.length ≤ 9223372036854775807 := by
  obtain ⟨A, n, c, rfl⟩ := okWide_slice Try.underlying22 hv
  obtain ⟨fuel, hf⟩ := h
  obtain ⟨A', c', L, hcs, h1, h2⟩ := runs_of hf
  simp [Value.cells] at hcs
  obtain ⟨rfl, rfl, rfl⟩ := hcs
  exact ⟨A, c, L, rfl, h1, h2⟩
/-- Two slices of runs that came in as an array. -/
theorem open_runs2 {r : Reach} {b0 : Nat} {v : Value} {d : DataW H} {p : List MemPlace} (hv : Value.okWide Try.prog w r b0 44 v) (h : DataW.Trod enc Try.prog w 0 (fun _ => true) held 44 v d p) :
    ∃ (A B : Option Addr) (c d' : Nat) (L M : List Rn), v = .agg #[.slice A L.length c, .slice B M.length d'] ∧ Mp w A c L ∧ L.length ≤ 9223372036854775807 ∧ Mp w B d' M ∧ M.length ≤ 9223372036854775807 := by
  obtain ⟨cs, rfl, hsz⟩ := okWide_arr Try.underlying44 hv
  obtain ⟨fuel, hf⟩ := h
  obtain ⟨xs, m, rfl, hx, hl, hn, hi⟩ := DataW.trod_array Try.underlying44 hf
  have g0 := hi 0 (by omega)
  have g1 := hi 1 (by omega)
  have hc1 : Try.prog.cellsOf 22 = 1 := by kernel_rfl
  have hc2 : Try.prog.cellsOf 44 = 2 := by kernel_rfl
  rw [hc2] at hsz
  rw [hc1] at g0 g1
  obtain ⟨c0, c1, rfl⟩ : ∃ c0 c1, cs = #[c0, c1] := by
    match cs, hsz with
    | ⟨[c0, c1]⟩, _ => exact ⟨c0, c1, rfl⟩
  obtain ⟨y0, y1, rfl⟩ : ∃ y0 y1, xs = [y0, y1] := by
    match xs, hn with
    | [y0, y1], _ => exact ⟨y0, y1, rfl⟩
  simp [Value.cells] at g0 g1
  obtain ⟨A, c, L, e1, h1, h2⟩ := runs_of g0
  obtain ⟨B, d', M, e2, h3, h4⟩ := runs_of g1
  simp at e1 e2
  subst e1 e2
  exact ⟨A, B, c, d', L, M, rfl, h1, h2, h3, h4⟩
theorem open_span {r : Reach} {b0 : Nat} {v : Value} {d : DataW H} {p : List MemPlace} (hv : Value.okWide Try.prog w r b0 28 v) (h : DataW.Trod enc Try.prog w 0 (fun _ => true) held 28 v d p) :
    ∃ a b : Int, v = .agg #[.int .i64 a, .int .i64 b] := by
  obtain ⟨v0, v1, y0, y1, n, rfl, _, _, h0, h1⟩ := open_agg2 Try.underlying28 (by kernel_rfl) (by kernel_rfl) hv h
  obtain ⟨x0, f0, _, _⟩ := DataW.trod_int Try.underlying3 h0
  obtain ⟨x1, f1, _, _⟩ := DataW.trod_int Try.underlying3 h1
  simp at f0 f1
  subst f0 f1
  exact ⟨x0, x1, rfl⟩
end
#print axioms open_runs
#print axioms open_runs2
#print axioms open_span
end Go.Proofs.Ytnblpooimgpgoaa.Iso
