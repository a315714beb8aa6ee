/- For the frames of layer 11: what comes in. -/
import Derived.Test.YtkgmfdmgaloaoaaPqueueAB
import Derived.Test.YtkgmfdmgaloaoaaLawKit
import Derived.Deep.Strs
import Derived.Lib.SmallJoins
namespace Go.Proofs.Ytkgmfdmgaloaoaa.Pqueue
open Go.ChangeShapes Go.WideShapes Go.RowKit Go.Lib Go.Joins
set_option linter.unusedVariables false
set_option maxRecDepth 100000

theorem list_any {α : Type} {P : Nat → α → Prop} : ∀ n, (∀ i, i < n → ∃ s, P i s) → ∃ L : List α, L.length = n ∧ ∀ (i : Nat) (s : α), L[i]? = some s → P i s := by
  intro n
  induction n with
  | zero => intro _; exact ⟨[], rfl, fun i s hs => by simp at hs⟩
  | succ n ih =>
    intro h
    obtain ⟨L, hl, hL⟩ := ih fun i hi => h i (by omega)
    obtain ⟨t, ht⟩ := h n (by omega)
    refine ⟨L ++ [t], by simp [hl], fun i u hu => ?_⟩
    have hlt := glt hu
    rw [List.length_append, List.length_singleton] at hlt
    rcases Nat.lt_or_ge i L.length with h1 | h1
    · rw [List.getElem?_append_left h1] at hu; exact hL i u hu
    · obtain rfl : i = n := by omega
      rw [List.getElem?_append_right h1, hl, Nat.sub_self] at hu
      obtain rfl : t = u := by simpa using hu
      exact ht
end Go.Proofs.Ytkgmfdmgaloaoaa.Pqueue
namespace Go.Proofs.Ytkgmfdmgaloaoaa.PqueueI
open Go.ChangeShapes Go.WideShapes Go.RowKit Go.Lib Go.Joins Go.Proofs.Ytkgmfdmgaloaoaa.Pqueue
set_option linter.unusedVariables false
set_option maxRecDepth 100000
section
variable {H : Type} {enc : TypeId × Value → H} {w : World} {held : Bool}
/-- A slice of items that came in. -/
theorem open_items {r : Reach} {b0 : Nat} {v : Value} {d : DataW H} {p : List MemPlace} (hv : Value.okWide Try.prog w r b0 31 v) (h : DataW.Trod enc Try.prog w 0 (fun _ => true) held 31 v d p) :
    ∃ A c L, v = .slice A (L : List It).length c ∧ Rd cV 2 w A L ∧ L.length ≤ c ∧ c ≤ maxLen := by
  obtain ⟨A, n, c, rfl⟩ := okWide_slice Try.underlying31 hv
  obtain ⟨fuel, hf⟩ := h
  rcases Deep.open_slice Try.underlying31 hf with ⟨hcs, _⟩ | ⟨a, len, cap, m, k, D, Pl, hcs, _, hl, hm, hmm, _, hel⟩
  · simp [Value.cells] at hcs
    obtain ⟨rfl, rfl, rfl⟩ := hcs
    exact ⟨none, 0, [], rfl, Rd.nil _ _ _ _, Nat.le_refl _, by unfold maxLen; omega⟩
  · simp [Value.cells] at hcs
    obtain ⟨rfl, rfl, rfl⟩ := hcs
    have hmc : m = c := by simpa using hmm
    subst hmc
    have hC : Try.prog.cellsOf 27 = 2 := by kernel_rfl
    have key : ∀ i, i < n → ∃ s : It, ∃ b off, a = ⟨b, off, none⟩ ∧ b < w.heap.size ∧
        w.cell? ⟨b, off + i * 2, none⟩ = some (.int .i64 s.1) ∧ w.cell? ⟨b, off + i * 2 + 1, none⟩ = some (.int .i64 s.2) := by
      intro i hi
      obtain ⟨cs, hc, ht⟩ := hel i (by omega)
      rw [hC] at hc
      obtain ⟨xs, n', _, _, hlen, hyl, hg⟩ := DataW.trod_struct Try.underlying27 ht
      obtain ⟨_, hcl, hat⟩ := World.cells?_some hc
      obtain ⟨c0, c1, rfl⟩ : ∃ c0 c1, cs = [c0, c1] := by
        match cs, hcl with
        | [c0, c1], _ => exact ⟨c0, c1, rfl⟩
      obtain ⟨y0, y1, rfl⟩ : ∃ y0 y1, xs = [y0, y1] := by
        match xs, hyl with
        | [y0, y1], _ => exact ⟨y0, y1, rfl⟩
      have g0 := hg 0 _ rfl
      have g1 := hg 1 _ rfl
      change DataW.trod enc Try.prog w 0 (fun _ => true) held n' 3 (([c0, c1].drop 0).take (Try.prog.cellsOf 3)) = some y0 at g0
      change DataW.trod enc Try.prog w 0 (fun _ => true) held n' 3 (([c0, c1].drop 1).take (Try.prog.cellsOf 3)) = some y1 at g1
      rw [show Try.prog.cellsOf 3 = 1 by kernel_rfl] at g0 g1
      obtain ⟨x0, f0, _, _⟩ := DataW.trod_int Try.underlying3 g0
      obtain ⟨x1, f1, _, _⟩ := DataW.trod_int Try.underlying3 g1
      have e0 : c0 = .int .i64 x0 := by simpa using f0
      have e1 : c1 = .int .i64 x1 := by simpa using f1
      clear f0 f1
      subst e0 e1
      obtain ⟨b, off, spot⟩ := a
      have hspot : spot = none := by
        obtain ⟨cs0, hc0, ht0⟩ := hel 0 (by omega)
        rw [hC] at hc0
        obtain ⟨_, hl0, hat0⟩ := World.cells?_some hc0
        match cs0, hl0 with
        | [z0, z1], _ =>
          have h := hat0 0 (by omega)
          have e : ∀ x : Addr, x.add 0 = x := fun x => by unfold Addr.add; rw [if_pos rfl]
          rw [Nat.zero_mul, e, e] at h
          exact World.cell?_spot h
      subst hspot
      have k : ∀ j, j < 2 → w.cell? ⟨b, off + i * 2 + j, none⟩ = [Value.int .i64 x0, Value.int .i64 x1][j]? := fun j hj => by
        have := hat j (by omega)
        rw [Go.WideShapes.add_plain, Go.WideShapes.add_plain] at this
        exact this
      have k0 := k 0 (by omega)
      exact ⟨(x0, x1), b, off, rfl, World.block_lt_of_cell? w _ k0, k0, k 1 (by omega)⟩
    obtain ⟨L, rfl, hL⟩ := list_any (P := fun i (s : It) => ∃ b off, a = ⟨b, off, none⟩ ∧ b < w.heap.size ∧
        w.cell? ⟨b, off + i * 2, none⟩ = some (.int .i64 s.1) ∧ w.cell? ⟨b, off + i * 2 + 1, none⟩ = some (.int .i64 s.2)) n key
    refine ⟨some a, m, L, rfl, fun k s hk => ?_, hl, hm⟩
    obtain ⟨b, off, e, h1, h2, h3⟩ := hL k s hk
    refine ⟨b, off, by rw [e], h1, fun j u hu => ?_⟩
    match j, hu with
    | 0, hu => cases hu; exact h2
    | 1, hu => cases hu; exact h3
/-- An item that came in. -/
theorem open_item {r : Reach} {b0 : Nat} {v : Value} {d : DataW H} {p : List MemPlace} (hv : Value.okWide Try.prog w r b0 27 v) (h : DataW.Trod enc Try.prog w 0 (fun _ => true) held 27 v d p) :
    ∃ x : It, v = eV x := by
  obtain ⟨v0, v1, y0, y1, n, rfl, _, _, h0, h1⟩ := open_agg2 Try.underlying27 (by kernel_rfl) (by kernel_rfl) hv h
  obtain ⟨x0, f0, _, _⟩ := DataW.trod_int Try.underlying3 h0
  obtain ⟨x1, f1, _, _⟩ := DataW.trod_int Try.underlying3 h1
  simp at f0 f1
  subst f0 f1
  exact ⟨(x0, x1), rfl⟩
abbrev At := Int × It
abbrev cA (a : At) : List Value := [.int .i64 a.1, .int .i64 a.2.1, .int .i64 a.2.2]
/-- A slice of acts that came in. -/
theorem open_acts {r : Reach} {b0 : Nat} {v : Value} {d : DataW H} {p : List MemPlace} (hv : Value.okWide Try.prog w r b0 22 v) (h : DataW.Trod enc Try.prog w 0 (fun _ => true) held 22 v d p) :
    ∃ A c L, v = .slice A (L : List At).length c ∧ Rd cA 3 w A L ∧ L.length ≤ c ∧ c ≤ maxLen := by
  obtain ⟨A, n, c, rfl⟩ := okWide_slice Try.underlying22 hv
  obtain ⟨fuel, hf⟩ := h
  rcases Deep.open_slice Try.underlying22 hf with ⟨hcs, _⟩ | ⟨a, len, cap, m, k, D, Pl, hcs, _, hl, hm, hmm, _, hel⟩
  · simp [Value.cells] at hcs
    obtain ⟨rfl, rfl, rfl⟩ := hcs
    exact ⟨none, 0, [], rfl, Rd.nil _ _ _ _, Nat.le_refl _, by unfold maxLen; omega⟩
  · simp [Value.cells] at hcs
    obtain ⟨rfl, rfl, rfl⟩ := hcs
    have hmc : m = c := by simpa using hmm
    subst hmc
    have hC : Try.prog.cellsOf 35 = 3 := by kernel_rfl
    have key : ∀ i, i < n → ∃ s : At, ∃ b off, a = ⟨b, off, none⟩ ∧ b < w.heap.size ∧
        w.cell? ⟨b, off + i * 3, none⟩ = some (.int .i64 s.1) ∧ w.cell? ⟨b, off + i * 3 + 1, none⟩ = some (.int .i64 s.2.1) ∧ w.cell? ⟨b, off + i * 3 + 2, none⟩ = some (.int .i64 s.2.2) := by
      intro i hi
      obtain ⟨cs, hc, ht⟩ := hel i (by omega)
      rw [hC] at hc
      obtain ⟨xs, n', _, _, hlen, hyl, hg⟩ := DataW.trod_struct Try.underlying35 ht
      obtain ⟨_, hcl, hat⟩ := World.cells?_some hc
      obtain ⟨c0, c1, c2, rfl⟩ : ∃ c0 c1 c2, cs = [c0, c1, c2] := by
        match cs, hcl with
        | [c0, c1, c2], _ => exact ⟨c0, c1, c2, rfl⟩
      obtain ⟨y0, y1, rfl⟩ : ∃ y0 y1, xs = [y0, y1] := by
        match xs, hyl with
        | [y0, y1], _ => exact ⟨y0, y1, rfl⟩
      have g0 := hg 0 _ rfl
      have g1 := hg 1 _ rfl
      change DataW.trod enc Try.prog w 0 (fun _ => true) held n' 3 (([c0, c1, c2].drop 0).take (Try.prog.cellsOf 3)) = some y0 at g0
      change DataW.trod enc Try.prog w 0 (fun _ => true) held n' 27 (([c0, c1, c2].drop 1).take (Try.prog.cellsOf 27)) = some y1 at g1
      rw [show Try.prog.cellsOf 3 = 1 by kernel_rfl] at g0
      rw [show Try.prog.cellsOf 27 = 2 by kernel_rfl] at g1
      obtain ⟨x0, f0, _, _⟩ := DataW.trod_int Try.underlying3 g0
      have e0 : c0 = .int .i64 x0 := by simpa using f0
      obtain ⟨xs2, n2, _, _, hlen2, hyl2, hg2⟩ := DataW.trod_struct Try.underlying27 g1
      obtain ⟨z0, z1, rfl⟩ : ∃ z0 z1, xs2 = [z0, z1] := by
        match xs2, hyl2 with
        | [z0, z1], _ => exact ⟨z0, z1, rfl⟩
      have q0 := hg2 0 _ rfl
      have q1 := hg2 1 _ rfl
      change DataW.trod enc Try.prog w 0 (fun _ => true) held n2 3 (([c1, c2].drop 0).take (Try.prog.cellsOf 3)) = some z0 at q0
      change DataW.trod enc Try.prog w 0 (fun _ => true) held n2 3 (([c1, c2].drop 1).take (Try.prog.cellsOf 3)) = some z1 at q1
      rw [show Try.prog.cellsOf 3 = 1 by kernel_rfl] at q0 q1
      obtain ⟨x1, f1, _, _⟩ := DataW.trod_int Try.underlying3 q0
      obtain ⟨x2, f2, _, _⟩ := DataW.trod_int Try.underlying3 q1
      have e1 : c1 = .int .i64 x1 := by simpa using f1
      have e2 : c2 = .int .i64 x2 := by simpa using f2
      clear f0 f1 f2
      subst e0 e1 e2
      obtain ⟨b, off, spot⟩ := a
      have hspot : spot = none := by
        obtain ⟨cs0, hc0, ht0⟩ := hel 0 (by omega)
        rw [hC] at hc0
        obtain ⟨_, hl0, hat0⟩ := World.cells?_some hc0
        match cs0, hl0 with
        | [z0, z1, z2], _ =>
          have h := hat0 0 (by omega)
          have e : ∀ x : Addr, x.add 0 = x := fun x => by unfold Addr.add; rw [if_pos rfl]
          rw [Nat.zero_mul, e, e] at h
          exact World.cell?_spot h
      subst hspot
      have k : ∀ j, j < 3 → w.cell? ⟨b, off + i * 3 + j, none⟩ = [Value.int .i64 x0, Value.int .i64 x1, Value.int .i64 x2][j]? := fun j hj => by
        have := hat j (by omega)
        rw [Go.WideShapes.add_plain, Go.WideShapes.add_plain] at this
        exact this
      have k0 := k 0 (by omega)
      exact ⟨(x0, x1, x2), b, off, rfl, World.block_lt_of_cell? w _ k0, k0, k 1 (by omega), k 2 (by omega)⟩
    obtain ⟨L, rfl, hL⟩ := list_any (P := fun i (s : At) => ∃ b off, a = ⟨b, off, none⟩ ∧ b < w.heap.size ∧
        w.cell? ⟨b, off + i * 3, none⟩ = some (.int .i64 s.1) ∧ w.cell? ⟨b, off + i * 3 + 1, none⟩ = some (.int .i64 s.2.1) ∧ w.cell? ⟨b, off + i * 3 + 2, none⟩ = some (.int .i64 s.2.2)) n key
    refine ⟨some a, m, L, rfl, fun k s hk => ?_, hl, hm⟩
    obtain ⟨b, off, e, h1, h2, h3, h4⟩ := hL k s hk
    refine ⟨b, off, by rw [e], h1, fun j u hu => ?_⟩
    match j, hu with
    | 0, hu => cases hu; exact h2
    | 1, hu => cases hu; exact h3
    | 2, hu => cases hu; exact h4
end
#print axioms open_acts
end Go.Proofs.Ytkgmfdmgaloaoaa.PqueueI
namespace Go.Proofs.Ytkgmfdmgaloaoaa.PqueueS
open Go.ChangeShapes Go.WideShapes Go.RowKit Go.Lib Go.Joins Go.Proofs.Ytkgmfdmgaloaoaa.Pqueue
set_option linter.unusedVariables false
set_option maxRecDepth 100000
section
variable {H : Type} {enc : TypeId × Value → H} {w : World} {held : Bool}
/-- A slice of strings that came in. -/
theorem open_strs {r : Reach} {b0 : Nat} {v : Value} {d : DataW H} {p : List MemPlace} (hv : Value.okWide Try.prog w r b0 49 v) (h : DataW.Trod enc Try.prog w 0 (fun _ => true) held 49 v d p) :
    ∃ A c L, v = .slice A (L : List ByteArray).length c ∧ Rd cV 1 w A L ∧ L.length ≤ c ∧ c ≤ maxLen := by
  obtain ⟨A, n, c, rfl⟩ := okWide_slice Try.underlying49 hv
  obtain ⟨fuel, hf⟩ := h
  rcases Deep.open_strs Try.underlying49 Try.underlying9 (by kernel_rfl) hf with ⟨hcs, _⟩ | ⟨a, len, cap, m, Sx, hcs, _, hl, hm, hmm, _, hel⟩
  · simp [Value.cells] at hcs
    obtain ⟨rfl, rfl, rfl⟩ := hcs
    exact ⟨none, 0, [], rfl, Rd.nil _ _ _ _, Nat.le_refl _, by unfold maxLen; omega⟩
  · simp [Value.cells] at hcs
    obtain ⟨rfl, rfl, rfl⟩ := hcs
    have hmc : m = c := by simpa using hmm
    subst hmc
    obtain ⟨L, rfl, hL⟩ := list_any (P := fun i s => w.cell? (a.add i) = some (.string s)) n fun i hi => ⟨Sx i, (hel i (by omega)).1⟩
    refine ⟨some a, m, L, rfl, fun k s hk => ?_, hl, hm⟩
    have hc := hL k s hk
    obtain ⟨b, off, spot⟩ := a
    have h0 := hL 0 _ (List.getElem?_eq_getElem (Nat.lt_of_le_of_lt (Nat.zero_le k) (glt hk)))
    have e : ∀ x : Addr, x.add 0 = x := fun x => by unfold Addr.add; rw [if_pos rfl]
    rw [e] at h0
    have hspot : spot = none := World.cell?_spot h0
    subst hspot
    rw [Addr.add_lit] at hc
    refine ⟨b, off, rfl, World.block_lt_of_cell? w _ hc, fun j u hu => ?_⟩
    match j, hu with
    | 0, hu => cases hu; rw [Nat.mul_one]; exact hc
end
#print axioms open_strs
end Go.Proofs.Ytkgmfdmgaloaoaa.PqueueS
