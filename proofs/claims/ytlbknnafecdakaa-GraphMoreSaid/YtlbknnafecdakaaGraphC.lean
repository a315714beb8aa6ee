/- Cycles: the least node, the fewest arcs, the least list. Pure. -/
import Derived.Test.YtlbknnafecdakaaGraphB
namespace Go.Proofs.Ytlbknnafecdakaa.Graph
set_option linter.unusedVariables false

/-- What Cycle returns. -/
structure IsC (L : Arcs) (n : Nat) (C : List Nat) : Prop where
  hd : C[0]? = some n
  lo : ∀ m, m < n → ¬ Cy L m
  cw : W L C.length n n
  sh : ∀ j, 0 < j → j < C.length → ¬ W L j n n
  st : ∀ (j x y : Nat), C[j]? = some x → C[j + 1]? = some y → (x, y) ∈ L ∧ W L (C.length - (j + 1)) y n ∧ ∀ z, z < y → (x, z) ∈ L → ¬ W L (C.length - (j + 1)) z n
theorem IsC.pos {L : Arcs} {n : Nat} {C : List Nat} (h : IsC L n C) : 0 < C.length := lt_of_get h.hd
theorem IsC.cy {L : Arcs} {n : Nat} {C : List Nat} (h : IsC L n C) : Cy L n := ⟨C.length, h.pos, h.cw⟩
theorem IsC.node {L : Arcs} {n n' : Nat} {C C' : List Nat} (h : IsC L n C) (h' : IsC L n' C') : n = n' := by
  rcases Nat.lt_trichotomy n n' with h1 | h1 | h1
  · exact absurd h.cy (h'.lo n h1)
  · exact h1
  · exact absurd h'.cy (h.lo n' h1)
theorem IsC.len {L : Arcs} {n : Nat} {C C' : List Nat} (h : IsC L n C) (h' : IsC L n C') : C.length = C'.length := by
  rcases Nat.lt_trichotomy C.length C'.length with h1 | h1 | h1
  · exact absurd h.cw (h'.sh _ h.pos h1)
  · exact h1
  · exact absurd h'.cw (h.sh _ h'.pos h1)
/-- There is one such list only. -/
theorem IsC.one {L : Arcs} {n n' : Nat} {C C' : List Nat} (h : IsC L n C) (h' : IsC L n' C') : C = C' := by
  obtain rfl := h.node h'
  have hl := h.len h'
  have key : ∀ j, j < C.length → C[j]? = C'[j]? := by
    intro j
    induction j with
    | zero => intro _; rw [h.hd, h'.hd]
    | succ j ih =>
      intro hj
      have e := ih (by omega)
      have hx := List.getElem?_eq_getElem (l := C) (i := j) (by omega)
      have hy := List.getElem?_eq_getElem (l := C) (i := j + 1) hj
      have hy' := List.getElem?_eq_getElem (l := C') (i := j + 1) (by omega)
      have hx' := e.symm.trans hx
      obtain ⟨a1, a2, a3⟩ := h.st j _ _ hx hy
      obtain ⟨b1, b2, b3⟩ := h'.st j _ _ hx' hy'
      rw [hy, hy']
      revert a1 a2 a3 b1 b2 b3
      generalize C[j + 1] = u
      generalize C'[j + 1] = v
      intro a1 a2 a3 b1 b2 b3
      rw [← hl] at b2 b3
      rcases Nat.lt_trichotomy u v with h1 | h1 | h1
      · exact absurd a2 (b3 _ h1 a1)
      · rw [h1]
      · exact absurd b2 (a3 _ h1 b1)
  apply List.ext_getElem?
  intro j
  rcases Nat.lt_or_ge j C.length with h1 | h1
  · exact key j h1
  · rw [List.getElem?_eq_none h1, List.getElem?_eq_none (by omega)]
/-- From the first node to each, and back. -/
theorem IsC.to {L : Arcs} {n : Nat} {C : List Nat} (h : IsC L n C) : ∀ (j : Nat) {x : Nat}, C[j]? = some x → W L j n x := by
  intro j
  induction j with
  | zero => intro x hx; rw [h.hd] at hx; cases hx; rfl
  | succ j ih =>
    intro y hy
    have h1 := lt_of_get hy
    have hx := List.getElem?_eq_getElem (l := C) (i := j) (by omega)
    exact (ih hx).snoc (h.st j _ _ hx hy).1
theorem IsC.back {L : Arcs} {n : Nat} {C : List Nat} (h : IsC L n C) (j : Nat) {x : Nat} (hx : C[j]? = some x) : W L (C.length - j) x n := by
  cases j with
  | zero => rw [h.hd] at hx; cases hx; exact h.cw
  | succ j =>
    have h1 := lt_of_get hx
    have h0 := List.getElem?_eq_getElem (l := C) (i := j) (by omega)
    exact (h.st j _ _ h0 hx).2.1
theorem IsC.arc {L : Arcs} {n : Nat} {C : List Nat} (h : IsC L n C) {j x y : Nat} (hx : C[j]? = some x) (hy : C[j + 1]? = some y) : (x, y) ∈ L := (h.st j x y hx hy).1
theorem IsC.close {L : Arcs} {n : Nat} {C : List Nat} (h : IsC L n C) {j x : Nat} (hx : C[j]? = some x) (hj : j + 1 = C.length) : (x, n) ∈ L := by
  have h1 := h.back j hx
  rw [show C.length - j = 1 by omega] at h1
  obtain ⟨b, hb, h2⟩ := h1
  cases h2
  exact hb
theorem IsC.apart {L : Arcs} {n : Nat} {C : List Nat} (h : IsC L n C) {i j x : Nat} (hi : C[i]? = some x) (hj : C[j]? = some x) : i = j := by
  have key : ∀ {i j : Nat}, C[i]? = some x → C[j]? = some x → ¬ i < j := by
    intro i j hi hj hlt
    have h1 := lt_of_get hj
    exact h.sh (i + (C.length - j)) (by omega) (by omega) ((h.to i hi).app (h.back j hj))
  rcases Nat.lt_trichotomy i j with h1 | h1 | h1
  · exact absurd h1 (key hi hj)
  · exact h1
  · exact absurd h1 (key hj hi)
theorem IsC.ge {L : Arcs} {n : Nat} {C : List Nat} (h : IsC L n C) {j x : Nat} (hx : C[j]? = some x) : n ≤ x := by
  rcases Nat.lt_or_ge x n with h1 | h1
  · have h2 := lt_of_get hx
    exact absurd ⟨C.length - j + j, by omega, (h.back j hx).app (h.to j hx)⟩ (h.lo x h1)
  · exact h1
theorem IsC.lt {N : Nat} {L : Arcs} (hok : Ok N L) {n : Nat} {C : List Nat} (h : IsC L n C) {j x : Nat} (hx : C[j]? = some x) : x < N := by
  have h1 := lt_of_get hx
  have h2 := h.back j hx
  obtain ⟨d, hd⟩ : ∃ d, C.length - j = d + 1 := ⟨C.length - j - 1, by omega⟩
  rw [hd] at h2
  exact W.fst hok h2
theorem IsC.nodup {L : Arcs} {n : Nat} {C : List Nat} (h : IsC L n C) : C.Nodup := by
  rw [List.nodup_iff_pairwise_ne, List.pairwise_iff_getElem]
  intro i j hi hj hij e
  have := h.apart (List.getElem?_eq_getElem hi) ((List.getElem?_eq_getElem hj).trans (by rw [e]))
  omega
theorem IsC.le {N : Nat} {L : Arcs} (hok : Ok N L) {n : Nat} {C : List Nat} (h : IsC L n C) : C.length ≤ N :=
  nodup_le N C h.nodup fun x hx => by
    obtain ⟨j, hj⟩ := List.mem_iff_getElem?.mp hx
    exact h.lt hok hj

/-! ### Distances -/
/-- The least number of arcs of a walk from b to n. -/
def Dst (L : Arcs) (b n v : Nat) : Prop := W L v b n ∧ ∀ j, j < v → ¬ W L j b n
theorem Dst.one {L : Arcs} {b n v u : Nat} (h : Dst L b n v) (h' : Dst L b n u) : v = u := by
  rcases Nat.lt_trichotomy v u with h1 | h1 | h1
  · exact absurd h.1 (h'.2 _ h1)
  · exact h1
  · exact absurd h'.1 (h.2 _ h1)
theorem Dst.ex {N : Nat} {L : Arcs} (hok : Ok N L) {b n : Nat} (hb : b < N) (h : Rp L b n) : ∃ v, v < N ∧ Dst L b n v := by
  obtain ⟨k, h⟩ := h
  obtain ⟨d, h1, _, h2, h3⟩ := h.short hok hb
  exact ⟨d, h1, h2, h3⟩
/-- On a least closed walk what can still be closed as early is as far as that. -/
theorem dst_step {L : Arcs} {n m j x z left : Nat} (hm : ∀ i, 0 < i → i < m → ¬ W L i n n) (hx : W L j n x) (hz : (x, z) ∈ L) (he : j + 1 + left = m) : Dst L z n left ↔ W L left z n := by
  constructor
  · exact fun h => h.1
  · intro h
    exact ⟨h, fun i hi hw => hm (j + 1 + i) (by omega) (by omega) ((hx.snoc hz).app hw)⟩
/-- The beginning of such a list. -/
structure Beg (L : Arcs) (n m : Nat) (C : List Nat) : Prop where
  hd : C[0]? = some n
  le : C.length ≤ m
  st : ∀ (j x y : Nat), C[j]? = some x → C[j + 1]? = some y → (x, y) ∈ L ∧ W L (m - (j + 1)) y n ∧ ∀ z, z < y → (x, z) ∈ L → ¬ W L (m - (j + 1)) z n
theorem Beg.one {L : Arcs} {n m : Nat} (hm : 0 < m) : Beg L n m [n] := ⟨rfl, by simp; omega, fun j x y hx hy => by have := lt_of_get hy; simp at this⟩
theorem Beg.to {L : Arcs} {n m : Nat} {C : List Nat} (h : Beg L n m C) : ∀ (j : Nat) {x : Nat}, C[j]? = some x → W L j n x := by
  intro j
  induction j with
  | zero => intro x hx; rw [h.hd] at hx; cases hx; rfl
  | succ j ih =>
    intro y hy
    have h1 := lt_of_get hy
    have hx := List.getElem?_eq_getElem (l := C) (i := j) (by omega)
    exact (ih hx).snoc (h.st j _ _ hx hy).1
theorem Beg.back {L : Arcs} {n m : Nat} {C : List Nat} (h : Beg L n m C) (hcw : W L m n n) (j : Nat) {x : Nat} (hx : C[j]? = some x) : W L (m - j) x n := by
  cases j with
  | zero => rw [h.hd] at hx; cases hx; exact hcw
  | succ j =>
    have h1 := lt_of_get hx
    have h0 := List.getElem?_eq_getElem (l := C) (i := j) (by omega)
    exact (h.st j _ _ h0 hx).2.1
theorem Beg.snoc {L : Arcs} {n m x y : Nat} {C : List Nat} (h : Beg L n m C) (hl : C.length < m) (hx : C[C.length - 1]? = some x) (h1 : (x, y) ∈ L) (h2 : W L (m - C.length) y n) (h3 : ∀ z, z < y → (x, z) ∈ L → ¬ W L (m - C.length) z n) : Beg L n m (C ++ [y]) := by
  have hp := lt_of_get h.hd
  refine ⟨by rw [List.getElem?_append_left hp]; exact h.hd, by rw [List.length_append, List.length_singleton]; omega, fun j u v hu hv => ?_⟩
  rcases get_snoc hv with hv' | ⟨e1, e2⟩
  · have h4 := lt_of_get hv'
    rw [List.getElem?_append_left (by omega)] at hu
    exact h.st j u v hu hv'
  · rw [List.getElem?_append_left (by omega), show j = C.length - 1 by omega, hx] at hu
    cases hu
    rw [e1, e2]
    exact ⟨h1, h2, h3⟩
theorem Beg.whole {L : Arcs} {n m : Nat} {C : List Nat} (h : Beg L n m C) (hl : C.length = m) (hlo : ∀ k, k < n → ¬ Cy L k) (hcw : W L m n n) (hsh : ∀ j, 0 < j → j < m → ¬ W L j n n) : IsC L n C := by
  subst hl
  exact ⟨h.hd, hlo, hcw, hsh, h.st⟩
#print axioms IsC.one
#print axioms IsC.le
#print axioms Beg.whole
#print axioms dst_step
end Go.Proofs.Ytlbknnafecdakaa.Graph
