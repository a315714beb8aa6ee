/- Orders: the least node that is free, again and again. Pure. -/
import Derived.Test.YtlbknnafecdakaaGraphA
namespace Go.Proofs.Ytlbknnafecdakaa.Graph
set_option linter.unusedVariables false

theorem lt_of_get {α : Type} {l : List α} {j : Nat} {x : α} (h : l[j]? = some x) : j < l.length := by
  rcases Nat.lt_or_ge j l.length with h1 | h1
  · exact h1
  · rw [List.getElem?_eq_none h1] at h; cases h
theorem get_snoc {α : Type} {l : List α} {z x : α} {j : Nat} (h : (l ++ [z])[j]? = some x) : l[j]? = some x ∨ (j = l.length ∧ x = z) := by
  rcases Nat.lt_or_ge j l.length with h1 | h1
  · rw [List.getElem?_append_left h1] at h; exact Or.inl h
  · have h2 := lt_of_get h
    rw [List.length_append, List.length_singleton] at h2
    obtain rfl : j = l.length := by omega
    rw [List.getElem?_append_right (Nat.le_refl _), Nat.sub_self] at h
    exact Or.inr ⟨rfl, (Option.some.inj h).symm⟩
/-- Different numbers below N are at most N. -/
theorem nodup_le : ∀ (N : Nat) (l : List Nat), l.Nodup → (∀ x ∈ l, x < N) → l.length ≤ N := by
  intro N
  induction N with
  | zero => intro l _ h; cases l with
    | nil => exact Nat.le_refl _
    | cons x l => exact absurd (h x (List.mem_cons_self ..)) (by omega)
  | succ N ih =>
    intro l hn h
    have h1 := ih (l.erase N) (hn.erase N) fun x hx => by
      have h2 := h x (List.mem_of_mem_erase hx)
      have h3 : x ≠ N := by rintro rfl; exact hn.not_mem_erase hx
      omega
    have h4 := List.length_erase (a := N) (l := l)
    split at h4 <;> omega
/-- A list that holds all numbers below N has at least N elements. -/
theorem all_ge : ∀ (N : Nat) (l : List Nat), (∀ x, x < N → x ∈ l) → N ≤ l.length := by
  intro N
  induction N with
  | zero => intro l _; exact Nat.zero_le _
  | succ N ih =>
    intro l h
    have hN := h N (by omega)
    have h1 := ih (l.erase N) fun x hx => (List.mem_erase_of_ne (by omega)).mpr (h x (by omega))
    rw [List.length_erase_of_mem hN] at h1
    have : 0 < l.length := List.length_pos_of_mem hN
    omega

/-! ### What is free -/
/-- Not taken, and all before it are. -/
def free (L : Arcs) (T : List Nat) (n : Nat) : Prop := n ∉ T ∧ ∀ a, (a, n) ∈ L → a ∈ T
def freeB (L : Arcs) (T : List Nat) (n : Nat) : Bool := !T.contains n && L.all fun e => !(e.2 == n) || T.contains e.1
theorem freeB_iff {L : Arcs} {T : List Nat} {n : Nat} : freeB L T n = true ↔ free L T n := by
  unfold freeB free
  simp only [Bool.and_eq_true, Bool.not_eq_true', List.contains_eq_mem, decide_eq_false_iff_not, List.all_eq_true, Bool.or_eq_true, beq_eq_false_iff_ne, decide_eq_true_eq]
  constructor
  · rintro ⟨h1, h2⟩
    refine ⟨h1, fun a ha => ?_⟩
    rcases h2 _ ha with h | h
    · exact absurd rfl h
    · exact h
  · rintro ⟨h1, h2⟩
    refine ⟨h1, fun e he => ?_⟩
    by_cases h : e.2 = n
    · exact Or.inr (h2 _ (by rw [← h]; exact he))
    · exact Or.inl h
/-- The least free node below N. -/
def nxt (N : Nat) (L : Arcs) (T : List Nat) : Option Nat := (List.range N).find? (freeB L T)
theorem find_range {p : Nat → Bool} : ∀ {N n : Nat}, (List.range N).find? p = some n → n < N ∧ p n = true ∧ ∀ m, m < n → p m = false := by
  intro N
  induction N with
  | zero => intro n h; simp at h
  | succ N ih =>
    intro n h
    rw [List.range_succ, List.find?_append] at h
    cases hf : (List.range N).find? p with
    | some k =>
      rw [hf] at h
      simp at h; subst h
      obtain ⟨h1, h2, h3⟩ := ih hf
      exact ⟨by omega, h2, h3⟩
    | none =>
      rw [hf] at h
      simp only [Option.none_or, List.find?_cons, List.find?_nil] at h
      rw [List.find?_eq_none] at hf
      cases hp : p N with
      | false => rw [hp] at h; cases h
      | true =>
        rw [hp] at h
        cases h
        exact ⟨by omega, hp, fun m hm => by have := hf m (List.mem_range.mpr hm); simpa using this⟩
theorem find_range_none {p : Nat → Bool} {N : Nat} : (List.range N).find? p = none ↔ ∀ m, m < N → p m = false := by
  rw [List.find?_eq_none]
  constructor
  · intro h m hm; have := h m (List.mem_range.mpr hm); simpa using this
  · intro h m hm; have := h m (List.mem_range.mp hm); simpa using this
theorem find_range_some {p : Nat → Bool} {N n : Nat} (h1 : n < N) (h2 : p n = true) (h3 : ∀ m, m < n → p m = false) : (List.range N).find? p = some n := by
  cases h : (List.range N).find? p with
  | none => have := find_range_none.mp h n h1; rw [h2] at this; cases this
  | some k =>
    obtain ⟨g1, g2, g3⟩ := find_range h
    rcases Nat.lt_trichotomy k n with h4 | h4 | h4
    · rw [h3 k h4] at g2; cases g2
    · rw [h4]
    · rw [g3 n h4] at h2; cases h2
theorem nxt_some {N : Nat} {L : Arcs} {T : List Nat} {n : Nat} : nxt N L T = some n ↔ n < N ∧ free L T n ∧ ∀ m, m < n → ¬ free L T m := by
  constructor
  · intro h
    obtain ⟨h1, h2, h3⟩ := find_range h
    exact ⟨h1, freeB_iff.mp h2, fun m hm hf => by have := h3 m hm; rw [freeB_iff.mpr hf] at this; cases this⟩
  · rintro ⟨h1, h2, h3⟩
    refine find_range_some h1 (freeB_iff.mpr h2) fun m hm => ?_
    cases hb : freeB L T m with
    | false => rfl
    | true => exact absurd (freeB_iff.mp hb) (h3 m hm)
theorem nxt_none {N : Nat} {L : Arcs} {T : List Nat} : nxt N L T = none ↔ ∀ m, m < N → ¬ free L T m := by
  unfold nxt
  rw [find_range_none]
  constructor
  · intro h m hm hf; have := h m hm; rw [freeB_iff.mpr hf] at this; cases this
  · intro h m hm
    cases hb : freeB L T m with
    | false => rfl
    | true => exact absurd (freeB_iff.mp hb) (h m hm)

/-! ### The order -/
def ordF (N : Nat) (L : Arcs) : Nat → List Nat → Option (List Nat)
  | 0, T => some T
  | f + 1, T => match nxt N L T with
    | none => none
    | some n => ordF N L f (T ++ [n])
/-- What Order returns. -/
def ordO (N : Nat) (L : Arcs) : Option (List Nat) := ordF N L N []
theorem ordF_go {N : Nat} {L : Arcs} {f n : Nat} {T : List Nat} (hf : 0 < f) (h : nxt N L T = some n) : ordF N L f T = ordF N L (f - 1) (T ++ [n]) := by
  obtain ⟨g, rfl⟩ : ∃ g, f = g + 1 := ⟨f - 1, by omega⟩
  rw [ordF, h]; rfl
theorem ordF_no {N : Nat} {L : Arcs} {f : Nat} {T : List Nat} (hf : 0 < f) (h : nxt N L T = none) : ordF N L f T = none := by
  obtain ⟨g, rfl⟩ : ∃ g, f = g + 1 := ⟨f - 1, by omega⟩
  rw [ordF, h]
/-- Different nodes, each behind all that lead to it. -/
structure Top (N : Nat) (L : Arcs) (T : List Nat) : Prop where
  nd : T.Nodup
  lt : ∀ x ∈ T, x < N
  bk : ∀ j b, T[j]? = some b → ∀ a, (a, b) ∈ L → a ∈ T.take j
theorem Top.nil (N : Nat) (L : Arcs) : Top N L [] := ⟨List.nodup_nil, fun x h => by simp at h, fun j b h => by simp at h⟩
theorem Top.snoc {N : Nat} {L : Arcs} {T : List Nat} {n : Nat} (h : Top N L T) (hn : n < N) (hf : free L T n) : Top N L (T ++ [n]) := by
  refine ⟨?_, ?_, ?_⟩
  · rw [List.nodup_append]
    exact ⟨h.nd, by simp, fun x hx y hy e => by
      rw [List.mem_singleton.mp hy] at e
      rw [e] at hx
      exact hf.1 hx⟩
  · intro x hx
    rcases List.mem_append.mp hx with h1 | h1
    · exact h.lt x h1
    · rw [List.mem_singleton.mp h1]; exact hn
  · intro j b hb a ha
    rcases get_snoc hb with h1 | ⟨rfl, rfl⟩
    · have h2 := lt_of_get h1
      rw [List.take_append_of_le_length (by omega)]
      exact h.bk j b h1 a ha
    · rw [List.take_left]
      exact hf.2 a ha
theorem ordF_ok {N : Nat} {L : Arcs} : ∀ {f : Nat} {T R : List Nat}, Top N L T → ordF N L f T = some R → Top N L R ∧ R.length = T.length + f := by
  intro f
  induction f with
  | zero => intro T R h e; cases e; exact ⟨h, rfl⟩
  | succ f ih =>
    intro T R h e
    rw [ordF] at e
    cases hn : nxt N L T with
    | none => rw [hn] at e; cases e
    | some n =>
      rw [hn] at e
      obtain ⟨h1, h2, _⟩ := nxt_some.mp hn
      obtain ⟨g1, g2⟩ := ih (h.snoc h1 h2) e
      refine ⟨g1, ?_⟩
      rw [g2, List.length_append, List.length_singleton]; omega
theorem ord_ok {N : Nat} {L : Arcs} {R : List Nat} (h : ordO N L = some R) : Top N L R ∧ R.length = N := by
  obtain ⟨h1, h2⟩ := ordF_ok (Top.nil N L) h
  exact ⟨h1, by simpa using h2⟩
theorem Top.all {N : Nat} {L : Arcs} {T : List Nat} (h : Top N L T) (hl : T.length = N) {x : Nat} (hx : x < N) : x ∈ T := by
  apply Classical.byContradiction
  intro hn
  have h1 := nodup_le N (x :: T) (List.nodup_cons.mpr ⟨hn, h.nd⟩) (by
    intro y hy
    rcases List.mem_cons.mp hy with rfl | hy
    · exact hx
    · exact h.lt y hy)
  rw [List.length_cons] at h1
  omega
/-- The places grow along a walk. -/
theorem Top.walk {N : Nat} {L : Arcs} {T : List Nat} (h : Top N L T) : ∀ {k a b j : Nat}, W L k a b → T[j]? = some b → ∃ i, T[i]? = some a ∧ i + k ≤ j := by
  intro k
  induction k with
  | zero => intro a b j hw hj; cases hw; exact ⟨j, hj, by omega⟩
  | succ k ih =>
    intro a b j hw hj
    obtain ⟨c, hc, hb⟩ := hw.last
    have h1 := h.bk j b hj c hb
    obtain ⟨m, hm⟩ := List.mem_iff_getElem?.mp h1
    have h2 := lt_of_get hm
    rw [List.length_take] at h2
    rw [List.getElem?_take, if_pos (by omega)] at hm
    obtain ⟨i, h3, h4⟩ := ih hc hm
    exact ⟨i, h3, by omega⟩
theorem place_one {T : List Nat} (h : T.Nodup) {i j x : Nat} (hi : T[i]? = some x) (hj : T[j]? = some x) : i = j := by
  have h1 := lt_of_get hi
  have h2 := lt_of_get hj
  rw [List.getElem?_eq_getElem h1] at hi
  rw [List.getElem?_eq_getElem h2] at hj
  have h3 := List.pairwise_iff_getElem.mp h
  rcases Nat.lt_trichotomy i j with h4 | h4 | h4
  · exact absurd ((Option.some.inj hi).trans (Option.some.inj hj).symm) (h3 i j h1 h2 h4)
  · exact h4
  · exact absurd ((Option.some.inj hj).trans (Option.some.inj hi).symm) (h3 j i h2 h1 h4)
theorem Top.acy {N : Nat} {L : Arcs} {T : List Nat} (hok : Ok N L) (h : Top N L T) (hl : T.length = N) : Acy L := by
  rintro n ⟨k, hk, hw⟩
  obtain ⟨j, hj⟩ := List.mem_iff_getElem?.mp (h.all hl (Cy.lt hok ⟨k, hk, hw⟩))
  obtain ⟨i, hi, h1⟩ := h.walk hw hj
  have := place_one h.nd hi hj
  omega
/-- If nothing is free, there is a cycle. -/
theorem stuck {N : Nat} {L : Arcs} {T : List Nat} (hok : Ok N L) (hl : T.length < N) (hn : nxt N L T = none) : ∃ n, Cy L n := by
  rw [nxt_none] at hn
  have hx : ∃ x, x < N ∧ x ∉ T := by
    apply Classical.byContradiction
    intro h
    have := all_ge N T fun x hx => Classical.byContradiction fun hm => h ⟨x, hx, hm⟩
    omega
  obtain ⟨x, hx, hxT⟩ := hx
  have back : ∀ y, y < N → y ∉ T → ∃ a, (a, y) ∈ L ∧ a < N ∧ a ∉ T := by
    intro y hy hyT
    apply Classical.byContradiction
    intro h
    exact hn y hy ⟨hyT, fun a ha => Classical.byContradiction fun haT => h ⟨a, ha, (hok _ _ ha).1, haT⟩⟩
  have long : ∀ k, ∃ y, y < N ∧ y ∉ T ∧ W L k y x := by
    intro k
    induction k with
    | zero => exact ⟨x, hx, hxT, rfl⟩
    | succ k ih =>
      obtain ⟨y, h1, h2, h3⟩ := ih
      obtain ⟨a, g1, g2, g3⟩ := back y h1 h2
      exact ⟨a, g2, g3, y, g1, h3⟩
  obtain ⟨y, h1, _, h3⟩ := long N
  exact walk_cyclic hok h3 h1 (Nat.le_refl _)
theorem ordF_none {N : Nat} {L : Arcs} (hok : Ok N L) : ∀ {f : Nat} {T : List Nat}, T.length + f = N → ordF N L f T = none → ∃ n, Cy L n := by
  intro f
  induction f with
  | zero => intro T _ e; cases e
  | succ f ih =>
    intro T hl e
    rw [ordF] at e
    cases hn : nxt N L T with
    | none => exact stuck hok (by omega) hn
    | some n =>
      rw [hn] at e
      exact ih (by rw [List.length_append, List.length_singleton]; omega) e
/-- P10.6: there is an order exactly if there is no cycle. -/
theorem ord_none {N : Nat} {L : Arcs} (hok : Ok N L) : ordO N L = none ↔ ∃ n, Cy L n := by
  constructor
  · exact ordF_none hok (by simp)
  · rintro ⟨n, hn⟩
    cases h : ordO N L with
    | none => rfl
    | some R =>
      obtain ⟨h1, h2⟩ := ord_ok h
      exact absurd hn (h1.acy hok h2 n)
theorem ord_acy {N : Nat} {L : Arcs} (hok : Ok N L) {R : List Nat} (h : ordO N L = some R) : Acy L := (ord_ok h).1.acy hok (ord_ok h).2
/-- An arc leads from an earlier to a later place. -/
theorem Top.arc {N : Nat} {L : Arcs} {T : List Nat} (hok : Ok N L) (h : Top N L T) (hl : T.length = N) {a b : Nat} (hab : (a, b) ∈ L) : ∃ i j : Nat, T[i]? = some a ∧ T[j]? = some b ∧ i < j := by
  obtain ⟨j, hj⟩ := List.mem_iff_getElem?.mp (h.all hl (hok _ _ hab).2)
  obtain ⟨i, hi, h1⟩ := h.walk (W.one hab) hj
  exact ⟨i, j, hi, hj, by omega⟩
#print axioms ord_ok
#print axioms ord_none
#print axioms Top.arc
end Go.Proofs.Ytlbknnafecdakaa.Graph
