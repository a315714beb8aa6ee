/- Walks in a graph: pure. -/
import Derived.Test.YtlbknnafecdakaaRows
namespace Go.Proofs.Ytlbknnafecdakaa.Graph
set_option linter.unusedVariables false

abbrev Arcs := List (Nat × Nat)
/-- Every arc joins nodes. -/
def Ok (N : Nat) (L : Arcs) : Prop := ∀ a b, (a, b) ∈ L → a < N ∧ b < N
/-- A walk of k arcs. -/
def W (L : Arcs) : Nat → Nat → Nat → Prop
  | 0, a, b => a = b
  | k + 1, a, b => ∃ c, (a, c) ∈ L ∧ W L k c b
theorem W.nil (L : Arcs) (a : Nat) : W L 0 a a := rfl
theorem W.one {L : Arcs} {a b : Nat} (h : (a, b) ∈ L) : W L 1 a b := ⟨b, h, rfl⟩
theorem W.app {L : Arcs} : ∀ {j k a b c : Nat}, W L j a b → W L k b c → W L (j + k) a c := by
  intro j
  induction j with
  | zero => intro k a b c h1 h2; cases h1; rw [Nat.zero_add]; exact h2
  | succ j ih =>
    intro k a b c h1 h2
    obtain ⟨d, hd, h1⟩ := h1
    rw [Nat.succ_add]
    exact ⟨d, hd, ih h1 h2⟩
theorem W.snoc {L : Arcs} {k a b c : Nat} (h : W L k a b) (hc : (b, c) ∈ L) : W L (k + 1) a c := h.app (W.one hc)
theorem W.split {L : Arcs} : ∀ {j k a c : Nat}, W L (j + k) a c → ∃ b, W L j a b ∧ W L k b c := by
  intro j
  induction j with
  | zero => intro k a c h; rw [Nat.zero_add] at h; exact ⟨a, rfl, h⟩
  | succ j ih =>
    intro k a c h
    rw [Nat.succ_add] at h
    obtain ⟨d, hd, h⟩ := h
    obtain ⟨b, h1, h2⟩ := ih h
    exact ⟨b, ⟨d, hd, h1⟩, h2⟩
theorem W.last {L : Arcs} {k a c : Nat} (h : W L (k + 1) a c) : ∃ b, W L k a b ∧ (b, c) ∈ L := by
  obtain ⟨b, h1, d, hd, h2⟩ := W.split (j := k) (k := 1) h
  cases h2
  exact ⟨b, h1, hd⟩
theorem W.mono {L M : Arcs} (hs : ∀ e ∈ L, e ∈ M) : ∀ {k a b : Nat}, W L k a b → W M k a b := by
  intro k
  induction k with
  | zero => intro a b h; exact h
  | succ k ih => intro a b h; obtain ⟨c, hc, h⟩ := h; exact ⟨c, hs _ hc, ih h⟩
theorem W.fst {N : Nat} {L : Arcs} (hok : Ok N L) {k a b : Nat} (h : W L (k + 1) a b) : a < N := by
  obtain ⟨c, hc, _⟩ := h
  exact (hok _ _ hc).1
theorem W.snd {N : Nat} {L : Arcs} (hok : Ok N L) {k a b : Nat} (h : W L k a b) (ha : a < N) : b < N := by
  cases k with
  | zero => cases h; exact ha
  | succ k => obtain ⟨c, _, hc⟩ := h.last; exact (hok _ _ hc).2

/-! ### The least and the greatest -/
theorem least_of {P : Nat → Prop} : ∀ k, P k → ∃ d, d ≤ k ∧ P d ∧ ∀ j, j < d → ¬ P j := by
  intro k
  induction k using Nat.strongRecOn with
  | _ k ih =>
    intro h
    by_cases hex : ∃ j, j < k ∧ P j
    · obtain ⟨j, hj, hp⟩ := hex
      obtain ⟨d, h1, h2, h3⟩ := ih j hj hp
      exact ⟨d, by omega, h2, h3⟩
    · exact ⟨k, Nat.le_refl _, h, fun j hj hp => hex ⟨j, hj, hp⟩⟩
theorem most_of {P : Nat → Prop} {k0 B : Nat} (h0 : P k0) (hB : ∀ k, P k → k ≤ B) : ∃ d, P d ∧ ∀ k, P k → k ≤ d := by
  have h := least_of (P := fun m => ∃ d, P d ∧ m = B - d) (B - k0) ⟨k0, h0, rfl⟩
  obtain ⟨m, _, ⟨d, hd, hm⟩, h3⟩ := h
  refine ⟨d, hd, fun k hk => ?_⟩
  have h4 := hB k hk
  have h5 := hB d hd
  rcases Nat.lt_or_ge d k with h6 | h6
  · exact absurd ⟨k, hk, rfl⟩ (h3 (B - k) (by omega))
  · exact h6

/-! ### Too many for too few places -/
theorem pigeon : ∀ (N : Nat) (f : Nat → Nat), (∀ i, i ≤ N → f i < N) → ∃ i j, i < j ∧ j ≤ N ∧ f i = f j := by
  intro N
  induction N with
  | zero => intro f h; exact absurd (h 0 (Nat.le_refl _)) (by omega)
  | succ N ih =>
    intro f h
    by_cases hex : ∃ i, i ≤ N ∧ f i = f (N + 1)
    · obtain ⟨i, hi, e⟩ := hex
      exact ⟨i, N + 1, by omega, Nat.le_refl _, e⟩
    · have hne : ∀ i, i ≤ N → f i ≠ f (N + 1) := fun i hi e => hex ⟨i, hi, e⟩
      have hv := h (N + 1) (Nat.le_refl _)
      obtain ⟨i, j, h1, h2, h3⟩ := ih (fun i => if f i = N then f (N + 1) else f i) fun i hi => by
        have a1 := hne i hi
        have a2 := h i (by omega)
        show (if f i = N then f (N + 1) else f i) < N
        split <;> omega
      have a1 := hne i (by omega)
      have a2 := hne j (by omega)
      refine ⟨i, j, h1, by omega, ?_⟩
      split at h3 <;> split at h3 <;> omega
/-- The nodes of a walk. -/
theorem W.nodes {L : Arcs} : ∀ {k a b : Nat}, W L k a b → ∃ f : Nat → Nat, f 0 = a ∧ f k = b ∧ ∀ i, i < k → (f i, f (i + 1)) ∈ L := by
  intro k
  induction k with
  | zero => intro a b h; cases h; exact ⟨fun _ => a, rfl, rfl, fun i hi => absurd hi (by omega)⟩
  | succ k ih =>
    intro a b h
    obtain ⟨c, hc, h⟩ := h
    obtain ⟨f, h0, hk, hs⟩ := ih h
    refine ⟨fun i => match i with | 0 => a | i + 1 => f i, rfl, hk, fun i hi => ?_⟩
    cases i with
    | zero => show (a, f 0) ∈ L; rw [h0]; exact hc
    | succ i => exact hs i (by omega)
theorem W.along {L : Arcs} {f : Nat → Nat} {k : Nat} (hs : ∀ i, i < k → (f i, f (i + 1)) ∈ L) : ∀ d i, i + d ≤ k → W L d (f i) (f (i + d)) := by
  intro d
  induction d with
  | zero => intro i _; rfl
  | succ d ih =>
    intro i h
    refine ⟨f (i + 1), hs i (by omega), ?_⟩
    have := ih (i + 1) (by omega)
    rw [show i + (d + 1) = i + 1 + d by omega]; exact this
theorem nodes_lt {N : Nat} {L : Arcs} (hok : Ok N L) {f : Nat → Nat} {k : Nat} (h0 : f 0 < N) (hs : ∀ i, i < k → (f i, f (i + 1)) ∈ L) : ∀ i, i ≤ k → f i < N := by
  intro i hi
  cases i with
  | zero => exact h0
  | succ i => exact (hok _ _ (hs i (by omega))).2
/-- A walk with as many arcs as there are nodes meets a node twice. -/
theorem W.twice {N : Nat} {L : Arcs} (hok : Ok N L) {k a b : Nat} (h : W L k a b) (ha : a < N) (hk : N ≤ k) :
    ∃ c i d r, 0 < d ∧ i + d + r = k ∧ W L i a c ∧ W L d c c ∧ W L r c b := by
  obtain ⟨f, h0, hf, hs⟩ := h.nodes
  obtain ⟨i, j, h1, h2, h3⟩ := pigeon N f fun i hi => nodes_lt hok (h0 ▸ ha) hs i (by omega)
  refine ⟨f i, i, j - i, k - j, by omega, by omega, ?_, ?_, ?_⟩
  · have := W.along hs i 0 (by omega); rw [h0, Nat.zero_add] at this; exact this
  · have := W.along hs (j - i) i (by omega); rw [show i + (j - i) = j by omega, ← h3] at this; exact this
  · have := W.along hs (k - j) j (by omega); rw [show j + (k - j) = k by omega, hf, ← h3] at this; exact this
/-- A least walk has fewer arcs than there are nodes. -/
theorem W.short {N : Nat} {L : Arcs} (hok : Ok N L) {k a b : Nat} (h : W L k a b) (ha : a < N) : ∃ d, d < N ∧ d ≤ k ∧ W L d a b ∧ ∀ j, j < d → ¬ W L j a b := by
  obtain ⟨d, h1, h2, h3⟩ := least_of (P := fun j => W L j a b) k h
  refine ⟨d, ?_, h1, h2, h3⟩
  rcases Nat.lt_or_ge d N with h4 | h4
  · exact h4
  · obtain ⟨c, i, e, r, g1, g2, g3, _, g5⟩ := h2.twice hok ha h4
    exact absurd (g3.app g5) (h3 (i + r) (by omega))

/-! ### Paths -/
/-- There is a path. -/
def Rp (L : Arcs) (a b : Nat) : Prop := ∃ k, W L k a b
theorem Rp.refl (L : Arcs) (a : Nat) : Rp L a a := ⟨0, rfl⟩
theorem Rp.trans {L : Arcs} {a b c : Nat} (h : Rp L a b) (h' : Rp L b c) : Rp L a c := by
  obtain ⟨j, h⟩ := h
  obtain ⟨k, h'⟩ := h'
  exact ⟨j + k, h.app h'⟩
theorem Rp.arc {L : Arcs} {a b : Nat} (h : (a, b) ∈ L) : Rp L a b := ⟨1, W.one h⟩
theorem Rp.short {N : Nat} {L : Arcs} (hok : Ok N L) {a b : Nat} (h : Rp L a b) (ha : a < N) : ∃ d, d < N ∧ W L d a b := by
  obtain ⟨k, h⟩ := h
  obtain ⟨d, h1, _, h2, _⟩ := h.short hok ha
  exact ⟨d, h1, h2⟩
/-- A set that holds a and with each node all that its arcs lead to holds all that is reached. -/
theorem Rp.closed {L : Arcs} {S : Nat → Prop} {a b : Nat} (h : Rp L a b) (ha : S a) (hs : ∀ x y, (x, y) ∈ L → S x → S y) : S b := by
  obtain ⟨k, h⟩ := h
  induction k generalizing a with
  | zero => cases h; exact ha
  | succ k ih => obtain ⟨c, hc, h⟩ := h; exact ih (hs _ _ hc ha) h

/-! ### Cycles -/
/-- The node is on a cycle: a closed walk leads through it. -/
def Cy (L : Arcs) (n : Nat) : Prop := ∃ k, 0 < k ∧ W L k n n
def Acy (L : Arcs) : Prop := ∀ n, ¬ Cy L n
theorem Cy.lt {N : Nat} {L : Arcs} (hok : Ok N L) {n : Nat} (h : Cy L n) : n < N := by
  obtain ⟨k, hk, h⟩ := h
  cases k with
  | zero => omega
  | succ k => exact W.fst hok h
theorem Cy.next {L : Arcs} {n : Nat} (h : Cy L n) : ∃ b, (n, b) ∈ L ∧ Rp L b n := by
  obtain ⟨k, hk, h⟩ := h
  cases k with
  | zero => omega
  | succ k => obtain ⟨b, hb, h⟩ := h; exact ⟨b, hb, k, h⟩
theorem cy_of {L : Arcs} {n b : Nat} (h : (n, b) ∈ L) (h' : Rp L b n) : Cy L n := by
  obtain ⟨k, h'⟩ := h'
  exact ⟨k + 1, by omega, b, h, h'⟩
/-- The least closed walk through a node has at most as many arcs as there are nodes. -/
theorem Cy.short {N : Nat} {L : Arcs} (hok : Ok N L) {n : Nat} (h : Cy L n) : ∃ d, 0 < d ∧ d ≤ N ∧ W L d n n ∧ ∀ j, 0 < j → j < d → ¬ W L j n n := by
  have hn := h.lt hok
  obtain ⟨k, hk, h⟩ := h
  obtain ⟨d, h1, ⟨h2, h3⟩, h4⟩ := least_of (P := fun j => 0 < j ∧ W L j n n) k ⟨hk, h⟩
  refine ⟨d, h2, ?_, h3, fun j hj hd hw => h4 j hd ⟨hj, hw⟩⟩
  rcases Nat.lt_or_ge N d with h5 | h5
  · exfalso
    obtain ⟨e, rfl⟩ : ∃ e, d = e + 1 := ⟨d - 1, by omega⟩
    obtain ⟨b, hb, hw⟩ := h3
    obtain ⟨c, i, x, r, g1, g2, g3, _, g5⟩ := hw.twice hok (hok _ _ hb).2 (by omega)
    exact h4 (i + r + 1) (by omega) ⟨by omega, b, hb, g3.app g5⟩
  · exact h5
/-- Without cycles every walk has fewer arcs than there are nodes. -/
theorem Acy.lt {N : Nat} {L : Arcs} (hok : Ok N L) (h : Acy L) {k a b : Nat} (hw : W L k a b) (ha : a < N) : k < N := by
  rcases Nat.lt_or_ge k N with h1 | h1
  · exact h1
  · obtain ⟨c, i, d, r, g1, _, _, g4, _⟩ := hw.twice hok ha h1
    exact absurd ⟨d, g1, g4⟩ (h c)
theorem walk_cyclic {N : Nat} {L : Arcs} (hok : Ok N L) {k a b : Nat} (hw : W L k a b) (ha : a < N) (hk : N ≤ k) : ∃ n, Cy L n := by
  obtain ⟨c, i, d, r, g1, _, _, g4, _⟩ := hw.twice hok ha hk
  exact ⟨c, d, g1, g4⟩

/-! ### Levels -/
/-- The greatest number of arcs of a walk that ends at b. -/
def Lev (L : Arcs) (b v : Nat) : Prop := (∃ a, W L v a b) ∧ ∀ k a, W L k a b → k ≤ v
theorem Lev.ex {N : Nat} {L : Arcs} (hok : Ok N L) (h : Acy L) {b : Nat} (hb : b < N) : ∃ v, v < N ∧ Lev L b v := by
  have key : ∀ k a, W L k a b → k < N := fun k a hw => by
    cases k with
    | zero => omega
    | succ k => exact h.lt hok hw (W.fst hok hw)
  obtain ⟨d, ⟨a, hd⟩, hm⟩ := most_of (P := fun k => ∃ a, W L k a b) (k0 := 0) (B := N) ⟨b, rfl⟩ fun k ⟨a, hk⟩ => Nat.le_of_lt (key k a hk)
  exact ⟨d, key d a hd, ⟨a, hd⟩, fun k a hk => hm k ⟨a, hk⟩⟩
theorem Lev.one {L : Arcs} {b v v' : Nat} (h : Lev L b v) (h' : Lev L b v') : v = v' := by
  obtain ⟨⟨a, h1⟩, h2⟩ := h
  obtain ⟨⟨a', h1'⟩, h2'⟩ := h'
  exact Nat.le_antisymm (h2' _ _ h1) (h2 _ _ h1')
/-- P10.7. -/
theorem Lev.arc {L : Arcs} {a b v u : Nat} (ha : Lev L a v) (hb : Lev L b u) (h : (a, b) ∈ L) : v < u := by
  obtain ⟨⟨x, hx⟩, _⟩ := ha
  exact hb.2 _ _ (hx.snoc h)
theorem Lev.below {L : Arcs} {b v : Nat} (h : Lev L b (v + 1)) : ∃ a, (a, b) ∈ L ∧ Lev L a v := by
  obtain ⟨⟨x, hx⟩, h2⟩ := h
  obtain ⟨a, h3, h4⟩ := hx.last
  refine ⟨a, h4, ⟨x, h3⟩, fun k y hk => ?_⟩
  have := h2 _ _ (hk.snoc h4); omega

/-! ### Turned round -/
def rev (L : Arcs) : Arcs := L.map fun e => (e.2, e.1)
theorem rev_mem {L : Arcs} {a b : Nat} : (a, b) ∈ rev L ↔ (b, a) ∈ L := by
  unfold rev
  rw [List.mem_map]
  constructor
  · rintro ⟨⟨x, y⟩, h, e⟩; cases e; exact h
  · intro h; exact ⟨(b, a), h, rfl⟩
theorem rev_rev (L : Arcs) : rev (rev L) = L := by
  unfold rev
  rw [List.map_map]
  exact List.map_id' L
theorem W.rev {L : Arcs} : ∀ {k a b : Nat}, W L k a b → W (rev L) k b a := by
  intro k
  induction k with
  | zero => intro a b h; exact h.symm
  | succ k ih => intro a b h; obtain ⟨c, hc, h⟩ := h; exact (ih h).snoc (rev_mem.mpr hc)
theorem W.rev_iff {L : Arcs} {k a b : Nat} : W (Graph.rev L) k a b ↔ W L k b a := by
  constructor
  · intro h; have := h.rev; rw [rev_rev] at this; exact this
  · exact W.rev
theorem Rp.rev_iff {L : Arcs} {a b : Nat} : Rp (Graph.rev L) a b ↔ Rp L b a := by
  constructor
  · rintro ⟨k, h⟩; exact ⟨k, W.rev_iff.mp h⟩
  · rintro ⟨k, h⟩; exact ⟨k, W.rev_iff.mpr h⟩
theorem Cy.rev_iff {L : Arcs} {n : Nat} : Cy (Graph.rev L) n ↔ Cy L n := by
  constructor
  · rintro ⟨k, h0, h⟩; exact ⟨k, h0, W.rev_iff.mp h⟩
  · rintro ⟨k, h0, h⟩; exact ⟨k, h0, W.rev_iff.mpr h⟩
theorem ok_rev {N : Nat} {L : Arcs} (h : Ok N L) : Ok N (Graph.rev L) := fun a b hab => ⟨(h _ _ (rev_mem.mp hab)).2, (h _ _ (rev_mem.mp hab)).1⟩
#print axioms W.short
#print axioms Cy.short
#print axioms Lev.ex
#print axioms Rp.rev_iff
end Go.Proofs.Ytlbknnafecdakaa.Graph
