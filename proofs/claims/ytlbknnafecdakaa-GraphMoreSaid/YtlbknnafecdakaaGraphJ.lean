/- slices.Sort, slices.Compact at an own slice of integers; the table of lists of nodes. -/
import Derived.Test.YtlbknnafecdakaaGraphS
import Derived.Test.YtlbknnafecdakaaShelf
import Derived.Lib.OwnBridge
namespace Go.Proofs.Ytlbknnafecdakaa.Graph
open Go.ChangeShapes Go.WideShapes Go.RowKit Go.Lib
set_option linter.unusedVariables false
set_option maxRecDepth 100000

/-! ### Sorted lists without repetition (pure) -/
def Asc (l : List Int) : Prop := l.Pairwise (· < ·)
theorem compact_upto {d : Array Int} (hs : ∀ i j : Nat, i ≤ j → j < d.size → d[i]! ≤ d[j]!) : ∀ m, m ≤ d.size →
    Asc (Lib.compactUpTo d m) ∧ (∀ x, x ∈ Lib.compactUpTo d m ↔ ∃ j, j < m ∧ d[j]! = x) := by
  intro m
  induction m with
  | zero => intro _; exact ⟨List.Pairwise.nil, fun x => ⟨fun h => by simp [Lib.compactUpTo] at h, fun ⟨j, h, _⟩ => by omega⟩⟩
  | succ m ih =>
    intro hm
    obtain ⟨h1, h2⟩ := ih (by omega)
    rw [Lib.compactUpTo_succ]
    cases hk : Lib.keeps d m with
    | true =>
      simp only [if_true]
      refine ⟨List.pairwise_append.mpr ⟨h1, List.pairwise_singleton _ _, fun x hx y hy => ?_⟩, fun x => ?_⟩
      · rw [List.mem_singleton] at hy
        subst hy
        obtain ⟨j, hj, rfl⟩ := (h2 x).mp hx
        have hne : d[m]! ≠ d[m - 1]! := by
          intro e
          rw [Lib.keeps_neg (by omega) e] at hk; cases hk
        have a1 := hs j (m - 1) (by omega) (by omega)
        have a2 := hs (m - 1) m (by omega) (by omega)
        omega
      · rw [List.mem_append, List.mem_singleton, h2]
        constructor
        · rintro (⟨j, hj, e⟩ | rfl)
          · exact ⟨j, by omega, e⟩
          · exact ⟨m, by omega, rfl⟩
        · rintro ⟨j, hj, e⟩
          rcases Nat.lt_or_eq_of_le (Nat.le_of_lt_succ hj) with h | rfl
          · exact Or.inl ⟨j, h, e⟩
          · exact Or.inr e.symm
    | false =>
      simp only [Bool.false_eq_true, if_false, List.append_nil]
      refine ⟨h1, fun x => ?_⟩
      rw [h2]
      have hmm : 0 < m ∧ d[m]! = d[m - 1]! := by
        unfold Lib.keeps at hk
        have := of_decide_eq_false hk
        constructor
        · rcases Nat.eq_zero_or_pos m with h | h
          · exact absurd (Or.inl h) this
          · exact h
        · rcases Decidable.em (d[m]! = d[m - 1]!) with h | h
          · exact h
          · exact absurd (Or.inr h) this
      constructor
      · rintro ⟨j, hj, e⟩
        exact ⟨j, by omega, e⟩
      · rintro ⟨j, hj, e⟩
        rcases Nat.lt_or_eq_of_le (Nat.le_of_lt_succ hj) with h | rfl
        · exact ⟨j, h, e⟩
        · exact ⟨j - 1, by omega, by rw [← hmm.2]; exact e⟩
/-- What slices.Sort and slices.Compact make of a list. -/
def srt (l : List Int) : List Int := l.mergeSort fun x y => decide (x ≤ y)
theorem srt_len (l : List Int) : (srt l).length = l.length := by unfold srt; exact List.length_mergeSort l
theorem srt_mem {l : List Int} {x : Int} : x ∈ srt l ↔ x ∈ l := by unfold srt; exact List.mem_mergeSort
theorem srt_le (l : List Int) : (srt l).Pairwise (· ≤ ·) := by
  have := List.pairwise_mergeSort (le := fun x y : Int => decide (x ≤ y)) (by intro a b c; simp only [decide_eq_true_eq]; omega) (by intro a b; simp only [Bool.or_eq_true, decide_eq_true_eq]; omega) l
  unfold srt
  exact this.imp fun h => by simpa using h
def nub (l : List Int) : List Int := Lib.compact (srt l)
theorem nub_is (l : List Int) : Asc (nub l) ∧ ∀ x, x ∈ nub l ↔ x ∈ l := by
  have hs : ∀ i j : Nat, i ≤ j → j < (srt l).toArray.size → (srt l).toArray[i]! ≤ (srt l).toArray[j]! := by
    intro i j hij hj
    have hj' : j < (srt l).length := by simpa using hj
    rw [getElem!_pos _ i (by simp; omega), getElem!_pos _ j (by simpa using hj)]
    simp only [List.getElem_toArray]
    rcases Nat.lt_or_eq_of_le hij with h | rfl
    · exact List.pairwise_iff_getElem.mp (srt_le l) i j (by omega) hj' h
    · exact Int.le_refl _
  have := compact_upto hs (srt l).length (by simp)
  unfold nub Lib.compact
  refine ⟨this.1, fun x => ?_⟩
  rw [this.2, ← srt_mem (l := l), List.mem_iff_getElem]
  constructor
  · rintro ⟨j, hj, e⟩
    rw [getElem!_pos _ j (by simpa using hj)] at e
    exact ⟨j, hj, by simpa using e⟩
  · rintro ⟨j, hj, e⟩
    refine ⟨j, hj, ?_⟩
    rw [getElem!_pos _ j (by simpa using hj)]
    simpa using e
theorem compact_le (l : List Int) : (Lib.compact l).length ≤ l.length := by
  unfold Lib.compact Lib.compactUpTo
  rw [List.length_map]
  exact Nat.le_trans (List.length_filter_le _ _) (by simp)

/-! ### The contracts -/
theorem grown_put {α : Type} [Inhabited α] {enc : α → Value} {w : World} {g q : Nat} {d : Array α} (os : Array Obj) : w.grownBy (Sort.grow (Sort.putRow enc (Sort.ahead w q) g 0 d) os) (some g) := by
  refine ⟨rfl, rfl, rfl, by simp [Sort.ahead], fun k hk hne => ?_⟩
  rw [Sort.heap_grow_old _ _ (by simpa [Sort.ahead] using hk)]
  have : ¬ g = k := fun e => hne (by rw [e])
  simp [Sort.putRow, Sort.mapBlock, Sort.ahead, Array.getElem?_modify, this]
theorem own_grow {enc : Int → Value} {t : TypeId} {B : Nat} {w : World} {v : Value} {L : List Int} (h : Own enc t B w v L) (os : Array Obj) : Own enc t B (Sort.grow w os) v L :=
  h.keep fun k hk => Sort.heap_grow_old _ _ (h.lt k hk).2
theorem sort_own (L : List Int) (v : Value) (B : Nat) (w : World) (h : Own eI 3 B w v L) (hl : L.length ≤ 1000000) :
    Calls Try.prog 40 #[v] w fun e w' => e = .returned (.tuple #[]) ∧ Own eI 3 B w' v (srt L) ∧ w.grownBy w' v.ownBlock := by
  by_cases hv : v = .slice none 0 0
  · subst hv
    have hL : L = [] := by
      obtain ⟨h1, ⟨_, h2⟩ | ⟨g, cap, cur, h2, _⟩⟩ := h
      · exact List.eq_nil_of_length_eq_zero h2
      · cases h2
    subst hL
    refine (Try.slices_Sort_int_none none 0 w).mono ?_
    rintro e w' ⟨rfl, rfl⟩
    exact ⟨rfl, by rw [show srt [] = [] by simp [srt]]; exact h, ⟨rfl, rfl, rfl, Nat.le_refl _, fun _ _ _ => rfl⟩⟩
  · have hz : L.length = L.length := rfl
    obtain ⟨g, cap, rfl, hb, hg, hn, hc, _, hh⟩ := Lib.holds_of_ownsRow (enc := eI) (zs := L) h hv
    refine (Try.slices_Sort_int g 0 cap L w hh hg (by omega)).mono ?_
    rintro e w' ⟨rfl, q, os, rfl⟩
    refine ⟨rfl, own_grow ?_ os, grown_put os⟩
    have := Lib.ownsRow_putRow (enc := eI) (q := q) (zs := L) (ys := srt L) (k := L.length) h (srt_len L) (Nat.le_refl _)
    unfold Own
    rw [srt_len]
    rw [show (srt L).take L.length = srt L by rw [← srt_len L, List.take_length]] at this
    exact this
theorem compact_own (L : List Int) (v : Value) (B : Nat) (w : World) (h : Own eI 3 B w v L) (hl : L.length ≤ 1000000) :
    Calls Try.prog 41 #[v] w fun e w' => ∃ v', e = .returned v' ∧ Own eI 3 B w' v' (Lib.compact L) ∧ v'.ownBlock = v.ownBlock ∧ w.grownBy w' v.ownBlock := by
  by_cases hv : v = .slice none 0 0
  · subst hv
    have hL : L = [] := by
      obtain ⟨h1, ⟨_, h2⟩ | ⟨g, cap, cur, h2, _⟩⟩ := h
      · exact List.eq_nil_of_length_eq_zero h2
      · cases h2
    subst hL
    refine (Try.slices_Compact_int_empty none 0 w).mono ?_
    rintro e w' ⟨rfl, rfl⟩
    exact ⟨_, rfl, h, rfl, ⟨rfl, rfl, rfl, Nat.le_refl _, fun _ _ _ => rfl⟩⟩
  · obtain ⟨g, cap, rfl, hb, hg, hn, hc, _, hh⟩ := Lib.holds_of_ownsRow (enc := eI) (zs := L) h hv
    refine (Try.slices_Compact_int g 0 cap L w hh (by omega) hn).mono ?_
    rintro e w' ⟨rfl, q, rfl⟩
    refine ⟨_, rfl, ?_, rfl, ?_⟩
    · have := Lib.ownsRow_putRow (enc := eI) (q := q) (zs := L) (ys := Lib.compact L ++ List.replicate (L.length - (Lib.compact L).length) 0) (k := (Lib.compact L).length) h (by rw [List.length_append, List.length_replicate]; have := compact_le L; omega) (compact_le L)
      rw [List.take_left'] at this
      · exact this
      · rfl
    · have := grown_put (enc := eI) (w := w) (g := g) (q := q) (d := (Lib.compact L ++ List.replicate (L.length - (Lib.compact L).length) 0).toArray) #[]
      rw [Sort.grow_empty] at this
      exact this

/-! ### A table of own lists -/
def eS (v : Value) : Value := v
structure Tb (B : Nat) (w : World) (g n : Nat) (xs : List Value) (X : List (List Int)) : Prop where
  own : w.ownsRow B 29 1 (.slice (some ⟨g, 0, none⟩) n n) n xs
  len : xs.length = n
  lenX : X.length = n
  row : ∀ (k : Nat) (l : List Int), X[k]? = some l → ∃ v, xs[k]? = some v ∧ Own eI 3 B w v l
  gap : ∀ (k : Nat) (v : Value), xs[k]? = some v → v.ownBlock ≠ some g
  apt : ∀ (i j : Nat) (u v : Value), i ≠ j → xs[i]? = some u → xs[j]? = some v → ∀ b, u.ownBlock = some b → v.ownBlock ≠ some b
theorem Tb.lt {B : Nat} {w : World} {g n : Nat} {xs : List Value} {X : List (List Int)} (h : Tb B w g n xs X) : B ≤ g ∧ g < w.heap.size := World.ownsRow.lt h.own g rfl
theorem Tb.cell {B : Nat} {w : World} {g n : Nat} {xs : List Value} {X : List (List Int)} (h : Tb B w g n xs X) {k : Nat} {v : Value} (hk : xs[k]? = some v) : w.cell? ⟨g, k, none⟩ = some v := by
  have hkl := lt_of_get hk
  rw [World.ownsRow.cellAt h.own k (by have := h.len; omega)]; exact hk
theorem Tb.warm {B : Nat} {w : World} {g n : Nat} {xs : List Value} {X : List (List Int)} (h : Tb B w g n xs X) (k : Nat) : w.frozen? ⟨g, k, none⟩ = false := World.ownsRow.frozenAt h.own k
theorem row_keep {B : Nat} {e : TypeId} {w w' : World} {v : Value} {n : Nat} {xs : List Value} (h : w.ownsRow B e 1 v n xs) (hk : ∀ k, v.ownBlock = some k → w'.heap[k]? = w.heap[k]?) : w'.ownsRow B e 1 v n xs := by
  obtain ⟨h1, h0 | ⟨g, cap, cur, rfl, h2, h3, h4⟩⟩ := h
  · exact ⟨h1, Or.inl h0⟩
  · exact ⟨h1, Or.inr ⟨g, cap, cur, rfl, h2, (hk g rfl).trans h3, h4⟩⟩
theorem Tb.on {B : Nat} {w w' : World} {g n : Nat} {xs : List Value} {X : List (List Int)} (h : Tb B w g n xs X) (hb : Below w.heap.size w w') : Tb B w' g n xs X :=
  ⟨row_keep h.own fun k hk => hb.block k (World.ownsRow.lt h.own k hk).2, h.len, h.lenX, fun k l hl => by obtain ⟨v, h1, h2⟩ := h.row k l hl; exact ⟨v, h1, h2.on hb⟩, h.gap, h.apt⟩
/-- List number k is changed by a call or an append: the others stay. -/
theorem Tb.turn {B : Nat} {w w' : World} {g n : Nat} {xs : List Value} {X : List (List Int)} (h : Tb B w g n xs X) {k : Nat} {v v' : Value} {l : List Int} (hk : xs[k]? = some v)
    (hg : w.grownBy w' v.ownBlock) (ho : Own eI 3 B w' v' l) (hat : ∀ b, v'.ownBlock = some b → v.ownBlock = some b ∨ w.heap.size ≤ b) : Tb B (w'.setCell ⟨g, k, none⟩ v') g n (xs.set k v') (X.set k l) := by
  have hkl : k < xs.length := lt_of_get hk
  have hgl := h.lt.2
  have hgk : w'.heap[g]? = w.heap[g]? := hg.block g hgl fun e => h.gap k v hk e.symm
  have hfar : ∀ j u, j ≠ k → xs[j]? = some u → ∀ b, v'.ownBlock = some b → u.ownBlock ≠ some b := by
    intro j u hj hu b hb e
    rcases hat b hb with h1 | h1
    · exact h.apt k j v u (Ne.symm hj) hk hu b h1 e
    · have hjl : j < X.length := by have := lt_of_get hu; have := h.len; have := h.lenX; omega
      obtain ⟨u', hu', ho'⟩ := h.row j _ (List.getElem?_eq_getElem hjl)
      rw [hu] at hu'; cases hu'
      have := (ho'.lt b e).2
      omega
  have hvg : v'.ownBlock ≠ some g := fun e => by
    rcases hat g e with h1 | h1
    · exact h.gap k v hk h1
    · omega
  have e0 : (Own eI 3 B w' v' l) := ho
  refine ⟨?_, by rw [List.length_set]; exact h.len, by rw [List.length_set]; exact h.lenX, fun j m hj => ?_, fun j u hu => ?_, fun i j u u' hij hu hu' b hb => ?_⟩
  · have h1 : w'.ownsRow B 29 1 (.slice (some ⟨g, 0, none⟩) n n) n xs := row_keep h.own fun b hb => by
      have : g = b := by simpa [Value.ownBlock] using hb
      subst this; exact hgk
    exact (World.ownsRow.stored h1 k v').1
  · by_cases e : j = k
    · subst e
      have hjX : j < X.length := by have := h.len; have := h.lenX; omega
      rw [List.getElem?_set, if_pos rfl, if_pos hjX] at hj
      cases hj
      exact ⟨v', by rw [List.getElem?_set, if_pos rfl, if_pos hkl], ho.other hvg v'⟩
    · rw [get_other e] at hj
      obtain ⟨u, hu, hu2⟩ := h.row j m hj
      refine ⟨u, by rw [get_other e]; exact hu, ((hu2.keep fun b hb => hg.block b (hu2.lt b hb).2 fun e2 => ?_).other (h.gap j u hu) v')⟩
      exact h.apt j k u v e hu hk b hb e2.symm
  · rcases set_get hu with ⟨rfl, rfl⟩ | ⟨_, hu⟩
    · exact hvg
    · exact h.gap j u hu
  · rcases set_get hu with ⟨rfl, rfl⟩ | ⟨h1, hu1⟩
    · rcases set_get hu' with ⟨rfl, _⟩ | ⟨h2, hu'⟩
      · exact absurd rfl hij
      · exact hfar j u' h2 hu' b hb
    · rcases set_get hu' with ⟨rfl, rfl⟩ | ⟨h2, hu2⟩
      · intro e; exact hfar i u h1 hu1 b e hb
      · exact h.apt i j u u' hij hu1 hu2 b hb
/-- The same without a store: the list lies where it lay. -/
theorem Tb.still {B : Nat} {w w' : World} {g n : Nat} {xs : List Value} {X : List (List Int)} (h : Tb B w g n xs X) {k : Nat} {v : Value} {l : List Int} (hk : xs[k]? = some v)
    (hg : w.grownBy w' v.ownBlock) (ho : Own eI 3 B w' v l) : Tb B w' g n xs (X.set k l) := by
  refine ⟨row_keep h.own fun b hb => ?_, h.len, by rw [List.length_set]; exact h.lenX, fun j m hj => ?_, h.gap, h.apt⟩
  · have : g = b := by simpa [Value.ownBlock] using hb
    subst this; exact hg.block g h.lt.2 fun e => h.gap k v hk e.symm
  · by_cases e : j = k
    · subst e
      have hjX : j < X.length := by have := h.len; have := h.lenX; have := lt_of_get hk; omega
      rw [List.getElem?_set, if_pos rfl, if_pos hjX] at hj
      cases hj
      exact ⟨v, hk, ho⟩
    · rw [get_other e] at hj
      obtain ⟨u, hu, hu2⟩ := h.row j m hj
      exact ⟨u, hu, hu2.keep fun b hb => hg.block b (hu2.lt b hb).2 fun e2 => h.apt j k u v e hu hk b hb e2.symm⟩
theorem Tb.below {B : Nat} {w w' : World} {g n : Nat} {xs : List Value} {X : List (List Int)} (h : Tb B w g n xs X) {k : Nat} {v : Value} (hk : xs[k]? = some v) (hg : w.grownBy w' v.ownBlock) (hB : B ≤ w.heap.size) : Below B w w' := by
  have hjX : k < X.length := by have := h.len; have := h.lenX; have := lt_of_get hk; omega
  obtain ⟨u, hu, hu2⟩ := h.row k _ (List.getElem?_eq_getElem hjX)
  rw [hk] at hu; cases hu
  exact hu2.below hg hB
theorem Tb.start (W : World) (n : Nat) (hn : n ≤ 100000) : Tb W.heap.size (W.alloc (.cells (madeCells #[.slice none 0 0] n) 29)) W.heap.size n (List.replicate n (.slice none 0 0)) (List.replicate n []) := by
  have h := own_made eS 29 W n (.slice none 0 0) hn
  refine ⟨?_, by simp, by simp, fun k l hl => ?_, fun k v hv => ?_, fun i j u v _ hu _ b hb => ?_⟩
  · unfold Own at h
    rw [List.length_replicate, List.map_replicate] at h
    exact h
  · rw [List.getElem?_replicate] at hl
    split at hl
    · rename_i hk
      cases hl
      exact ⟨.slice none 0 0, by rw [List.getElem?_replicate, if_pos hk], Own.nil _ _ _ _⟩
    · cases hl
  · rw [List.getElem?_replicate] at hv
    split at hv
    · cases hv; intro e; cases e
    · cases hv
  · rw [List.getElem?_replicate] at hu
    split at hu
    · cases hu; cases hb
    · cases hu
/-- Cells that may be set. -/
def Wm (w : World) (A : Option Addr) : Prop := ∀ b off, A = some ⟨b, off, none⟩ → b < w.heap.size ∧ ∀ j, w.frozen? ⟨b, j, none⟩ = false
theorem Wm.on {w w' : World} {A : Option Addr} (h : Wm w A) (hb : Below w.heap.size w w') : Wm w' A := by
  intro b off e
  obtain ⟨h1, h2⟩ := h b off e
  exact ⟨Nat.lt_of_lt_of_le h1 hb.size, fun j => (hb.frozen (p := ⟨b, j, none⟩) h1).trans (h2 j)⟩
theorem Own.wm {α : Type} {enc : α → Value} {t : TypeId} {B : Nat} {w : World} {A : Option Addr} {n c : Nat} {L : List α} (h : Own enc t B w (.slice A n c) L) : Wm w A := by
  intro b off e
  subst e
  have hl := (h.lt b rfl).2
  obtain ⟨h1, ⟨h0, _⟩ | ⟨g, cap, cur, h2, h3, h4, _⟩⟩ := h
  · cases h0
  · cases h2
    exact ⟨hl, fun j => frozen_of h4 j⟩
/-- Lists of nodes that are there. -/
def Hd (w : World) (A : Option Addr) (H : List (List Int)) : Prop :=
  ∀ (k : Nat) (l : List Int), H[k]? = some l → ∃ b off, A = some ⟨b, off, none⟩ ∧ b < w.heap.size ∧ ∃ A' c', w.cell? ⟨b, off + k, none⟩ = some (.slice A' l.length c') ∧ l.length ≤ c' ∧ (c' ≤ maxLen ∧ Wm w A') ∧ Cl eI w A' l
theorem Hd.on {w w' : World} {A : Option Addr} {H : List (List Int)} (h : Hd w A H) (hb : Below w.heap.size w w') : Hd w' A H := by
  intro k l hk
  obtain ⟨b, off, e, hlt, A', c', h1, h2, h3, h4⟩ := h k l hk
  exact ⟨b, off, e, Nat.lt_of_lt_of_le hlt hb.size, A', c', (hb.cell (p := ⟨b, off + k, none⟩) hlt).trans h1, h2, ⟨h3.1, h3.2.on hb⟩, h4.on hb⟩
theorem Tb.hd {B : Nat} {w : World} {g n : Nat} {xs : List Value} {X : List (List Int)} (h : Tb B w g n xs X) : Hd w (some ⟨g, 0, none⟩) X := by
  intro k l hk
  obtain ⟨v, hv, ho⟩ := h.row k l hk
  obtain ⟨A', c', rfl, h1, h2, h3⟩ := ho.inS
  exact ⟨g, 0, rfl, h.lt.2, A', c', by rw [Nat.zero_add]; exact h.cell hv, h1, ⟨h2, ho.wm⟩, h3⟩
#print axioms Tb.turn
#print axioms nub_is
#print axioms sort_own
#print axioms compact_own
end Go.Proofs.Ytlbknnafecdakaa.Graph
