/- Rows of integers; slices.Sort and slices.Compact at a row of the call's own. -/
import Derived.Test.YtccbnobpighckaaRowC
import Derived.Test.YtccbnobpighckaaShelf
import Derived.Lib.OwnBridge
namespace Go.Proofs.Ytccbnobpighckaa.Rw
open Go.ChangeShapes Go.WideShapes Go.RowKit Go.Lib
set_option linter.unusedVariables false
set_option maxRecDepth 100000

/-! ### Sorted lists without repetition (pure) -/
def AscI (l : List Int) : Prop := l.Pairwise (· < ·)
theorem compact_uptoI {d : Array Int} (hs : ∀ i j : Nat, i ≤ j → j < d.size → d[i]! ≤ d[j]!) : ∀ m, m ≤ d.size →
    AscI (Lib.compactUpTo d m) ∧ (∀ x, x ∈ Lib.compactUpTo d m ↔ ∃ j, j < m ∧ d[j]! = x) := by
  intro m
  induction m with
  | zero => intro _; exact ⟨List.Pairwise.nil, fun x => ⟨fun h => by simp [Lib.compactUpTo] at h, fun ⟨j, h, _⟩ => by omega⟩⟩
  | succ m ih =>
    intro hm
    obtain ⟨h1, h2⟩ := ih (by omega)
    rw [Lib.compactUpTo_succ]
    cases hk : Lib.keeps d m with
    | true =>
      simp only [if_true]
      refine ⟨List.pairwise_append.mpr ⟨h1, List.pairwise_singleton _ _, fun x hx y hy => ?_⟩, fun x => ?_⟩
      · rw [List.mem_singleton] at hy
        subst hy
        obtain ⟨j, hj, rfl⟩ := (h2 x).mp hx
        have hne : d[m]! ≠ d[m - 1]! := by
          intro e
          rw [Lib.keeps_neg (by omega) e] at hk; cases hk
        have a1 := hs j (m - 1) (by omega) (by omega)
        have a2 := hs (m - 1) m (by omega) (by omega)
        omega
      · rw [List.mem_append, List.mem_singleton, h2]
        constructor
        · rintro (⟨j, hj, e⟩ | rfl)
          · exact ⟨j, by omega, e⟩
          · exact ⟨m, by omega, rfl⟩
        · rintro ⟨j, hj, e⟩
          rcases Nat.lt_or_eq_of_le (Nat.le_of_lt_succ hj) with h | rfl
          · exact Or.inl ⟨j, h, e⟩
          · exact Or.inr e.symm
    | false =>
      simp only [Bool.false_eq_true, if_false, List.append_nil]
      refine ⟨h1, fun x => ?_⟩
      rw [h2]
      have hmm : 0 < m ∧ d[m]! = d[m - 1]! := by
        unfold Lib.keeps at hk
        have := of_decide_eq_false hk
        constructor
        · rcases Nat.eq_zero_or_pos m with h | h
          · exact absurd (Or.inl h) this
          · exact h
        · rcases Decidable.em (d[m]! = d[m - 1]!) with h | h
          · exact h
          · exact absurd (Or.inr h) this
      constructor
      · rintro ⟨j, hj, e⟩
        exact ⟨j, by omega, e⟩
      · rintro ⟨j, hj, e⟩
        rcases Nat.lt_or_eq_of_le (Nat.le_of_lt_succ hj) with h | rfl
        · exact ⟨j, h, e⟩
        · exact ⟨j - 1, by omega, by rw [← hmm.2]; exact e⟩
/-- What slices.Sort and slices.Compact make of a list. -/
def srtI (l : List Int) : List Int := l.mergeSort fun x y => decide (x ≤ y)
theorem srtI_len (l : List Int) : (srtI l).length = l.length := by unfold srtI; exact List.length_mergeSort l
theorem srtI_mem {l : List Int} {x : Int} : x ∈ srtI l ↔ x ∈ l := by unfold srtI; exact List.mem_mergeSort
theorem srtI_le (l : List Int) : (srtI l).Pairwise (· ≤ ·) := by
  have := List.pairwise_mergeSort (le := fun x y : Int => decide (x ≤ y)) (by intro a b c; simp only [decide_eq_true_eq]; omega) (by intro a b; simp only [Bool.or_eq_true, decide_eq_true_eq]; omega) l
  unfold srtI
  exact this.imp fun h => by simpa using h
def nubI (l : List Int) : List Int := Lib.compact (srtI l)
theorem nubI_is (l : List Int) : AscI (nubI l) ∧ ∀ x, x ∈ nubI l ↔ x ∈ l := by
  have hs : ∀ i j : Nat, i ≤ j → j < (srtI l).toArray.size → (srtI l).toArray[i]! ≤ (srtI l).toArray[j]! := by
    intro i j hij hj
    have hj' : j < (srtI l).length := by simpa using hj
    rw [getElem!_pos _ i (by simp; omega), getElem!_pos _ j (by simpa using hj)]
    simp only [List.getElem_toArray]
    rcases Nat.lt_or_eq_of_le hij with h | rfl
    · exact List.pairwise_iff_getElem.mp (srtI_le l) i j (by omega) hj' h
    · exact Int.le_refl _
  have := compact_uptoI hs (srtI l).length (by simp)
  unfold nubI Lib.compact
  refine ⟨this.1, fun x => ?_⟩
  rw [this.2, ← srtI_mem (l := l), List.mem_iff_getElem]
  constructor
  · rintro ⟨j, hj, e⟩
    rw [getElem!_pos _ j (by simpa using hj)] at e
    exact ⟨j, hj, by simpa using e⟩
  · rintro ⟨j, hj, e⟩
    refine ⟨j, hj, ?_⟩
    rw [getElem!_pos _ j (by simpa using hj)]
    simpa using e
theorem compact_leI (l : List Int) : (Lib.compact l).length ≤ l.length := by
  unfold Lib.compact Lib.compactUpTo
  rw [List.length_map]
  exact Nat.le_trans (List.length_filter_le _ _) (by simp)

/-! ### Rows of integers -/
abbrev cI (x : Int) : List Value := [.int .i64 x]
def eI (x : Int) : Value := .int .i64 x
theorem cI_len (x : Int) : (cI x).length = 1 := rfl
theorem info_i : (Try.prog.info? 3).map (fun i => (i.zero, i.size, i.bytes)) = some (some (.int .i64 0), 1, 8) := by kernel_rfl
theorem info_partsI {P : Program} {t : TypeId} {z : Value} {s y : Nat} (h : (P.info? t).map (fun i => (i.zero, i.size, i.bytes)) = some (some z, s, y)) : ∃ i, P.info? t = some i ∧ i.zero = some z ∧ i.size = s ∧ i.bytes = y := by
  cases hi : P.info? t with
  | none => rw [hi] at h; cases h
  | some i =>
    rw [hi] at h
    have h2 := Option.some.inj h
    exact ⟨i, rfl, congrArg (·.1) h2, congrArg (·.2.1) h2, congrArg (·.2.2) h2⟩
theorem kdI : Kd cI 1 54 3 := by
  obtain ⟨i, h1, h2, h3, h4⟩ := info_partsI info_i
  exact ⟨Try.underlying54, ⟨i, _, _, h1, h2, h3, rfl, rfl, by rw [h4]; decide⟩, cI_len, by decide, fun z u hu => by
    simp at hu
    subst hu; rfl⟩
theorem flat_cI (L : List Int) : L.flatMap cI = L.map eI := by
  induction L with
  | nil => rfl
  | cons x L ih => rw [List.flatMap_cons, ih]; rfl
theorem grown_putI {α : Type} [Inhabited α] {enc : α → Value} {w : World} {g q : Nat} {d : Array α} (os : Array Obj) : w.grownBy (Sort.grow (Sort.putRow enc (Sort.ahead w q) g 0 d) os) (some g) := by
  refine ⟨rfl, rfl, rfl, by simp [Sort.ahead], fun k hk hne => ?_⟩
  rw [Sort.heap_grow_old _ _ (by simpa [Sort.ahead] using hk)]
  have : ¬ g = k := fun e => hne (by rw [e])
  simp [Sort.putRow, Sort.mapBlock, Sort.ahead, Array.getElem?_modify, this]
theorem row_nilI {B : Nat} {w : World} {L : List Int} (h : Row cI 1 3 B w (.slice none 0 0) L) : L = [] := by
  obtain ⟨A, c, e, _⟩ := h.one cI_len
  have := (Value.slice.inj e).2.1
  exact List.eq_nil_of_length_eq_zero this.symm
theorem row_sort (L : List Int) (v : Value) (B : Nat) (w : World) (h : Row cI 1 3 B w v L) (hl : L.length ≤ 1000000) :
    Calls Try.prog 57 #[v] w fun e w' => e = .returned (.tuple #[]) ∧ Row cI 1 3 B w' v (srtI L) ∧ w.grownBy w' v.ownBlock := by
  by_cases hv : v = .slice none 0 0
  · subst hv
    obtain rfl := row_nilI h
    refine (Try.slices_Sort_int_none none 0 w).mono ?_
    rintro e w' ⟨rfl, rfl⟩
    exact ⟨rfl, by rw [show srtI [] = [] by simp [srtI]]; exact h, ⟨rfl, rfl, rfl, Nat.le_refl _, fun _ _ _ => rfl⟩⟩
  · have h2 : w.ownsRow B 3 1 v L.length (L.map eI) := by rw [← flat_cI]; exact h
    obtain ⟨g, cap, rfl, hb, hg, hn, hc, _, hh⟩ := Lib.holds_of_ownsRow (enc := eI) (zs := L) h2 hv
    refine (Try.slices_Sort_int g 0 cap L w hh hg (by omega)).mono ?_
    rintro e w' ⟨rfl, q, os, rfl⟩
    have h3 := Lib.ownsRow_putRow (enc := eI) (q := q) (zs := L) (ys := srtI L) (k := L.length) h2 (srtI_len L) (Nat.le_refl _)
    rw [show (srtI L).take L.length = srtI L by rw [← srtI_len L, List.take_length]] at h3
    have h4 : Row cI 1 3 B (Sort.putRow eI (Sort.ahead w q) g 0 (srtI L).toArray) (.slice (some ⟨g, 0, none⟩) L.length cap) (srtI L) := by
      unfold Row
      rw [srtI_len, flat_cI]; exact h3
    exact ⟨rfl, h4.keep fun k hk => Sort.heap_grow_old _ _ (h4.lt k hk).2, grown_putI os⟩
theorem row_compact (L : List Int) (v : Value) (B : Nat) (w : World) (h : Row cI 1 3 B w v L) (hl : L.length ≤ 1000000) :
    Calls Try.prog 58 #[v] w fun e w' => ∃ v', e = .returned v' ∧ Row cI 1 3 B w' v' (Lib.compact L) ∧ v'.ownBlock = v.ownBlock ∧ w.grownBy w' v.ownBlock := by
  by_cases hv : v = .slice none 0 0
  · subst hv
    obtain rfl := row_nilI h
    refine (Try.slices_Compact_int_empty none 0 w).mono ?_
    rintro e w' ⟨rfl, rfl⟩
    exact ⟨_, rfl, h, rfl, ⟨rfl, rfl, rfl, Nat.le_refl _, fun _ _ _ => rfl⟩⟩
  · have h2 : w.ownsRow B 3 1 v L.length (L.map eI) := by rw [← flat_cI]; exact h
    obtain ⟨g, cap, rfl, hb, hg, hn, hc, _, hh⟩ := Lib.holds_of_ownsRow (enc := eI) (zs := L) h2 hv
    refine (Try.slices_Compact_int g 0 cap L w hh (by omega) hn).mono ?_
    rintro e w' ⟨rfl, q, rfl⟩
    refine ⟨_, rfl, ?_, rfl, ?_⟩
    · have h3 := Lib.ownsRow_putRow (enc := eI) (q := q) (zs := L) (ys := Lib.compact L ++ List.replicate (L.length - (Lib.compact L).length) 0) (k := (Lib.compact L).length) h2 (by rw [List.length_append, List.length_replicate]; have := compact_leI L; omega) (compact_leI L)
      rw [List.take_left' rfl] at h3
      unfold Row
      rw [flat_cI]; exact h3
    · have := grown_putI (enc := eI) (w := w) (g := g) (q := q) (d := (Lib.compact L ++ List.replicate (L.length - (Lib.compact L).length) 0).toArray) #[]
      rw [Sort.grow_empty] at this
      exact this
/-- The elements of a literal. -/
theorem rd_lit {α : Type} {cs : α → List Value} {s : Nat} (hc : ∀ z, (cs z).length = s) {w : World} {g : Nat} {ty : TypeId} {L : List α} (h : w.heap[g]? = some (.cells (L.flatMap cs).toArray ty (0, 0))) : Rd cs s w (some ⟨g, 0, none⟩) L := by
  intro k z hz
  refine ⟨g, 0, rfl, (Array.getElem?_eq_some_iff.mp h).1, fun j u hu => ?_⟩
  rw [cell_of_row _ _ _ _ _ _ h, Nat.zero_add]
  have := flat_at hc hz hu
  simpa using this
#print axioms row_sort
#print axioms row_compact
#print axioms nubI_is
end Go.Proofs.Ytccbnobpighckaa.Rw
