/- The parts of a span; lists of spans in memory. -/
import Derived.Test.YtngjdclcnocmfaaDoorClockF
import Derived.Laws.StructEq
import Derived.Laws.AppendOwnNone
import Derived.Deep.AppendLies
namespace Go.Proofs.YtngjdclcnocmfaaDoor.Clock
open Go.ChangeShapes Go.WideShapes Go.RowKit Go.Lib
set_option linter.unusedVariables false
set_option maxRecDepth 100000

abbrev Sp := Int × Int
/-- Where part k of the span a to b begins. -/
def cur (a b : Int) (k : Nat) : Int := if k = 0 then a else min b ((a / 28800 + k) * 28800)
def partsL (a b : Int) (n : Nat) : List Sp := (List.range n).map fun k => (cur a b k, cur a b (k + 1))
def prtN (a b : Int) : Nat := if a < b then ((b - 1) / 28800 - a / 28800 + 1).toNat else 0
theorem partsL_succ (a b : Int) (n : Nat) : partsL a b (n + 1) = partsL a b n ++ [(cur a b n, cur a b (n + 1))] := by simp [partsL, List.range_succ]
theorem partsL_length (a b : Int) (n : Nat) : (partsL a b n).length = n := by simp [partsL]
theorem partsL_at {a b : Int} {n k : Nat} (h : k < n) : (partsL a b n)[k]? = some (cur a b k, cur a b (k + 1)) := by
  simp [partsL, List.getElem?_map, List.getElem?_range h]
theorem cur_zero (a b : Int) : cur a b 0 = a := rfl
theorem cur_lt {a b : Int} (h0 : 0 ≤ a) (h1 : a ≤ b) (k : Nat) : cur a b k < b ↔ k < prtN a b := by
  unfold cur prtN
  by_cases hk : k = 0
  · subst hk
    rw [if_pos rfl]
    by_cases hab : a < b
    · rw [if_pos hab]; omega
    · rw [if_neg hab]; omega
  · rw [if_neg hk]
    by_cases hab : a < b
    · rw [if_pos hab]; omega
    · rw [if_neg hab]; omega
theorem cur_bd {a b : Int} (h0 : 0 ≤ a) (h1 : a ≤ b) (k : Nat) : a ≤ cur a b k ∧ cur a b k ≤ b := by
  unfold cur
  by_cases hk : k = 0
  · rw [if_pos hk]; omega
  · rw [if_neg hk]; omega
theorem cur_next {a b : Int} (h0 : 0 ≤ a) (h1 : a ≤ b) {k : Nat} (h : cur a b k < b) : min b ((cur a b k / 28800 + 1) * 28800) = cur a b (k + 1) := by
  unfold cur at h ⊢
  by_cases hk : k = 0
  · subst hk
    rw [if_pos rfl] at h
    simp
  · rw [if_neg hk] at h ⊢
    rw [if_neg (by omega)]
    have e : (a / 28800 + (k : Int)) * 28800 < b := by omega
    have e2 : min b ((a / 28800 + (k : Int)) * 28800) = (a / 28800 + (k : Int)) * 28800 := by omega
    rw [e2]
    have e3 : (a / 28800 + (k : Int)) * 28800 / 28800 = a / 28800 + (k : Int) := by omega
    rw [e3]
    congr 1
    omega
theorem cur_end {a b : Int} (h0 : 0 ≤ a) (h1 : a ≤ b) : cur a b (prtN a b) = b := by
  have h := cur_lt h0 h1 (prtN a b)
  have h2 := cur_bd h0 h1 (prtN a b)
  have : ¬ cur a b (prtN a b) < b := fun k => absurd (h.mp k) (by omega)
  omega
/-- Each part is within one shift. -/
theorem cur_shift {a b : Int} (h0 : 0 ≤ a) (h1 : a ≤ b) {k : Nat} (h : cur a b k < b) : cur a b k < cur a b (k + 1) ∧ (cur a b (k + 1) - 1) / 28800 = cur a b k / 28800 := by
  have e := cur_next h0 h1 h
  have e2 := cur_bd h0 h1 k
  rw [← e]
  omega
def prtE (a b : Int) : Int := if wit a b = true then (if prtN a b ≤ 256 then 0 else 8) else 1
def prtL (a b : Int) : List Sp := if prtE a b = 0 then partsL a b (prtN a b) else []
theorem prtE_range {a b : Int} (h : wit a b = false) : prtE a b = 1 := if_neg (by rw [h]; decide)
theorem prtE_full {a b : Int} (h : wit a b = true) (hn : 256 < prtN a b) : prtE a b = 8 := by rw [prtE, if_pos h, if_neg (by omega)]
theorem prtE_ok {a b : Int} (h : wit a b = true) (hn : prtN a b ≤ 256) : prtE a b = 0 := by rw [prtE, if_pos h, if_pos hn]
theorem prtL_no {a b : Int} (h : ¬ prtE a b = 0) : prtL a b = [] := if_neg h
theorem prtL_ok {a b : Int} (h : prtE a b = 0) : prtL a b = partsL a b (prtN a b) := if_pos h
theorem prtE_zero {a b : Int} (h : prtE a b = 0) : wit a b = true ∧ prtN a b ≤ 256 := by
  unfold prtE at h
  split at h
  · rename_i hw
    split at h
    · rename_i hn; exact ⟨hw, hn⟩
    · cases h
  · cases h
theorem prtL_length (a b : Int) : (prtL a b).length ≤ 256 := by
  by_cases h : prtE a b = 0
  · rw [prtL_ok h, partsL_length]; exact (prtE_zero h).2
  · rw [prtL_no h]; decide

/-- At the address lie the spans L. -/
def Sps (w : World) (A : Option Addr) (L : List Sp) : Prop :=
  ∀ (k : Nat) (s : Sp), L[k]? = some s → ∃ b off, A = some ⟨b, off, none⟩ ∧ b < w.heap.size ∧
    w.cell? ⟨b, off + k * 2, none⟩ = some (.int .i64 s.1) ∧ w.cell? ⟨b, off + k * 2 + 1, none⟩ = some (.int .i64 s.2)
/-- A slice that holds the spans L. -/
def InL (w : World) (v : Value) (L : List Sp) : Prop := ∃ A c, v = .slice A L.length c ∧ L.length ≤ c ∧ c ≤ maxLen ∧ Sps w A L
theorem Sps.nil (w : World) (A : Option Addr) : Sps w A [] := fun k s h => by simp at h
theorem Sps.on {w w' : World} {A : Option Addr} {L : List Sp} (h : Sps w A L) (hb : Below w.heap.size w w') : Sps w' A L := by
  intro k s hk
  obtain ⟨b, off, e, hlt, h0, h1⟩ := h k s hk
  exact ⟨b, off, e, Nat.lt_of_lt_of_le hlt hb.size, (hb.cell (p := ⟨b, off + k * 2, none⟩) hlt).trans h0, (hb.cell (p := ⟨b, off + k * 2 + 1, none⟩) hlt).trans h1⟩
theorem InL.on {w w' : World} {v : Value} {L : List Sp} (h : InL w v L) (hb : Below w.heap.size w w') : InL w' v L := by
  obtain ⟨A, c, e, h1, h2, h3⟩ := h; exact ⟨A, c, e, h1, h2, h3.on hb⟩
theorem InL.nil (w : World) : InL w (.slice none 0 0) [] := ⟨none, 0, rfl, Nat.le_refl _, by unfold maxLen; omega, Sps.nil _ _⟩
theorem InL.open_ {w : World} {v : Value} {L : List Sp} (h : InL w v L) : ∃ A c, v = .slice A L.length c ∧ L.length ≤ 9223372036854775807 ∧ Sps w A L ∧ InL w (.slice A L.length c) L := by
  obtain ⟨A, c, rfl, h1, h2, h3⟩ := h
  exact ⟨A, c, rfl, by unfold maxLen at h2; omega, h3, A, c, rfl, h1, h2, h3⟩
def encS (s : Sp) : List Value := [.int .i64 s.1, .int .i64 s.2]
theorem info_span : (Tryd.prog.info? 36).map (fun i => (i.zero, i.size, i.bytes)) = some (some (.agg #[.int .i64 0, .int .i64 0]), 2, 16) := by kernel_rfl
/-- The cells of a list of spans. -/
def cellsS (L : List Sp) : List Value := L.flatMap encS
theorem cellsS_snoc (L : List Sp) (s : Sp) : cellsS (L ++ [s]) = cellsS L ++ [.int .i64 s.1, .int .i64 s.2] := by simp [cellsS, encS]
theorem cellsS_length (L : List Sp) : (cellsS L).length = L.length * 2 := by
  induction L with
  | nil => rfl
  | cons s L ih => simp only [cellsS, List.flatMap_cons, List.length_append, List.length_cons] at ih ⊢; rw [ih]; simp [encS]; omega
theorem cellsS_at {L : List Sp} {k : Nat} {s : Sp} (h : L[k]? = some s) : (cellsS L)[k * 2]? = some (.int .i64 s.1) ∧ (cellsS L)[k * 2 + 1]? = some (.int .i64 s.2) := by
  induction L generalizing k with
  | nil => simp at h
  | cons t L ih =>
    have e : cellsS (t :: L) = .int .i64 t.1 :: .int .i64 t.2 :: cellsS L := rfl
    rw [e]
    cases k with
    | zero => simp at h; subst h; exact ⟨rfl, rfl⟩
    | succ k =>
      have := ih (k := k) (by simpa using h)
      rw [show (k + 1) * 2 = k * 2 + 1 + 1 by omega]
      simpa using this
/-- A slice of the call's own that holds the spans L. -/
def Own (w : World) (base : Nat) (v : Value) (L : List Sp) : Prop := w.ownsRow base 36 2 v L.length (cellsS L)
theorem Own.nil (w : World) (base : Nat) : Own w base (.slice none 0 0) [] := World.ownsRow_nil _ _ _ _
theorem Own.inL {w : World} {base : Nat} {v : Value} {L : List Sp} (h : Own w base v L) : InL w v L := by
  obtain ⟨h1, ⟨rfl, h2⟩ | ⟨g, cap, cur, rfl, h2, h3, h4, h5, h6, h7⟩⟩ := h
  · obtain rfl : L = [] := List.eq_nil_of_length_eq_zero h2
    exact InL.nil w
  · have key : ∀ j u, (cellsS L)[j]? = some u → w.cell? ⟨g, j, none⟩ = some u := fun j u hu => by
      rw [cell_of_row w g j cur _ (0, 0) h3]
      rw [← h7, List.getElem?_take] at hu
      split at hu
      · simpa using hu
      · cases hu
    refine ⟨_, cap, rfl, h4, h5, fun k s hs => ⟨g, 0, rfl, ?_, ?_, ?_⟩⟩
    · exact (Array.getElem?_eq_some_iff.mp h3).1
    · rw [Nat.zero_add]; exact key _ _ (cellsS_at hs).1
    · rw [Nat.zero_add]; exact key _ _ (cellsS_at hs).2
theorem Own.ge {w : World} {base : Nat} {v : Value} {L : List Sp} (h : Own w base v L) : ∀ k, v.ownBlock = some k → base ≤ k := by
  obtain ⟨h1, ⟨rfl, h2⟩ | ⟨g, cap, cur, rfl, h2, _⟩⟩ := h
  · intro k hk; cases hk
  · intro k hk; obtain rfl : g = k := by simpa [Value.ownBlock] using hk
    exact h2
theorem Own.keep {w w' : World} {base : Nat} {v : Value} {L : List Sp} (h : Own w base v L) (hk : ∀ k, base ≤ k → k < w.heap.size → w'.heap[k]? = w.heap[k]?) : Own w' base v L := by
  obtain ⟨h1, h0 | ⟨g, cap, cur, rfl, h2, h3, h4⟩⟩ := h
  · exact ⟨h1, Or.inl h0⟩
  · exact ⟨h1, Or.inr ⟨g, cap, cur, rfl, h2, (hk g h2 (Array.getElem?_eq_some_iff.mp h3).1).trans h3, h4⟩⟩
theorem Own.alloc {w : World} {base : Nat} {v : Value} {L : List Sp} (h : Own w base v L) (o : Obj) : Own (w.alloc o) base v L := World.ownsRow.alloc h o
/-- A store into a block below leaves it alone. -/
theorem Own.set {w : World} {base : Nat} {v : Value} {L : List Sp} (h : Own w base v L) {p : Addr} (hp : p.block < base) (u : Value) : Own (w.setCell p u) base v L :=
  h.keep fun k hk _ => Below.heap_setCell w p u k (by omega)
theorem Own.shape {w : World} {base : Nat} {v : Value} {L : List Sp} (h : Own w base v L) : ∃ A cap, v = .slice A L.length cap := by
  obtain ⟨h1, ⟨rfl, h2⟩ | ⟨g, cap, cur, rfl, _⟩⟩ := h
  · exact ⟨none, 0, by rw [h2]⟩
  · exact ⟨_, cap, rfl⟩
theorem one_cells {x y : Int} : ∀ u ∈ ([.int .i64 x, .int .i64 y] : List Value), u.oneCell' = true := by
  intro u hu
  simp only [List.mem_cons, List.not_mem_nil, or_false] at hu
  rcases hu with rfl | rfl <;> rfl
/-- What Parts returns. -/
def PrtRes (a b : Int) (w : World) (e : Ending) (w' : World) : Prop := ∃ v, e = .returned (.tuple #[v, .int .i64 (prtE a b)]) ∧ InL w' v (prtL a b) ∧ Below w.heap.size w w'
theorem PrtRes.err {a b : Int} {w w' : World} {n : Int} (h : prtE a b = n) (hn : ¬ n = 0) (hb : Below w.heap.size w w') : PrtRes a b w (.returned (.tuple #[.slice none 0 0, .int .i64 n])) w' :=
  ⟨_, by rw [h], by rw [prtL_no (by rw [h]; exact hn)]; exact InL.nil _, hb⟩
#print axioms cur_shift
#print axioms Own.inL
end Go.Proofs.YtngjdclcnocmfaaDoor.Clock
