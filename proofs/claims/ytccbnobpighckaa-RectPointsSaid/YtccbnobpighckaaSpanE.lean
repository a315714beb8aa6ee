/- Contracts of Same of the reference, of span.appended. -/
import Derived.Test.YtccbnobpighckaaSpanD
import Derived.Laws.StructEq
import Derived.Laws.AppendOwnNone
import Derived.Deep.AppendLies
namespace Go.Proofs.Ytccbnobpighckaa.Span
open Go.ChangeShapes Go.WideShapes Go.RowKit Go.Lib
set_option linter.unusedVariables false
set_option maxRecDepth 100000

theorem eql_span (x y : Sp) (w : World) : (binOp .eql 52 (.agg #[.int .i64 x.1, .int .i64 x.2]) (.agg #[.int .i64 y.1, .int .i64 y.2])).run Try.prog w = .ok (.bool (decide (x.1 = y.1) && decide (x.2 = y.2))) w := by
  have u3 := Try.underlying3
  have a3 := Try.isAgg3
  have z3 := Try.sizeOf3
  have hS : Try.prog.underlying 52 = some (.struct (Try.prog.fieldsOf 52)) := by kernel_rfl
  have hp : Try.prog.stoodInHeld 52 = false := by kernel_rfl
  rw [run_eql_struct, show (10000 : Nat) = 9999 + 1 from rfl, run_equalIn_agg w 9999 52 _ _ hS hp]
  simp only [Program.fieldsOf, Try.underlying52]
  go_simp
  by_cases h1 : x.1 = y.1 <;> by_cases h2 : x.2 = y.2 <;> simp [h1, h2]
theorem neq_span (x y : Sp) (w : World) : (binOp .neq 52 (.agg #[.int .i64 x.1, .int .i64 x.2]) (.agg #[.int .i64 y.1, .int .i64 y.2])).run Try.prog w = .ok (.bool !(decide (x.1 = y.1) && decide (x.2 = y.2))) w := by
  have u3 := Try.underlying3
  have a3 := Try.isAgg3
  have z3 := Try.sizeOf3
  have hS : Try.prog.underlying 52 = some (.struct (Try.prog.fieldsOf 52)) := by kernel_rfl
  have hp : Try.prog.stoodInHeld 52 = false := by kernel_rfl
  rw [run_neq_struct, show (10000 : Nat) = 9999 + 1 from rfl, run_equalIn_agg w 9999 52 _ _ hS hp]
  simp only [Program.fieldsOf, Try.underlying52]
  go_simp
  by_cases h1 : x.1 = y.1 <;> by_cases h2 : x.2 = y.2 <;> simp [h1, h2]

theorem info_span : (Try.prog.info? 52).map (fun i => (i.zero, i.size, i.bytes)) = some (some (.agg #[.int .i64 0, .int .i64 0]), 2, 16) := by kernel_rfl
/-- The cells of a list of spans. -/
def cellsS (L : List Sp) : List Value := L.flatMap encS
theorem cellsS_snoc (L : List Sp) (s : Sp) : cellsS (L ++ [s]) = cellsS L ++ [.int .i64 s.1, .int .i64 s.2] := by simp [cellsS, encS]
theorem cellsS_length (L : List Sp) : (cellsS L).length = L.length * 2 := by
  induction L with
  | nil => rfl
  | cons s L ih => simp only [cellsS, List.flatMap_cons, List.length_append, List.length_cons] at ih ⊢; rw [ih]; simp [encS]; omega
theorem cellsS_at {L : List Sp} {k : Nat} {s : Sp} (h : L[k]? = some s) : (cellsS L)[k * 2]? = some (.int .i64 s.1) ∧ (cellsS L)[k * 2 + 1]? = some (.int .i64 s.2) := by
  induction L generalizing k with
  | nil => simp at h
  | cons t L ih =>
    have e : cellsS (t :: L) = .int .i64 t.1 :: .int .i64 t.2 :: cellsS L := rfl
    rw [e]
    cases k with
    | zero => simp at h; subst h; exact ⟨rfl, rfl⟩
    | succ k =>
      have := ih (k := k) (by simpa using h)
      rw [show (k + 1) * 2 = k * 2 + 1 + 1 by omega]
      simpa using this
/-- A slice of the call's own that holds the spans L. -/
def Own (w : World) (base : Nat) (v : Value) (L : List Sp) : Prop := w.ownsRow base 52 2 v L.length (cellsS L)
theorem Own.nil (w : World) (base : Nat) : Own w base (.slice none 0 0) [] := World.ownsRow_nil _ _ _ _
theorem Own.inL {w : World} {base : Nat} {v : Value} {L : List Sp} (h : Own w base v L) : InL w v L := by
  obtain ⟨h1, ⟨rfl, h2⟩ | ⟨g, cap, cur, rfl, h2, h3, h4, h5, h6, h7⟩⟩ := h
  · obtain rfl : L = [] := List.eq_nil_of_length_eq_zero h2
    exact InL.nil w
  · have key : ∀ j u, (cellsS L)[j]? = some u → w.cell? ⟨g, j, none⟩ = some u := fun j u hu => by
      rw [cell_of_row w g j cur _ (0, 0) h3]
      rw [← h7, List.getElem?_take] at hu
      split at hu
      · simpa using hu
      · cases hu
    refine ⟨_, cap, rfl, h4, h5, fun k s hs => ⟨g, 0, rfl, ?_, ?_, ?_⟩⟩
    · exact (Array.getElem?_eq_some_iff.mp h3).1
    · rw [Nat.zero_add]; exact key _ _ (cellsS_at hs).1
    · rw [Nat.zero_add]; exact key _ _ (cellsS_at hs).2
theorem Own.ge {w : World} {base : Nat} {v : Value} {L : List Sp} (h : Own w base v L) : ∀ k, v.ownBlock = some k → base ≤ k := by
  obtain ⟨h1, ⟨rfl, h2⟩ | ⟨g, cap, cur, rfl, h2, _⟩⟩ := h
  · intro k hk; cases hk
  · intro k hk; obtain rfl : g = k := by simpa [Value.ownBlock] using hk
    exact h2
theorem Own.keep {w w' : World} {base : Nat} {v : Value} {L : List Sp} (h : Own w base v L) (hk : ∀ k, base ≤ k → k < w.heap.size → w'.heap[k]? = w.heap[k]?) : Own w' base v L := by
  obtain ⟨h1, h0 | ⟨g, cap, cur, rfl, h2, h3, h4⟩⟩ := h
  · exact ⟨h1, Or.inl h0⟩
  · exact ⟨h1, Or.inr ⟨g, cap, cur, rfl, h2, (hk g h2 (Array.getElem?_eq_some_iff.mp h3).1).trans h3, h4⟩⟩
theorem Own.alloc {w : World} {base : Nat} {v : Value} {L : List Sp} (h : Own w base v L) (o : Obj) : Own (w.alloc o) base v L := World.ownsRow.alloc h o
/-- A store into a block below leaves it alone. -/
theorem Own.set {w : World} {base : Nat} {v : Value} {L : List Sp} (h : Own w base v L) {p : Addr} (hp : p.block < base) (u : Value) : Own (w.setCell p u) base v L :=
  h.keep fun k hk _ => Below.heap_setCell w p u k (by omega)
theorem grown_step {a b c : World} {row : Option Nat} (h : a.grownBy b row) (k : b.grownBy c row) : a.grownBy c row :=
  ⟨k.os.trans h.os, k.tape.trans h.tape, k.output.trans h.output, Nat.le_trans h.size k.size, fun i hi hn => (k.block i (Nat.lt_of_lt_of_le hi h.size) hn).trans (h.block i hi hn)⟩
theorem one_cells {x y : Int} : ∀ u ∈ ([.int .i64 x, .int .i64 y] : List Value), u.oneCell' = true := by
  intro u hu
  simp only [List.mem_cons, List.not_mem_nil, or_false] at hu
  rcases hu with rfl | rfl <;> rfl

set_option maxHeartbeats 800000 in
theorem span_appended (L : List Sp) (s : Sp) (v : Value) (base : Nat) (w : World) (ho : Own w base v L) (hb : base ≤ w.heap.size) (hl : L.length ≤ 1000000) :
    Calls Try.prog 105 #[v, .agg #[.int .i64 s.1, .int .i64 s.2]] w fun e w' => ∃ v', e = .returned v' ∧ Own w' base v' (L ++ pend s) ∧ w.grownBy w' v.ownBlock := by
  have HO := Lib.hid ho
  clear ho
  have hq := eql_span s (0, 0)
  by_cases hs : s = (0, 0)
  · have hq2 : (decide (s.1 = (0, 0).1) && decide (s.2 = (0, 0).2)) = true := by simp [hs]
    rw [hq2] at hq
    have HP : Hid (Own w base v (L ++ pend s)) := by rw [hs, pend_zero, List.append_nil]; exact HO.out
    clear hq2 hs
    go_enter Try.func105, Try.ntmps105
    go_wp2_with fail
    go_ret
    exact ⟨_, rfl, HP.out.alloc _, World.grownBy_alloc _ _ _⟩
  · have hq2 : (decide (s.1 = (0 : Int)) && decide (s.2 = (0 : Int))) = false := by
      rw [Bool.and_eq_false_iff]
      rcases Decidable.em (s.1 = 0) with g | g
      · exact Or.inr (decide_eq_false fun h => hs (Prod.ext g h))
      · exact Or.inl (decide_eq_false g)
    rw [hq2] at hq
    have HP := Lib.hid (pend_some hs)
    obtain ⟨i0, hi, hz0, hz1, hz2⟩ := info_parts info_span
    clear hq2 hs
    go_enter Try.func105, Try.ntmps105
    go_wp2_with (at_builtin; refine wpList_append_own _ rfl _ _ 39 rfl base 52 i0 _ 2 16 Try.underlying39 hi hz0 hz1 hz2 rfl (by decide) v L.length (cellsS L) rfl ((HO.out.alloc _).alloc _) ⟨w.heap.size + 1, 0, none⟩ 1 1 [.int .i64 s.1, .int .i64 s.2] rfl rfl ?c1 ?c2 ?c3 ?c4 ?c5 ?_)
    case c2 => exact ⟨rfl, rfl⟩
    case c3 => unfold maxLen; omega
    case c4 => omega
    case c5 => omega
    intro v' w1 hown' hgrow _
    have HN := Lib.hid hown'
    have HG := Lib.hid hgrow
    clear hown' hgrow
    go_wp2_with fail
    go_ret
    refine ⟨v', rfl, ?_, grown_step (grown_step (World.grownBy_alloc _ _ _) (World.grownBy_alloc _ _ _)) HG.out⟩
    rw [HP.out]
    unfold Own
    rw [List.length_append, cellsS_snoc]
    exact HN.out
#print axioms span_appended
end Go.Proofs.Ytccbnobpighckaa.Span
