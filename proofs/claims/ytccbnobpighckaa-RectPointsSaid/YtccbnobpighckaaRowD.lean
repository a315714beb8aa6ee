/- append to a slice without room, whatever the elements. -/
import Derived.Test.YtccbnobpighckaaRowC
import Derived.ArgAppend
namespace Go.Proofs.Ytccbnobpighckaa.Rw
open Go.ChangeShapes Go.WideShapes Go.RowKit Go.Lib
set_option linter.unusedVariables false
set_option maxRecDepth 100000

theorem none_below {B : Nat} {w w' : World} (hg : w.grownBy w' none) (hB : B ≤ w.heap.size) : Below B w w' :=
  ⟨hg.os, hg.tape, hg.output, hg.size, fun i hi => hg.block i (Nat.lt_of_lt_of_le hi hB) (by simp)⟩
theorem run_append_zero {P : Program} {w : World} (t ty e : TypeId) (i : TypeInfo) (A B : Option Addr) (n c d : Nat) (ht : P.underlying t = some (.slice e)) (hi : P.info? e = some i) (hn : n ≤ d) (h0 : A = none → n = 0 ∧ d = 0) :
    (Builtin.append_ #[t, t] ty #[.slice A n d, .slice B 0 c]).run P w = .ok (.slice A n d) w := by
  cases A with
  | none =>
    obtain ⟨rfl, rfl⟩ := h0 rfl
    cases B <;> simp [Builtin.append_, run_underlying ht, sizeOf, typeInfo, hi, Builtin.lenOf, Builtin.firstCells, loadCells, loadCellsFrom]
  | some ad =>
    cases B <;> simp [Builtin.append_, run_underlying ht, sizeOf, typeInfo, hi, Builtin.lenOf, Builtin.firstCells, hn, storeCells, loadCells, loadCellsFrom]
section
variable {α : Type} {cs : α → List Value} {s : Nat} {T t : TypeId} {w : World} {L M : List α}
/-- 'append(s[:len(s):len(s)], x...)' in a plain region. -/
theorem append_full (K : Kd cs s T t) {ops : Array Oper} {rest : List Oper} {o : Oper} {a : Act} {Q : Exit → Act → World → Prop} (hgd : o.guard = none) (x y : Operand)
    (ho : o.op = .call { callee := .builtin .append, args := #[x, y], argTypes := #[T, T] })
    (A : Option Addr) (n : Nat) (L : List α) (hs : a.eval x = .slice A n n) (hn : n = L.length) (hr : Rd cs s w A L) (B : Option Addr) (m c : Nat) (M : List α) (hx : a.eval y = .slice B m c) (hm : m = M.length) (hz : Rd cs s w B M) (hlen : n + m ≤ 1000000)
    (h : ∀ A' n' c' w', n' = n + m → n' ≤ c' → Rd cs s w' A' (L ++ M) → Below w.heap.size w w' → wpList Try.prog ops Q rest (a.put o.dst (.slice A' n' c')) w') :
    wpList Try.prog ops Q (o :: rest) a w := by
  obtain ⟨i, zv, by_, hi, hzv, hsz, hby, hzc, hb1⟩ := K.info
  have hA0 : A = none → n = 0 ∧ n = 0 := by
    rintro rfl
    have := hr.none_
    subst this
    exact ⟨hn, hn⟩
  subst hn
  by_cases hM : M = []
  · subst hM
    have hm0 : m = 0 := hm
    subst hm0
    refine wpList_plain hgd fun K' hK => ?_
    have hrun := run_append_zero (P := Try.prog) (w := w) T o.type t i A B L.length c L.length K.und hi (Nat.le_refl _) hA0
    unfold Oper.wp execOp
    simp only [ho, resolve, invoke, builtin, Sem.run_bind, Sem.run_pure, Result.andThen_ok, List.map_toArray, List.map_cons, List.map_nil, hs, hx, hrun]
    exact hK _ _ (h A _ L.length w rfl (Nat.le_refl _) (by rw [List.append_nil]; exact hr) (Below.refl _ _))
  · subst hm
    cases B with
    | none => exact absurd hz.none_ hM
    | some ad =>
      have hpos : 0 < M.length := List.length_pos_iff.mpr hM
      have hbb : (L.length + M.length) * by_ ≤ 140737488355328 := Nat.le_trans (Nat.mul_le_mul hlen hb1) (by decide)
      refine wpList_append_grows w hgd x y T ho t i zv s by_ K.und hi hzv hsz hby hzc K.pos A L.length L.length (L.flatMap cs) hs hA0 (flat_len K.len L) ?_ ad M.length c (M.flatMap cs) hx (flat_len K.len M) (rd_flat K.len K.pos hz) (fun u hu => by obtain ⟨z, hz, hu⟩ := List.mem_flatMap.mp hu; exact K.one z u hu) (by omega) (by unfold maxLen; omega) hbb ?_
      · rintro b rfl
        exact rd_flat K.len K.pos hr
      · intro v' w' hown hg
        have hrow : Row cs s t w.heap.size w' v' (L ++ M) := by unfold Row; rw [List.length_append, List.flatMap_append]; exact hown
        obtain ⟨A', c', rfl, hle, -, hrd, -, -⟩ := hrow.one K.len
        exact h A' _ c' w' (by rw [List.length_append]) hle hrd (none_below hg (Nat.le_refl _))
end
#print axioms append_full
end Go.Proofs.Ytccbnobpighckaa.Rw
