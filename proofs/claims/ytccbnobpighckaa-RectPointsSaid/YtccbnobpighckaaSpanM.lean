/- Slices of integers; contract of with of the reference. -/
import Derived.Test.YtccbnobpighckaaSpanL
namespace Go.Proofs.Ytccbnobpighckaa.Span
open Go.ChangeShapes Go.WideShapes Go.RowKit Go.Lib Go.Proofs
set_option linter.unusedVariables false
set_option maxRecDepth 100000

theorem info_int : (Try.prog.info? 3).map (fun i => (i.zero, i.size, i.bytes)) = some (some (.int .i64 0), 1, 8) := by kernel_rfl
/-- At the address lie the integers zs. -/
def Its (w : World) (A : Option Addr) (zs : List Int) : Prop :=
  ∀ (k : Nat) (z : Int), zs[k]? = some z → ∃ b off, A = some ⟨b, off, none⟩ ∧ b < w.heap.size ∧ w.cell? ⟨b, off + k, none⟩ = some (.int .i64 z)
def InI (w : World) (v : Value) (zs : List Int) : Prop := ∃ A c, v = .slice A zs.length c ∧ zs.length ≤ c ∧ c ≤ maxLen ∧ Its w A zs
theorem Its.nil (w : World) (A : Option Addr) : Its w A [] := fun k z h => by simp at h
theorem Its.on {w w' : World} {A : Option Addr} {zs : List Int} (h : Its w A zs) (hb : Below w.heap.size w w') : Its w' A zs := by
  intro k z hk
  obtain ⟨b, off, e, hlt, h0⟩ := h k z hk
  exact ⟨b, off, e, Nat.lt_of_lt_of_le hlt hb.size, (hb.cell (p := ⟨b, off + k, none⟩) hlt).trans h0⟩
theorem InI.on {w w' : World} {v : Value} {zs : List Int} (h : InI w v zs) (hb : Below w.heap.size w w') : InI w' v zs := by
  obtain ⟨A, c, e, h1, h2, h3⟩ := h; exact ⟨A, c, e, h1, h2, h3.on hb⟩
theorem InI.nil (w : World) : InI w (.slice none 0 0) [] := ⟨none, 0, rfl, Nat.le_refl _, by unfold maxLen; omega, Its.nil _ _⟩
theorem InI.open_ {w : World} {v : Value} {zs : List Int} (h : InI w v zs) : ∃ A c, v = .slice A zs.length c ∧ zs.length ≤ c ∧ c ≤ maxLen ∧ Its w A zs ∧ InI w (.slice A zs.length c) zs := by
  obtain ⟨A, c, rfl, h1, h2, h3⟩ := h
  exact ⟨A, c, rfl, h1, h2, h3, A, c, rfl, h1, h2, h3⟩
def OwnI (w : World) (base : Nat) (v : Value) (zs : List Int) : Prop := w.ownsRow base 3 1 v zs.length (zs.map (Value.int .i64))
theorem OwnI.inI {w : World} {base : Nat} {v : Value} {zs : List Int} (h : OwnI w base v zs) : InI w v zs := by
  obtain ⟨h1, ⟨rfl, h2⟩ | ⟨g, cap, cur, rfl, h2, h3, h4, h5, h6, h7⟩⟩ := h
  · obtain rfl : zs = [] := List.eq_nil_of_length_eq_zero h2
    exact InI.nil w
  · refine ⟨_, cap, rfl, h4, h5, fun k z hz => ⟨g, 0, rfl, (Array.getElem?_eq_some_iff.mp h3).1, ?_⟩⟩
    rw [cell_of_row w g _ cur _ (0, 0) h3, Nat.zero_add]
    have hu : (cur.toList.take (zs.length * 1))[k]? = some (.int .i64 z) := by rw [h7, List.getElem?_map, hz]; rfl
    rw [List.getElem?_take] at hu
    split at hu
    · simpa using hu
    · cases hu
theorem OwnI.ge {w : World} {base : Nat} {v : Value} {zs : List Int} (h : OwnI w base v zs) : ∀ k, v.ownBlock = some k → base ≤ k := by
  obtain ⟨h1, ⟨rfl, h2⟩ | ⟨g, cap, cur, rfl, h2, _⟩⟩ := h
  · intro k hk; cases hk
  · intro k hk; obtain rfl : g = k := by simpa [Value.ownBlock] using hk
    exact h2
theorem OwnI.alloc {w : World} {base : Nat} {v : Value} {zs : List Int} (h : OwnI w base v zs) (o : Obj) : OwnI (w.alloc o) base v zs := World.ownsRow.alloc h o
theorem own_empty (w : World) : OwnI (w.alloc (.cells #[] 3)) w.heap.size (.slice (some ⟨w.heap.size, 0, none⟩) 0 0) [] :=
  World.ownsRow_lit (base := w.heap.size) (e := 3) (size := 1) w #[] 0 (Nat.le_refl _) (by unfold maxLen; omega) rfl

theorem run_append_empty {P : Program} {w : World} (base : Nat) (t ty e : TypeId) (i : TypeInfo) (size c : Nat) (ht : P.underlying t = some (.slice e)) (hi : P.info? e = some i)
    (v : Value) (n : Nat) (xs : List Value) (hown : w.ownsRow base e size v n xs) :
    (Builtin.append_ #[t, t] ty #[v, .slice none 0 c]).run P w = .ok v w := by
  rcases hown.2 with ⟨rfl, rfl⟩ | ⟨g, cap, cur, rfl, _, _, hnc, _⟩
  · simp [Builtin.append_, run_underlying ht, sizeOf, typeInfo, hi, Builtin.lenOf, Builtin.firstCells]
  · simp [Builtin.append_, run_underlying ht, sizeOf, typeInfo, hi, Builtin.lenOf, Builtin.firstCells, hnc, storeCells]
theorem wpList_append_empty {P : Program} {w : World} {ops : Array Oper} {rest : List Oper} {o : Oper} {a : Act} {Q : Exit → Act → World → Prop} (hgd : o.guard = none) (s x : Operand) (t : TypeId)
    (ho : o.op = .call { callee := .builtin .append, args := #[s, x], argTypes := #[t, t] })
    (base : Nat) (e : TypeId) (i : TypeInfo) (size c : Nat) (ht : P.underlying t = some (.slice e)) (hi : P.info? e = some i)
    (v : Value) (n : Nat) (xs : List Value) (hs : a.eval s = v) (hown : w.ownsRow base e size v n xs) (hx : a.eval x = .slice none 0 c)
    (h : wpList P ops Q rest (a.put o.dst v) w) : wpList P ops Q (o :: rest) a w := by
  refine wpList_plain hgd fun K hK => ?_
  have hrun := run_append_empty (P := P) (w := w) base t o.type e i size c ht hi v n xs hown
  unfold Oper.wp
  simp [execOp, ho, resolve, invoke, builtin, hs, hx, hrun, Result.andThen]
  exact hK _ _ h
theorem cells_ints {zs : List Int} : ∀ u ∈ zs.map (Value.int .i64), u.oneCell' = true := by
  intro u hu
  obtain ⟨z, _, rfl⟩ := List.mem_map.mp hu
  rfl
/-- 'append(s, x...)', s the call's own, x a slice of integers that is there. -/
theorem append_its {w : World} {ops : Array Oper} {rest : List Oper} {o : Oper} {a : Act} {Q : Exit → Act → World → Prop} (hgd : o.guard = none) (s x : Operand)
    (ho : o.op = .call { callee := .builtin .append, args := #[s, x], argTypes := #[54, 54] })
    (base : Nat) (v : Value) (ds : List Int) (hs : a.eval s = v) (hown : OwnI w base v ds)
    (A : Option Addr) (c : Nat) (zs : List Int) (m : Nat) (hm : m = zs.length) (hx : a.eval x = .slice A m c) (hz : Its w A zs)
    (hlen : ds.length + zs.length ≤ 1000000) (hbase : base ≤ w.heap.size)
    (h : ∀ v' w', OwnI w' base v' (ds ++ zs) → w.grownBy w' v.ownBlock → wpList Try.prog ops Q rest (a.put o.dst v') w') : wpList Try.prog ops Q (o :: rest) a w := by
  subst hm
  obtain ⟨i0, hi0, hz0, hz1, hz2⟩ := info_parts info_int
  cases A with
  | none =>
    have hnil : zs = [] := by
      cases zs with
      | nil => rfl
      | cons z zs => obtain ⟨b, off, hA, _⟩ := hz 0 z rfl; cases hA
    subst hnil
    refine wpList_append_empty hgd s x _ ho base 3 i0 1 c Try.underlying54 hi0 v ds.length _ hs hown hx (h v w (by rw [List.append_nil]; exact hown) ⟨rfl, rfl, rfl, Nat.le_refl _, fun _ _ _ => rfl⟩)
  | some ad =>
    refine wpList_append_own w hgd s x _ ho base 3 i0 (.int .i64 0) 1 8 Try.underlying54 hi0 hz0 hz1 hz2 rfl (by decide) v ds.length _ hs hown ad zs.length c (zs.map (Value.int .i64)) hx (by simp) ?_ cells_ints (by unfold maxLen; omega) (by omega) hbase ?_
    · intro j u hj
      rw [List.getElem?_map] at hj
      cases hzj : zs[j]? with
      | none => rw [hzj] at hj; cases hj
      | some z =>
        rw [hzj] at hj
        obtain ⟨b, off, e, _, hc⟩ := hz j z hzj
        cases e
        rw [Addr.add_lit, hc]; exact hj
    · intro v' w' hown' hg _
      exact h v' w' (by unfold OwnI; rw [List.length_append, List.map_append]; exact hown') hg

theorem slice_to (A : Option Addr) (n c k : Nat) (hk : k ≤ c) (W : World) : (Instr.slice 54 (.slice A n c) none (some (.int .i64 (k : Int))) none).run Try.prog W = .ok (.slice A k c) W := by
  have ht : Try.prog.underlying 54 = some (.slice (Try.prog.elem 54)) := by kernel_rfl
  have hs : (sizeOf (Try.prog.elem 54)).run Try.prog W = .ok 1 W := Try.sizeOf3 W
  rw [run_slice_h W 54 A n c ht .i64 k (by omega) (by omega), hs]
  simp [sliced, Result.andThen]
  intro _
  cases A <;> simp [Addr.add]
theorem Its.take {w : World} {A : Option Addr} {zs : List Int} (h : Its w A zs) (k : Nat) : Its w A (zs.take k) := by
  intro j z hz
  rw [List.getElem?_take] at hz
  split at hz
  · exact h j z hz
  · cases hz
theorem slice_from {w : World} {A : Option Addr} {c : Nat} {zs : List Int} (h : Its w A zs) (hc : zs.length ≤ c) (k : Nat) (hk : k ≤ zs.length) :
    ∃ A' c' m, (zs.drop k).length = m ∧ (∀ W : World, (Instr.slice 54 (.slice A zs.length c) (some (.int .i64 (k : Int))) none none).run Try.prog W = .ok (.slice A' m c') W) ∧ Its w A' (zs.drop k) := by
  have ht : Try.prog.underlying 54 = some (.slice (Try.prog.elem 54)) := by kernel_rfl
  refine ⟨if c = k then A else A.map (·.add (k * 1)), c - k, zs.length - k, List.length_drop, fun W => ?_, fun j z hz => ?_⟩
  · have hs : (sizeOf (Try.prog.elem 54)).run Try.prog W = .ok 1 W := Try.sizeOf3 W
    rw [run_slice_l W 54 A zs.length c ht .i64 k (by omega) (by omega), hs]
    simp [sliced, Result.andThen]
  · rw [List.getElem?_drop] at hz
    obtain ⟨b, off, rfl, hlt, hcell⟩ := h (k + j) z hz
    have := lt_get hz
    rw [if_neg (by omega)]
    refine ⟨b, off + k, by simp [Addr.add_lit], hlt, ?_⟩
    rw [show off + k + j = off + (k + j) by omega]; exact hcell

def WithRes (zs : List Int) (w : World) (e : Ending) (w' : World) : Prop := ∃ v, e = .returned v ∧ InI w' v zs ∧ Below w.heap.size w w'
#print axioms append_its
#print axioms slice_from
end Go.Proofs.Ytccbnobpighckaa.Span
