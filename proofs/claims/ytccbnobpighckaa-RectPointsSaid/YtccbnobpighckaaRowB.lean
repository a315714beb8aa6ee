/- append to a row of the call's own: one law, whatever the elements. -/
import Derived.Test.YtccbnobpighckaaRowA
namespace Go.Proofs.Ytccbnobpighckaa.Rw
open Go.ChangeShapes Go.WideShapes Go.RowKit Go.Lib
set_option linter.unusedVariables false
set_option maxRecDepth 100000

/-- What the dump says of a kind of elements: T the slice's type, t the element's. -/
structure Kd {α : Type} (cs : α → List Value) (s : Nat) (T t : TypeId) : Prop where
  und : Try.prog.underlying T = some (.slice t)
  info : ∃ i z by_, Try.prog.info? t = some i ∧ i.zero = some z ∧ i.size = s ∧ i.bytes = by_ ∧ z.cells.size = s ∧ by_ ≤ 1000
  len : ∀ z, (cs z).length = s
  pos : 0 < s
  one : ∀ z, ∀ u ∈ cs z, u.oneCell' = true

theorem run_append_none {P : Program} {w : World} (base : Nat) (t ty e : TypeId) (i : TypeInfo) (size c : Nat) (ht : P.underlying t = some (.slice e)) (hi : P.info? e = some i)
    (v : Value) (n : Nat) (xs : List Value) (hown : w.ownsRow base e size v n xs) :
    (Builtin.append_ #[t, t] ty #[v, .slice none 0 c]).run P w = .ok v w := by
  rcases hown.2 with ⟨rfl, rfl⟩ | ⟨g, cap, cur, rfl, _, _, hnc, _⟩
  · simp [Builtin.append_, run_underlying ht, sizeOf, typeInfo, hi, Builtin.lenOf, Builtin.firstCells]
  · simp [Builtin.append_, run_underlying ht, sizeOf, typeInfo, hi, Builtin.lenOf, Builtin.firstCells, hnc, storeCells]
theorem run_equalIn_fn_nil {P : Program} (W : World) (d : Nat) (t : TypeId) (x y z) (h : P.underlying t = some (.func x y z)) (fn : Fn) (a cap : Array Value) : (Op.equalIn (d + 1) t (.func fn a cap) .nilFunc).run P W = .ok false W := by
  simp [Op.equalIn, run_underlying h]
theorem run_eql_fn_nil {P : Program} (W : World) (t : TypeId) (x y z) (h : P.underlying t = some (.func x y z)) (fn : Fn) (a cap : Array Value) : (binOp .eql t (.func fn a cap) .nilFunc).run P W = .ok (.bool false) W := by
  simp only [binOp]
  simp [Op.equal, Op.maxDepth, run_equalIn_fn_nil W 9999 t x y z h]
theorem run_equalIn_nil_nil {P : Program} (W : World) (d : Nat) (t : TypeId) (x y z) (h : P.underlying t = some (.func x y z)) : (Op.equalIn (d + 1) t .nilFunc .nilFunc).run P W = .ok true W := by
  simp [Op.equalIn, run_underlying h]
theorem run_eql_fnil_fnil {P : Program} (W : World) (t : TypeId) (x y z) (h : P.underlying t = some (.func x y z)) : (binOp .eql t .nilFunc .nilFunc).run P W = .ok (.bool true) W := by
  simp only [binOp]
  simp [Op.equal, Op.maxDepth, run_equalIn_nil_nil W 9999 t x y z h]
section
variable {α : Type} {cs : α → List Value} {s : Nat} {T t : TypeId} {B : Nat} {w w' : World} {v : Value} {L M : List α} {A : Option Addr}
theorem rd_flat (hc : ∀ z, (cs z).length = s) (h0 : 0 < s) {ad : Addr} (h : Rd cs s w (some ad) M) : ∀ j u, (M.flatMap cs)[j]? = some u → w.cell? (ad.add j) = some u := by
  intro j u hj
  have hjl := glt hj
  rw [flat_len hc] at hjl
  have hk : j / s < M.length := by rw [Nat.div_lt_iff_lt_mul h0]; exact hjl
  obtain ⟨z, hz⟩ := get_lt hk
  obtain ⟨b, off, e, _, hcell⟩ := h _ _ hz
  cases e
  have hr : j % s < (cs z).length := by rw [hc]; exact Nat.mod_lt _ h0
  obtain ⟨u', hu'⟩ := get_lt hr
  have hf := flat_at hc hz hu'
  have hjj : j / s * s + j % s = j := by rw [Nat.mul_comm]; exact Nat.div_add_mod j s
  rw [hjj, hj] at hf
  obtain rfl := Option.some.inj hf
  have := hcell _ _ hu'
  rw [hjj] at this
  rw [Addr.add_lit]; exact this
theorem run_append_rows (K : Kd cs s T t) (hown : Row cs s t B w v L) (m c : Nat) (hm : m = M.length) (hz : Rd cs s w A M) (hlen : L.length + m ≤ 1000000) (hB : B ≤ w.heap.size) (ty : TypeId) :
    ∃ v' w', (Builtin.append_ #[T, T] ty #[v, .slice A m c]).run Try.prog w = .ok v' w' ∧ Row cs s t B w' v' (L ++ M) ∧ w.grownBy w' v.ownBlock ∧ (v'.ownBlock = v.ownBlock ∨ v'.ownBlock = some w.heap.size) := by
  obtain ⟨i, zv, by_, hi, hzv, hs, hby, hzc, hb1⟩ := K.info
  subst hm
  cases A with
  | none =>
    obtain rfl := hz.none_
    exact ⟨v, w, run_append_none B T ty t i s c K.und hi v L.length _ hown, by rw [List.append_nil]; exact hown, World.grownBy.refl _ _, Or.inl rfl⟩
  | some ad =>
    have hbb : (L.length + M.length) * by_ ≤ 140737488355328 := Nat.le_trans (Nat.mul_le_mul hlen hb1) (by decide)
    obtain ⟨v', w', hr, h1, h2, _, h3⟩ := run_append_own_at (P := Try.prog) w B T ty t i zv s by_ K.und hi hzv hs hby hzc K.pos v L.length _ hown ad M.length c (M.flatMap cs) (flat_len K.len M) (rd_flat K.len K.pos hz)
      (fun u hu => by obtain ⟨z, hz, hu⟩ := List.mem_flatMap.mp hu; exact K.one z u hu) (by unfold maxLen; omega) hbb hB
    exact ⟨v', w', hr, by unfold Row; rw [List.length_append, List.flatMap_append]; exact h1, h2, h3⟩
/-- 'append(s, x...)' in a plain region. -/
theorem append_rows (K : Kd cs s T t) {ops : Array Oper} {rest : List Oper} {o : Oper} {a : Act} {Q : Exit → Act → World → Prop} (hgd : o.guard = none) (x y : Operand)
    (ho : o.op = .call { callee := .builtin .append, args := #[x, y], argTypes := #[T, T] })
    (v : Value) (L : List α) (hs : a.eval x = v) (hown : Row cs s t B w v L) (A : Option Addr) (m c : Nat) (M : List α) (hm : m = M.length) (hx : a.eval y = .slice A m c) (hz : Rd cs s w A M) (hlen : L.length + m ≤ 1000000) (hB : B ≤ w.heap.size)
    (h : ∀ A' n' c' w', n' = L.length + m → Row cs s t B w' (.slice A' n' c') (L ++ M) → w.grownBy w' v.ownBlock → ((Value.slice A' n' c').ownBlock = v.ownBlock ∨ (Value.slice A' n' c').ownBlock = some w.heap.size) → wpList Try.prog ops Q rest (a.put o.dst (.slice A' n' c')) w') :
    wpList Try.prog ops Q (o :: rest) a w := by
  obtain ⟨v', w', hr, h1, h2, h3⟩ := run_append_rows K hown m c hm hz hlen hB o.type
  obtain ⟨A', c', rfl, -⟩ := h1.one K.len
  refine wpList_plain hgd fun K' hK => ?_
  unfold Oper.wp execOp
  simp only [ho, resolve, invoke, builtin, Sem.run_bind, Sem.run_pure, Result.andThen_ok, List.map_toArray, List.map_cons, List.map_nil, hs, hx, hr]
  exact hK _ _ (h A' _ c' w' (by rw [List.length_append, hm]) h1 h2 h3)
/-- 'append(s, x...)' at a step of a region that draws its order; w0: the world ahead of the region, in which the row lies. -/
theorem step_rows (K : Kd cs s T t) (w0 : World) {ops : Array Oper} {o : Oper} {a : Act} {K' : Act → World → Prop} {Q : Exit → Act → World → Prop} {E : Prop} (hgd : o.guard = none) (x y : Operand)
    (ho : o.op = .call { callee := .builtin .append, args := #[x, y], argTypes := #[T, T] })
    (v : Value) (L : List α) (hs : a.eval x = v) (hown : Row cs s t B w0 v L) (hbm : Below w0.heap.size w0 w) (A : Option Addr) (m c : Nat) (M : List α) (hm : m = M.length) (hx : a.eval y = .slice A m c) (hz : Rd cs s w A M) (hlen : L.length + m ≤ 1000000) (hB : B ≤ w0.heap.size)
    (h : ∀ A' n' c' w', n' = L.length + m → Row cs s t B w' (.slice A' n' c') (L ++ M) → (∀ b, b < w.heap.size → v.ownBlock ≠ some b → w'.heap[b]? = w.heap[b]?) → w0.grownBy w' v.ownBlock → ((Value.slice A' n' c').ownBlock = v.ownBlock ∨ ∃ b, (Value.slice A' n' c').ownBlock = some b ∧ w0.heap.size ≤ b) → K' (a.put o.dst (.slice A' n' c')) w') :
    if Region.wanted o (yielded ops a.tmps) = true then Oper.wp Try.prog o a w K' Q else E := by
  have hw : Region.wanted o (yielded ops a.tmps) = true := by simp [Region.wanted, hgd]
  rw [if_pos hw]
  obtain ⟨v', w', hr, h1, h2, h3⟩ := run_append_rows K (hown.on hbm) m c hm hz hlen (Nat.le_trans hB hbm.size) o.type
  obtain ⟨A', c', rfl, -⟩ := h1.one K.len
  unfold Oper.wp execOp
  simp only [ho, resolve, invoke, builtin, Sem.run_bind, Sem.run_pure, Result.andThen_ok, List.map_toArray, List.map_cons, List.map_nil, hs, hx, hr]
  refine h A' _ c' w' (by rw [List.length_append, hm]) h1 (fun b hb hv => h2.block b hb fun e => hv e.symm) ⟨h2.os.trans hbm.os, h2.tape.trans hbm.tape, h2.output.trans hbm.output, Nat.le_trans hbm.size h2.size, fun b hb hv => (h2.block b (Nat.lt_of_lt_of_le hb hbm.size) hv).trans (hbm.block b hb)⟩ (h3.imp_right fun h => ⟨_, h, hbm.size⟩)
/-- One element that lies in a block of its own. -/
theorem rd_one (hc : ∀ z, (cs z).length = s) {g : Nat} {z : α} {ty : TypeId} (h : w.heap[g]? = some (.cells (cs z).toArray ty (0, 0))) : Rd cs s w (some ⟨g, 0, none⟩) [z] := by
  intro k y hk
  match k, hk with
  | 0, hk =>
    simp at hk; subst hk
    refine ⟨g, 0, rfl, (Array.getElem?_eq_some_iff.mp h).1, fun j u hu => ?_⟩
    rw [cell_of_row _ _ _ _ _ _ h]
    simpa using hu
end
#print axioms append_rows
#print axioms step_rows
end Go.Proofs.Ytccbnobpighckaa.Rw
