/- Several texts in one: RowB, RowC, RowD, TankK, TankA, TankW, TankX. -/
import Derived.Test.YtgmlccjjhmhgbaaPk16
import Derived.ArgAppend
import Derived.Test.YtgmlccjjhmhgbaaPk12
import Derived.Test.YtgmlccjjhmhgbaaPk13
import Derived.Test.YtgmlccjjhmhgbaaPk14
/- append to a row of the call's own: one law, whatever the elements. -/
namespace Go.Proofs.Ytgmlccjjhmhgbaa.Rw
open Go.ChangeShapes Go.WideShapes Go.RowKit Go.Lib
set_option linter.unusedVariables false
set_option maxRecDepth 100000

/-- What the dump says of a kind of elements: T the slice's type, t the element's. -/
structure Kd {α : Type} (cs : α → List Value) (s : Nat) (T t : TypeId) : Prop where
  und : Try.prog.underlying T = some (.slice t)
  info : ∃ i z by_, Try.prog.info? t = some i ∧ i.zero = some z ∧ i.size = s ∧ i.bytes = by_ ∧ z.cells.size = s ∧ by_ ≤ 1000
  len : ∀ z, (cs z).length = s
  pos : 0 < s
  one : ∀ z, ∀ u ∈ cs z, u.oneCell' = true

theorem run_append_none {P : Program} {w : World} (base : Nat) (t ty e : TypeId) (i : TypeInfo) (size c : Nat) (ht : P.underlying t = some (.slice e)) (hi : P.info? e = some i)
    (v : Value) (n : Nat) (xs : List Value) (hown : w.ownsRow base e size v n xs) :
    (Builtin.append_ #[t, t] ty #[v, .slice none 0 c]).run P w = .ok v w := by
  rcases hown.2 with ⟨rfl, rfl⟩ | ⟨g, cap, cur, rfl, _, _, hnc, _⟩
  · simp [Builtin.append_, run_underlying ht, sizeOf, typeInfo, hi, Builtin.lenOf, Builtin.firstCells]
  · simp [Builtin.append_, run_underlying ht, sizeOf, typeInfo, hi, Builtin.lenOf, Builtin.firstCells, hnc, storeCells]
theorem run_equalIn_fn_nil {P : Program} (W : World) (d : Nat) (t : TypeId) (x y z) (h : P.underlying t = some (.func x y z)) (fn : Fn) (a cap : Array Value) : (Op.equalIn (d + 1) t (.func fn a cap) .nilFunc).run P W = .ok false W := by
  simp [Op.equalIn, run_underlying h]
theorem run_eql_fn_nil {P : Program} (W : World) (t : TypeId) (x y z) (h : P.underlying t = some (.func x y z)) (fn : Fn) (a cap : Array Value) : (binOp .eql t (.func fn a cap) .nilFunc).run P W = .ok (.bool false) W := by
  simp only [binOp]
  simp [Op.equal, Op.maxDepth, run_equalIn_fn_nil W 9999 t x y z h]
theorem run_equalIn_nil_nil {P : Program} (W : World) (d : Nat) (t : TypeId) (x y z) (h : P.underlying t = some (.func x y z)) : (Op.equalIn (d + 1) t .nilFunc .nilFunc).run P W = .ok true W := by
  simp [Op.equalIn, run_underlying h]
theorem run_eql_fnil_fnil {P : Program} (W : World) (t : TypeId) (x y z) (h : P.underlying t = some (.func x y z)) : (binOp .eql t .nilFunc .nilFunc).run P W = .ok (.bool true) W := by
  simp only [binOp]
  simp [Op.equal, Op.maxDepth, run_equalIn_nil_nil W 9999 t x y z h]
section
variable {α : Type} {cs : α → List Value} {s : Nat} {T t : TypeId} {B : Nat} {w w' : World} {v : Value} {L M : List α} {A : Option Addr}
theorem rd_flat (hc : ∀ z, (cs z).length = s) (h0 : 0 < s) {ad : Addr} (h : Rd cs s w (some ad) M) : ∀ j u, (M.flatMap cs)[j]? = some u → w.cell? (ad.add j) = some u := by
  intro j u hj
  have hjl := glt hj
  rw [flat_len hc] at hjl
  have hk : j / s < M.length := by rw [Nat.div_lt_iff_lt_mul h0]; exact hjl
  obtain ⟨z, hz⟩ := get_lt hk
  obtain ⟨b, off, e, _, hcell⟩ := h _ _ hz
  cases e
  have hr : j % s < (cs z).length := by rw [hc]; exact Nat.mod_lt _ h0
  obtain ⟨u', hu'⟩ := get_lt hr
  have hf := flat_at hc hz hu'
  have hjj : j / s * s + j % s = j := by rw [Nat.mul_comm]; exact Nat.div_add_mod j s
  rw [hjj, hj] at hf
  obtain rfl := Option.some.inj hf
  have := hcell _ _ hu'
  rw [hjj] at this
  rw [Addr.add_lit]; exact this
theorem run_append_rows (K : Kd cs s T t) (hown : Row cs s t B w v L) (m c : Nat) (hm : m = M.length) (hz : Rd cs s w A M) (hlen : L.length + m ≤ 1000000) (hB : B ≤ w.heap.size) (ty : TypeId) :
    ∃ v' w', (Builtin.append_ #[T, T] ty #[v, .slice A m c]).run Try.prog w = .ok v' w' ∧ Row cs s t B w' v' (L ++ M) ∧ w.grownBy w' v.ownBlock ∧ (v'.ownBlock = v.ownBlock ∨ v'.ownBlock = some w.heap.size) := by
  obtain ⟨i, zv, by_, hi, hzv, hs, hby, hzc, hb1⟩ := K.info
  subst hm
  cases A with
  | none =>
    obtain rfl := hz.none_
    exact ⟨v, w, run_append_none B T ty t i s c K.und hi v L.length _ hown, by rw [List.append_nil]; exact hown, World.grownBy.refl _ _, Or.inl rfl⟩
  | some ad =>
    have hbb : (L.length + M.length) * by_ ≤ 140737488355328 := Nat.le_trans (Nat.mul_le_mul hlen hb1) (by decide)
    obtain ⟨v', w', hr, h1, h2, _, h3⟩ := run_append_own_at (P := Try.prog) w B T ty t i zv s by_ K.und hi hzv hs hby hzc K.pos v L.length _ hown ad M.length c (M.flatMap cs) (flat_len K.len M) (rd_flat K.len K.pos hz)
      (fun u hu => by obtain ⟨z, hz, hu⟩ := List.mem_flatMap.mp hu; exact K.one z u hu) (by unfold maxLen; omega) hbb hB
    exact ⟨v', w', hr, by unfold Row; rw [List.length_append, List.flatMap_append]; exact h1, h2, h3⟩
/-- 'append(s, x...)' in a plain region. -/
theorem append_rows (K : Kd cs s T t) {ops : Array Oper} {rest : List Oper} {o : Oper} {a : Act} {Q : Exit → Act → World → Prop} (hgd : o.guard = none) (x y : Operand)
    (ho : o.op = .call { callee := .builtin .append, args := #[x, y], argTypes := #[T, T] })
    (v : Value) (L : List α) (hs : a.eval x = v) (hown : Row cs s t B w v L) (A : Option Addr) (m c : Nat) (M : List α) (hm : m = M.length) (hx : a.eval y = .slice A m c) (hz : Rd cs s w A M) (hlen : L.length + m ≤ 1000000) (hB : B ≤ w.heap.size)
    (h : ∀ A' n' c' w', n' = L.length + m → Row cs s t B w' (.slice A' n' c') (L ++ M) → w.grownBy w' v.ownBlock → ((Value.slice A' n' c').ownBlock = v.ownBlock ∨ (Value.slice A' n' c').ownBlock = some w.heap.size) → wpList Try.prog ops Q rest (a.put o.dst (.slice A' n' c')) w') :
    wpList Try.prog ops Q (o :: rest) a w := by
  obtain ⟨v', w', hr, h1, h2, h3⟩ := run_append_rows K hown m c hm hz hlen hB o.type
  obtain ⟨A', c', rfl, -⟩ := h1.one K.len
  refine wpList_plain hgd fun K' hK => ?_
  unfold Oper.wp execOp
  simp only [ho, resolve, invoke, builtin, Sem.run_bind, Sem.run_pure, Result.andThen_ok, List.map_toArray, List.map_cons, List.map_nil, hs, hx, hr]
  exact hK _ _ (h A' _ c' w' (by rw [List.length_append, hm]) h1 h2 h3)
/-- 'append(s, x...)' at a step of a region that draws its order; w0: the world ahead of the region, in which the row lies. -/
theorem step_rows (K : Kd cs s T t) (w0 : World) {ops : Array Oper} {o : Oper} {a : Act} {K' : Act → World → Prop} {Q : Exit → Act → World → Prop} {E : Prop} (hgd : o.guard = none) (x y : Operand)
    (ho : o.op = .call { callee := .builtin .append, args := #[x, y], argTypes := #[T, T] })
    (v : Value) (L : List α) (hs : a.eval x = v) (hown : Row cs s t B w0 v L) (hbm : Below w0.heap.size w0 w) (A : Option Addr) (m c : Nat) (M : List α) (hm : m = M.length) (hx : a.eval y = .slice A m c) (hz : Rd cs s w A M) (hlen : L.length + m ≤ 1000000) (hB : B ≤ w0.heap.size)
    (h : ∀ A' n' c' w', n' = L.length + m → Row cs s t B w' (.slice A' n' c') (L ++ M) → (∀ b, b < w.heap.size → v.ownBlock ≠ some b → w'.heap[b]? = w.heap[b]?) → w0.grownBy w' v.ownBlock → ((Value.slice A' n' c').ownBlock = v.ownBlock ∨ ∃ b, (Value.slice A' n' c').ownBlock = some b ∧ w0.heap.size ≤ b) → K' (a.put o.dst (.slice A' n' c')) w') :
    if Region.wanted o (yielded ops a.tmps) = true then Oper.wp Try.prog o a w K' Q else E := by
  have hw : Region.wanted o (yielded ops a.tmps) = true := by simp [Region.wanted, hgd]
  rw [if_pos hw]
  obtain ⟨v', w', hr, h1, h2, h3⟩ := run_append_rows K (hown.on hbm) m c hm hz hlen (Nat.le_trans hB hbm.size) o.type
  obtain ⟨A', c', rfl, -⟩ := h1.one K.len
  unfold Oper.wp execOp
  simp only [ho, resolve, invoke, builtin, Sem.run_bind, Sem.run_pure, Result.andThen_ok, List.map_toArray, List.map_cons, List.map_nil, hs, hx, hr]
  refine h A' _ c' w' (by rw [List.length_append, hm]) h1 (fun b hb hv => h2.block b hb fun e => hv e.symm) ⟨h2.os.trans hbm.os, h2.tape.trans hbm.tape, h2.output.trans hbm.output, Nat.le_trans hbm.size h2.size, fun b hb hv => (h2.block b (Nat.lt_of_lt_of_le hb hbm.size) hv).trans (hbm.block b hb)⟩ (h3.imp_right fun h => ⟨_, h, hbm.size⟩)
/-- One element that lies in a block of its own. -/
theorem rd_one (hc : ∀ z, (cs z).length = s) {g : Nat} {z : α} {ty : TypeId} (h : w.heap[g]? = some (.cells (cs z).toArray ty (0, 0))) : Rd cs s w (some ⟨g, 0, none⟩) [z] := by
  intro k y hk
  match k, hk with
  | 0, hk =>
    simp at hk; subst hk
    refine ⟨g, 0, rfl, (Array.getElem?_eq_some_iff.mp h).1, fun j u hu => ?_⟩
    rw [cell_of_row _ _ _ _ _ _ h]
    simpa using hu
end
end Go.Proofs.Ytgmlccjjhmhgbaa.Rw
/- A struct in a block of its own, whatever its cells. -/
namespace Go.Proofs.Ytgmlccjjhmhgbaa.Rw
open Go.ChangeShapes Go.WideShapes Go.RowKit Go.Lib
set_option linter.unusedVariables false
set_option maxRecDepth 100000

/-- In block g lie the cells us, none frozen. -/
structure Cel (w : World) (g : Nat) (us : List Value) : Prop where
  lt : g < w.heap.size
  at_ : ∀ (j : Nat) (u : Value), us[j]? = some u → w.cell? ⟨g, j, none⟩ = some u
  warm : ∀ (j : Nat), w.frozen? ⟨g, j, none⟩ = false
section
variable {w w' : World} {g : Nat} {us : List Value} {u0 u1 u2 : Value}
theorem Cel.keep (h : Cel w g us) (hs : w.heap.size ≤ w'.heap.size) (hk : w'.heap[g]? = w.heap[g]?) : Cel w' g us :=
  ⟨Nat.lt_of_lt_of_le h.lt hs, fun j u hu => (World.cell?_of_block (a := ⟨g, j, none⟩) hk).trans (h.at_ j u hu), fun j => by
    have := h.warm j
    unfold World.frozen? at *
    simp only at *
    rw [hk]; exact this⟩
theorem Cel.on (h : Cel w g us) (hb : Below w.heap.size w w') : Cel w' g us := h.keep hb.size (hb.block g h.lt)
theorem Cel.below {B : Nat} (h : Cel w g us) (hb : Below B w w') (hg : g < B) : Cel w' g us := h.keep hb.size (hb.block g hg)
theorem Cel.drew (h : Cel w g us) : Cel w.drew g us := h.keep (Nat.le_refl _) rfl
theorem Cel.alloc (h : Cel w g us) (o : Obj) : Cel (w.alloc o) g us := h.on (below_alloc w o)
theorem Cel.off {S : Nat → Prop} (h : Cel w g us) (ho : Off S w w') (hS : ¬ S g) : Cel w' g us := h.keep ho.size (ho.block g h.lt hS)
theorem Cel.grown {row : Option Nat} (h : Cel w g us) (hg : w.grownBy w' row) (hr : row ≠ some g) : Cel w' g us := h.keep hg.size (hg.block g h.lt fun e => hr e.symm)
theorem Cel.far (h : Cel w g us) {p : Addr} (hp : p.block ≠ g) (u : Value) : Cel (w.setCell p u) g us :=
  h.keep (by simp [World.setCell]) (Below.heap_setCell w p u g fun e => hp e.symm)
theorem Cel.new (w : World) (us : List Value) (t : TypeId) : Cel (w.alloc (.cells us.toArray t)) w.heap.size us := by
  have hb := heap_alloc_new w (.cells us.toArray t)
  refine ⟨by simp, fun j u hu => ?_, fun j => frozen_of hb _⟩
  rw [cell_of_row _ _ _ _ _ _ hb]
  simpa using hu
theorem Cel.new_at (w : World) (us : List Value) (t : TypeId) {k : Nat} (hk : w.heap.size = k) : Cel (w.alloc (.cells us.toArray t)) k us := hk ▸ Cel.new w us t
theorem Cel.set (h : Cel w g us) (i : Nat) (x : Value) : Cel (w.setCell ⟨g, i, none⟩ x) g (us.set i x) := by
  refine ⟨by simp [World.setCell]; exact h.lt, fun j u hu => ?_, fun j => by simpa using h.warm j⟩
  by_cases hij : i = j
  · subst hij
    have hl : i < us.length := by
      have := glt hu
      rwa [List.length_set] at this
    rw [List.getElem?_set_self hl] at hu
    cases hu
    exact World.cell?_setCell_same w _ _ (h.at_ i _ (List.getElem?_eq_getElem hl))
  · rw [List.getElem?_set_ne hij] at hu
    rw [World.cell?_setCell_other w _ _ _ (fun e => hij (by cases e; rfl))]
    exact h.at_ j u hu
theorem Cel.two (h : Cel w g [u0, u1]) : w.cell? ⟨g, 0, none⟩ = some u0 ∧ w.cell? ⟨g, 1, none⟩ = some u1 := ⟨h.at_ 0 _ rfl, h.at_ 1 _ rfl⟩
theorem Cel.three (h : Cel w g [u0, u1, u2]) : w.cell? ⟨g, 0, none⟩ = some u0 ∧ w.cell? ⟨g, 1, none⟩ = some u1 ∧ w.cell? ⟨g, 2, none⟩ = some u2 := ⟨h.at_ 0 _ rfl, h.at_ 1 _ rfl, h.at_ 2 _ rfl⟩
theorem Cel.warm2 (h : Cel w g us) : w.frozen? ⟨g, 0, none⟩ = false ∧ w.frozen? ⟨g, 1, none⟩ = false := ⟨h.warm 0, h.warm 1⟩
theorem Cel.warm3 (h : Cel w g us) : w.frozen? ⟨g, 0, none⟩ = false ∧ w.frozen? ⟨g, 1, none⟩ = false ∧ w.frozen? ⟨g, 2, none⟩ = false := ⟨h.warm 0, h.warm 1, h.warm 2⟩
def put2 (w : World) (g : Nat) (x0 x1 : Value) : World := (w.setCell ⟨g, 0, none⟩ x0).setCell ⟨g, 1, none⟩ x1
def put3 (w : World) (g : Nat) (x0 x1 x2 : Value) : World := ((w.setCell ⟨g, 0, none⟩ x0).setCell ⟨g, 1, none⟩ x1).setCell ⟨g, 2, none⟩ x2
theorem Cel.put2 (h : Cel w g [u0, u1]) (x0 x1 : Value) : Cel ((w.setCell ⟨g, 0, none⟩ x0).setCell ⟨g, 1, none⟩ x1) g [x0, x1] := (h.set 0 x0).set 1 x1
theorem Cel.put3 (h : Cel w g [u0, u1, u2]) (x0 x1 x2 : Value) : Cel (((w.setCell ⟨g, 0, none⟩ x0).setCell ⟨g, 1, none⟩ x1).setCell ⟨g, 2, none⟩ x2) g [x0, x1, x2] := ((h.set 0 x0).set 1 x1).set 2 x2
theorem off_put3 (w : World) (g : Nat) (x0 x1 x2 : Value) : Off (fun k => k = g) w (((w.setCell ⟨g, 0, none⟩ x0).setCell ⟨g, 1, none⟩ x1).setCell ⟨g, 2, none⟩ x2) :=
  (((Off.refl (fun k => k = g) w).set (p := ⟨g, 0, none⟩) (Or.inl rfl) _).set (p := ⟨g, 1, none⟩) (Or.inl rfl) _).set (p := ⟨g, 2, none⟩) (Or.inl rfl) _
theorem off_put2 (w : World) (g : Nat) (x0 x1 : Value) : Off (fun k => k = g) w ((w.setCell ⟨g, 0, none⟩ x0).setCell ⟨g, 1, none⟩ x1) :=
  ((Off.refl (fun k => k = g) w).set (p := ⟨g, 0, none⟩) (Or.inl rfl) _).set (p := ⟨g, 1, none⟩) (Or.inl rfl) _
theorem below_put3 {B : Nat} (h : Below B w w') (hg : B ≤ g) (x0 x1 x2 : Value) : Below B w (((w'.setCell ⟨g, 0, none⟩ x0).setCell ⟨g, 1, none⟩ x1).setCell ⟨g, 2, none⟩ x2) :=
  ((h.setCell (p := ⟨g, 0, none⟩) hg _).setCell (p := ⟨g, 1, none⟩) hg _).setCell (p := ⟨g, 2, none⟩) hg _
theorem below_put2 {B : Nat} (h : Below B w w') (hg : B ≤ g) (x0 x1 : Value) : Below B w ((w'.setCell ⟨g, 0, none⟩ x0).setCell ⟨g, 1, none⟩ x1) :=
  (h.setCell (p := ⟨g, 0, none⟩) hg _).setCell (p := ⟨g, 1, none⟩) hg _
/-- An address in a block of one's own or an old one. -/
theorem Rd.off {α : Type} {cs : α → List Value} {s : Nat} {A : Option Addr} {L : List α} {S : Nat → Prop} (h : Rd cs s w A L) (ho : Off S w w') (hS : ∀ b off, A = some ⟨b, off, none⟩ → ¬ S b) : Rd cs s w' A L :=
  h.keep ho.size fun b off e hlt => ho.block b hlt (hS b off e)
end
end Go.Proofs.Ytgmlccjjhmhgbaa.Rw
/- append to a slice without room, whatever the elements. -/
namespace Go.Proofs.Ytgmlccjjhmhgbaa.Rw
open Go.ChangeShapes Go.WideShapes Go.RowKit Go.Lib
set_option linter.unusedVariables false
set_option maxRecDepth 100000

theorem none_below {B : Nat} {w w' : World} (hg : w.grownBy w' none) (hB : B ≤ w.heap.size) : Below B w w' :=
  ⟨hg.os, hg.tape, hg.output, hg.size, fun i hi => hg.block i (Nat.lt_of_lt_of_le hi hB) (by simp)⟩
theorem run_append_zero {P : Program} {w : World} (t ty e : TypeId) (i : TypeInfo) (A B : Option Addr) (n c d : Nat) (ht : P.underlying t = some (.slice e)) (hi : P.info? e = some i) (hn : n ≤ d) (h0 : A = none → n = 0 ∧ d = 0) :
    (Builtin.append_ #[t, t] ty #[.slice A n d, .slice B 0 c]).run P w = .ok (.slice A n d) w := by
  cases A with
  | none =>
    obtain ⟨rfl, rfl⟩ := h0 rfl
    cases B <;> simp [Builtin.append_, run_underlying ht, sizeOf, typeInfo, hi, Builtin.lenOf, Builtin.firstCells, loadCells, loadCellsFrom]
  | some ad =>
    cases B <;> simp [Builtin.append_, run_underlying ht, sizeOf, typeInfo, hi, Builtin.lenOf, Builtin.firstCells, hn, storeCells, loadCells, loadCellsFrom]
section
variable {α : Type} {cs : α → List Value} {s : Nat} {T t : TypeId} {w : World} {L M : List α}
/-- 'append(s[:len(s):len(s)], x...)' in a plain region. -/
theorem append_full (K : Kd cs s T t) {ops : Array Oper} {rest : List Oper} {o : Oper} {a : Act} {Q : Exit → Act → World → Prop} (hgd : o.guard = none) (x y : Operand)
    (ho : o.op = .call { callee := .builtin .append, args := #[x, y], argTypes := #[T, T] })
    (A : Option Addr) (n : Nat) (L : List α) (hs : a.eval x = .slice A n n) (hn : n = L.length) (hr : Rd cs s w A L) (B : Option Addr) (m c : Nat) (M : List α) (hx : a.eval y = .slice B m c) (hm : m = M.length) (hz : Rd cs s w B M) (hlen : n + m ≤ 1000000)
    (h : ∀ A' n' c' w', n' = n + m → n' ≤ c' → Rd cs s w' A' (L ++ M) → Below w.heap.size w w' → wpList Try.prog ops Q rest (a.put o.dst (.slice A' n' c')) w') :
    wpList Try.prog ops Q (o :: rest) a w := by
  obtain ⟨i, zv, by_, hi, hzv, hsz, hby, hzc, hb1⟩ := K.info
  have hA0 : A = none → n = 0 ∧ n = 0 := by
    rintro rfl
    have := hr.none_
    subst this
    exact ⟨hn, hn⟩
  subst hn
  by_cases hM : M = []
  · subst hM
    have hm0 : m = 0 := hm
    subst hm0
    refine wpList_plain hgd fun K' hK => ?_
    have hrun := run_append_zero (P := Try.prog) (w := w) T o.type t i A B L.length c L.length K.und hi (Nat.le_refl _) hA0
    unfold Oper.wp execOp
    simp only [ho, resolve, invoke, builtin, Sem.run_bind, Sem.run_pure, Result.andThen_ok, List.map_toArray, List.map_cons, List.map_nil, hs, hx, hrun]
    exact hK _ _ (h A _ L.length w rfl (Nat.le_refl _) (by rw [List.append_nil]; exact hr) (Below.refl _ _))
  · subst hm
    cases B with
    | none => exact absurd hz.none_ hM
    | some ad =>
      have hpos : 0 < M.length := List.length_pos_iff.mpr hM
      have hbb : (L.length + M.length) * by_ ≤ 140737488355328 := Nat.le_trans (Nat.mul_le_mul hlen hb1) (by decide)
      refine wpList_append_grows w hgd x y T ho t i zv s by_ K.und hi hzv hsz hby hzc K.pos A L.length L.length (L.flatMap cs) hs hA0 (flat_len K.len L) ?_ ad M.length c (M.flatMap cs) hx (flat_len K.len M) (rd_flat K.len K.pos hz) (fun u hu => by obtain ⟨z, hz, hu⟩ := List.mem_flatMap.mp hu; exact K.one z u hu) (by omega) (by unfold maxLen; omega) hbb ?_
      · rintro b rfl
        exact rd_flat K.len K.pos hr
      · intro v' w' hown hg
        have hrow : Row cs s t w.heap.size w' v' (L ++ M) := by unfold Row; rw [List.length_append, List.flatMap_append]; exact hown
        obtain ⟨A', c', rfl, hle, -, hrd, -, -⟩ := hrow.one K.len
        exact h A' _ c' w' (by rw [List.length_append]) hle hrd (none_below hg (Nat.le_refl _))
end
end Go.Proofs.Ytgmlccjjhmhgbaa.Rw
/- Lists of masses: errors; list, Parts of layer 16's reference (gen17/k.py out of FibreA, FibreC). -/
namespace Go.Proofs.Ytgmlccjjhmhgbaa.Tank
open Go.ChangeShapes Go.WideShapes Go.RowKit Go.Lib
open Go.Proofs.Ytgmlccjjhmhgbaa.Mem (Cl eI Own)
open Go.Proofs.Ytgmlccjjhmhgbaa.Rw (glt get_lt ret_bool ret_int wrap_id bstep below_drewN below_drew drew_below)
set_option linter.unusedVariables false
set_option maxRecDepth 100000

abbrev MM : Int := 1099511627776
def inM (most z : Int) : Bool := decide (0 ≤ z) && decide (z ≤ most)
theorem inM_iff {most z : Int} : inM most z = true ↔ 0 ≤ z ∧ z ≤ most := by unfold inM; simp only [Bool.and_eq_true, decide_eq_true_iff]
/-- The error of a list for a number of kinds. -/
def kiB (l : List Int) (kinds : Int) : Bool := decide (1 ≤ kinds) && (decide (kinds ≤ 8) && decide ((l.length : Int) = kinds))
theorem kiB_iff {l : List Int} {kinds : Int} : kiB l kinds = true ↔ 1 ≤ kinds ∧ kinds ≤ 8 ∧ (l.length : Int) = kinds := by unfold kiB; simp only [Bool.and_eq_true, decide_eq_true_iff]
def lisE (l : List Int) (kinds most : Int) : Int := if kiB l kinds then (if l.all (inM most) then 0 else 1) else 17
theorem lisE_no {l : List Int} {kinds most : Int} (h : kiB l kinds = false) : lisE l kinds most = 17 := by unfold lisE; rw [h]; rfl
theorem lisE_bad {l : List Int} {kinds most : Int} (h : kiB l kinds = true) {k : Nat} {z : Int} (hz : l[k]? = some z) (hb : inM most z = false) : lisE l kinds most = 1 := by
  unfold lisE
  have : ¬ l.all (inM most) = true := fun ha => by
    have := List.all_eq_true.mp ha z (List.mem_of_getElem? hz)
    rw [hb] at this; cases this
  rw [h, if_pos rfl, if_neg this]
theorem lisE_ok {l : List Int} {kinds most : Int} (h : kiB l kinds = true) (ha : ∀ (k : Nat) (z : Int), l[k]? = some z → inM most z = true) : lisE l kinds most = 0 := by
  unfold lisE
  rw [h, if_pos rfl, if_pos (List.all_eq_true.mpr fun z hz => by
    obtain ⟨k, hk⟩ := List.mem_iff_getElem?.mp hz
    exact ha k z hk)]
theorem lisE_of {l : List Int} {kinds most : Int} (h : lisE l kinds most = 0) : 1 ≤ l.length ∧ l.length ≤ 8 ∧ (l.length : Int) = kinds ∧ ∀ z ∈ l, 0 ≤ z ∧ z ≤ most := by
  unfold lisE at h
  cases hk : kiB l kinds with
  | false => rw [hk] at h; cases h
  | true =>
    rw [hk, if_pos rfl] at h
    have h1 := kiB_iff.mp hk
    by_cases h2 : l.all (inM most) = true
    · exact ⟨by omega, by omega, h1.2.2, fun z hz => inM_iff.mp (List.all_eq_true.mp h2 z hz)⟩
    · rw [if_neg h2] at h; cases h
theorem lisE_mk {l : List Int} {kinds most : Int} (h0 : 1 ≤ kinds) (h1 : kinds ≤ 8) (h2 : (l.length : Int) = kinds) (ha : ∀ z ∈ l, 0 ≤ z ∧ z ≤ most) : lisE l kinds most = 0 :=
  lisE_ok (kiB_iff.mpr ⟨h0, h1, h2⟩) fun k z hz => inM_iff.mpr (ha z (List.mem_of_getElem? hz))
theorem lisE_cases (l : List Int) (kinds most : Int) : lisE l kinds most = 0 ∨ lisE l kinds most = 1 ∨ lisE l kinds most = 17 := by
  unfold lisE
  split
  · split
    · exact Or.inl rfl
    · exact Or.inr (Or.inl rfl)
  · exact Or.inr (Or.inr rfl)
def lenI (l : List Int) : Int := l.length
def parE (m : List Int) (kinds : Int) : Int := lisE m kinds MM
theorem cl_at {w : World} {A : Option Addr} {L : List Int} (h : Cl eI w A L) {k : Nat} {z : Int} (hz : L[k]? = some z) : ∃ b off, A = some ⟨b, off, none⟩ ∧ b < w.heap.size ∧ w.cell? ⟨b, off + k, none⟩ = some (.int .i64 z) := h k z hz
end Go.Proofs.Ytgmlccjjhmhgbaa.Tank
/- Tanks: errors and values (pure). -/
namespace Go.Proofs.Ytgmlccjjhmhgbaa.Tank
open Go.ChangeShapes Go.WideShapes Go.RowKit
set_option linter.unusedVariables false

/-! ### Numbers -/
theorem fit_mul {r s : Rat} (h : mulOk r s = true) : fitR (r * s) = true := by
  unfold mulOk at h
  rw [Bool.and_eq_true] at h
  rw [← mul_form]
  exact mk_fit (of_decide_eq_true h.1) (of_decide_eq_true h.2) (Nat.mul_ne_zero r.den_nz s.den_nz)
theorem fit_sub {r s : Rat} (hr : fitR r = true) (hs : fitR s = true) (h : subOk r s = true) : fitR (subOp r s) = true := fit_sum hr (fit_neg hs) h
theorem divEr_of {r s : Rat} (h : divEr r s = 0) : s.num ≠ 0 ∧ mulOk r s⁻¹ = true := by
  unfold divEr at h
  by_cases h0 : s.num = 0
  · rw [if_pos h0] at h; cases h
  · rw [if_neg h0] at h
    cases hm : mulOk r s⁻¹ with
    | true => exact ⟨h0, rfl⟩
    | false => rw [hm] at h; cases h
theorem fit_div {r s : Rat} (h : divEr r s = 0) : fitR (divOp r s) = true := fit_mul (divEr_of h).2
theorem okE_zero {b : Bool} : okE b = 0 ↔ b = true := by cases b <;> simp [okE]
theorem okE_two {b : Bool} (h : ¬ okE b = 0) : okE b = 2 := by cases b <;> simp_all [okE]
/-- The number of an integer. -/
def qI (n : Int) : Rat := mkV n 1
theorem qI_ok {n : Int} (h : 0 ≤ n) (h2 : n ≤ MM) : mkE n 1 = 0 := by
  have hM : MM = 1099511627776 := rfl
  unfold mkE inRB
  rw [decide_eq_true (by omega), decide_eq_true (by omega)]; rfl
theorem qI_fit {n : Int} (h : 0 ≤ n) (h2 : n ≤ MM) : fitR (qI n) = true := by
  have hM : MM = 1099511627776 := rfl
  exact mk_fit (Nat.lt_trans (show n.natAbs < 1000000000000000000 by omega) (by decide +kernel)) (by decide +kernel) (by decide)
theorem qI_val (n : Int) : qI n = (n : Rat) := by
  unfold qI mkV mkNeg
  have : sgI (decide (n < 0) != decide ((1 : Int) < 0)) n.natAbs = n := by
    unfold sgI
    by_cases h : n < 0
    · rw [decide_eq_true h]; simp; omega
    · rw [decide_eq_false h]; simp; omega
  rw [this]
  show mkRat n 1 = _
  rw [Rat.mkRat_one]
/-- The form of a number. -/
def triR (r : Rat) : Trip := (negR r, topL r, botL r)
theorem vT_tri {r : Rat} (h : fitR r = true) : vT (triR r) = true := (form_val h).1
theorem rT_tri {r : Rat} (h : fitR r = true) : rT (triR r) = r := (form_val h).2
theorem tri_rT {t : Trip} (h : vT t = true) : triR (rT t) = t := by
  obtain ⟨_, h1, h2, h3⟩ := trip_form h
  obtain ⟨b, xs, ys⟩ := t
  unfold triR
  rw [← h1, ← h2, ← h3]
theorem tri_inj {r s : Rat} (h : triR r = triR s) : r = s := by
  unfold triR at h
  simp only [Prod.mk.injEq] at h
  exact form_inj h.1 h.2.1 h.2.2
/-- Parts that are numbers. -/
def qs (L : List Trip) : List Rat := L.map rT
def ts (Q : List Rat) : List Trip := Q.map triR
theorem ts_len (Q : List Rat) : (ts Q).length = Q.length := List.length_map ..
theorem qs_len (L : List Trip) : (qs L).length = L.length := List.length_map ..
theorem ts_qs {L : List Trip} (h : ∀ t ∈ L, vT t = true) : ts (qs L) = L := by
  unfold ts qs
  rw [List.map_map]
  conv => rhs; rw [← List.map_id L]
  exact List.map_congr_left fun t ht => tri_rT (h t ht)
theorem qs_ts {Q : List Rat} (h : ∀ r ∈ Q, fitR r = true) : qs (ts Q) = Q := by
  unfold ts qs
  rw [List.map_map]
  conv => rhs; rw [← List.map_id Q]
  exact List.map_congr_left fun t ht => rT_tri (h t ht)
theorem qs_at {L : List Trip} {k : Nat} {t : Trip} (h : L[k]? = some t) : (qs L)[k]? = some (rT t) := by unfold qs; rw [List.getElem?_map, h]; rfl
theorem ts_at {Q : List Rat} {k : Nat} {r : Rat} (h : Q[k]? = some r) : (ts Q)[k]? = some (triR r) := by unfold ts; rw [List.getElem?_map, h]; rfl

/-! ### Check -/
def ckP : List Trip → Int
  | [] => 0
  | t :: l => if vT t then (if t.1 then 1 else ckP l) else 3
theorem ckP_bad : ∀ {l : List Trip} {k : Nat} {t : Trip}, l[k]? = some t → (∀ (j : Nat) (u : Trip), j < k → l[j]? = some u → vT u = true ∧ u.1 = false) → (vT t = false → ckP l = 3) ∧ (vT t = true → t.1 = true → ckP l = 1)
  | [], _, _, h, _ => by simp at h
  | u :: l, 0, t, h, _ => by
    simp at h; subst h
    exact ⟨fun hv => by rw [ckP, if_neg (by rw [hv]; decide)], fun hv hn => by rw [ckP, if_pos hv, if_pos hn]⟩
  | u :: l, k + 1, t, h, ha => by
    rw [List.getElem?_cons_succ] at h
    obtain ⟨h1, h2⟩ := ha 0 u (by omega) rfl
    rw [ckP, if_pos h1, if_neg (by rw [h2]; decide)]
    exact ckP_bad h fun j x hj hx => ha (j + 1) x (by omega) (by rw [List.getElem?_cons_succ]; exact hx)
theorem ckP_ok : ∀ {l : List Trip}, (∀ (j : Nat) (u : Trip), l[j]? = some u → vT u = true ∧ u.1 = false) → ckP l = 0
  | [], _ => rfl
  | u :: l, h => by
    obtain ⟨h1, h2⟩ := h 0 u rfl
    rw [ckP, if_pos h1, if_neg (by rw [h2]; decide)]
    exact ckP_ok fun j x hx => h (j + 1) x (by rw [List.getElem?_cons_succ]; exact hx)
theorem ckP_of : ∀ {l : List Trip}, ckP l = 0 → ∀ t ∈ l, vT t = true ∧ t.1 = false
  | [], _, t, ht => by simp at ht
  | u :: l, h, t, ht => by
    rw [ckP] at h
    by_cases h1 : vT u = true
    · rw [if_pos h1] at h
      by_cases h2 : u.1 = true
      · rw [if_pos h2] at h; cases h
      · rw [if_neg h2] at h
        rcases List.mem_cons.mp ht with rfl | ht
        · exact ⟨h1, by simpa using h2⟩
        · exact ckP_of h t ht
    · rw [if_neg h1] at h; cases h
theorem ckP_cases : ∀ (l : List Trip), ckP l = 0 ∨ ckP l = 1 ∨ ckP l = 3
  | [] => Or.inl rfl
  | u :: l => by
    rw [ckP]
    split
    · split
      · exact Or.inr (Or.inl rfl)
      · exact ckP_cases l
    · exact Or.inr (Or.inr rfl)
/-- The sum, and whether it is greater than the capacity. -/
def ckS (cap : Int) (L : List Trip) : Int :=
  if sumE L = 0 then (if crossOk (sumV L) (qI cap) then (if 0 < cmpG (sumV L) (qI cap) then 8 else 0) else 2) else sumE L
def ckN (cap : Int) (L : List Trip) : Int := if 1 ≤ L.length ∧ L.length ≤ 8 then (if ckP L = 0 then ckS cap L else ckP L) else 17
def ckT (cap : Int) (L : List Trip) : Int := if 1 ≤ cap ∧ cap ≤ MM then ckN cap L else 1
structure TOk (cap : Int) (L : List Trip) : Prop where
  c0 : 1 ≤ cap
  c1 : cap ≤ MM
  n0 : 1 ≤ L.length
  n1 : L.length ≤ 8
  all : ∀ t ∈ L, vT t = true ∧ t.1 = false
  sum : sumE L = 0
  cross : crossOk (sumV L) (qI cap) = true
  le : ¬ 0 < cmpG (sumV L) (qI cap)
theorem ckT_of {cap : Int} {L : List Trip} (h : ckT cap L = 0) : TOk cap L := by
  unfold ckT at h
  by_cases h1 : 1 ≤ cap ∧ cap ≤ MM
  · rw [if_pos h1] at h
    unfold ckN at h
    by_cases h2 : 1 ≤ L.length ∧ L.length ≤ 8
    · rw [if_pos h2] at h
      by_cases h3 : ckP L = 0
      · rw [if_pos h3] at h
        unfold ckS at h
        by_cases h4 : sumE L = 0
        · rw [if_pos h4] at h
          by_cases h5 : crossOk (sumV L) (qI cap) = true
          · rw [if_pos h5] at h
            by_cases h6 : 0 < cmpG (sumV L) (qI cap)
            · rw [if_pos h6] at h; cases h
            · exact ⟨h1.1, h1.2, h2.1, h2.2, ckP_of h3, h4, h5, h6⟩
          · rw [if_neg h5] at h; cases h
        · rw [if_neg h4] at h; exact absurd h h4
      · rw [if_neg h3] at h; exact absurd h h3
    · rw [if_neg h2] at h; cases h
  · rw [if_neg h1] at h; cases h
theorem TOk.err {cap : Int} {L : List Trip} (h : TOk cap L) : ckT cap L = 0 := by
  unfold ckT ckN ckS
  rw [if_pos ⟨h.c0, h.c1⟩, if_pos ⟨h.n0, h.n1⟩, if_pos (ckP_ok fun j u hu => h.all u (List.mem_of_getElem? hu)), if_pos h.sum, if_pos h.cross, if_neg h.le]
/-- The sum of valid parts fits. -/
theorem tot_fit : ∀ {l : List Rat} {s r : Rat}, fitR s = true → (∀ x ∈ l, fitR x = true) → tot l s = some r → fitR r = true
  | [], s, r, hs, _, h => by rw [tot] at h; cases h; exact hs
  | a :: l, s, r, hs, hl, h => by
    rw [tot] at h
    by_cases h1 : sumOk s a = true
    · rw [if_pos h1] at h
      exact tot_fit (fit_sum hs (hl a (List.mem_cons_self ..)) h1) (fun x hx => hl x (List.mem_cons_of_mem _ hx)) h
    · rw [if_neg h1] at h; cases h
theorem sumE_of {L : List Trip} (h : sumE L = 0) : (∀ t ∈ L, vT t = true) ∧ tot (qs L) 0 = some (sumV L) := by
  unfold sumE at h
  by_cases h1 : 4096 < L.length
  · rw [if_pos h1] at h; cases h
  · rw [if_neg h1] at h
    cases h2 : L.all vT with
    | false => rw [h2] at h; cases h
    | true =>
      rw [h2, if_pos rfl] at h
      refine ⟨fun t ht => List.all_eq_true.mp h2 t ht, ?_⟩
      unfold sumV qs
      cases h3 : tot (L.map rT) 0 with
      | none => rw [h3] at h; cases h
      | some r => rfl
theorem sumE_fit {L : List Trip} (h : sumE L = 0) : fitR (sumV L) = true := by
  obtain ⟨h1, h2⟩ := sumE_of h
  refine tot_fit fit_zero (fun x hx => ?_) h2
  obtain ⟨t, ht, rfl⟩ := List.mem_map.mp hx
  exact (trip_form (h1 t ht)).1
/-! ### Sums part by part -/
def poB : List Rat → List Rat → Bool
  | q :: l, x :: m => sumOk q x && poB l m
  | _, _ => true
def poV : List Rat → List Rat → List Rat
  | q :: l, x :: m => (q + x) :: poV l m
  | _, _ => []
theorem poV_len : ∀ {l m : List Rat}, l.length = m.length → (poV l m).length = l.length
  | [], [], _ => rfl
  | q :: l, x :: m, h => by
    have := poV_len (l := l) (m := m) (by simpa using h)
    rw [poV, List.length_cons, List.length_cons, this]
  | [], x :: m, h => by cases h
  | q :: l, [], h => by cases h
theorem poV_at : ∀ {l m : List Rat} {k : Nat} {q x : Rat}, l[k]? = some q → m[k]? = some x → (poV l m)[k]? = some (q + x)
  | [], _, _, _, _, h, _ => by simp at h
  | _ :: _, [], _, _, _, _, h => by simp at h
  | q :: l, x :: m, 0, _, _, h, k => by
    simp at h k; subst h; subst k; rfl
  | q :: l, x :: m, n + 1, _, _, h, k => by
    rw [List.getElem?_cons_succ] at h k
    rw [poV, List.getElem?_cons_succ]
    exact poV_at h k
theorem poV_get : ∀ {l m : List Rat} {k : Nat} {z : Rat}, (poV l m)[k]? = some z → ∃ q x, l[k]? = some q ∧ m[k]? = some x ∧ z = q + x
  | [], _, _, _, h => by simp [poV] at h
  | _ :: _, [], _, _, h => by simp [poV] at h
  | q :: l, x :: m, 0, z, h => by
    simp [poV] at h
    exact ⟨q, x, rfl, rfl, h.symm⟩
  | q :: l, x :: m, k + 1, z, h => by
    rw [poV, List.getElem?_cons_succ] at h
    obtain ⟨u, v, h1, h2, h3⟩ := poV_get h
    exact ⟨u, v, by rw [List.getElem?_cons_succ]; exact h1, by rw [List.getElem?_cons_succ]; exact h2, h3⟩
theorem poB_bad : ∀ {l m : List Rat} {k : Nat} {q x : Rat}, l[k]? = some q → m[k]? = some x → sumOk q x = false → poB l m = false
  | [], _, _, _, _, h, _, _ => by simp at h
  | _ :: _, [], _, _, _, _, h, _ => by simp at h
  | q :: l, x :: m, 0, _, _, h, k, hb => by
    simp at h k; subst h; subst k
    rw [poB, hb]; rfl
  | q :: l, x :: m, n + 1, _, _, h, k, hb => by
    rw [List.getElem?_cons_succ] at h k
    rw [poB, poB_bad h k hb, Bool.and_false]
theorem poB_ok : ∀ {l m : List Rat}, (∀ (k : Nat) (q x : Rat), l[k]? = some q → m[k]? = some x → sumOk q x = true) → poB l m = true
  | [], _, _ => by rw [poB]; intro _ _ _ _ h; cases h
  | _ :: _, [], _ => by rw [poB]; intro _ _ _ _ _ h; cases h
  | q :: l, x :: m, h => by
    rw [poB, h 0 q x rfl rfl, Bool.true_and]
    exact poB_ok fun k q x hq hx => h (k + 1) q x (by rw [List.getElem?_cons_succ]; exact hq) (by rw [List.getElem?_cons_succ]; exact hx)
theorem poB_at {l m : List Rat} (h : poB l m = true) {k : Nat} {q x : Rat} (hq : l[k]? = some q) (hx : m[k]? = some x) : sumOk q x = true := by
  cases hs : sumOk q x with
  | true => rfl
  | false => rw [poB_bad hq hx hs] at h; cases h
theorem poV_fit {l m : List Rat} (hl : ∀ q ∈ l, fitR q = true) (hm : ∀ x ∈ m, fitR x = true) (h : poB l m = true) : ∀ z ∈ poV l m, fitR z = true := fun z hz => by
  obtain ⟨k, hk⟩ := List.mem_iff_getElem?.mp hz
  obtain ⟨q, x, hq, hx, rfl⟩ := poV_get hk
  exact fit_sum (hl q (List.mem_of_getElem? hq)) (hm x (List.mem_of_getElem? hx)) (poB_at h hq hx)
/-! ### Fill -/
def qIs (m : List Int) : List Rat := m.map qI
theorem qIs_at {m : List Int} {k : Nat} {z : Int} (h : m[k]? = some z) : (qIs m)[k]? = some (qI z) := by unfold qIs; rw [List.getElem?_map, h]; rfl
theorem qIs_len (m : List Int) : (qIs m).length = m.length := List.length_map ..
def filB (l : List Rat) (m : List Int) : Bool := poB l (qIs m)
def filV (l : List Rat) (m : List Int) : List Rat := poV l (qIs m)
def filE (cap : Int) (L : List Trip) (m : List Int) : Int :=
  if ckT cap L = 0 then (if parE m (L.length : Int) = 0 then (if filB (qs L) m then ckT cap (ts (filV (qs L) m)) else 2) else parE m (L.length : Int)) else ckT cap L
def filC (cap : Int) (L : List Trip) (m : List Int) : Int := if filE cap L m = 0 then cap else 0
def filL (cap : Int) (L : List Trip) (m : List Int) : List Trip := if filE cap L m = 0 then ts (filV (qs L) m) else []
/-! ### Draw -/
/-- What is taken of a part: its error, its value, what is left. -/
def tkE (p m v : Rat) : Int :=
  if mulOk p m then (if divEr (p * m) v = 0 then okE (subOk p (divOp (p * m) v)) else divEr (p * m) v) else 2
def tkX (p m v : Rat) : Rat := divOp (p * m) v
def tkY (p m v : Rat) : Rat := subOp p (tkX p m v)
theorem tkE_of {p m v : Rat} (h : tkE p m v = 0) : mulOk p m = true ∧ divEr (p * m) v = 0 ∧ subOk p (tkX p m v) = true := by
  unfold tkE at h
  by_cases h1 : mulOk p m = true
  · rw [if_pos h1] at h
    by_cases h2 : divEr (p * m) v = 0
    · rw [if_pos h2] at h; exact ⟨h1, h2, okE_zero.mp h⟩
    · rw [if_neg h2] at h; exact absurd h h2
  · rw [if_neg h1] at h; cases h
def tkF (m v : Rat) : List Rat → Int
  | [] => 0
  | p :: l => if tkE p m v = 0 then tkF m v l else tkE p m v
theorem tkF_bad {m v : Rat} : ∀ {l : List Rat} {k : Nat} {p : Rat}, l[k]? = some p → ¬ tkE p m v = 0 → (∀ (j : Nat) (u : Rat), j < k → l[j]? = some u → tkE u m v = 0) → tkF m v l = tkE p m v
  | [], _, _, h, _, _ => by simp at h
  | u :: l, 0, p, h, hb, _ => by simp at h; subst h; rw [tkF, if_neg hb]
  | u :: l, k + 1, p, h, hb, ha => by
    rw [List.getElem?_cons_succ] at h
    rw [tkF, if_pos (ha 0 u (by omega) rfl)]
    exact tkF_bad h hb fun j x hj hx => ha (j + 1) x (by omega) (by rw [List.getElem?_cons_succ]; exact hx)
theorem tkF_ok {m v : Rat} : ∀ {l : List Rat}, (∀ (j : Nat) (u : Rat), l[j]? = some u → tkE u m v = 0) → tkF m v l = 0
  | [], _ => rfl
  | u :: l, h => by
    rw [tkF, if_pos (h 0 u rfl)]
    exact tkF_ok fun j x hx => h (j + 1) x (by rw [List.getElem?_cons_succ]; exact hx)
theorem tkF_of {m v : Rat} : ∀ {l : List Rat}, tkF m v l = 0 → ∀ p ∈ l, tkE p m v = 0
  | [], _, t, ht => by simp at ht
  | u :: l, h, t, ht => by
    rw [tkF] at h
    by_cases h1 : tkE u m v = 0
    · rw [if_pos h1] at h
      rcases List.mem_cons.mp ht with rfl | ht
      · exact h1
      · exact tkF_of h t ht
    · rw [if_neg h1] at h; exact absurd h h1
/-- The errors of Draw behind Check. -/
def drM (cap : Int) (L : List Trip) (mass : Int) : Int :=
  if inM MM mass then (if cap < mass ∨ 0 < cmpG (qI mass) (sumV L) then 19 else if mass = 0 then 0 else tkF (qI mass) (sumV L) (qs L)) else 1
def drE (cap : Int) (L : List Trip) (mass : Int) : Int := if ckT cap L = 0 then drM cap L mass else ckT cap L
/-- What was taken, and what is left. -/
def drX (L : List Trip) (mass : Int) : List Rat := (qs L).map fun p => if mass = 0 then 0 else tkX p (qI mass) (sumV L)
def drY (L : List Trip) (mass : Int) : List Rat := (qs L).map fun p => if mass = 0 then p else tkY p (qI mass) (sumV L)
def drC (cap : Int) (L : List Trip) (mass : Int) : Int := if drE cap L mass = 0 then cap else 0
def drT (cap : Int) (L : List Trip) (mass : Int) : List Trip := if drE cap L mass = 0 then ts (drX L mass) else []
def drP (cap : Int) (L : List Trip) (mass : Int) : List Trip := if drE cap L mass = 0 then ts (drY L mass) else []
structure DOk (cap : Int) (L : List Trip) (mass : Int) : Prop where
  t : TOk cap L
  m0 : 0 ≤ mass
  m1 : mass ≤ MM
  mc : mass ≤ cap
  ml : ¬ 0 < cmpG (qI mass) (sumV L)
  tk : ¬ mass = 0 → ∀ p ∈ qs L, tkE p (qI mass) (sumV L) = 0
theorem drE_of {cap : Int} {L : List Trip} {mass : Int} (h : drE cap L mass = 0) : DOk cap L mass := by
  unfold drE at h
  by_cases h1 : ckT cap L = 0
  · rw [if_pos h1] at h
    unfold drM at h
    by_cases h2 : inM MM mass = true
    · rw [if_pos h2] at h
      by_cases h3 : cap < mass ∨ 0 < cmpG (qI mass) (sumV L)
      · rw [if_pos h3] at h; cases h
      · rw [if_neg h3] at h
        have h4 := inM_iff.mp h2
        refine ⟨ckT_of h1, h4.1, h4.2, by omega, fun k => h3 (Or.inr k), fun h5 => ?_⟩
        rw [if_neg h5] at h
        exact tkF_of h
    · rw [if_neg h2] at h; cases h
  · rw [if_neg h1] at h; exact absurd h h1
/-! ### Pour -/
def poE (c : Int) (L : List Trip) (d : Int) (M : List Trip) (mass : Int) : Int :=
  if ckT c L = 0 then (if ckT d M = 0 then (if L.length = M.length then (if drE c L mass = 0 then (if poB (qs M) (drX L mass) then ckT d (ts (poV (qs M) (drX L mass))) else 2) else drE c L mass) else 17) else ckT d M) else ckT c L
def poC (c : Int) (L : List Trip) (d : Int) (M : List Trip) (mass : Int) (x : Int) : Int := if poE c L d M mass = 0 then x else 0
def poX (c : Int) (L : List Trip) (d : Int) (M : List Trip) (mass : Int) : List Trip := if poE c L d M mass = 0 then ts (drY L mass) else []
def poY (c : Int) (L : List Trip) (d : Int) (M : List Trip) (mass : Int) : List Trip := if poE c L d M mass = 0 then ts (poV (qs M) (drX L mass)) else []
/-! ### Part -/
def paM (L : List Trip) (kind : Int) : Int :=
  if 0 ≤ kind ∧ kind < (L.length : Int) then (if (sumV L).num = 0 then 10 else divEr ((qs L).getD kind.toNat 0) (sumV L)) else 7
def paE (cap : Int) (L : List Trip) (kind : Int) : Int := if ckT cap L = 0 then paM L kind else ckT cap L
def paV (L : List Trip) (kind : Int) : Rat := divOp ((qs L).getD kind.toNat 0) (sumV L)
end Go.Proofs.Ytgmlccjjhmhgbaa.Tank
/- What the stage's theorems lean on: sums, proportions (pure). -/
namespace Go.Proofs.Ytgmlccjjhmhgbaa.Tank
set_option linter.unusedVariables false

def sumR : List Rat → Rat
  | [] => 0
  | a :: l => a + sumR l
theorem tot_val : ∀ {l : List Rat} {s r : Rat}, tot l s = some r → r = s + sumR l
  | [], s, r, h => by rw [tot] at h; cases h; rw [sumR, Rat.add_zero]
  | a :: l, s, r, h => by
    rw [tot] at h
    split at h
    · rw [tot_val h, sumR, Rat.add_assoc]
    · cases h
theorem sumV_val {L : List Trip} (h : sumE L = 0) : sumV L = sumR (qs L) := by
  have := tot_val (sumE_of h).2
  rw [this, Rat.zero_add]
theorem num_ne {v : Rat} (h : v.num ≠ 0) : v ≠ 0 := fun e => h (by rw [e]; rfl)
theorem tkX_eq (p m v : Rat) : tkX p m v = p * m * v⁻¹ := rfl
theorem tkY_eq (p m v : Rat) : tkY p m v = p + -(p * m * v⁻¹) := rfl
theorem tk_sum (p m v : Rat) : tkY p m v + tkX p m v = p := by
  rw [tkY_eq, tkX_eq, Rat.add_assoc, Rat.neg_add_cancel, Rat.add_zero]
theorem tk_prop {p m v : Rat} (h : v ≠ 0) : tkX p m v * v = p * m := by
  rw [tkX_eq, Rat.mul_assoc, Rat.inv_mul_cancel v h, Rat.mul_one]
theorem sumR_X (m v : Rat) : ∀ l : List Rat, sumR (l.map fun p => tkX p m v) = sumR l * m * v⁻¹
  | [] => by rw [List.map_nil, sumR, Rat.zero_mul, Rat.zero_mul]
  | a :: l => by rw [List.map_cons, sumR, sumR, sumR_X m v l, tkX_eq, Rat.add_mul, Rat.add_mul]
theorem sumR_X_all {l : List Rat} {m v : Rat} (h : sumR l = v) (h0 : v ≠ 0) : sumR (l.map fun p => tkX p m v) = m := by
  rw [sumR_X, h, Rat.mul_comm v m, Rat.mul_assoc, Rat.mul_inv_cancel v h0, Rat.mul_one]
theorem sumR_Y (m v : Rat) : ∀ l : List Rat, sumR (l.map fun p => tkY p m v) = sumR l + -(sumR l * m * v⁻¹)
  | [] => by rw [List.map_nil, sumR, Rat.zero_mul, Rat.zero_mul]; decide +kernel
  | a :: l => by
    rw [List.map_cons, sumR, sumR, sumR_Y m v l, tkY_eq]
    grind
theorem sumR_Y_all {l : List Rat} {m v : Rat} (h : sumR l = v) (h0 : v ≠ 0) : sumR (l.map fun p => tkY p m v) = v + -m := by
  rw [sumR_Y, h, Rat.mul_comm v m, Rat.mul_assoc, Rat.mul_inv_cancel v h0, Rat.mul_one]
/-- A draw leaves each share as it was. -/
theorem tk_mixed {p m v : Rat} (h0 : v ≠ 0) (h1 : v + -m ≠ 0) : tkY p m v * (v + -m)⁻¹ = p * v⁻¹ := by
  have e : tkY p m v = p * v⁻¹ * (v + -m) := by
    rw [tkY_eq]
    have := Rat.mul_inv_cancel v h0
    grind
  rw [e, Rat.mul_assoc, Rat.mul_inv_cancel _ h1, Rat.mul_one]
theorem tk_nonneg {p m v : Rat} (hp : 0 ≤ p) (hm : 0 ≤ m) (hv : 0 < v) (h : m ≤ v) : 0 ≤ tkX p m v ∧ 0 ≤ tkY p m v := by
  have hi : 0 ≤ v⁻¹ := Rat.le_of_lt (Rat.inv_pos.mpr hv)
  have h0 : v ≠ 0 := fun e => by rw [e] at hv; exact absurd hv (by decide +kernel)
  have h1 : 0 ≤ tkX p m v := by rw [tkX_eq]; exact Rat.mul_nonneg (Rat.mul_nonneg hp hm) hi
  refine ⟨h1, ?_⟩
  have e : tkY p m v = p * (v + -m) * v⁻¹ := by
    rw [tkY_eq]
    have := Rat.mul_inv_cancel v h0
    grind
  rw [e]
  exact Rat.mul_nonneg (Rat.mul_nonneg hp (by grind)) hi
end Go.Proofs.Ytgmlccjjhmhgbaa.Tank
/- Order of numbers as Cmp tells it; what a tank without an error, and a draw without an error, say (pure). -/
namespace Go.Proofs.Ytgmlccjjhmhgbaa.Tank
set_option linter.unusedVariables false

theorem cmpI_neg' (x y : Int) : cmpI (-x) (-y) = -cmpI x y := by
  rcases Int.lt_trichotomy x y with h | h | h
  · rw [cmpI_lt h, cmpI_gt (by omega)]; rfl
  · subst h; rw [cmpI_eq, cmpI_eq]; rfl
  · rw [cmpI_gt h, cmpI_lt (by omega)]
theorem neg_abs_pos' {r : Rat} (h : negR r = true) : 0 < r.num.natAbs := by
  unfold negR at h; have := of_decide_eq_true h; omega
theorem den_pos' (r : Rat) : 0 < r.den := Nat.pos_of_ne_zero r.den_nz
theorem cmpQ_val' (r s : Rat) : cmpQ r s = cmpI (r.num * s.den) (s.num * r.den) := by
  have e1 : r.num * s.den = sgI (negR r) (r.num.natAbs * s.den) := by rw [sgI_mulN, sgI_neg]
  have e2 : s.num * r.den = sgI (negR s) (s.num.natAbs * r.den) := by rw [sgI_mulN, sgI_neg]
  rw [e1, e2]
  unfold cmpQ
  rcases bcase (negR r) with h1 | h1 <;> rcases bcase (negR s) with h2 | h2
  · rw [h1, h2, if_pos rfl, if_pos rfl]; simp only [sgI, if_true]; rw [cmpI_neg']
  · have := Nat.mul_pos (neg_abs_pos' h1) (den_pos' s)
    rw [h1, h2, if_pos rfl, if_neg (by decide)]
    simp only [sgI, if_true, Bool.false_eq_true, if_false]
    rw [cmpI_lt (by omega)]
  · have := Nat.mul_pos (neg_abs_pos' h2) (den_pos' r)
    rw [h1, h2, if_neg (by decide), if_pos rfl]
    simp only [sgI, if_true, Bool.false_eq_true, if_false]
    rw [cmpI_gt (by omega)]
  · rw [h1, h2, if_neg (by decide), if_neg (by decide)]
    simp only [sgI, Bool.false_eq_true, if_false]
theorem cmpG_pos {r s : Rat} (h : crossOk r s = true) : 0 < cmpG r s ↔ s < r := by
  unfold cmpG
  rw [if_pos h, cmpQ_val', Rat.lt_iff]
  rcases Int.lt_trichotomy (r.num * s.den) (s.num * r.den) with h | h | h
  · rw [cmpI_lt h]; constructor <;> intro k <;> omega
  · rw [h, cmpI_eq]; constructor <;> intro k <;> omega
  · rw [cmpI_gt h]; constructor <;> intro k <;> omega
theorem qI_num (n : Int) : (qI n).num = n ∧ (qI n).den = 1 := by rw [qI_val]; exact ⟨rfl, rfl⟩
theorem neg_iff {r : Rat} : negR r = false ↔ 0 ≤ r := by
  unfold negR
  rw [decide_eq_false_iff_not, ← Rat.num_nonneg]
  omega
theorem qI_le {m n : Int} (h : m ≤ n) : qI m ≤ qI n := by rw [qI_val, qI_val]; exact Rat.intCast_le_intCast.mpr h
/-- What a tank without an error says. -/
theorem TOk.level {cap : Int} {L : List Trip} (h : TOk cap L) : sumV L = sumR (qs L) ∧ sumV L ≤ qI cap ∧ (∀ q ∈ qs L, fitR q = true ∧ 0 ≤ q) := by
  refine ⟨sumV_val h.sum, ?_, fun q hq => ?_⟩
  · exact Rat.not_lt.mp fun k => h.le ((cmpG_pos h.cross).mpr k)
  · obtain ⟨t, ht, rfl⟩ := List.mem_map.mp hq
    obtain ⟨h1, h2⟩ := h.all t ht
    obtain ⟨h3, h4, -, -⟩ := trip_form h1
    exact ⟨h3, neg_iff.mp (by rw [← h4]; exact h2)⟩
theorem sumR_nonneg : ∀ {l : List Rat}, (∀ q ∈ l, 0 ≤ q) → 0 ≤ sumR l
  | [], _ => by rw [sumR]; exact Rat.le_refl
  | a :: l, h => by
    rw [sumR]
    exact Rat.add_nonneg (h a (List.mem_cons_self ..)) (sumR_nonneg fun q hq => h q (List.mem_cons_of_mem _ hq))
theorem DOk.cross {cap : Int} {L : List Trip} {mass : Int} (h : DOk cap L mass) : crossOk (qI mass) (sumV L) = true := by
  have h1 := h.t.cross
  unfold crossOk at h1 ⊢
  rw [Bool.and_eq_true, decide_eq_true_iff, decide_eq_true_iff, (qI_num _).1, (qI_num _).2] at h1
  rw [Bool.and_eq_true, decide_eq_true_iff, decide_eq_true_iff, (qI_num _).1, (qI_num _).2]
  refine ⟨Nat.lt_of_le_of_lt (Nat.mul_le_mul_right _ ?_) h1.2, h1.1⟩
  have := h.m0
  have := h.mc
  omega
theorem DOk.mass_le {cap : Int} {L : List Trip} {mass : Int} (h : DOk cap L mass) : qI mass ≤ sumV L :=
  Rat.not_lt.mp fun k => h.ml ((cmpG_pos h.cross).mpr k)
end Go.Proofs.Ytgmlccjjhmhgbaa.Tank
