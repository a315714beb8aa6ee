/- Several texts in one: RowF, TankB, TankC, TankD, TankE, TankF. -/
import Derived.Test.YtgmlccjjhmhgbaaPk17
/- Rows whose cells hold no integers: integers elsewhere in memory are left alone by an append to such a row, wherever they lie. -/
namespace Go.Proofs.Ytgmlccjjhmhgbaa.Rw
open Go.ChangeShapes Go.WideShapes Go.RowKit Go.Lib
set_option linter.unusedVariables false
set_option maxRecDepth 100000

def noI (u : Value) : Prop := ∀ (k : IntKind) (z : Int), u ≠ .int k z
/-- The row's own block holds no integer. -/
def NoI (w : World) (v : Value) : Prop := ∀ g, v.ownBlock = some g → ∀ (j : Nat) (k : IntKind) (z : Int), w.cell? ⟨g, j, none⟩ ≠ some (.int k z)
theorem NoI.nil (w : World) : NoI w (.slice none 0 0) := fun g h => by cases h
theorem NoI.keep {w w' : World} {v : Value} (h : NoI w v) (hk : ∀ k, v.ownBlock = some k → w'.heap[k]? = w.heap[k]?) : NoI w' v := fun g hg j k z hc =>
  h g hg j k z ((World.cell?_of_block (a := ⟨g, j, none⟩) (hk g hg)).symm.trans hc)
theorem noI_block {w : World} {g : Nat} {cur : Array Value} {e : TypeId} (hg : w.heap[g]? = some (.cells cur e (0, 0))) (h : ∀ u ∈ cur.toList, noI u) (j : Nat) (k : IntKind) (z : Int) : w.cell? ⟨g, j, none⟩ ≠ some (.int k z) := by
  intro hc
  rw [cell_of_row _ _ _ _ _ _ hg] at hc
  exact h _ (Array.mem_toList_iff.mpr (Array.mem_of_getElem? hc)) k z rfl
theorem mem_zero {z : Array Value} {n : Nat} {u : Value} (h : u ∈ (Builtin.zeroCells z n).toList) : u ∈ z.toList := by
  unfold Builtin.zeroCells at h
  rw [Array.toList_map, List.mem_map] at h
  obtain ⟨i, hi, rfl⟩ := h
  have hi' : i < n * z.size := by simpa using hi
  have hpos : 0 < z.size := by
    rcases Nat.eq_zero_or_pos z.size with h0 | h0
    · rw [h0, Nat.mul_zero] at hi'; omega
    · exact h0
  have hlt : i % z.size < z.size := Nat.mod_lt _ hpos
  rw [getElem!_pos z (i % z.size) hlt]
  exact Array.mem_toList_iff.mpr (Array.getElem_mem hlt)
section
variable {α : Type} {cs : α → List Value} {s : Nat} {T t : TypeId} {B : Nat} {w : World} {v : Value} {L M : List α} {A : Option Addr}
theorem run_append_noI (K : Kd cs s T t) (hcs : ∀ z, ∀ u ∈ cs z, noI u) (hzr : ∀ i zv, Try.prog.info? t = some i → i.zero = some zv → ∀ u ∈ zv.cells.toList, noI u)
    (hown : Row cs s t B w v L) (hno : NoI w v) (m c : Nat) (hm : m = M.length) (hpos : 0 < m) (hz : Rd cs s w A M) (hlen : L.length + m ≤ 1000000) (hB : B ≤ w.heap.size) (ty : TypeId) :
    ∃ v' w', (Builtin.append_ #[T, T] ty #[v, .slice A m c]).run Try.prog w = .ok v' w' ∧ Row cs s t B w' v' (L ++ M) ∧ w.grownBy w' v.ownBlock ∧ (v'.ownBlock = v.ownBlock ∨ v'.ownBlock = some w.heap.size) ∧ NoI w' v' := by
  obtain ⟨v', w', hr, h1, h2, h3⟩ := run_append_rows K hown m c hm hz hlen hB ty
  refine ⟨v', w', hr, h1, h2, h3, ?_⟩
  obtain ⟨i, zv, by_, hi, hzv, hs, hby, hzc, hb1⟩ := K.info
  have hz0 := hzr i zv hi hzv
  subst hm
  cases A with
  | none =>
    obtain rfl := hz.none_
    simp at hpos
  | some ad =>
    have hl : (M.flatMap cs).length = M.length * i.size := by rw [hs]; exact flat_len K.len M
    have hnews := rd_flat K.len K.pos hz
    have hM : ∀ u ∈ M.flatMap cs, noI u := fun u hu => by obtain ⟨z, hz, hu⟩ := List.mem_flatMap.mp hu; exact hcs z u hu
    have hL : ∀ u ∈ L.flatMap cs, noI u := fun u hu => by obtain ⟨z, hz, hu⟩ := List.mem_flatMap.mp hu; exact hcs z u hu
    have hone : ∀ u ∈ M.flatMap cs, u.oneCell' = true := fun u hu => by obtain ⟨z, hz, hu⟩ := List.mem_flatMap.mp hu; exact K.one z u hu
    have hbb : (L.length + M.length) * i.bytes ≤ 140737488355328 := by rw [hby]; exact Nat.le_trans (Nat.mul_le_mul hlen hb1) (by decide)
    have hbm : M.length * i.bytes ≤ 281474976710656 := Nat.le_trans (Nat.mul_le_mul_right _ (Nat.le_add_left _ L.length)) (Nat.le_trans hbb (by decide))
    rcases hown.2 with ⟨rfl, hn⟩ | ⟨g, cap, cur, rfl, hbg, hg, hnc, hcm, hcsz, htake⟩
    · have hr2 := run_append_nil (P := Try.prog) w T ty t i zv K.und hi hzv ad M.length c _ hl hnews hpos (by omega) hbm
      rw [hr2] at hr
      cases hr
      intro g' hg'
      cases hg'
      refine noI_block (heap_alloc_new w.drew _) fun u hu => ?_
      rw [Array.toList_append, List.mem_append] at hu
      rcases hu with hu | hu
      · exact hM u (by simpa using hu)
      · exact hz0 u (mem_zero hu)
    · have hcur : ∀ u ∈ cur.toList, noI u := fun u hu k z e => by
        obtain ⟨j, hj⟩ := List.mem_iff_getElem?.mp hu
        subst e
        exact hno g rfl j k z (by rw [cell_of_row _ _ _ _ _ _ hg]; simpa using hj)
      by_cases hroom : L.length + M.length ≤ cap
      · have hfit : L.length * i.size + (M.flatMap cs).length ≤ cur.size := by rw [hl, hcsz, hs, ← Nat.add_mul]; exact Nat.mul_le_mul_right _ hroom
        have hr2 := run_append_room (P := Try.prog) w T ty t i K.und hi g L.length cap cur hg ad M.length c _ hl hnews hone hroom hfit
        rw [hr2] at hr
        cases hr
        intro g' hg'
        cases hg'
        refine noI_block (setRow_heap w g cur _ t _ hg) fun u hu => ?_
        rw [List.toList_toArray, List.mem_append, List.mem_append] at hu
        rcases hu with (hu | hu) | hu
        · exact hcur u (List.mem_of_mem_take hu)
        · exact hM u hu
        · exact hcur u (List.mem_of_mem_drop hu)
      · have holds : ∀ j u, (L.flatMap cs)[j]? = some u → w.cell? ((⟨g, 0, none⟩ : Addr).add j) = some u := World.ownsRow.cells hown (g := g) rfl
        have hr2 := run_append_grow (P := Try.prog) w T ty t i zv K.und hi hzv ⟨g, 0, none⟩ L.length cap _ (by rw [hs]; exact flat_len K.len L) holds ad M.length c _ hl hnews (by omega) (by omega) (growslice_fits (by omega) hbb)
        rw [hr2] at hr
        cases hr
        intro g' hg'
        cases hg'
        refine noI_block (heap_alloc_new w.drew _) fun u hu => ?_
        rw [Array.toList_append, List.mem_append, Array.toList_append, List.mem_append] at hu
        rcases hu with (hu | hu) | hu
        · exact hL u (by simpa using hu)
        · exact hM u (by simpa using hu)
        · exact hz0 u (mem_zero hu)
/-- 'append(s, x...)' in a plain region. -/
theorem append_rowsF (K : Kd cs s T t) (hcs : ∀ z, ∀ u ∈ cs z, noI u) (hzr : ∀ i zv, Try.prog.info? t = some i → i.zero = some zv → ∀ u ∈ zv.cells.toList, noI u)
    {ops : Array Oper} {rest : List Oper} {o : Oper} {a : Act} {Q : Exit → Act → World → Prop} (hgd : o.guard = none) (x y : Operand)
    (ho : o.op = .call { callee := .builtin .append, args := #[x, y], argTypes := #[T, T] })
    (v : Value) (L : List α) (hs : a.eval x = v) (hown : Row cs s t B w v L) (hno : NoI w v) (A : Option Addr) (m c : Nat) (M : List α) (hm : m = M.length) (hpos : 0 < m) (hx : a.eval y = .slice A m c) (hz : Rd cs s w A M) (hlen : L.length + m ≤ 1000000) (hB : B ≤ w.heap.size)
    (h : ∀ A' n' c' w', n' = L.length + m → Row cs s t B w' (.slice A' n' c') (L ++ M) → NoI w' (.slice A' n' c') → w.grownBy w' v.ownBlock → wpList Try.prog ops Q rest (a.put o.dst (.slice A' n' c')) w') :
    wpList Try.prog ops Q (o :: rest) a w := by
  obtain ⟨v', w', hr, h1, h2, h3, h4⟩ := run_append_noI K hcs hzr hown hno m c hm hpos hz hlen hB o.type
  obtain ⟨A', c', rfl, -⟩ := h1.one K.len
  refine wpList_plain hgd fun K' hK => ?_
  unfold Oper.wp execOp
  simp only [ho, resolve, invoke, builtin, Sem.run_bind, Sem.run_pure, Result.andThen_ok, List.map_toArray, List.map_cons, List.map_nil, hs, hx, hr]
  exact hK _ _ (h A' _ c' w' (by rw [List.length_append, hm]) h1 h4 h2)
/-- 'append(s, x...)' at a step of a region that draws its order. -/
theorem step_rowsF (K : Kd cs s T t) (hcs : ∀ z, ∀ u ∈ cs z, noI u) (hzr : ∀ i zv, Try.prog.info? t = some i → i.zero = some zv → ∀ u ∈ zv.cells.toList, noI u)
    {ops : Array Oper} {o : Oper} {a : Act} {K' : Act → World → Prop} {Q : Exit → Act → World → Prop} {E : Prop} (hgd : o.guard = none) (x y : Operand)
    (ho : o.op = .call { callee := .builtin .append, args := #[x, y], argTypes := #[T, T] })
    (v : Value) (L : List α) (hs : a.eval x = v) (hown : Row cs s t B w v L) (hno : NoI w v) (A : Option Addr) (m c : Nat) (M : List α) (hm : m = M.length) (hpos : 0 < m) (hx : a.eval y = .slice A m c) (hz : Rd cs s w A M) (hlen : L.length + m ≤ 1000000) (hB : B ≤ w.heap.size)
    (h : ∀ A' n' c' w', n' = L.length + m → Row cs s t B w' (.slice A' n' c') (L ++ M) → NoI w' (.slice A' n' c') → w.grownBy w' v.ownBlock → K' (a.put o.dst (.slice A' n' c')) w') :
    if Region.wanted o (yielded ops a.tmps) = true then Oper.wp Try.prog o a w K' Q else E := by
  have hw : Region.wanted o (yielded ops a.tmps) = true := by simp [Region.wanted, hgd]
  rw [if_pos hw]
  obtain ⟨v', w', hr, h1, h2, h3, h4⟩ := run_append_noI K hcs hzr hown hno m c hm hpos hz hlen hB o.type
  obtain ⟨A', c', rfl, -⟩ := h1.one K.len
  unfold Oper.wp execOp
  simp only [ho, resolve, invoke, builtin, Sem.run_bind, Sem.run_pure, Result.andThen_ok, List.map_toArray, List.map_cons, List.map_nil, hs, hx, hr]
  exact h A' _ c' w' (by rw [List.length_append, hm]) h1 h4 h2
end
end Go.Proofs.Ytgmlccjjhmhgbaa.Rw
/- Tanks in memory: rows of numbers. Contracts over valid numbers. -/
namespace Go.Proofs.Ytgmlccjjhmhgbaa.Tank
open Go.ChangeShapes Go.WideShapes Go.RowKit Go.Lib
open Go.Proofs.Ytgmlccjjhmhgbaa.Rw (Rd Row Kd glt get_lt rd_one flat_len)
set_option linter.unusedVariables false
set_option maxRecDepth 100000

/-! ### Rows of numbers -/
abbrev Slc := Option Addr × Nat × Nat
abbrev sl (s : Slc) : Value := .slice s.1 s.2.1 s.2.2
abbrev Raw := Bool × Slc × Slc
abbrev cR (r : Raw) : List Value := [.bool r.1, sl r.2.1, sl r.2.2]
theorem cR_len (r : Raw) : (cR r).length = 3 := rfl
abbrev TR : TypeId := 33
theorem info_parts {T : TypeId} {zz : Option Value} {s b : Nat} (h : (Try.prog.info? T).map (fun i => (i.zero, i.size, i.bytes)) = some (zz, s, b)) : ∃ i, Try.prog.info? T = some i ∧ i.zero = zz ∧ i.size = s ∧ i.bytes = b := by
  cases hi : Try.prog.info? T with
  | none => rw [hi] at h; cases h
  | some i => rw [hi] at h; simp at h; exact ⟨i, rfl, h.1, h.2.1, h.2.2⟩
theorem info_r : (Try.prog.info? TR).map (fun i => (i.zero, i.size, i.bytes)) = some (some (.agg #[.bool false, .slice none 0 0, .slice none 0 0]), 3, 56) := by kernel_rfl
theorem kdR : Kd cR 3 22 TR := by
  obtain ⟨i, h1, h2, h3, h4⟩ := info_parts info_r
  exact ⟨Try.underlying22, ⟨i, _, _, h1, h2, h3, rfl, rfl, by rw [h4]; decide⟩, cR_len, by decide, fun z u hu => by
    simp at hu
    rcases hu with h | h | h <;> subst h <;> rfl⟩
/-- What lies in the row stands for the numbers. -/
def Ins (w : World) (R : List Raw) (L : List Trip) : Prop :=
  R.length = L.length ∧ ∀ (k : Nat) (r : Raw) (t : Trip), R[k]? = some r → L[k]? = some t → r.1 = t.1 ∧ In w (sl r.2.1) t.2.1 ∧ In w (sl r.2.2) t.2.2
theorem Ins.nil (w : World) : Ins w [] [] := ⟨rfl, fun k r t h => by simp at h⟩
theorem Ins.on {w w' : World} {R : List Raw} {L : List Trip} (h : Ins w R L) (hb : Below w.heap.size w w') : Ins w' R L :=
  ⟨h.1, fun k r t hr ht => by obtain ⟨h1, h2, h3⟩ := h.2 k r t hr ht; exact ⟨h1, h2.on hb, h3.on hb⟩⟩
theorem Ins.snoc {w : World} {R : List Raw} {L : List Trip} {r : Raw} {t : Trip} (h : Ins w R L) (h1 : r.1 = t.1) (h2 : In w (sl r.2.1) t.2.1) (h3 : In w (sl r.2.2) t.2.2) : Ins w (R ++ [r]) (L ++ [t]) := by
  refine ⟨by rw [List.length_append, List.length_append, h.1]; rfl, fun k x u hx hu => ?_⟩
  rcases Nat.lt_or_ge k R.length with hk | hk
  · rw [List.getElem?_append_left hk] at hx
    rw [List.getElem?_append_left (by rw [← h.1]; exact hk)] at hu
    exact h.2 k x u hx hu
  · rw [List.getElem?_append_right hk] at hx
    rw [List.getElem?_append_right (by rw [← h.1]; exact hk)] at hu
    rw [← h.1] at hu
    obtain ⟨j, hj⟩ : ∃ j, k - R.length = j := ⟨_, rfl⟩
    rw [hj] at hx hu
    cases j with
    | zero => simp at hx hu; subst hx; subst hu; exact ⟨h1, h2, h3⟩
    | succ j => simp at hx
theorem Ins.rats {w : World} {A : Option Addr} {R : List Raw} {L : List Trip} (h : Rd cR 3 w A R) (hi : Ins w R L) : Rats w A L := by
  intro k t ht
  obtain ⟨r, hr⟩ := get_lt (L := R) (k := k) (by rw [hi.1]; exact glt ht)
  obtain ⟨b, off, e, hlt, hc⟩ := h k r hr
  obtain ⟨h1, h2, h3⟩ := hi.2 k r t hr ht
  obtain ⟨A1, c1, e1, i1⟩ := in_open h2
  obtain ⟨A2, c2, e2, i2⟩ := in_open h3
  have c0 := hc 0 _ rfl
  have c1' := hc 1 _ rfl
  have c2' := hc 2 _ rfl
  rw [Nat.add_zero, h1] at c0
  rw [show sl r.2.1 = _ from e1] at c1'
  rw [show sl r.2.2 = _ from e2] at c2'
  exact ⟨b, off, A1, c1, A2, c2, e, hlt, ⟨c0, c1', c2'⟩, i1, i2⟩
theorem Rats.nil (w : World) (A : Option Addr) : Rats w A [] := fun k t h => by simp at h
theorem Rats.at_ {w : World} {A : Option Addr} {L : List Trip} (h : Rats w A L) {k : Nat} {t : Trip} (ht : L[k]? = some t) : ∃ b off A1 c1 A2 c2, A = some ⟨b, off, none⟩ ∧ b < w.heap.size ∧
    w.cell? ⟨b, off + k * 3, none⟩ = some (.bool t.1) ∧ w.cell? ⟨b, off + k * 3 + 1, none⟩ = some (.slice A1 t.2.1.length c1) ∧ w.cell? ⟨b, off + k * 3 + 2, none⟩ = some (.slice A2 t.2.2.length c2) ∧ InR w (.agg #[.bool t.1, .slice A1 t.2.1.length c1, .slice A2 t.2.2.length c2]) t.1 t.2.1 t.2.2 := by
  obtain ⟨b, off, A1, c1, A2, c2, e, hlt, ⟨h0, h1, h2⟩, i1, i2⟩ := h k t ht
  exact ⟨b, off, A1, c1, A2, c2, e, hlt, h0, h1, h2, _, _, rfl, i1, i2⟩
/-- A tank's value. -/
def InT (w : World) (v : Value) (cap : Int) (L : List Trip) : Prop := ∃ A c, v = .agg #[.int .i64 cap, .slice A L.length c] ∧ L.length ≤ 9223372036854775807 ∧ Rats w A L
theorem InT.on {w w' : World} {v : Value} {cap : Int} {L : List Trip} (h : InT w v cap L) (hb : Below w.heap.size w w') : InT w' v cap L := by
  obtain ⟨A, c, e, hl, hr⟩ := h; exact ⟨A, c, e, hl, hr.on hb⟩
theorem InT.zero (w : World) : InT w (.agg #[.int .i64 0, .slice none 0 0]) 0 [] := ⟨none, 0, rfl, by simp, Rats.nil _ _⟩
/-- A tank and an error. -/
def TRes (w : World) (err cap : Int) (L : List Trip) (e : Ending) (w' : World) : Prop := ∃ v, e = .returned (.tuple #[v, .int .i64 err]) ∧ InT w' v cap L ∧ Below w.heap.size w w'
theorem TRes.none_ {w w' : World} {err : Int} (hb : Below w.heap.size w w') : TRes w err 0 [] (.returned (.tuple #[.agg #[.int .i64 0, .slice none 0 0], .int .i64 err])) w' := ⟨_, rfl, InT.zero _, hb⟩
/-- A number's value, cell by cell. -/
theorem inR_open {w : World} {v : Value} {b : Bool} {xs ys : List Int} (h : InR w v b xs ys) : ∃ A c B d, v = .agg #[.bool b, .slice A xs.length c, .slice B ys.length d] ∧ In w (.slice A xs.length c) xs ∧ In w (.slice B ys.length d) ys := by
  obtain ⟨vp, vq, rfl, h1, h2⟩ := h
  obtain ⟨A, c, rfl, i1⟩ := in_open h1
  obtain ⟨B, d, rfl, i2⟩ := in_open h2
  exact ⟨A, c, B, d, rfl, i1, i2⟩
theorem RRes.op {w : World} {err : Int} {r : Rat} {e : Ending} {w' : World} (h : RRes w err r e w') : ∃ b A n c B m d, e = .returned (.tuple #[.agg #[.bool b, .slice A n c, .slice B m d], .int .i64 err]) ∧ OutR w' (.agg #[.bool b, .slice A n c, .slice B m d]) err r ∧ Below w.heap.size w w' := by
  obtain ⟨v, rfl, ho, hb⟩ := h
  have h1 : ∃ b xs ys, InR w' v b xs ys := by
    unfold OutR at ho
    split at ho
    · exact ⟨_, _, _, ho⟩
    · exact ⟨_, _, _, ho⟩
  obtain ⟨b, xs, ys, hi⟩ := h1
  obtain ⟨A, c, B, d, rfl, -, -⟩ := inR_open hi
  exact ⟨b, A, _, c, B, _, d, rfl, ho, hb⟩
theorem IsR.cells {w : World} {b : Bool} {A B : Option Addr} {n c m d : Nat} {r : Rat} (h : IsR w (.agg #[.bool b, .slice A n c, .slice B m d]) r) : b = negR r ∧ In w (.slice A n c) (topL r) ∧ In w (.slice B m d) (botL r) := by
  obtain ⟨vp, vq, e, h1, h2⟩ := h
  simp only [Value.agg.injEq, Array.mk.injEq, List.cons.injEq, Value.bool.injEq, and_true] at e
  obtain ⟨e1, e2, e3⟩ := e
  subst e1; subst e2; subst e3
  exact ⟨rfl, h1, h2⟩
/-! ### Appends -/
theorem cR_noI (z : Raw) : ∀ u ∈ cR z, Rw.noI u := fun u hu => by
  simp at hu
  rcases hu with h | h | h <;> subst h <;> intro k z e <;> cases e
theorem zR_noI (i : TypeInfo) (zv : Value) (hi : Try.prog.info? TR = some i) (hz : i.zero = some zv) : ∀ u ∈ zv.cells.toList, Rw.noI u := by
  obtain ⟨i', h1, h2, -, -⟩ := info_parts info_r
  rw [hi] at h1
  cases h1
  rw [hz] at h2
  cases h2
  intro u hu
  have hu' : u ∈ [Value.bool false, .slice none 0 0, .slice none 0 0] := hu
  simp at hu'
  rcases hu' with h | h <;> subst h <;> intro k z e <;> cases e
theorem In.grown {w w' : World} {rv v : Value} {zs : List Int} (h : In w v zs) (hg : w.grownBy w' rv.ownBlock) (hn : Rw.NoI w rv) : In w' v zs := by
  obtain ⟨A, c, rfl, h1, h2, h3⟩ := h
  refine ⟨A, c, rfl, h1, h2, fun k z hz => ?_⟩
  obtain ⟨b, off, hA, hlo, hlt, hc⟩ := h3 k z hz
  refine ⟨b, off, hA, ⟨Nat.zero_le _, Or.inl rfl⟩, Nat.lt_of_lt_of_le hlt hg.size, ?_⟩
  by_cases hb : rv.ownBlock = some b
  · exact absurd hc (hn b hb _ _ _)
  · exact (World.cell?_of_block (a := ⟨b, off + k, none⟩) (hg.block b hlt fun e => hb e.symm)).trans hc
theorem Ins.grown {w w' : World} {rv : Value} {R : List Raw} {L : List Trip} (h : Ins w R L) (hg : w.grownBy w' rv.ownBlock) (hn : Rw.NoI w rv) : Ins w' R L :=
  ⟨h.1, fun k r t hr ht => by obtain ⟨h1, h2, h3⟩ := h.2 k r t hr ht; exact ⟨h1, In.grown h2 hg hn, In.grown h3 hg hn⟩⟩
theorem Ins.set {w : World} {R : List Raw} {L : List Trip} (h : Ins w R L) {p : Addr} {u : Value} (hx : w.cell? p = some u) (hu : ∀ z, u ≠ .int .i64 z) (x : Value) : Ins (w.setCell p x) R L :=
  ⟨h.1, fun k r t hr ht => by obtain ⟨h1, h2, h3⟩ := h.2 k r t hr ht; exact ⟨h1, h2.set hx hu x, h3.set hx hu x⟩⟩
/-- The row that a field of a tank holds, while the call builds it. -/
structure Bld (w : World) (B g : Nat) (cap : Int) (A : Option Addr) (n c : Nat) (R : List Raw) (L : List Trip) : Prop where
  cel : Rw.Cel w g [.int .i64 cap, .slice A n c]
  row : Rw.Row cR 3 TR B w (.slice A n c) R
  len : n = R.length
  ins : Ins w R L
  noi : Rw.NoI w (.slice A n c)
  lt : g < B
theorem Bld.on {w w' : World} {B g : Nat} {cap : Int} {A : Option Addr} {n c : Nat} {R : List Raw} {L : List Trip} (h : Bld w B g cap A n c R L) (hb : Below w.heap.size w w') : Bld w' B g cap A n c R L :=
  ⟨h.cel.on hb, h.row.on hb, h.len, h.ins.on hb, h.noi.keep fun k hk => hb.block k (h.row.lt k hk).2, h.lt⟩
/-- Behind the append, and the store of the new slice into the field. -/
theorem Bld.push {w w' : World} {B g : Nat} {cap : Int} {A : Option Addr} {n c : Nat} {R : List Raw} {L : List Trip} (h : Bld w B g cap A n c R L) {r : Raw} {t : Trip} {A' : Option Addr} {n' c' : Nat} (hn' : n' = R.length + 1)
    (hrow : Rw.Row cR 3 TR B w' (.slice A' n' c') (R ++ [r])) (hno : Rw.NoI w' (.slice A' n' c')) (hg : w.grownBy w' (Value.slice A n c).ownBlock) (h1 : r.1 = t.1) (h2 : In w (sl r.2.1) t.2.1) (h3 : In w (sl r.2.2) t.2.2) :
    Bld (w'.setCell ⟨g, 1, none⟩ (.slice A' n' c')) B g cap A' n' c' (R ++ [r]) (L ++ [t]) := by
  have hc : Rw.Cel w' g [.int .i64 cap, .slice A n c] := h.cel.grown hg fun e => by have := (h.row.lt _ e).1; have := h.lt; omega
  have hoff : Rw.Off (fun k => k = g) w' (w'.setCell ⟨g, 1, none⟩ (.slice A' n' c')) := Rw.Off.set (S := fun k => k = g) (Rw.Off.refl _ _) (p := ⟨g, 1, none⟩) (Or.inl rfl) _
  have hke : ∀ k, (Value.slice A' n' c').ownBlock = some k → (w'.setCell ⟨g, 1, none⟩ (.slice A' n' c')).heap[k]? = w'.heap[k]? := fun k hk => by
    have hl := hrow.lt k hk
    exact hoff.block k hl.2 fun e => by have := h.lt; omega
  refine ⟨hc.set 1 _, hrow.keep hke, by rw [hn', List.length_append]; rfl, ?_, hno.keep hke, h.lt⟩
  exact ((h.ins.grown hg h.noi).snoc h1 (In.grown h2 hg h.noi) (In.grown h3 hg h.noi)).set (u := .slice A n c) (hc.two.2) (fun z e => by cases e) _
theorem Bld.below {w0 w w' : World} {B g : Nat} {cap : Int} {A : Option Addr} {n c : Nat} {R : List Raw} {L : List Trip} (h : Bld w B g cap A n c R L) (hb : Below w0.heap.size w0 w) (hg : w.grownBy w' (Value.slice A n c).ownBlock) (hB : B ≤ w.heap.size) (h0 : w0.heap.size ≤ g) (x : Value) : Below w0.heap.size w0 (w'.setCell ⟨g, 1, none⟩ x) :=
  (hb.trans ((h.row.below hg hB).mono (Nat.le_trans h0 (Nat.le_of_lt h.lt)))).setCell (p := ⟨g, 1, none⟩) h0 x
/-- Another block's cells. -/
theorem Bld.far {w w' : World} {B g : Nat} {cap : Int} {A : Option Addr} {n c : Nat} {R : List Raw} {L : List Trip} (h : Bld w B g cap A n c R L) {g' : Nat} {us : List Value} (hc : Rw.Cel w g' us) (hg : w.grownBy w' (Value.slice A n c).ownBlock) (hl : g' < B) (hne : g ≠ g') (x : Value) : Rw.Cel (w'.setCell ⟨g, 1, none⟩ x) g' us :=
  (hc.grown hg fun e => by have := (h.row.lt _ e).1; omega).far (p := ⟨g, 1, none⟩) hne x
theorem Bld.nil {w : World} {B g : Nat} {cap : Int} (h : Rw.Cel w g [.int .i64 cap, .slice none 0 0]) (hl : g < B) : Bld w B g cap none 0 0 [] [] :=
  ⟨h, Rw.Row.nil _ _ _ _ _, rfl, Ins.nil _, Rw.NoI.nil _, hl⟩
/-- The tank that is read off at the end. -/
theorem Bld.tank {w : World} {B g : Nat} {cap : Int} {A : Option Addr} {n c : Nat} {R : List Raw} {L : List Trip} (h : Bld w B g cap A n c R L) (hl : L.length ≤ 9223372036854775807) : InT w (.agg #[.int .i64 cap, .slice A n c]) cap L ∧ Rats w A L ∧ n = L.length := by
  obtain ⟨A0, c0, e, -, -, hrd, -, -⟩ := h.row.one cR_len
  obtain ⟨rfl, -, rfl⟩ := Value.slice.inj e
  have hn : n = L.length := h.len.trans h.ins.1
  exact ⟨⟨A, c, by rw [hn], hl, h.ins.rats hrd⟩, h.ins.rats hrd, hn⟩
/-- A store into a tank that is still the zero value: no limbs of a valid number lie there (the last limb is not 0). -/
theorem In.tank {w : World} {v : Value} {zs : List Int} {g : Nat} {A : Option Addr} {n c : Nat} (h : In w v zs) (hv : validB zs = true) (hc : Rw.Cel w g [.int .i64 0, .slice A n c]) (x y : Value) : In ((w.setCell ⟨g, 0, none⟩ x).setCell ⟨g, 1, none⟩ y) v zs := by
  obtain ⟨c0, c1⟩ := hc.two
  have h2 : In (w.setCell ⟨g, 0, none⟩ x) v zs := by
    obtain ⟨A', d, rfl, h1, h2, h3⟩ := h
    refine ⟨A', d, rfl, h1, h2, fun k z hz => ?_⟩
    obtain ⟨b, off, hA, hlo, hlt, hcell⟩ := h3 k z hz
    refine ⟨b, off, hA, ⟨Nat.zero_le _, Or.inl rfl⟩, by simpa using hlt, ?_⟩
    rw [World.cell?_setCell_other w ⟨g, 0, none⟩ ⟨b, off + k, none⟩ x ?_]
    · exact hcell
    · intro e
      simp only [Addr.mk.injEq, and_true] at e
      obtain ⟨rfl, e2⟩ := e
      have hk : k = 0 := by omega
      have ho : off = 0 := by omega
      subst hk; subst ho
      rw [c0] at hcell
      cases hcell
      match zs, hz with
      | [z0], hz => simp at hz; subst hz; exact absurd hv (by decide)
      | z0 :: z1 :: l, hz =>
        obtain ⟨b', off', hA', -, -, hc'⟩ := h3 1 z1 rfl
        rw [hA] at hA'
        cases hA'
        rw [show (0 + 1 : Nat) = 1 from rfl, c1] at hc'
        cases hc'
  have c1' : (w.setCell ⟨g, 0, none⟩ x).cell? ⟨g, 1, none⟩ = some (.slice A n c) := (hc.set 0 x).two.2
  exact h2.set c1' (fun z e => by cases e) y
theorem vT_valid {t : Trip} (h : vT t = true) : validB t.2.1 = true ∧ validB t.2.2 = true := ⟨(val_parts h).1, (val_parts h).2.1⟩
theorem Ins.tank {w : World} {R : List Raw} {L : List Trip} {g : Nat} {A : Option Addr} {n c : Nat} (h : Ins w R L) (hv : ∀ t ∈ L, vT t = true) (hc : Rw.Cel w g [.int .i64 0, .slice A n c]) (x y : Value) : Ins ((w.setCell ⟨g, 0, none⟩ x).setCell ⟨g, 1, none⟩ y) R L :=
  ⟨h.1, fun k r t hr ht => by
    obtain ⟨h1, h2, h3⟩ := h.2 k r t hr ht
    obtain ⟨v1, v2⟩ := vT_valid (hv t (List.mem_of_getElem? ht))
    exact ⟨h1, In.tank h2 v1 hc x y, In.tank h3 v2 hc x y⟩⟩
/-- The row of a tank that is handed back: it lies in the result, and nowhere else. -/
theorem row_tank {w : World} {B : Nat} {A : Option Addr} {n c : Nat} {R : List Raw} {L : List Trip} (hr : Rw.Row cR 3 TR B w (.slice A n c) R) (hi : Ins w R L) (hv : ∀ t ∈ L, vT t = true) {g0 : Nat} {A0 : Option Addr} {m d : Nat} (hz : Rw.Cel w g0 [.int .i64 0, .slice A0 m d]) (h0 : g0 < B) (x y : Value) :
    Rw.Row cR 3 TR B ((w.setCell ⟨g0, 0, none⟩ x).setCell ⟨g0, 1, none⟩ y) (.slice A n c) R ∧ Ins ((w.setCell ⟨g0, 0, none⟩ x).setCell ⟨g0, 1, none⟩ y) R L := by
  have hoff := Rw.off_put2 w g0 x y
  exact ⟨hr.keep fun k hk => by have hl := hr.lt k hk; exact hoff.block k hl.2 fun e => by omega, hi.tank hv hz x y⟩
theorem row_rats {w : World} {B : Nat} {A : Option Addr} {n c : Nat} {R : List Raw} {L : List Trip} (hr : Rw.Row cR 3 TR B w (.slice A n c) R) (hi : Ins w R L) (hn : n = R.length) : Rats w A L ∧ n = L.length := by
  obtain ⟨A0, c0, e, -, -, hrd, -, -⟩ := hr.one cR_len
  obtain ⟨rfl, -, rfl⟩ := Value.slice.inj e
  exact ⟨hi.rats hrd, hn.trans hi.1⟩
theorem Bld.done {w : World} {B g : Nat} {cap : Int} {A : Option Addr} {n c : Nat} {R : List Raw} {L : List Trip} (h : Bld w B g cap A n c R L) (hv : ∀ t ∈ L, vT t = true) {g0 : Nat} {A0 : Option Addr} {m d : Nat} (hz : Rw.Cel w g0 [.int .i64 0, .slice A0 m d]) (h0 : g0 < B) (hl : L.length ≤ 9223372036854775807) :
    InT ((w.setCell ⟨g0, 0, none⟩ (.int .i64 cap)).setCell ⟨g0, 1, none⟩ (.slice A n c)) (.agg #[.int .i64 cap, .slice A n c]) cap L := by
  obtain ⟨hr, hi⟩ := row_tank h.row h.ins hv hz h0 (.int .i64 cap) (.slice A n c)
  obtain ⟨h1, h2⟩ := row_rats hr hi h.len
  exact ⟨A, c, by rw [h2], hl, h1⟩
/-! ### Contracts over valid numbers -/
theorem x_Of (n : Int) (h : 0 ≤ n) (h2 : n ≤ 1099511627776) (w : World) : Calls Try.prog 27 #[.int .i64 n] w (RRes w 0 (qI n)) := by
  have := ref_Of3 n w (by omega) (by omega)
  rw [qI_ok h h2] at this
  exact this
end Go.Proofs.Ytgmlccjjhmhgbaa.Tank
/- Same, zero, Check, Level of the reference. -/
namespace Go.Proofs.Ytgmlccjjhmhgbaa.Tank
open Go.ChangeShapes Go.WideShapes Go.RowKit Go.Lib
open Go.Proofs.Ytgmlccjjhmhgbaa.Rw (Rd Row Kd glt get_lt rd_one flat_len below_alloc bstep wrap_id below_drewN below_drew drew_below)
set_option linter.unusedVariables false
set_option maxRecDepth 100000

theorem ne_zero {E : Int} (h : ¬ E = 0) : (E == 0) = false ∧ (E != 0) = true := by
  have h1 : (E == 0) = false := beq_false_of_ne h
  exact ⟨h1, by rw [bne, h1]; rfl⟩
theorem res_rat {fn : Func} {p : Tmp} (h : fn.results = #[.cell p 33]) {tmps : Array Value} {w : World} {g : Nat} {u0 u1 u2 : Value} (hp : tmps.getD p undef = .pointer (some ⟨g, 0, none⟩))
    (hc : Rw.Cel w g [u0, u1, u2]) : (results fn tmps).run Try.prog w = .ok (.agg #[u0, u1, u2]) w := by
  have hp' : tmps[p]?.getD undef = .pointer (some ⟨g, 0, none⟩) := by simpa using hp
  obtain ⟨h0, h1, h2⟩ := hc.three
  simp [results, h, hp', go_sem, h0, h1, h2]
theorem res_rat2 {fn : Func} {p u : Tmp} (h : fn.results = #[.cell p 33, .tmp u]) {tmps : Array Value} {w : World} {g : Nat} {u0 u1 u2 : Value} (hp : tmps.getD p undef = .pointer (some ⟨g, 0, none⟩))
    (hc : Rw.Cel w g [u0, u1, u2]) : (results fn tmps).run Try.prog w = .ok (.tuple #[.agg #[u0, u1, u2], tmps.getD u undef]) w := by
  have hp' : tmps[p]?.getD undef = .pointer (some ⟨g, 0, none⟩) := by simpa using hp
  obtain ⟨h0, h1, h2⟩ := hc.three
  simp [results, h, hp', go_sem, h0, h1, h2]
theorem res_tank2 {fn : Func} {p u : Tmp} (h : fn.results = #[.cell p 24, .tmp u]) {tmps : Array Value} {w : World} {g : Nat} {u0 u1 : Value} (hp : tmps.getD p undef = .pointer (some ⟨g, 0, none⟩))
    (hc : Rw.Cel w g [u0, u1]) : (results fn tmps).run Try.prog w = .ok (.tuple #[.agg #[u0, u1], tmps.getD u undef]) w := by
  have hp' : tmps[p]?.getD undef = .pointer (some ⟨g, 0, none⟩) := by simpa using hp
  obtain ⟨h0, h1⟩ := hc.two
  simp [results, h, hp', go_sem, h0, h1]
theorem res_tank3 {fn : Func} {p u v : Tmp} (h : fn.results = #[.cell p 24, .tmp u, .tmp v]) {tmps : Array Value} {w : World} {g : Nat} {u0 u1 : Value} (hp : tmps.getD p undef = .pointer (some ⟨g, 0, none⟩))
    (hc : Rw.Cel w g [u0, u1]) : (results fn tmps).run Try.prog w = .ok (.tuple #[.agg #[u0, u1], tmps.getD u undef, tmps.getD v undef]) w := by
  have hp' : tmps[p]?.getD undef = .pointer (some ⟨g, 0, none⟩) := by simpa using hp
  obtain ⟨h0, h1⟩ := hc.two
  simp [results, h, hp', go_sem, h0, h1]
set_option maxHeartbeats 800000 in
theorem tk_Same (t u : Trip) (va vb : Value) (w : World) (ha : InR w va t.1 t.2.1 t.2.2) (hb : InR w vb u.1 u.2.1 u.2.2) :
    Calls Try.prog 9 #[va, vb] w fun e w' => e = .returned (.bool (decide (t = u))) ∧ Below w.heap.size w w' := by
  obtain ⟨b, xs, ys⟩ := t
  obtain ⟨c, zs, us⟩ := u
  obtain ⟨A1, a1, A2, a2, rfl, ha1, ha2⟩ := inR_open ha
  obtain ⟨B1, b1, B2, b2, rfl, hb1, hb2⟩ := inR_open hb
  have HA1 := Lib.hid ha1
  have HA2 := Lib.hid ha2
  have HB1 := Lib.hid hb1
  have HB2 := Lib.hid hb2
  clear ha hb ha1 ha2 hb1 hb2
  have he : decide ((b, xs, ys) = (c, zs, us)) = ((b == c) && (decide (xs = zs) && decide (ys = us))) := by
    by_cases h1 : b = c <;> by_cases h2 : xs = zs <;> by_cases h3 : ys = us <;> simp [h1, h2, h3]
  rw [he]
  clear he
  cases hbc : (b == c) with
  | false =>
    go_enter Try.func9, Try.ntmps9
    go_wp2_with fail
    go_ret
    exact ⟨rfl, balloc (below_alloc _ _) _⟩
  | true =>
    obtain ⟨p, hp⟩ : ∃ p, decide (xs = zs) = p := ⟨_, rfl⟩
    obtain ⟨q, hq⟩ : ∃ q, decide (ys = us) = q := ⟨_, rfl⟩
    have KP := Lib.hid fun W h k => same_in xs zs (.slice A1 xs.length a1) (.slice B1 zs.length b1) W h k
    have KQ := Lib.hid fun W h k => same_in ys us (.slice A2 ys.length a2) (.slice B2 us.length b2) W h k
    rw [hp] at KP
    rw [hq] at KQ
    rw [hp, hq]
    go_enter Try.func9, Try.ntmps9
    go_wp2_with fail
    refine (KP.out _ ((HA1.out.alloc _).alloc _) ((HB1.out.alloc _).alloc _)).mono ?_
    rintro e w1 ⟨rfl, h1⟩
    obtain ⟨hc, hf⟩ := bcell h1
    have HB := Lib.hid h1
    clear h1
    cases p with
    | false =>
      go_wp2_with fail
      go_ret
      exact ⟨rfl, (balloc (below_alloc _ _) _).trans (HB.out.mono (by simp; omega))⟩
    | true =>
      go_wp2_with fail
      refine (KQ.out _ (((HA2.out.alloc _).alloc _).on HB.out) (((HB2.out.alloc _).alloc _).on HB.out)).mono ?_
      rintro e w2 ⟨rfl, h2⟩
      have HC := Lib.hid h2
      clear h2
      go_wp2_with fail
      go_ret
      exact ⟨rfl, bstep ((balloc (below_alloc _ _) _).trans (HB.out.mono (by simp; omega))) HC.out⟩
theorem cel_root {w : World} {g : Nat} {u0 u1 u2 : Value} (h : Rw.Cel w g [u0, u1, u2]) : Cel w g u0 u1 u2 := ⟨h.three, h.warm3⟩
theorem qI_zero : qI 0 = 0 := mkV_zero
end Go.Proofs.Ytgmlccjjhmhgbaa.Tank
/- Check, Level of the reference. -/
namespace Go.Proofs.Ytgmlccjjhmhgbaa.Tank
open Go.ChangeShapes Go.WideShapes Go.RowKit Go.Lib
open Go.Proofs.Ytgmlccjjhmhgbaa.Rw (Rd Row Kd glt get_lt rd_one flat_len below_alloc bstep wrap_id below_drewN below_drew drew_below)
set_option linter.unusedVariables false
set_option maxRecDepth 100000

theorem ckT_cap {cap : Int} {L : List Trip} (h : ¬ (1 ≤ cap ∧ cap ≤ MM)) : ckT cap L = 1 := if_neg h
theorem ckT_in {cap : Int} {L : List Trip} (h : 1 ≤ cap ∧ cap ≤ MM) : ckT cap L = ckN cap L := if_pos h
theorem ckN_len {cap : Int} {L : List Trip} (h : ¬ (1 ≤ L.length ∧ L.length ≤ 8)) : ckN cap L = 17 := if_neg h
theorem ckN_in {cap : Int} {L : List Trip} (h : 1 ≤ L.length ∧ L.length ≤ 8) : ckN cap L = if ckP L = 0 then ckS cap L else ckP L := if_pos h
/-- The level, or the error of Check. -/
theorem rres_sum {w w' : World} {err err2 : Int} {r : Rat} {e : Ending} (h : RRes w err r e w') (he : err = err2) : RRes w err2 r e w' := he ▸ h
end Go.Proofs.Ytgmlccjjhmhgbaa.Tank
/- New of the reference. -/
namespace Go.Proofs.Ytgmlccjjhmhgbaa.Tank
open Go.ChangeShapes Go.WideShapes Go.RowKit Go.Lib
open Go.Proofs.Ytgmlccjjhmhgbaa.Rw (Rd Row Kd glt get_lt rd_one flat_len below_alloc bstep wrap_id below_drewN below_drew drew_below step_rows append_rows step_rowsF append_rowsF)
set_option linter.unusedVariables false
set_option maxRecDepth 100000

def nwE (kinds cap : Int) : Int := if 1 ≤ kinds ∧ kinds ≤ 8 then (if 1 ≤ cap ∧ cap ≤ MM then 0 else 1) else 17
def nwC (kinds cap : Int) : Int := if nwE kinds cap = 0 then cap else 0
def nwL (kinds cap : Int) : List Trip := if nwE kinds cap = 0 then List.replicate kinds.toNat (triR 0) else []
theorem nw_no {kinds cap E : Int} (h : nwE kinds cap = E) (h0 : ¬ E = 0) : nwC kinds cap = 0 ∧ nwL kinds cap = [] := by
  unfold nwC nwL
  rw [h, if_neg h0, if_neg h0]; exact ⟨rfl, rfl⟩
theorem res_no {fn : Func} {w w' : World} {tmps : Array Value} {p u : Tmp} {err : Int} (h : fn.results = #[.cell p 24, .tmp u]) {g : Nat} (hp : tmps.getD p undef = .pointer (some ⟨g, 0, none⟩)) (hu : tmps.getD u undef = .int .i64 err)
    (hc : Rw.Cel w' g [.int .i64 0, .slice none 0 0]) : (results fn tmps).run Try.prog w' = .ok (.tuple #[.agg #[.int .i64 0, .slice none 0 0], .int .i64 err]) w' := by rw [← hu]; exact res_tank2 h hp hc
end Go.Proofs.Ytgmlccjjhmhgbaa.Tank
/- Fill of the reference. -/
namespace Go.Proofs.Ytgmlccjjhmhgbaa.Tank
open Go.ChangeShapes Go.WideShapes Go.RowKit Go.Lib
open Go.Proofs.Ytgmlccjjhmhgbaa.Mem (Cl eI Own)
open Go.Proofs.Ytgmlccjjhmhgbaa.Rw (Rd Kd glt get_lt rd_one flat_len below_alloc bstep wrap_id below_drewN below_drew drew_below step_rowsF append_rowsF take_snoc_of)
set_option linter.unusedVariables false
set_option maxRecDepth 100000

theorem qs_at' {L : List Trip} {k : Nat} {t : Trip} (h : L[k]? = some t) : (qs L)[k]? = some (rT t) := qs_at h
theorem qs_fit {L : List Trip} (h : ∀ t ∈ L, vT t = true) : ∀ q ∈ qs L, fitR q = true := fun q hq => by
  obtain ⟨t, ht, rfl⟩ := List.mem_map.mp hq
  exact (trip_form (h t ht)).1
theorem ts_valid {Q : List Rat} (h : ∀ q ∈ Q, fitR q = true) : ∀ t ∈ ts Q, vT t = true := fun t ht => by
  obtain ⟨q, hq, rfl⟩ := List.mem_map.mp ht
  exact vT_tri (h q hq)
theorem ts_take_succ {Q : List Rat} {k : Nat} {q : Rat} (h : Q[k]? = some q) : ts (Q.take (k + 1)) = ts (Q.take k) ++ [triR q] := by
  rw [take_snoc_of h]
  unfold ts
  rw [List.map_append]; rfl
theorem trip_isR {w : World} {v : Value} {t : Trip} (h : vT t = true) (hi : InR w v t.1 t.2.1 t.2.2) : IsR w v (rT t) := trip_is h hi
/-- The number that a call left in a new box. -/
def Boxed (w : World) (err : Int) (r : Rat) (x y : Value) (wz : World) : Prop :=
  ∃ g b A1 n1 c1 B1 m1 d1, x = .pointer (some ⟨g, 0, none⟩) ∧ y = .int .i64 err ∧ Rw.Cel wz g [.bool b, .slice A1 n1 c1, .slice B1 m1 d1] ∧ OutR wz (.agg #[.bool b, .slice A1 n1 c1, .slice B1 m1 d1]) err r ∧ Below w.heap.size w wz ∧ w.heap.size ≤ g
theorem after_zero {w w4 : World} (h : Below ((w.alloc (.cells #[.bool false, .slice none 0 0, .slice none 0 0] 33)).drew).heap.size ((w.alloc (.cells #[.bool false, .slice none 0 0, .slice none 0 0] 33)).drew) w4) : Rw.Cel w4 w.heap.size [.bool false, .slice none 0 0, .slice none 0 0] := ((Rw.Cel.new w [.bool false, .slice none 0 0, .slice none 0 0] 33).drew).on h
theorem cl_below {w w4 : World} (h : Below w.drew.heap.size w.drew w4 ∨ Below ((w.alloc (.cells #[.bool false, .slice none 0 0, .slice none 0 0] 33)).drew).heap.size ((w.alloc (.cells #[.bool false, .slice none 0 0, .slice none 0 0] 33)).drew) w4) : Below w.heap.size w w4 := by
  rcases h with h | h
  · exact bstep (drew_below _) h
  · exact bstep (below_drew (below_alloc _ _)) h
theorem Boxed.new {w w6 : World} {err : Int} {r : Rat} {b : Bool} {A1 B1 : Option Addr} {n1 c1 m1 d1 : Nat} (ho : OutR w6 (.agg #[.bool b, .slice A1 n1 c1, .slice B1 m1 d1]) err r) (hb : Below w.heap.size w w6) : Boxed w err r (.pointer (some ⟨w6.heap.size, 0, none⟩)) (.int .i64 err) (w6.alloc (.cells #[.bool b, .slice A1 n1 c1, .slice B1 m1 d1] 33)) :=
  ⟨_, _, _, _, _, _, _, _, rfl, rfl, Rw.Cel.new w6 [_, _, _] _, ho.on (below_alloc _ _), bstep hb (below_alloc _ _), hb.size⟩
theorem Boxed.put {w w6 : World} {err : Int} {r : Rat} {b : Bool} {A1 B1 : Option Addr} {n1 c1 m1 d1 : Nat} (ho : OutR w6 (.agg #[.bool b, .slice A1 n1 c1, .slice B1 m1 d1]) err r) (hb : Below w.heap.size w w6) {g : Nat} (hc : Rw.Cel w6 g [.bool false, .slice none 0 0, .slice none 0 0]) (hg : w.heap.size ≤ g) : Boxed w err r (.pointer (some ⟨g, 0, none⟩)) (.int .i64 err) (((w6.setCell ⟨g, 0, none⟩ (.bool b)).setCell ⟨g, 1, none⟩ (.slice A1 n1 c1)).setCell ⟨g, 2, none⟩ (.slice B1 m1 d1)) :=
  ⟨_, _, _, _, _, _, _, _, rfl, rfl, hc.put3 _ _ _, OutR.put3 ho (cel_root hc) _ _ _, Rw.below_put3 hb hg _ _ _, hg⟩
theorem filE_ck {cap : Int} {L : List Trip} {m : List Int} (h : ¬ ckT cap L = 0) : filE cap L m = ckT cap L ∧ filC cap L m = 0 ∧ filL cap L m = [] := by
  have h1 : filE cap L m = ckT cap L := if_neg h
  exact ⟨h1, if_neg (by rw [h1]; exact h), if_neg (by rw [h1]; exact h)⟩
theorem filE_par {cap : Int} {L : List Trip} {m : List Int} (h : ckT cap L = 0) (h2 : ¬ parE m (L.length : Int) = 0) : filE cap L m = parE m (L.length : Int) ∧ filC cap L m = 0 ∧ filL cap L m = [] := by
  have h1 : filE cap L m = parE m (L.length : Int) := by unfold filE; rw [if_pos h, if_neg h2]
  exact ⟨h1, if_neg (by rw [h1]; exact h2), if_neg (by rw [h1]; exact h2)⟩
theorem filE_over {cap : Int} {L : List Trip} {m : List Int} (h : ckT cap L = 0) (h2 : parE m (L.length : Int) = 0) (h3 : filB (qs L) m = false) : filE cap L m = 2 ∧ filC cap L m = 0 ∧ filL cap L m = [] := by
  have h1 : filE cap L m = 2 := by unfold filE; rw [if_pos h, if_pos h2, h3]; rfl
  exact ⟨h1, if_neg (by rw [h1]; decide), if_neg (by rw [h1]; decide)⟩
theorem filE_end {cap : Int} {L : List Trip} {m : List Int} (h : ckT cap L = 0) (h2 : parE m (L.length : Int) = 0) (h3 : filB (qs L) m = true) : filE cap L m = ckT cap (ts (filV (qs L) m)) := by
  unfold filE; rw [if_pos h, if_pos h2, if_pos h3]
end Go.Proofs.Ytgmlccjjhmhgbaa.Tank
