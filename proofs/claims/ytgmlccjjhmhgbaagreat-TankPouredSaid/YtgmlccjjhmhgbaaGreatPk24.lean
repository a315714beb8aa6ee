/- Several texts in one: TankB, TankC, TankD, TankE. -/
import Derived.Test.YtgmlccjjhmhgbaaGreatPk23
/- Tanks in memory: rows of numbers. Contracts over valid numbers. -/
namespace Go.Proofs.YtgmlccjjhmhgbaaGreat.Tank
open Go.ChangeShapes Go.WideShapes Go.RowKit Go.Lib
open Go.Proofs.YtgmlccjjhmhgbaaGreat.Rw (Rd Row Kd glt get_lt rd_one flat_len)
set_option linter.unusedVariables false
set_option maxRecDepth 100000

/-! ### Rows of numbers -/
abbrev Slc := Option Addr × Nat × Nat
abbrev sl (s : Slc) : Value := .slice s.1 s.2.1 s.2.2
abbrev Raw := Bool × Slc × Slc
abbrev cR (r : Raw) : List Value := [.bool r.1, sl r.2.1, sl r.2.2]
theorem cR_len (r : Raw) : (cR r).length = 3 := rfl
abbrev TR : TypeId := 33
theorem info_parts {T : TypeId} {zz : Option Value} {s b : Nat} (h : (Tryz.prog.info? T).map (fun i => (i.zero, i.size, i.bytes)) = some (zz, s, b)) : ∃ i, Tryz.prog.info? T = some i ∧ i.zero = zz ∧ i.size = s ∧ i.bytes = b := by
  cases hi : Tryz.prog.info? T with
  | none => rw [hi] at h; cases h
  | some i => rw [hi] at h; simp at h; exact ⟨i, rfl, h.1, h.2.1, h.2.2⟩
theorem info_r : (Tryz.prog.info? TR).map (fun i => (i.zero, i.size, i.bytes)) = some (some (.agg #[.bool false, .slice none 0 0, .slice none 0 0]), 3, 56) := by kernel_rfl
theorem kdR : Kd cR 3 22 TR := by
  obtain ⟨i, h1, h2, h3, h4⟩ := info_parts info_r
  exact ⟨Tryz.underlying22, ⟨i, _, _, h1, h2, h3, rfl, rfl, by rw [h4]; decide⟩, cR_len, by decide, fun z u hu => by
    simp at hu
    rcases hu with h | h | h <;> subst h <;> rfl⟩
/-- What lies in the row stands for the numbers. -/
def Ins (w : World) (R : List Raw) (L : List Trip) : Prop :=
  R.length = L.length ∧ ∀ (k : Nat) (r : Raw) (t : Trip), R[k]? = some r → L[k]? = some t → r.1 = t.1 ∧ In w (sl r.2.1) t.2.1 ∧ In w (sl r.2.2) t.2.2
theorem Ins.nil (w : World) : Ins w [] [] := ⟨rfl, fun k r t h => by simp at h⟩
theorem Ins.on {w w' : World} {R : List Raw} {L : List Trip} (h : Ins w R L) (hb : Below w.heap.size w w') : Ins w' R L :=
  ⟨h.1, fun k r t hr ht => by obtain ⟨h1, h2, h3⟩ := h.2 k r t hr ht; exact ⟨h1, h2.on hb, h3.on hb⟩⟩
theorem Ins.snoc {w : World} {R : List Raw} {L : List Trip} {r : Raw} {t : Trip} (h : Ins w R L) (h1 : r.1 = t.1) (h2 : In w (sl r.2.1) t.2.1) (h3 : In w (sl r.2.2) t.2.2) : Ins w (R ++ [r]) (L ++ [t]) := by
  refine ⟨by rw [List.length_append, List.length_append, h.1]; rfl, fun k x u hx hu => ?_⟩
  rcases Nat.lt_or_ge k R.length with hk | hk
  · rw [List.getElem?_append_left hk] at hx
    rw [List.getElem?_append_left (by rw [← h.1]; exact hk)] at hu
    exact h.2 k x u hx hu
  · rw [List.getElem?_append_right hk] at hx
    rw [List.getElem?_append_right (by rw [← h.1]; exact hk)] at hu
    rw [← h.1] at hu
    obtain ⟨j, hj⟩ : ∃ j, k - R.length = j := ⟨_, rfl⟩
    rw [hj] at hx hu
    cases j with
    | zero => simp at hx hu; subst hx; subst hu; exact ⟨h1, h2, h3⟩
    | succ j => simp at hx
theorem Ins.rats {w : World} {A : Option Addr} {R : List Raw} {L : List Trip} (h : Rd cR 3 w A R) (hi : Ins w R L) : Rats w A L := by
  intro k t ht
  obtain ⟨r, hr⟩ := get_lt (L := R) (k := k) (by rw [hi.1]; exact glt ht)
  obtain ⟨b, off, e, hlt, hc⟩ := h k r hr
  obtain ⟨h1, h2, h3⟩ := hi.2 k r t hr ht
  obtain ⟨A1, c1, e1, i1⟩ := in_open h2
  obtain ⟨A2, c2, e2, i2⟩ := in_open h3
  have c0 := hc 0 _ rfl
  have c1' := hc 1 _ rfl
  have c2' := hc 2 _ rfl
  rw [Nat.add_zero, h1] at c0
  rw [show sl r.2.1 = _ from e1] at c1'
  rw [show sl r.2.2 = _ from e2] at c2'
  exact ⟨b, off, A1, c1, A2, c2, e, hlt, ⟨c0, c1', c2'⟩, i1, i2⟩
theorem Rats.nil (w : World) (A : Option Addr) : Rats w A [] := fun k t h => by simp at h
theorem Rats.at_ {w : World} {A : Option Addr} {L : List Trip} (h : Rats w A L) {k : Nat} {t : Trip} (ht : L[k]? = some t) : ∃ b off A1 c1 A2 c2, A = some ⟨b, off, none⟩ ∧ b < w.heap.size ∧
    w.cell? ⟨b, off + k * 3, none⟩ = some (.bool t.1) ∧ w.cell? ⟨b, off + k * 3 + 1, none⟩ = some (.slice A1 t.2.1.length c1) ∧ w.cell? ⟨b, off + k * 3 + 2, none⟩ = some (.slice A2 t.2.2.length c2) ∧ InR w (.agg #[.bool t.1, .slice A1 t.2.1.length c1, .slice A2 t.2.2.length c2]) t.1 t.2.1 t.2.2 := by
  obtain ⟨b, off, A1, c1, A2, c2, e, hlt, ⟨h0, h1, h2⟩, i1, i2⟩ := h k t ht
  exact ⟨b, off, A1, c1, A2, c2, e, hlt, h0, h1, h2, _, _, rfl, i1, i2⟩
/-- A tank's value. -/
def InT (w : World) (v : Value) (cap : Int) (L : List Trip) : Prop := ∃ A c, v = .agg #[.int .i64 cap, .slice A L.length c] ∧ L.length ≤ 9223372036854775807 ∧ Rats w A L
theorem InT.on {w w' : World} {v : Value} {cap : Int} {L : List Trip} (h : InT w v cap L) (hb : Below w.heap.size w w') : InT w' v cap L := by
  obtain ⟨A, c, e, hl, hr⟩ := h; exact ⟨A, c, e, hl, hr.on hb⟩
theorem InT.zero (w : World) : InT w (.agg #[.int .i64 0, .slice none 0 0]) 0 [] := ⟨none, 0, rfl, by simp, Rats.nil _ _⟩
/-- A tank and an error. -/
def TRes (w : World) (err cap : Int) (L : List Trip) (e : Ending) (w' : World) : Prop := ∃ v, e = .returned (.tuple #[v, .int .i64 err]) ∧ InT w' v cap L ∧ Below w.heap.size w w'
theorem TRes.none_ {w w' : World} {err : Int} (hb : Below w.heap.size w w') : TRes w err 0 [] (.returned (.tuple #[.agg #[.int .i64 0, .slice none 0 0], .int .i64 err])) w' := ⟨_, rfl, InT.zero _, hb⟩
/-- A number's value, cell by cell. -/
theorem inR_open {w : World} {v : Value} {b : Bool} {xs ys : List Int} (h : InR w v b xs ys) : ∃ A c B d, v = .agg #[.bool b, .slice A xs.length c, .slice B ys.length d] ∧ In w (.slice A xs.length c) xs ∧ In w (.slice B ys.length d) ys := by
  obtain ⟨vp, vq, rfl, h1, h2⟩ := h
  obtain ⟨A, c, rfl, i1⟩ := in_open h1
  obtain ⟨B, d, rfl, i2⟩ := in_open h2
  exact ⟨A, c, B, d, rfl, i1, i2⟩
theorem RRes.op {w : World} {err : Int} {r : Rat} {e : Ending} {w' : World} (h : RRes w err r e w') : ∃ b A n c B m d, e = .returned (.tuple #[.agg #[.bool b, .slice A n c, .slice B m d], .int .i64 err]) ∧ OutR w' (.agg #[.bool b, .slice A n c, .slice B m d]) err r ∧ Below w.heap.size w w' := by
  obtain ⟨v, rfl, ho, hb⟩ := h
  have h1 : ∃ b xs ys, InR w' v b xs ys := by
    unfold OutR at ho
    split at ho
    · exact ⟨_, _, _, ho⟩
    · exact ⟨_, _, _, ho⟩
  obtain ⟨b, xs, ys, hi⟩ := h1
  obtain ⟨A, c, B, d, rfl, -, -⟩ := inR_open hi
  exact ⟨b, A, _, c, B, _, d, rfl, ho, hb⟩
theorem IsR.cells {w : World} {b : Bool} {A B : Option Addr} {n c m d : Nat} {r : Rat} (h : IsR w (.agg #[.bool b, .slice A n c, .slice B m d]) r) : b = negR r ∧ In w (.slice A n c) (topL r) ∧ In w (.slice B m d) (botL r) := by
  obtain ⟨vp, vq, e, h1, h2⟩ := h
  simp only [Value.agg.injEq, Array.mk.injEq, List.cons.injEq, Value.bool.injEq, and_true] at e
  obtain ⟨e1, e2, e3⟩ := e
  subst e1; subst e2; subst e3
  exact ⟨rfl, h1, h2⟩
/-! ### Appends -/
theorem cR_noI (z : Raw) : ∀ u ∈ cR z, Rw.noI u := fun u hu => by
  simp at hu
  rcases hu with h | h | h <;> subst h <;> intro k z e <;> cases e
theorem zR_noI (i : TypeInfo) (zv : Value) (hi : Tryz.prog.info? TR = some i) (hz : i.zero = some zv) : ∀ u ∈ zv.cells.toList, Rw.noI u := by
  obtain ⟨i', h1, h2, -, -⟩ := info_parts info_r
  rw [hi] at h1
  cases h1
  rw [hz] at h2
  cases h2
  intro u hu
  have hu' : u ∈ [Value.bool false, .slice none 0 0, .slice none 0 0] := hu
  simp at hu'
  rcases hu' with h | h <;> subst h <;> intro k z e <;> cases e
theorem In.grown {w w' : World} {rv v : Value} {zs : List Int} (h : In w v zs) (hg : w.grownBy w' rv.ownBlock) (hn : Rw.NoI w rv) : In w' v zs := by
  obtain ⟨A, c, rfl, h1, h2, h3⟩ := h
  refine ⟨A, c, rfl, h1, h2, fun k z hz => ?_⟩
  obtain ⟨b, off, hA, hlo, hlt, hc⟩ := h3 k z hz
  refine ⟨b, off, hA, ⟨Nat.zero_le _, Or.inl rfl⟩, Nat.lt_of_lt_of_le hlt hg.size, ?_⟩
  by_cases hb : rv.ownBlock = some b
  · exact absurd hc (hn b hb _ _ _)
  · exact (World.cell?_of_block (a := ⟨b, off + k, none⟩) (hg.block b hlt fun e => hb e.symm)).trans hc
theorem Ins.grown {w w' : World} {rv : Value} {R : List Raw} {L : List Trip} (h : Ins w R L) (hg : w.grownBy w' rv.ownBlock) (hn : Rw.NoI w rv) : Ins w' R L :=
  ⟨h.1, fun k r t hr ht => by obtain ⟨h1, h2, h3⟩ := h.2 k r t hr ht; exact ⟨h1, In.grown h2 hg hn, In.grown h3 hg hn⟩⟩
theorem Ins.set {w : World} {R : List Raw} {L : List Trip} (h : Ins w R L) {p : Addr} {u : Value} (hx : w.cell? p = some u) (hu : ∀ z, u ≠ .int .i64 z) (x : Value) : Ins (w.setCell p x) R L :=
  ⟨h.1, fun k r t hr ht => by obtain ⟨h1, h2, h3⟩ := h.2 k r t hr ht; exact ⟨h1, h2.set hx hu x, h3.set hx hu x⟩⟩
/-- The row that a field of a tank holds, while the call builds it. -/
structure Bld (w : World) (B g : Nat) (cap : Int) (A : Option Addr) (n c : Nat) (R : List Raw) (L : List Trip) : Prop where
  cel : Rw.Cel w g [.int .i64 cap, .slice A n c]
  row : Rw.Row cR 3 TR B w (.slice A n c) R
  len : n = R.length
  ins : Ins w R L
  noi : Rw.NoI w (.slice A n c)
  lt : g < B
theorem Bld.on {w w' : World} {B g : Nat} {cap : Int} {A : Option Addr} {n c : Nat} {R : List Raw} {L : List Trip} (h : Bld w B g cap A n c R L) (hb : Below w.heap.size w w') : Bld w' B g cap A n c R L :=
  ⟨h.cel.on hb, h.row.on hb, h.len, h.ins.on hb, h.noi.keep fun k hk => hb.block k (h.row.lt k hk).2, h.lt⟩
/-- Behind the append, and the store of the new slice into the field. -/
theorem Bld.push {w w' : World} {B g : Nat} {cap : Int} {A : Option Addr} {n c : Nat} {R : List Raw} {L : List Trip} (h : Bld w B g cap A n c R L) {r : Raw} {t : Trip} {A' : Option Addr} {n' c' : Nat} (hn' : n' = R.length + 1)
    (hrow : Rw.Row cR 3 TR B w' (.slice A' n' c') (R ++ [r])) (hno : Rw.NoI w' (.slice A' n' c')) (hg : w.grownBy w' (Value.slice A n c).ownBlock) (h1 : r.1 = t.1) (h2 : In w (sl r.2.1) t.2.1) (h3 : In w (sl r.2.2) t.2.2) :
    Bld (w'.setCell ⟨g, 1, none⟩ (.slice A' n' c')) B g cap A' n' c' (R ++ [r]) (L ++ [t]) := by
  have hc : Rw.Cel w' g [.int .i64 cap, .slice A n c] := h.cel.grown hg fun e => by have := (h.row.lt _ e).1; have := h.lt; omega
  have hoff : Rw.Off (fun k => k = g) w' (w'.setCell ⟨g, 1, none⟩ (.slice A' n' c')) := Rw.Off.set (S := fun k => k = g) (Rw.Off.refl _ _) (p := ⟨g, 1, none⟩) (Or.inl rfl) _
  have hke : ∀ k, (Value.slice A' n' c').ownBlock = some k → (w'.setCell ⟨g, 1, none⟩ (.slice A' n' c')).heap[k]? = w'.heap[k]? := fun k hk => by
    have hl := hrow.lt k hk
    exact hoff.block k hl.2 fun e => by have := h.lt; omega
  refine ⟨hc.set 1 _, hrow.keep hke, by rw [hn', List.length_append]; rfl, ?_, hno.keep hke, h.lt⟩
  exact ((h.ins.grown hg h.noi).snoc h1 (In.grown h2 hg h.noi) (In.grown h3 hg h.noi)).set (u := .slice A n c) (hc.two.2) (fun z e => by cases e) _
theorem Bld.below {w0 w w' : World} {B g : Nat} {cap : Int} {A : Option Addr} {n c : Nat} {R : List Raw} {L : List Trip} (h : Bld w B g cap A n c R L) (hb : Below w0.heap.size w0 w) (hg : w.grownBy w' (Value.slice A n c).ownBlock) (hB : B ≤ w.heap.size) (h0 : w0.heap.size ≤ g) (x : Value) : Below w0.heap.size w0 (w'.setCell ⟨g, 1, none⟩ x) :=
  (hb.trans ((h.row.below hg hB).mono (Nat.le_trans h0 (Nat.le_of_lt h.lt)))).setCell (p := ⟨g, 1, none⟩) h0 x
/-- Another block's cells. -/
theorem Bld.far {w w' : World} {B g : Nat} {cap : Int} {A : Option Addr} {n c : Nat} {R : List Raw} {L : List Trip} (h : Bld w B g cap A n c R L) {g' : Nat} {us : List Value} (hc : Rw.Cel w g' us) (hg : w.grownBy w' (Value.slice A n c).ownBlock) (hl : g' < B) (hne : g ≠ g') (x : Value) : Rw.Cel (w'.setCell ⟨g, 1, none⟩ x) g' us :=
  (hc.grown hg fun e => by have := (h.row.lt _ e).1; omega).far (p := ⟨g, 1, none⟩) hne x
theorem Bld.nil {w : World} {B g : Nat} {cap : Int} (h : Rw.Cel w g [.int .i64 cap, .slice none 0 0]) (hl : g < B) : Bld w B g cap none 0 0 [] [] :=
  ⟨h, Rw.Row.nil _ _ _ _ _, rfl, Ins.nil _, Rw.NoI.nil _, hl⟩
/-- The tank that is read off at the end. -/
theorem Bld.tank {w : World} {B g : Nat} {cap : Int} {A : Option Addr} {n c : Nat} {R : List Raw} {L : List Trip} (h : Bld w B g cap A n c R L) (hl : L.length ≤ 9223372036854775807) : InT w (.agg #[.int .i64 cap, .slice A n c]) cap L ∧ Rats w A L ∧ n = L.length := by
  obtain ⟨A0, c0, e, -, -, hrd, -, -⟩ := h.row.one cR_len
  obtain ⟨rfl, -, rfl⟩ := Value.slice.inj e
  have hn : n = L.length := h.len.trans h.ins.1
  exact ⟨⟨A, c, by rw [hn], hl, h.ins.rats hrd⟩, h.ins.rats hrd, hn⟩
/-- A store into a tank that is still the zero value: no limbs of a valid number lie there (the last limb is not 0). -/
theorem In.tank {w : World} {v : Value} {zs : List Int} {g : Nat} {A : Option Addr} {n c : Nat} (h : In w v zs) (hv : validB zs = true) (hc : Rw.Cel w g [.int .i64 0, .slice A n c]) (x y : Value) : In ((w.setCell ⟨g, 0, none⟩ x).setCell ⟨g, 1, none⟩ y) v zs := by
  obtain ⟨c0, c1⟩ := hc.two
  have h2 : In (w.setCell ⟨g, 0, none⟩ x) v zs := by
    obtain ⟨A', d, rfl, h1, h2, h3⟩ := h
    refine ⟨A', d, rfl, h1, h2, fun k z hz => ?_⟩
    obtain ⟨b, off, hA, hlo, hlt, hcell⟩ := h3 k z hz
    refine ⟨b, off, hA, ⟨Nat.zero_le _, Or.inl rfl⟩, by simpa using hlt, ?_⟩
    rw [World.cell?_setCell_other w ⟨g, 0, none⟩ ⟨b, off + k, none⟩ x ?_]
    · exact hcell
    · intro e
      simp only [Addr.mk.injEq, and_true] at e
      obtain ⟨rfl, e2⟩ := e
      have hk : k = 0 := by omega
      have ho : off = 0 := by omega
      subst hk; subst ho
      rw [c0] at hcell
      cases hcell
      match zs, hz with
      | [z0], hz => simp at hz; subst hz; exact absurd hv (by decide)
      | z0 :: z1 :: l, hz =>
        obtain ⟨b', off', hA', -, -, hc'⟩ := h3 1 z1 rfl
        rw [hA] at hA'
        cases hA'
        rw [show (0 + 1 : Nat) = 1 from rfl, c1] at hc'
        cases hc'
  have c1' : (w.setCell ⟨g, 0, none⟩ x).cell? ⟨g, 1, none⟩ = some (.slice A n c) := (hc.set 0 x).two.2
  exact h2.set c1' (fun z e => by cases e) y
theorem vT_valid {t : Trip} (h : vT t = true) : validB t.2.1 = true ∧ validB t.2.2 = true := ⟨(val_parts h).1, (val_parts h).2.1⟩
theorem Ins.tank {w : World} {R : List Raw} {L : List Trip} {g : Nat} {A : Option Addr} {n c : Nat} (h : Ins w R L) (hv : ∀ t ∈ L, vT t = true) (hc : Rw.Cel w g [.int .i64 0, .slice A n c]) (x y : Value) : Ins ((w.setCell ⟨g, 0, none⟩ x).setCell ⟨g, 1, none⟩ y) R L :=
  ⟨h.1, fun k r t hr ht => by
    obtain ⟨h1, h2, h3⟩ := h.2 k r t hr ht
    obtain ⟨v1, v2⟩ := vT_valid (hv t (List.mem_of_getElem? ht))
    exact ⟨h1, In.tank h2 v1 hc x y, In.tank h3 v2 hc x y⟩⟩
/-- The row of a tank that is handed back: it lies in the result, and nowhere else. -/
theorem row_tank {w : World} {B : Nat} {A : Option Addr} {n c : Nat} {R : List Raw} {L : List Trip} (hr : Rw.Row cR 3 TR B w (.slice A n c) R) (hi : Ins w R L) (hv : ∀ t ∈ L, vT t = true) {g0 : Nat} {A0 : Option Addr} {m d : Nat} (hz : Rw.Cel w g0 [.int .i64 0, .slice A0 m d]) (h0 : g0 < B) (x y : Value) :
    Rw.Row cR 3 TR B ((w.setCell ⟨g0, 0, none⟩ x).setCell ⟨g0, 1, none⟩ y) (.slice A n c) R ∧ Ins ((w.setCell ⟨g0, 0, none⟩ x).setCell ⟨g0, 1, none⟩ y) R L := by
  have hoff := Rw.off_put2 w g0 x y
  exact ⟨hr.keep fun k hk => by have hl := hr.lt k hk; exact hoff.block k hl.2 fun e => by omega, hi.tank hv hz x y⟩
theorem row_rats {w : World} {B : Nat} {A : Option Addr} {n c : Nat} {R : List Raw} {L : List Trip} (hr : Rw.Row cR 3 TR B w (.slice A n c) R) (hi : Ins w R L) (hn : n = R.length) : Rats w A L ∧ n = L.length := by
  obtain ⟨A0, c0, e, -, -, hrd, -, -⟩ := hr.one cR_len
  obtain ⟨rfl, -, rfl⟩ := Value.slice.inj e
  exact ⟨hi.rats hrd, hn.trans hi.1⟩
theorem Bld.done {w : World} {B g : Nat} {cap : Int} {A : Option Addr} {n c : Nat} {R : List Raw} {L : List Trip} (h : Bld w B g cap A n c R L) (hv : ∀ t ∈ L, vT t = true) {g0 : Nat} {A0 : Option Addr} {m d : Nat} (hz : Rw.Cel w g0 [.int .i64 0, .slice A0 m d]) (h0 : g0 < B) (hl : L.length ≤ 9223372036854775807) :
    InT ((w.setCell ⟨g0, 0, none⟩ (.int .i64 cap)).setCell ⟨g0, 1, none⟩ (.slice A n c)) (.agg #[.int .i64 cap, .slice A n c]) cap L := by
  obtain ⟨hr, hi⟩ := row_tank h.row h.ins hv hz h0 (.int .i64 cap) (.slice A n c)
  obtain ⟨h1, h2⟩ := row_rats hr hi h.len
  exact ⟨A, c, by rw [h2], hl, h1⟩
/-! ### Contracts over valid numbers -/
theorem x_Add (r s : Rat) (hr : fitR r = true) (hs : fitR s = true) (v u : Value) (w : World) (hv : IsR w v r) (hu : IsR w u s) :
    Calls Tryz.prog 31 #[v, u] w (RRes w (okE (sumOk r s)) (r + s)) := by
  have h := ref_Add3 (negR r) (topL r) (botL r) (negR s) (topL s) (botL s) v u w hv hu
  rw [(op_form (ok := sumOk) (f := addOp) hr hs).1, (op_form (ok := sumOk) (f := addOp) hr hs).2] at h
  exact h
theorem x_Sub (r s : Rat) (hr : fitR r = true) (hs : fitR s = true) (v u : Value) (w : World) (hv : IsR w v r) (hu : IsR w u s) :
    Calls Tryz.prog 80 #[v, u] w (RRes w (okE (subOk r s)) (subOp r s)) := by
  have h := ref_Sub3 (negR r) (topL r) (botL r) (negR s) (topL s) (botL s) v u w hv hu
  rw [(op_form (ok := subOk) (f := subOp) hr hs).1, (op_form (ok := subOk) (f := subOp) hr hs).2] at h
  exact h
theorem x_Mul (r s : Rat) (hr : fitR r = true) (hs : fitR s = true) (v u : Value) (w : World) (hv : IsR w v r) (hu : IsR w u s) :
    Calls Tryz.prog 32 #[v, u] w (RRes w (okE (mulOk r s)) (r * s)) := by
  have h := ref_Mul3 (negR r) (topL r) (botL r) (negR s) (topL s) (botL s) v u w hv hu
  rw [(op_form (ok := mulOk) (f := mulOp) hr hs).1, (op_form (ok := mulOk) (f := mulOp) hr hs).2] at h
  exact h
theorem x_Div (r s : Rat) (hr : fitR r = true) (hs : fitR s = true) (v u : Value) (w : World) (hv : IsR w v r) (hu : IsR w u s) :
    Calls Tryz.prog 59 #[v, u] w (RRes w (divEr r s) (divOp r s)) := by
  have h := ref_Div3 (negR r) (topL r) (botL r) (negR s) (topL s) (botL s) v u w hv hu
  rw [(opG_form (er := divEr) (f := divOp) hr hs).1, (opG_form (er := divEr) (f := divOp) hr hs).2] at h
  exact h
theorem x_Cmp (r s : Rat) (hr : fitR r = true) (hs : fitR s = true) (v u : Value) (w : World) (hv : IsR w v r) (hu : IsR w u s) :
    Calls Tryz.prog 46 #[v, u] w fun e w' => e = .returned (.tuple #[.int .i64 (cmpG r s), .int .i64 (okE (crossOk r s))]) ∧ Below w.heap.size w w' := by
  have h := ref_Cmp3 (negR r) (topL r) (botL r) (negR s) (topL s) (botL s) v u w hv hu
  rw [cmpW_form hr hs, (op_form (ok := crossOk) (f := addOp) hr hs).1] at h
  exact h
theorem x_Of (n : Int) (h : 0 ≤ n) (h2 : n ≤ 1099511627776) (w : World) : Calls Tryz.prog 45 #[.int .i64 n] w (RRes w 0 (qI n)) := by
  have := ref_Of3 n w (by omega) (by omega)
  rw [qI_ok h h2] at this
  exact this
end Go.Proofs.YtgmlccjjhmhgbaaGreat.Tank
/- Same, zero, Check, Level of the reference. -/
namespace Go.Proofs.YtgmlccjjhmhgbaaGreat.Tank
open Go.ChangeShapes Go.WideShapes Go.RowKit Go.Lib
open Go.Proofs.YtgmlccjjhmhgbaaGreat.Rw (Rd Row Kd glt get_lt rd_one flat_len below_alloc bstep wrap_id below_drewN below_drew drew_below)
set_option linter.unusedVariables false
set_option maxRecDepth 100000

theorem ne_zero {E : Int} (h : ¬ E = 0) : (E == 0) = false ∧ (E != 0) = true := by
  have h1 : (E == 0) = false := beq_false_of_ne h
  exact ⟨h1, by rw [bne, h1]; rfl⟩
theorem res_rat {fn : Func} {p : Tmp} (h : fn.results = #[.cell p 33]) {tmps : Array Value} {w : World} {g : Nat} {u0 u1 u2 : Value} (hp : tmps.getD p undef = .pointer (some ⟨g, 0, none⟩))
    (hc : Rw.Cel w g [u0, u1, u2]) : (results fn tmps).run Tryz.prog w = .ok (.agg #[u0, u1, u2]) w := by
  have hp' : tmps[p]?.getD undef = .pointer (some ⟨g, 0, none⟩) := by simpa using hp
  obtain ⟨h0, h1, h2⟩ := hc.three
  simp [results, h, hp', go_sem, h0, h1, h2]
theorem res_rat2 {fn : Func} {p u : Tmp} (h : fn.results = #[.cell p 33, .tmp u]) {tmps : Array Value} {w : World} {g : Nat} {u0 u1 u2 : Value} (hp : tmps.getD p undef = .pointer (some ⟨g, 0, none⟩))
    (hc : Rw.Cel w g [u0, u1, u2]) : (results fn tmps).run Tryz.prog w = .ok (.tuple #[.agg #[u0, u1, u2], tmps.getD u undef]) w := by
  have hp' : tmps[p]?.getD undef = .pointer (some ⟨g, 0, none⟩) := by simpa using hp
  obtain ⟨h0, h1, h2⟩ := hc.three
  simp [results, h, hp', go_sem, h0, h1, h2]
theorem res_tank2 {fn : Func} {p u : Tmp} (h : fn.results = #[.cell p 24, .tmp u]) {tmps : Array Value} {w : World} {g : Nat} {u0 u1 : Value} (hp : tmps.getD p undef = .pointer (some ⟨g, 0, none⟩))
    (hc : Rw.Cel w g [u0, u1]) : (results fn tmps).run Tryz.prog w = .ok (.tuple #[.agg #[u0, u1], tmps.getD u undef]) w := by
  have hp' : tmps[p]?.getD undef = .pointer (some ⟨g, 0, none⟩) := by simpa using hp
  obtain ⟨h0, h1⟩ := hc.two
  simp [results, h, hp', go_sem, h0, h1]
theorem res_tank3 {fn : Func} {p u v : Tmp} (h : fn.results = #[.cell p 24, .tmp u, .tmp v]) {tmps : Array Value} {w : World} {g : Nat} {u0 u1 : Value} (hp : tmps.getD p undef = .pointer (some ⟨g, 0, none⟩))
    (hc : Rw.Cel w g [u0, u1]) : (results fn tmps).run Tryz.prog w = .ok (.tuple #[.agg #[u0, u1], tmps.getD u undef, tmps.getD v undef]) w := by
  have hp' : tmps[p]?.getD undef = .pointer (some ⟨g, 0, none⟩) := by simpa using hp
  obtain ⟨h0, h1⟩ := hc.two
  simp [results, h, hp', go_sem, h0, h1]
set_option maxHeartbeats 800000 in
theorem tk_Same (t u : Trip) (va vb : Value) (w : World) (ha : InR w va t.1 t.2.1 t.2.2) (hb : InR w vb u.1 u.2.1 u.2.2) :
    Calls Tryz.prog 19 #[va, vb] w fun e w' => e = .returned (.bool (decide (t = u))) ∧ Below w.heap.size w w' := by
  obtain ⟨b, xs, ys⟩ := t
  obtain ⟨c, zs, us⟩ := u
  obtain ⟨A1, a1, A2, a2, rfl, ha1, ha2⟩ := inR_open ha
  obtain ⟨B1, b1, B2, b2, rfl, hb1, hb2⟩ := inR_open hb
  have HA1 := Lib.hid ha1
  have HA2 := Lib.hid ha2
  have HB1 := Lib.hid hb1
  have HB2 := Lib.hid hb2
  clear ha hb ha1 ha2 hb1 hb2
  have he : decide ((b, xs, ys) = (c, zs, us)) = ((b == c) && (decide (xs = zs) && decide (ys = us))) := by
    by_cases h1 : b = c <;> by_cases h2 : xs = zs <;> by_cases h3 : ys = us <;> simp [h1, h2, h3]
  rw [he]
  clear he
  cases hbc : (b == c) with
  | false =>
    go_enter Tryz.func19, Tryz.ntmps19
    go_wp2_with fail
    go_ret
    exact ⟨rfl, balloc (below_alloc _ _) _⟩
  | true =>
    obtain ⟨p, hp⟩ : ∃ p, decide (xs = zs) = p := ⟨_, rfl⟩
    obtain ⟨q, hq⟩ : ∃ q, decide (ys = us) = q := ⟨_, rfl⟩
    have KP := Lib.hid fun W h k => same_in xs zs (.slice A1 xs.length a1) (.slice B1 zs.length b1) W h k
    have KQ := Lib.hid fun W h k => same_in ys us (.slice A2 ys.length a2) (.slice B2 us.length b2) W h k
    rw [hp] at KP
    rw [hq] at KQ
    rw [hp, hq]
    go_enter Tryz.func19, Tryz.ntmps19
    go_wp2_with fail
    refine (KP.out _ ((HA1.out.alloc _).alloc _) ((HB1.out.alloc _).alloc _)).mono ?_
    rintro e w1 ⟨rfl, h1⟩
    obtain ⟨hc, hf⟩ := bcell h1
    have HB := Lib.hid h1
    clear h1
    cases p with
    | false =>
      go_wp2_with fail
      go_ret
      exact ⟨rfl, (balloc (below_alloc _ _) _).trans (HB.out.mono (by simp; omega))⟩
    | true =>
      go_wp2_with fail
      refine (KQ.out _ (((HA2.out.alloc _).alloc _).on HB.out) (((HB2.out.alloc _).alloc _).on HB.out)).mono ?_
      rintro e w2 ⟨rfl, h2⟩
      have HC := Lib.hid h2
      clear h2
      go_wp2_with fail
      go_ret
      exact ⟨rfl, bstep ((balloc (below_alloc _ _) _).trans (HB.out.mono (by simp; omega))) HC.out⟩
theorem cel_root {w : World} {g : Nat} {u0 u1 u2 : Value} (h : Rw.Cel w g [u0, u1, u2]) : Cel w g u0 u1 u2 := ⟨h.three, h.warm3⟩
theorem qI_zero : qI 0 = 0 := mkV_zero
set_option maxHeartbeats 800000 in
theorem tk_zero (w : World) :
    Calls Tryz.prog 40 #[] w fun e w' => ∃ v, e = .returned v ∧ IsR w' v 0 ∧ Below w.heap.size w w' := by
  have KO := Lib.hid fun W => x_Of 0 (by decide) (by decide) W
  rw [qI_zero] at KO
  go_enter Tryz.func40, Tryz.ntmps40
  go_upto_region 1 with fail
  obtain ⟨w0, hw0⟩ : ∃ W, w.alloc (.cells #[.bool false, .slice none 0 0, .slice none 0 0] 33) = W := ⟨_, rfl⟩
  have C0 : Hid (Rw.Cel w0 w.heap.size [.bool false, .slice none 0 0, .slice none 0 0]) := hw0 ▸ Rw.Cel.new w [_, _, _] _
  have B0 : Hid (Below w.heap.size w w0) := hw0 ▸ below_alloc _ _
  rw [hw0]
  clear hw0
  go_wp2_with fail
  refine (KO.out w0).mono ?_
  rintro e w1 h
  obtain ⟨b, A, n, c, B, m, d, rfl, ho, hb⟩ := h.open_
  have HO := Lib.hid (ho.zero rfl)
  have B1 := Lib.hid (bstep B0.out hb)
  have C1 := Lib.hid (C0.out.on hb)
  clear h ho hb
  go_upto_region 2 with fail
  obtain ⟨w2, hw2⟩ : ∃ W, w1.alloc (.cells #[.bool b, .slice A n c, .slice B m d] 33) = W := ⟨_, rfl⟩
  have b2 : Below w1.heap.size w1 w2 := hw2 ▸ below_alloc _ _
  have C2 := Lib.hid (C1.out.on b2)
  have D2 : Hid (Rw.Cel w2 w1.heap.size [.bool b, .slice A n c, .slice B m d]) := hw2 ▸ Rw.Cel.new w1 [_, _, _] _
  have B2 := Lib.hid (bstep B1.out b2)
  replace HO := Lib.hid (HO.out.on b2)
  rw [hw2]
  clear hw2 b2
  obtain ⟨x0, x1, x2⟩ := C2.out.three
  obtain ⟨y0, y1, y2⟩ := C2.out.warm3
  obtain ⟨u0, u1, u2⟩ := D2.out.three
  go_wp2_with fail
  exact bodyPost_ret (res_rat Tryz.results40 rfl (C2.out.put3 _ _ _)) rfl ⟨_, rfl, InR.put3 HO.out (cel_root C2.out) _ _ _, Rw.below_put3 B2.out (Nat.le_refl _) _ _ _⟩
end Go.Proofs.YtgmlccjjhmhgbaaGreat.Tank
/- Check, Level of the reference. -/
namespace Go.Proofs.YtgmlccjjhmhgbaaGreat.Tank
open Go.ChangeShapes Go.WideShapes Go.RowKit Go.Lib
open Go.Proofs.YtgmlccjjhmhgbaaGreat.Rw (Rd Row Kd glt get_lt rd_one flat_len below_alloc bstep wrap_id below_drewN below_drew drew_below)
set_option linter.unusedVariables false
set_option maxRecDepth 100000

theorem ckT_cap {cap : Int} {L : List Trip} (h : ¬ (1 ≤ cap ∧ cap ≤ MM)) : ckT cap L = 1 := if_neg h
theorem ckT_in {cap : Int} {L : List Trip} (h : 1 ≤ cap ∧ cap ≤ MM) : ckT cap L = ckN cap L := if_pos h
theorem ckN_len {cap : Int} {L : List Trip} (h : ¬ (1 ≤ L.length ∧ L.length ≤ 8)) : ckN cap L = 17 := if_neg h
theorem ckN_in {cap : Int} {L : List Trip} (h : 1 ≤ L.length ∧ L.length ≤ 8) : ckN cap L = if ckP L = 0 then ckS cap L else ckP L := if_pos h
set_option maxHeartbeats 3200000 in
theorem tk_Check (cap : Int) (L : List Trip) (A : Option Addr) (n c : Nat) (hn : n = L.length) (w : World) (ha : Rats w A L) (hm : n ≤ 9223372036854775807) :
    Calls Tryz.prog 18 #[.agg #[.int .i64 cap, .slice A n c]] w fun e w' => e = .returned (.int .i64 (ckT cap L)) ∧ Below w.heap.size w w' := by
  obtain ⟨E, hE⟩ : ∃ E, ckT cap L = E := ⟨_, rfl⟩
  rw [hE]
  have hMM : MM = 1099511627776 := rfl
  rcases Int.lt_or_le cap 1 with h0 | h0
  · have d0 : decide (cap < 1) = true := decide_eq_true h0
    obtain rfl : E = 1 := by rw [← hE]; exact ckT_cap (by omega)
    clear hE h0 ha hn hm hMM
    go_enter Tryz.func18, Tryz.ntmps18
    go_wp2_with fail
    go_ret
    exact ⟨rfl, below_alloc _ _⟩
  have d0 : decide (cap < 1) = false := decide_eq_false (by omega)
  rcases Int.lt_or_le 1099511627776 cap with h1 | h1
  · have d1 : decide (1099511627776 < cap) = true := decide_eq_true h1
    obtain rfl : E = 1 := by rw [← hE]; exact ckT_cap (by omega)
    clear hE h0 h1 ha hn hm hMM
    go_enter Tryz.func18, Tryz.ntmps18
    go_wp2_with fail
    go_ret
    exact ⟨rfl, below_alloc _ _⟩
  have d1 : decide (1099511627776 < cap) = false := decide_eq_false (by omega)
  rw [ckT_in (by omega)] at hE
  rcases Nat.lt_or_ge n 1 with h2 | h2
  · have d2 : decide ((n : Int) < 1) = true := decide_eq_true (by omega)
    obtain rfl : E = 17 := by rw [← hE]; exact ckN_len (by omega)
    clear hE h0 h1 h2 ha hn hm hMM
    go_enter Tryz.func18, Tryz.ntmps18
    go_wp2_with fail
    go_ret
    exact ⟨rfl, below_alloc _ _⟩
  have d2 : decide ((n : Int) < 1) = false := decide_eq_false (by omega)
  rcases Nat.lt_or_ge 8 n with h3 | h3
  · have d3 : decide ((8 : Int) < (n : Int)) = true := decide_eq_true (by omega)
    obtain rfl : E = 17 := by rw [← hE]; exact ckN_len (by omega)
    clear hE h0 h1 h2 h3 ha hn hm hMM
    go_enter Tryz.func18, Tryz.ntmps18
    go_wp2_with fail
    go_ret
    exact ⟨rfl, below_alloc _ _⟩
  have d3 : decide ((8 : Int) < (n : Int)) = false := decide_eq_false (by omega)
  rw [ckN_in (by omega)] at hE
  have HA := Lib.hid ha
  have HN := Lib.hid hn
  have HE := Lib.hid hE
  have KS := Lib.hid fun (W : World) (h : Rats W A L) => ref_Sum3 L A c W h (by omega)
  have KO := Lib.hid fun W => x_Of cap (by omega) (by omega) W
  have HF := Lib.hid (qI_fit (n := cap) (by omega) (by omega))
  rw [← hn] at KS
  clear hE ha hn hm h0 h1 h2 hMM
  go_enter Tryz.func18, Tryz.ntmps18
  go_upto_region 1 with fail
  obtain ⟨w0, hw0⟩ : ∃ W, w.alloc (.cells #[.int .i64 cap, .slice A n c] 24) = W := ⟨_, rfl⟩
  have C0 : Hid (Rw.Cel w0 w.heap.size [.int .i64 cap, .slice A n c]) := hw0 ▸ Rw.Cel.new w [_, _] _
  have B0 : Hid (Below w.heap.size w w0) := hw0 ▸ below_alloc _ _
  rw [hw0]
  clear hw0
  obtain ⟨x0, x1⟩ := C0.out.two
  go_wp2_with fail
  go_loopw [3] (fun i wr => ∃ k : Nat, k ≤ n ∧ i = .int .i64 k ∧ (∀ (j : Nat) (t : Trip), j < k → L[j]? = some t → vT t = true ∧ t.1 = false) ∧ Below w0.heap.size w0 wr) (fun i _ => n - (RowKit.intOf i).toNat)
  case atStart => exact ⟨0, Nat.zero_le _, rfl, fun j t h => absurd h (by omega), Below.refl _ _⟩
  case round =>
    obtain ⟨k, hk, rfl, hv, hbel⟩ := hrel
    have HV := Lib.hid hv
    have HW := Lib.hid hbel
    have BW := Lib.hid (bstep B0.out hbel)
    clear hv hbel x0 x1
    obtain ⟨x0, x1⟩ := (C0.out.on HW.out).two
    rcases Nat.lt_or_ge k n with hlt | hge
    · obtain ⟨t, ht⟩ := get_lt (L := L) (k := k) (by have := HN.out; omega)
      obtain ⟨b, off, A1, c1, A2, c2, rfl, hb, y0, y1, y2, hin⟩ := Rats.at_ (HA.out.on BW.out) ht
      have HT := Lib.hid ht
      have i1 : (k : Int) < (n : Int) := by omega
      have i2 : (0 : Int) ≤ (k : Int) := by omega
      have KV := Lib.hid (ref_Valid3 _ _ _ _ wr hin)
      have HBD := Lib.hid (And.intro hb (And.intro y0 (And.intro x0 x1)))
      obtain ⟨p, hp⟩ : ∃ p, vT t = p := ⟨_, rfl⟩
      have hp2 : valR t.1 t.2.1 t.2.2 = p := hp
      rw [hp2] at KV
      have HP := Lib.hid hp
      clear ht hin hp hp2
      go_wp2_with fail
      refine KV.out.mono ?_
      rintro e w1 ⟨rfl, hb1⟩
      have B1 := Lib.hid hb1
      clear hb1 y0 y1 y2 x0 x1
      have y0 := (B1.out.cell (p := ⟨b, off + k * 3, none⟩) HBD.out.1).trans HBD.out.2.1
      obtain ⟨x0, x1⟩ := ((C0.out.on HW.out).on B1.out).two
      cases p with
      | false =>
        obtain rfl : E = 3 := by
          have := (ckP_bad HT.out fun j u hj hu => HV.out j u hj hu).1 HP.out
          rw [← HE.out, this]; rfl
        go_wp2_with fail
        go_ret
        exact ⟨rfl, bstep BW.out B1.out⟩
      | true =>
        obtain ⟨q, hq⟩ : ∃ q, t.1 = q := ⟨_, rfl⟩
        rw [hq] at y0
        have HQ := Lib.hid hq
        clear hq
        cases q with
        | true =>
          obtain rfl : E = 1 := by
            have := (ckP_bad HT.out fun j u hj hu => HV.out j u hj hu).2 HP.out HQ.out
            rw [← HE.out, this]; rfl
          go_wp2_with fail
          go_ret
          exact ⟨rfl, bstep BW.out B1.out⟩
        | false =>
          go_wp2_with fail
          go_roundw
          case rel =>
            refine ⟨k + 1, by omega, by go_num, ?_, bstep HW.out B1.out⟩
            intro j u hj hu
            rcases Nat.lt_or_eq_of_le (Nat.le_of_lt_succ hj) with h | h
            · exact HV.out j u h hu
            · subst h
              have e := HT.out
              rw [hu] at e; cases e; exact ⟨HP.out, HQ.out⟩
          case measure => simp [RowKit.intOf]; omega
    · obtain rfl : k = n := by omega
      have hP : ckP L = 0 := ckP_ok fun j u hu => HV.out j u (by have := glt hu; have := HN.out; omega) hu
      have he := HE.out
      rw [hP, if_pos rfl] at he
      unfold ckS at he
      obtain ⟨F, hF⟩ : ∃ F, sumE L = F := ⟨_, rfl⟩
      have HFS := Lib.hid (fun h => sumE_fit (L := L) (hF.trans h))
      rw [hF] at KS he
      obtain ⟨V, hV⟩ : ∃ V, sumV L = V := ⟨_, rfl⟩
      rw [hV] at KS he HFS
      clear hP HE hF hV
      by_cases hz : F = 0
      rotate_left
      · obtain ⟨z1, z2⟩ := ne_zero hz
        rw [if_neg hz] at he
        subst he
        clear hz
        go_wp2_with fail
        refine (KS.out wr (HA.out.on BW.out)).mono ?_
        rintro e w2 h
        obtain ⟨b1, A1, n1, c1, B1, m1, d1, rfl, ho, hb⟩ := h.open_
        have B2 := Lib.hid (bstep BW.out hb)
        clear h ho hb x0 x1
        go_wp2_with fail
        go_ret
        exact ⟨rfl, bstep B2.out (below_alloc _ _)⟩
      subst hz
      rw [if_pos rfl] at he
      have FV := Lib.hid (HFS.out rfl)
      have KC := Lib.hid fun v u W h k => x_Cmp V (qI cap) FV.out HF.out v u W h k
      obtain ⟨p, hp⟩ : ∃ p, crossOk V (qI cap) = p := ⟨_, rfl⟩
      obtain ⟨x, hx⟩ : ∃ x, cmpG V (qI cap) = x := ⟨_, rfl⟩
      rw [hp, hx] at KC he
      clear hp hx HFS
      have HE := Lib.hid he
      clear he
      go_wp2_with fail
      refine (KS.out wr (HA.out.on BW.out)).mono ?_
      rintro e w2 h
      obtain ⟨b1, A1, n1, c1, B1, m1, d1, rfl, ho, hb⟩ := h.open_
      have B2 := Lib.hid (bstep BW.out hb)
      have C2 := Lib.hid ((C0.out.on HW.out).on hb)
      have O2 := Lib.hid (ho.zero rfl)
      clear h ho hb x0 x1
      go_upto_region 13 with fail
      obtain ⟨w3, hw3⟩ : ∃ W, w2.alloc (.cells #[.bool b1, .slice A1 n1 c1, .slice B1 m1 d1] 33) = W := ⟨_, rfl⟩
      have b3 : Below w2.heap.size w2 w3 := hw3 ▸ below_alloc _ _
      have D3 : Hid (Rw.Cel w3 w2.heap.size [.bool b1, .slice A1 n1 c1, .slice B1 m1 d1]) := hw3 ▸ Rw.Cel.new w2 [_, _, _] _
      have B3 := Lib.hid (bstep B2.out b3)
      have C3 := Lib.hid (C2.out.on b3)
      have O3 := Lib.hid (O2.out.on b3)
      rw [hw3]
      clear hw3 b3
      obtain ⟨x0, x1⟩ := C3.out.two
      go_wp2_with fail
      refine (KO.out w3).mono ?_
      rintro e w4 h
      obtain ⟨b4, A4, n4, c4, B4', m4, d4, rfl, ho, hb⟩ := h.open_
      have B4 := Lib.hid (bstep B3.out hb)
      have D4 := Lib.hid (D3.out.on hb)
      have O4 := Lib.hid (O3.out.on hb)
      have P4 := Lib.hid (ho.zero rfl)
      clear h ho hb x0 x1
      go_upto_region 16 with fail
      obtain ⟨w5, hw5⟩ : ∃ W, w4.alloc (.cells #[.bool b4, .slice A4 n4 c4, .slice B4' m4 d4] 33) = W := ⟨_, rfl⟩
      have b5 : Below w4.heap.size w4 w5 := hw5 ▸ below_alloc _ _
      have E5 : Hid (Rw.Cel w5 w4.heap.size [.bool b4, .slice A4 n4 c4, .slice B4' m4 d4]) := hw5 ▸ Rw.Cel.new w4 [_, _, _] _
      have B5 := Lib.hid (bstep B4.out b5)
      have D5 := Lib.hid (D4.out.on b5)
      have O5 := Lib.hid (O4.out.on b5)
      have P5 := Lib.hid (P4.out.on b5)
      rw [hw5]
      clear hw5 b5
      obtain ⟨x0, x1, x2⟩ := D5.out.three
      obtain ⟨y0, y1, y2⟩ := E5.out.three
      go_wp2_with fail
      refine (KC.out _ _ w5 O5.out P5.out).mono ?_
      rintro e w6 ⟨rfl, hb⟩
      have B6 := Lib.hid (bstep B5.out hb)
      clear hb x0 x1 x2 y0 y1 y2
      cases p with
      | false =>
        obtain rfl : 2 = E := HE.out
        have z : okE false = 2 := rfl
        rw [z]
        go_wp2_with fail
        go_ret
        exact ⟨rfl, B6.out⟩
      | true =>
        have z : okE true = 0 := rfl
        rw [z]
        by_cases hg : 0 < x
        · have t0 : decide (0 < x) = true := decide_eq_true hg
          obtain rfl : 8 = E := by have := HE.out; rw [if_pos rfl, if_pos hg] at this; exact this
          clear hg
          go_wp2_with fail
          go_ret
          exact ⟨rfl, B6.out⟩
        · have t0 : decide (0 < x) = false := decide_eq_false hg
          obtain rfl : 0 = E := by have := HE.out; rw [if_pos rfl, if_neg hg] at this; exact this
          clear hg
          go_wp2_with fail
          go_ret
          exact ⟨rfl, B6.out⟩
/-- The level, or the error of Check. -/
theorem rres_sum {w w' : World} {err err2 : Int} {r : Rat} {e : Ending} (h : RRes w err r e w') (he : err = err2) : RRes w err2 r e w' := he ▸ h
set_option maxHeartbeats 800000 in
theorem tk_Level (cap : Int) (L : List Trip) (A : Option Addr) (n c : Nat) (hn : n = L.length) (w : World) (ha : Rats w A L) (hm : n ≤ 9223372036854775807) :
    Calls Tryz.prog 15 #[.agg #[.int .i64 cap, .slice A n c]] w (RRes w (ckT cap L) (sumV L)) := by
  have HA := Lib.hid ha
  have KC := Lib.hid fun (W : World) (h : Rats W A L) => tk_Check cap L A n c hn W h hm
  have KS := Lib.hid fun (W : World) (h : Rats W A L) => ref_Sum3 L A c W h (by omega)
  rw [← hn] at KS
  obtain ⟨E, hE⟩ : ∃ E, ckT cap L = E := ⟨_, rfl⟩
  obtain ⟨V, hV⟩ : ∃ V, sumV L = V := ⟨_, rfl⟩
  have hs : E = 0 → sumE L = 0 := fun h => (ckT_of (hE.trans h)).sum
  rw [hE] at KC ⊢
  rw [hV] at KS ⊢
  clear ha hn hm hE hV
  go_enter Tryz.func15, Tryz.ntmps15
  go_upto_region 1 with fail
  obtain ⟨w0, hw0⟩ : ∃ W, (w.alloc (.cells #[.int .i64 cap, .slice A n c] 24)).alloc (.cells #[.bool false, .slice none 0 0, .slice none 0 0] 33) = W := ⟨_, rfl⟩
  have C0 : Hid (Rw.Cel w0 w.heap.size [.int .i64 cap, .slice A n c]) := hw0 ▸ (Rw.Cel.new w [_, _] _).alloc _
  have R0 : Hid (Rw.Cel w0 (w.heap.size + 1) [.bool false, .slice none 0 0, .slice none 0 0]) := hw0 ▸ Rw.Cel.new_at _ [_, _, _] _ (by simp)
  have B0 : Hid (Below w.heap.size w w0) := hw0 ▸ bstep (below_alloc _ _) (below_alloc _ _)
  have hz0 : (w.alloc (.cells #[.int .i64 cap, .slice A n c] 24)).heap.size = w.heap.size + 1 := by simp
  first | rw [hw0] | skip
  clear hw0
  obtain ⟨x0, x1⟩ := C0.out.two
  go_wp2_with fail
  refine (KC.out w0 (HA.out.on B0.out)).mono ?_
  rintro e w1 ⟨rfl, hb⟩
  have B1 := Lib.hid (bstep B0.out hb)
  have C1 := Lib.hid (C0.out.on hb)
  have R1 := Lib.hid (R0.out.on hb)
  clear hb x0 x1
  by_cases hz : E = 0
  rotate_left
  · obtain ⟨z1, z2⟩ := ne_zero hz
    obtain ⟨u0, u1, u2⟩ := R1.out.three
    obtain ⟨v0, v1, v2⟩ := R1.out.warm3
    go_wp2_with fail
    exact bodyPost_ret (res_rat2 Tryz.results15 rfl (R1.out.put3 _ _ _)) rfl ⟨_, rfl, OutR.no hz, Rw.below_put3 B1.out (by omega) _ _ _⟩
  subst hz
  rw [hs rfl] at KS
  clear hs
  obtain ⟨x0, x1⟩ := C1.out.two
  go_wp2_with fail
  refine (KS.out w1 (HA.out.on B1.out)).mono ?_
  rintro e w2 h
  obtain ⟨b1, A1, n1, c1, B1', m1, d1, rfl, ho, hb⟩ := h.open_
  have B2 := Lib.hid (bstep B1.out hb)
  have R2 := Lib.hid (R1.out.on hb)
  have O2 := Lib.hid (ho.zero rfl)
  clear h ho hb x0 x1
  obtain ⟨u0, u1, u2⟩ := R2.out.three
  obtain ⟨v0, v1, v2⟩ := R2.out.warm3
  go_wp2_with fail
  exact bodyPost_ret (res_rat2 Tryz.results15 rfl (R2.out.put3 _ _ _)) rfl ⟨_, rfl, OutR.ok (InR.put3 O2.out (cel_root R2.out) _ _ _), Rw.below_put3 B2.out (by omega) _ _ _⟩
end Go.Proofs.YtgmlccjjhmhgbaaGreat.Tank
/- New of the reference. -/
namespace Go.Proofs.YtgmlccjjhmhgbaaGreat.Tank
open Go.ChangeShapes Go.WideShapes Go.RowKit Go.Lib
open Go.Proofs.YtgmlccjjhmhgbaaGreat.Rw (Rd Row Kd glt get_lt rd_one flat_len below_alloc bstep wrap_id below_drewN below_drew drew_below step_rows append_rows step_rowsF append_rowsF)
set_option linter.unusedVariables false
set_option maxRecDepth 100000

def nwE (kinds cap : Int) : Int := if 1 ≤ kinds ∧ kinds ≤ 8 then (if 1 ≤ cap ∧ cap ≤ MM then 0 else 1) else 17
def nwC (kinds cap : Int) : Int := if nwE kinds cap = 0 then cap else 0
def nwL (kinds cap : Int) : List Trip := if nwE kinds cap = 0 then List.replicate kinds.toNat (triR 0) else []
theorem nw_no {kinds cap E : Int} (h : nwE kinds cap = E) (h0 : ¬ E = 0) : nwC kinds cap = 0 ∧ nwL kinds cap = [] := by
  unfold nwC nwL
  rw [h, if_neg h0, if_neg h0]; exact ⟨rfl, rfl⟩
theorem res_no {fn : Func} {w w' : World} {tmps : Array Value} {p u : Tmp} {err : Int} (h : fn.results = #[.cell p 24, .tmp u]) {g : Nat} (hp : tmps.getD p undef = .pointer (some ⟨g, 0, none⟩)) (hu : tmps.getD u undef = .int .i64 err)
    (hc : Rw.Cel w' g [.int .i64 0, .slice none 0 0]) : (results fn tmps).run Tryz.prog w' = .ok (.tuple #[.agg #[.int .i64 0, .slice none 0 0], .int .i64 err]) w' := by rw [← hu]; exact res_tank2 h hp hc
set_option maxHeartbeats 3200000 in
theorem tk_New (kinds cap : Int) (w : World) :
    Calls Tryz.prog 13 #[.int .i64 kinds, .int .i64 cap] w (TRes w (nwE kinds cap) (nwC kinds cap) (nwL kinds cap)) := by
  obtain ⟨E, hE⟩ : ∃ E, nwE kinds cap = E := ⟨_, rfl⟩
  have hMM : MM = 1099511627776 := rfl
  have hno := fun h => nw_no (E := E) hE h
  have enter : ∀ (x : Nat), x = x := fun _ => rfl
  rcases Int.lt_or_le kinds 1 with h0 | h0
  · have d0 : decide (kinds < 1) = true := decide_eq_true h0
    obtain rfl : E = 17 := by rw [← hE]; exact if_neg (by omega)
    obtain ⟨e1, e2⟩ := hno (by decide)
    rw [hE, e1, e2]
    clear hE hno h0 hMM enter e1 e2
    go_enter Tryz.func13, Tryz.ntmps13
    go_wp2_with fail
    have hc := Rw.Cel.new w [.int .i64 0, .slice none 0 0] 24
    exact bodyPost_ret (res_tank2 Tryz.results13 rfl hc) rfl (TRes.none_ (below_alloc _ _))
  have d0 : decide (kinds < 1) = false := decide_eq_false (by omega)
  rcases Int.lt_or_le 8 kinds with h1 | h1
  · have d1 : decide (8 < kinds) = true := decide_eq_true h1
    obtain rfl : E = 17 := by rw [← hE]; exact if_neg (by omega)
    obtain ⟨e1, e2⟩ := hno (by decide)
    rw [hE, e1, e2]
    clear hE hno h0 h1 hMM enter e1 e2
    go_enter Tryz.func13, Tryz.ntmps13
    go_wp2_with fail
    have hc := Rw.Cel.new w [.int .i64 0, .slice none 0 0] 24
    exact bodyPost_ret (res_tank2 Tryz.results13 rfl hc) rfl (TRes.none_ (below_alloc _ _))
  have d1 : decide (8 < kinds) = false := decide_eq_false (by omega)
  rcases Int.lt_or_le cap 1 with h2 | h2
  · have d2 : decide (cap < 1) = true := decide_eq_true h2
    obtain rfl : E = 1 := by rw [← hE]; unfold nwE; rw [if_pos (by omega), if_neg (by omega)]
    obtain ⟨e1, e2⟩ := hno (by decide)
    rw [hE, e1, e2]
    clear hE hno h0 h1 h2 hMM enter e1 e2
    go_enter Tryz.func13, Tryz.ntmps13
    go_wp2_with fail
    have hc := Rw.Cel.new w [.int .i64 0, .slice none 0 0] 24
    exact bodyPost_ret (res_tank2 Tryz.results13 rfl hc) rfl (TRes.none_ (below_alloc _ _))
  have d2 : decide (cap < 1) = false := decide_eq_false (by omega)
  rcases Int.lt_or_le 1099511627776 cap with h3 | h3
  · have d3 : decide (1099511627776 < cap) = true := decide_eq_true h3
    obtain rfl : E = 1 := by rw [← hE]; unfold nwE; rw [if_pos (by omega), if_neg (by omega)]
    obtain ⟨e1, e2⟩ := hno (by decide)
    rw [hE, e1, e2]
    clear hE hno h0 h1 h2 h3 hMM enter e1 e2
    go_enter Tryz.func13, Tryz.ntmps13
    go_wp2_with fail
    have hc := Rw.Cel.new w [.int .i64 0, .slice none 0 0] 24
    exact bodyPost_ret (res_tank2 Tryz.results13 rfl hc) rfl (TRes.none_ (below_alloc _ _))
  have d3 : decide (1099511627776 < cap) = false := decide_eq_false (by omega)
  obtain rfl : E = 0 := by rw [← hE]; unfold nwE; rw [if_pos (by omega), if_pos (by omega)]
  obtain ⟨K, hK⟩ : ∃ K : Nat, kinds = (K : Int) := ⟨kinds.toNat, by omega⟩
  subst hK
  have e1 : nwC (K : Int) cap = cap := if_pos hE
  have e2 : nwL (K : Int) cap = List.replicate K (triR 0) := by unfold nwL; rw [if_pos hE]; rfl
  rw [hE, e1, e2]
  have HK8 := Lib.hid (show K ≤ 8 by omega)
  have KZ := Lib.hid fun W => tk_zero W
  clear hE hno h0 h1 h2 h3 hMM enter e1 e2
  go_enter Tryz.func13, Tryz.ntmps13
  go_wp2_with fail
  obtain ⟨w0, hw0⟩ : ∃ W, (w.alloc (.cells #[.int .i64 0, .slice none 0 0] 24)).alloc (.cells #[.int .i64 cap, .slice none 0 0] 24) = W := ⟨_, rfl⟩
  have R0 : Hid (Rw.Cel w0 w.heap.size [.int .i64 0, .slice none 0 0]) := hw0 ▸ (Rw.Cel.new w [_, _] _).alloc _
  have T0 : Hid (Rw.Cel w0 (w.heap.size + 1) [.int .i64 cap, .slice none 0 0]) := hw0 ▸ Rw.Cel.new_at _ [_, _] _ (by simp)
  have B0 : Hid (Below w.heap.size w w0) := hw0 ▸ bstep (below_alloc _ _) (below_alloc _ _)
  have S0 : Hid (w.heap.size + 2 ≤ w0.heap.size) := hw0 ▸ (by show _ ≤ _; simp)
  rw [hw0]
  clear hw0
  go_loopw [7] (fun i wr => ∃ (k : Nat) (A' : Option Addr) (n' c' : Nat) (R : List Raw), k ≤ K ∧ i = .int .i64 k ∧ Bld wr (w.heap.size + 2) (w.heap.size + 1) cap A' n' c' R (List.replicate k (triR 0)) ∧ Rw.Cel wr w.heap.size [.int .i64 0, .slice none 0 0] ∧ Below w.heap.size w wr ∧ w.heap.size + 2 ≤ wr.heap.size) (fun i _ => K - (RowKit.intOf i).toNat)
  case atStart => exact ⟨0, none, 0, 0, [], Nat.zero_le _, rfl, Bld.nil T0.out (by omega), R0.out, B0.out, S0.out⟩
  case round =>
    obtain ⟨k, A', n', c', R, hk, rfl, hbld, hres, hbel, hsz⟩ := hrel
    have HQ := Lib.hid hbld
    have HZ := Lib.hid hres
    have HB := Lib.hid hbel
    have HS := Lib.hid hsz
    have hlen : R.length = k := by rw [hbld.ins.1, List.length_replicate]
    clear hbld hres hbel hsz
    rcases Nat.lt_or_ge k K with hlt | hge
    · have i1 : decide ((k : Int) < (K : Int)) = true := decide_eq_true (by omega)
      have i2 : K ≤ 8 := HK8.out
      have HSl : Hid (R.length + 1 ≤ 1000000) := Lib.hid (by have := HK8.out; omega)
      have hg1 : w.heap.size + 1 < wr.heap.size := by have := HS.out; omega
      obtain ⟨x0, x1⟩ := HQ.out.cel.two
      obtain ⟨y0, y1⟩ := HQ.out.cel.warm2
      obtain ⟨wq, rfl⟩ : ∃ W, W = wr := ⟨wr, rfl⟩
      clear hlen
      have HC2 : Hid (∀ W, Below wq.heap.size wq W → W.cell? ⟨w.heap.size + 1, 0, none⟩ = some (.int .i64 cap) ∧ W.cell? ⟨w.heap.size + 1, 1, none⟩ = some (.slice A' n' c')) := fun W h => (HQ.out.cel.on h).two
      go_upto_region 9 with fail
      go_region_law (first
        | (refine step_rowsF kdR cR_noI zR_noI rfl (.tmp 30) (.tmp 32) rfl (.slice A' n' c') R (by simp [Act.eval]) (HQ.out.on (bstep HB4.out (below_alloc _ _))).row (HQ.out.on (bstep HB4.out (below_alloc _ _))).noi (some ⟨w4.heap.size, 0, none⟩) 1 1 [(false, (P4, (topL 0).length, p4), (Q4, (botL 0).length, q4))] rfl (by decide) (by simp [Act.eval]) (rd_one cR_len (heap_alloc_new _ _)) HSl.out (Nat.le_trans HS.out (Below.size (bstep HB4.out (below_alloc _ _)))) ?_; intro A5 n5 c5 w5 hn5 hr5 ho5 hg5; have HP5 := Lib.hid (Bld.push (t := triR 0) (HQ.out.on (bstep HB4.out (below_alloc _ _))) hn5 hr5 ho5 hg5 rfl (HI4.out.1.on (below_alloc _ _)) (HI4.out.2.on (below_alloc _ _))); have HB5 := Lib.hid (Bld.below (HQ.out.on (bstep HB4.out (below_alloc _ _))) (bstep HB.out (bstep HB4.out (below_alloc _ _))) hg5 (Nat.le_trans HS.out (Below.size (bstep HB4.out (below_alloc _ _)))) (Nat.le_succ _) (.slice A5 n5 c5)); have HZ5 := Lib.hid (Bld.far (HQ.out.on (bstep HB4.out (below_alloc _ _))) (HZ.out.on (bstep HB4.out (below_alloc _ _))) hg5 (by omega) (by omega) (.slice A5 n5 c5)); have HS5 := Lib.hid (Nat.le_trans (Nat.le_trans HS.out (Below.size (bstep HB4.out (below_alloc _ _)))) hg5.size); have HC5 := Lib.hid ((HQ.out.on (bstep HB4.out (below_alloc _ _))).cel.grown hg5 fun h => by have := (HQ.out.row.lt _ h).1; omega); obtain ⟨f0, f1⟩ := HC5.out.warm2; obtain ⟨z3, z4⟩ := HC5.out.two; clear hn5 hr5 ho5 hg5)
        | (go_simp; go_at_call 40; (refine (KZ.out _).mono ?_); rintro e w4 ⟨v4, rfl, hi4, hb4⟩; obtain ⟨P4, p4, Q4, q4, rfl, j4, l4⟩ := inR_open hi4; have HI4 := Lib.hid (And.intro j4 l4); have HB4 := Lib.hid (bstep (drew_below _) hb4); obtain ⟨z0, z1⟩ := HC2.out _ HB4.out; have z2 := Nat.lt_of_lt_of_le hg1 HB4.out.size; clear hi4 hb4 j4 l4))
      all_goals
        rw [show List.replicate k (triR 0) ++ [triR 0] = List.replicate (k + 1) (triR 0) from List.replicate_succ'.symm] at HP5
        have HS6 : Hid (w.heap.size + 2 ≤ (w5.setCell ⟨w.heap.size + 1, 1, none⟩ (.slice A5 n5 c5)).heap.size) := Lib.hid (by have := HS5.out; simp only [World.size_setCell]; exact this)
        clear x0 x1 y0 y1 z0 z1 z2 z3 z4 f0 f1
        go_wp2_with fail
        go_roundw
        case rel => exact ⟨k + 1, A5, n5, c5, _, by omega, by go_num, HP5.out, HZ5.out, HB5.out, HS6.out⟩
        case measure => simp [RowKit.intOf]; omega
    · have i1 : decide ((k : Int) < (K : Int)) = false := decide_eq_false (by omega)
      obtain rfl : k = K := by omega
      have HT : Hid ((List.replicate k (triR 0)).length ≤ 9223372036854775807) := Lib.hid (by rw [List.length_replicate]; have := HK8.out; omega)
      have HV : Hid (∀ t ∈ List.replicate k (triR 0), vT t = true) := fun t ht => by rw [(List.mem_replicate.mp ht).2]; exact vT_tri fit_zero
      obtain ⟨x0, x1⟩ := HQ.out.cel.two
      obtain ⟨u0, u1⟩ := HZ.out.two
      obtain ⟨v0, v1⟩ := HZ.out.warm2
      go_wp2_with fail
      exact bodyPost_ret (res_tank2 Tryz.results13 rfl (HZ.out.put2 _ _)) rfl ⟨_, rfl, HQ.out.done HV.out HZ.out (by omega) HT.out, Rw.below_put2 HB.out (Nat.le_refl _) _ _⟩
end Go.Proofs.YtgmlccjjhmhgbaaGreat.Tank
