/- Several texts in one: TankB, TankC, TankM, ChestK, ChestL, ChestN. -/
import Derived.Test.YtagjimdplmimoaaGreatPk18
import Derived.Test.YtagjimdplmimoaaGreatPk7
import Derived.Test.YtagjimdplmimoaaGreatPk3
import Derived.Laws.CopyOwn
/- Tanks in memory: rows of numbers. Contracts over valid numbers. -/
namespace Go.Proofs.YtagjimdplmimoaaGreat.Tank
open Go.ChangeShapes Go.WideShapes Go.RowKit Go.Lib
open Go.Proofs.YtagjimdplmimoaaGreat.Rw (Rd Row Kd glt get_lt rd_one flat_len)
set_option linter.unusedVariables false
set_option maxRecDepth 100000

/-! ### Rows of numbers -/
abbrev Slc := Option Addr × Nat × Nat
abbrev sl (s : Slc) : Value := .slice s.1 s.2.1 s.2.2
abbrev Raw := Bool × Slc × Slc
abbrev cR (r : Raw) : List Value := [.bool r.1, sl r.2.1, sl r.2.2]
theorem cR_len (r : Raw) : (cR r).length = 3 := rfl
abbrev TR : TypeId := 46
theorem info_parts {T : TypeId} {zz : Option Value} {s b : Nat} (h : (Tryz.prog.info? T).map (fun i => (i.zero, i.size, i.bytes)) = some (zz, s, b)) : ∃ i, Tryz.prog.info? T = some i ∧ i.zero = zz ∧ i.size = s ∧ i.bytes = b := by
  cases hi : Tryz.prog.info? T with
  | none => rw [hi] at h; cases h
  | some i => rw [hi] at h; simp at h; exact ⟨i, rfl, h.1, h.2.1, h.2.2⟩
theorem info_r : (Tryz.prog.info? TR).map (fun i => (i.zero, i.size, i.bytes)) = some (some (.agg #[.bool false, .slice none 0 0, .slice none 0 0]), 3, 56) := by kernel_rfl
theorem kdR : Kd cR 3 30 TR := by
  obtain ⟨i, h1, h2, h3, h4⟩ := info_parts info_r
  exact ⟨Tryz.underlying30, ⟨i, _, _, h1, h2, h3, rfl, rfl, by rw [h4]; decide⟩, cR_len, by decide, fun z u hu => by
    simp at hu
    rcases hu with h | h | h <;> subst h <;> rfl⟩
/-- What lies in the row stands for the numbers. -/
def Ins (w : World) (R : List Raw) (L : List Trip) : Prop :=
  R.length = L.length ∧ ∀ (k : Nat) (r : Raw) (t : Trip), R[k]? = some r → L[k]? = some t → r.1 = t.1 ∧ In w (sl r.2.1) t.2.1 ∧ In w (sl r.2.2) t.2.2
theorem Ins.nil (w : World) : Ins w [] [] := ⟨rfl, fun k r t h => by simp at h⟩
theorem Ins.on {w w' : World} {R : List Raw} {L : List Trip} (h : Ins w R L) (hb : Below w.heap.size w w') : Ins w' R L :=
  ⟨h.1, fun k r t hr ht => by obtain ⟨h1, h2, h3⟩ := h.2 k r t hr ht; exact ⟨h1, h2.on hb, h3.on hb⟩⟩
theorem Ins.snoc {w : World} {R : List Raw} {L : List Trip} {r : Raw} {t : Trip} (h : Ins w R L) (h1 : r.1 = t.1) (h2 : In w (sl r.2.1) t.2.1) (h3 : In w (sl r.2.2) t.2.2) : Ins w (R ++ [r]) (L ++ [t]) := by
  refine ⟨by rw [List.length_append, List.length_append, h.1]; rfl, fun k x u hx hu => ?_⟩
  rcases Nat.lt_or_ge k R.length with hk | hk
  · rw [List.getElem?_append_left hk] at hx
    rw [List.getElem?_append_left (by rw [← h.1]; exact hk)] at hu
    exact h.2 k x u hx hu
  · rw [List.getElem?_append_right hk] at hx
    rw [List.getElem?_append_right (by rw [← h.1]; exact hk)] at hu
    rw [← h.1] at hu
    obtain ⟨j, hj⟩ : ∃ j, k - R.length = j := ⟨_, rfl⟩
    rw [hj] at hx hu
    cases j with
    | zero => simp at hx hu; subst hx; subst hu; exact ⟨h1, h2, h3⟩
    | succ j => simp at hx
theorem Ins.rats {w : World} {A : Option Addr} {R : List Raw} {L : List Trip} (h : Rd cR 3 w A R) (hi : Ins w R L) : Rats w A L := by
  intro k t ht
  obtain ⟨r, hr⟩ := get_lt (L := R) (k := k) (by rw [hi.1]; exact glt ht)
  obtain ⟨b, off, e, hlt, hc⟩ := h k r hr
  obtain ⟨h1, h2, h3⟩ := hi.2 k r t hr ht
  obtain ⟨A1, c1, e1, i1⟩ := in_open h2
  obtain ⟨A2, c2, e2, i2⟩ := in_open h3
  have c0 := hc 0 _ rfl
  have c1' := hc 1 _ rfl
  have c2' := hc 2 _ rfl
  rw [Nat.add_zero, h1] at c0
  rw [show sl r.2.1 = _ from e1] at c1'
  rw [show sl r.2.2 = _ from e2] at c2'
  exact ⟨b, off, A1, c1, A2, c2, e, hlt, ⟨c0, c1', c2'⟩, i1, i2⟩
theorem Rats.nil (w : World) (A : Option Addr) : Rats w A [] := fun k t h => by simp at h
theorem Rats.at_ {w : World} {A : Option Addr} {L : List Trip} (h : Rats w A L) {k : Nat} {t : Trip} (ht : L[k]? = some t) : ∃ b off A1 c1 A2 c2, A = some ⟨b, off, none⟩ ∧ b < w.heap.size ∧
    w.cell? ⟨b, off + k * 3, none⟩ = some (.bool t.1) ∧ w.cell? ⟨b, off + k * 3 + 1, none⟩ = some (.slice A1 t.2.1.length c1) ∧ w.cell? ⟨b, off + k * 3 + 2, none⟩ = some (.slice A2 t.2.2.length c2) ∧ InR w (.agg #[.bool t.1, .slice A1 t.2.1.length c1, .slice A2 t.2.2.length c2]) t.1 t.2.1 t.2.2 := by
  obtain ⟨b, off, A1, c1, A2, c2, e, hlt, ⟨h0, h1, h2⟩, i1, i2⟩ := h k t ht
  exact ⟨b, off, A1, c1, A2, c2, e, hlt, h0, h1, h2, _, _, rfl, i1, i2⟩
/-- A tank's value. -/
def InT (w : World) (v : Value) (cap : Int) (L : List Trip) : Prop := ∃ A c, v = .agg #[.int .i64 cap, .slice A L.length c] ∧ L.length ≤ 9223372036854775807 ∧ Rats w A L
theorem InT.on {w w' : World} {v : Value} {cap : Int} {L : List Trip} (h : InT w v cap L) (hb : Below w.heap.size w w') : InT w' v cap L := by
  obtain ⟨A, c, e, hl, hr⟩ := h; exact ⟨A, c, e, hl, hr.on hb⟩
theorem InT.zero (w : World) : InT w (.agg #[.int .i64 0, .slice none 0 0]) 0 [] := ⟨none, 0, rfl, by simp, Rats.nil _ _⟩
/-- A tank and an error. -/
def TRes (w : World) (err cap : Int) (L : List Trip) (e : Ending) (w' : World) : Prop := ∃ v, e = .returned (.tuple #[v, .int .i64 err]) ∧ InT w' v cap L ∧ Below w.heap.size w w'
theorem TRes.none_ {w w' : World} {err : Int} (hb : Below w.heap.size w w') : TRes w err 0 [] (.returned (.tuple #[.agg #[.int .i64 0, .slice none 0 0], .int .i64 err])) w' := ⟨_, rfl, InT.zero _, hb⟩
/-- A number's value, cell by cell. -/
theorem inR_open {w : World} {v : Value} {b : Bool} {xs ys : List Int} (h : InR w v b xs ys) : ∃ A c B d, v = .agg #[.bool b, .slice A xs.length c, .slice B ys.length d] ∧ In w (.slice A xs.length c) xs ∧ In w (.slice B ys.length d) ys := by
  obtain ⟨vp, vq, rfl, h1, h2⟩ := h
  obtain ⟨A, c, rfl, i1⟩ := in_open h1
  obtain ⟨B, d, rfl, i2⟩ := in_open h2
  exact ⟨A, c, B, d, rfl, i1, i2⟩
theorem RRes.op {w : World} {err : Int} {r : Rat} {e : Ending} {w' : World} (h : RRes w err r e w') : ∃ b A n c B m d, e = .returned (.tuple #[.agg #[.bool b, .slice A n c, .slice B m d], .int .i64 err]) ∧ OutR w' (.agg #[.bool b, .slice A n c, .slice B m d]) err r ∧ Below w.heap.size w w' := by
  obtain ⟨v, rfl, ho, hb⟩ := h
  have h1 : ∃ b xs ys, InR w' v b xs ys := by
    unfold OutR at ho
    split at ho
    · exact ⟨_, _, _, ho⟩
    · exact ⟨_, _, _, ho⟩
  obtain ⟨b, xs, ys, hi⟩ := h1
  obtain ⟨A, c, B, d, rfl, -, -⟩ := inR_open hi
  exact ⟨b, A, _, c, B, _, d, rfl, ho, hb⟩
theorem IsR.cells {w : World} {b : Bool} {A B : Option Addr} {n c m d : Nat} {r : Rat} (h : IsR w (.agg #[.bool b, .slice A n c, .slice B m d]) r) : b = negR r ∧ In w (.slice A n c) (topL r) ∧ In w (.slice B m d) (botL r) := by
  obtain ⟨vp, vq, e, h1, h2⟩ := h
  simp only [Value.agg.injEq, Array.mk.injEq, List.cons.injEq, Value.bool.injEq, and_true] at e
  obtain ⟨e1, e2, e3⟩ := e
  subst e1; subst e2; subst e3
  exact ⟨rfl, h1, h2⟩
/-! ### Appends -/
theorem cR_noI (z : Raw) : ∀ u ∈ cR z, Rw.noI u := fun u hu => by
  simp at hu
  rcases hu with h | h | h <;> subst h <;> intro k z e <;> cases e
theorem zR_noI (i : TypeInfo) (zv : Value) (hi : Tryz.prog.info? TR = some i) (hz : i.zero = some zv) : ∀ u ∈ zv.cells.toList, Rw.noI u := by
  obtain ⟨i', h1, h2, -, -⟩ := info_parts info_r
  rw [hi] at h1
  cases h1
  rw [hz] at h2
  cases h2
  intro u hu
  have hu' : u ∈ [Value.bool false, .slice none 0 0, .slice none 0 0] := hu
  simp at hu'
  rcases hu' with h | h <;> subst h <;> intro k z e <;> cases e
theorem In.grown {w w' : World} {rv v : Value} {zs : List Int} (h : In w v zs) (hg : w.grownBy w' rv.ownBlock) (hn : Rw.NoI w rv) : In w' v zs := by
  obtain ⟨A, c, rfl, h1, h2, h3⟩ := h
  refine ⟨A, c, rfl, h1, h2, fun k z hz => ?_⟩
  obtain ⟨b, off, hA, hlo, hlt, hc⟩ := h3 k z hz
  refine ⟨b, off, hA, ⟨Nat.zero_le _, Or.inl rfl⟩, Nat.lt_of_lt_of_le hlt hg.size, ?_⟩
  by_cases hb : rv.ownBlock = some b
  · exact absurd hc (hn b hb _ _ _)
  · exact (World.cell?_of_block (a := ⟨b, off + k, none⟩) (hg.block b hlt fun e => hb e.symm)).trans hc
theorem Ins.grown {w w' : World} {rv : Value} {R : List Raw} {L : List Trip} (h : Ins w R L) (hg : w.grownBy w' rv.ownBlock) (hn : Rw.NoI w rv) : Ins w' R L :=
  ⟨h.1, fun k r t hr ht => by obtain ⟨h1, h2, h3⟩ := h.2 k r t hr ht; exact ⟨h1, In.grown h2 hg hn, In.grown h3 hg hn⟩⟩
theorem Ins.set {w : World} {R : List Raw} {L : List Trip} (h : Ins w R L) {p : Addr} {u : Value} (hx : w.cell? p = some u) (hu : ∀ z, u ≠ .int .i64 z) (x : Value) : Ins (w.setCell p x) R L :=
  ⟨h.1, fun k r t hr ht => by obtain ⟨h1, h2, h3⟩ := h.2 k r t hr ht; exact ⟨h1, h2.set hx hu x, h3.set hx hu x⟩⟩
/-- The row that a field of a tank holds, while the call builds it. -/
structure Bld (w : World) (B g : Nat) (cap : Int) (A : Option Addr) (n c : Nat) (R : List Raw) (L : List Trip) : Prop where
  cel : Rw.Cel w g [.int .i64 cap, .slice A n c]
  row : Rw.Row cR 3 TR B w (.slice A n c) R
  len : n = R.length
  ins : Ins w R L
  noi : Rw.NoI w (.slice A n c)
  lt : g < B
theorem Bld.on {w w' : World} {B g : Nat} {cap : Int} {A : Option Addr} {n c : Nat} {R : List Raw} {L : List Trip} (h : Bld w B g cap A n c R L) (hb : Below w.heap.size w w') : Bld w' B g cap A n c R L :=
  ⟨h.cel.on hb, h.row.on hb, h.len, h.ins.on hb, h.noi.keep fun k hk => hb.block k (h.row.lt k hk).2, h.lt⟩
/-- Behind the append, and the store of the new slice into the field. -/
theorem Bld.push {w w' : World} {B g : Nat} {cap : Int} {A : Option Addr} {n c : Nat} {R : List Raw} {L : List Trip} (h : Bld w B g cap A n c R L) {r : Raw} {t : Trip} {A' : Option Addr} {n' c' : Nat} (hn' : n' = R.length + 1)
    (hrow : Rw.Row cR 3 TR B w' (.slice A' n' c') (R ++ [r])) (hno : Rw.NoI w' (.slice A' n' c')) (hg : w.grownBy w' (Value.slice A n c).ownBlock) (h1 : r.1 = t.1) (h2 : In w (sl r.2.1) t.2.1) (h3 : In w (sl r.2.2) t.2.2) :
    Bld (w'.setCell ⟨g, 1, none⟩ (.slice A' n' c')) B g cap A' n' c' (R ++ [r]) (L ++ [t]) := by
  have hc : Rw.Cel w' g [.int .i64 cap, .slice A n c] := h.cel.grown hg fun e => by have := (h.row.lt _ e).1; have := h.lt; omega
  have hoff : Rw.Off (fun k => k = g) w' (w'.setCell ⟨g, 1, none⟩ (.slice A' n' c')) := Rw.Off.set (S := fun k => k = g) (Rw.Off.refl _ _) (p := ⟨g, 1, none⟩) (Or.inl rfl) _
  have hke : ∀ k, (Value.slice A' n' c').ownBlock = some k → (w'.setCell ⟨g, 1, none⟩ (.slice A' n' c')).heap[k]? = w'.heap[k]? := fun k hk => by
    have hl := hrow.lt k hk
    exact hoff.block k hl.2 fun e => by have := h.lt; omega
  refine ⟨hc.set 1 _, hrow.keep hke, by rw [hn', List.length_append]; rfl, ?_, hno.keep hke, h.lt⟩
  exact ((h.ins.grown hg h.noi).snoc h1 (In.grown h2 hg h.noi) (In.grown h3 hg h.noi)).set (u := .slice A n c) (hc.two.2) (fun z e => by cases e) _
theorem Bld.below {w0 w w' : World} {B g : Nat} {cap : Int} {A : Option Addr} {n c : Nat} {R : List Raw} {L : List Trip} (h : Bld w B g cap A n c R L) (hb : Below w0.heap.size w0 w) (hg : w.grownBy w' (Value.slice A n c).ownBlock) (hB : B ≤ w.heap.size) (h0 : w0.heap.size ≤ g) (x : Value) : Below w0.heap.size w0 (w'.setCell ⟨g, 1, none⟩ x) :=
  (hb.trans ((h.row.below hg hB).mono (Nat.le_trans h0 (Nat.le_of_lt h.lt)))).setCell (p := ⟨g, 1, none⟩) h0 x
/-- Another block's cells. -/
theorem Bld.far {w w' : World} {B g : Nat} {cap : Int} {A : Option Addr} {n c : Nat} {R : List Raw} {L : List Trip} (h : Bld w B g cap A n c R L) {g' : Nat} {us : List Value} (hc : Rw.Cel w g' us) (hg : w.grownBy w' (Value.slice A n c).ownBlock) (hl : g' < B) (hne : g ≠ g') (x : Value) : Rw.Cel (w'.setCell ⟨g, 1, none⟩ x) g' us :=
  (hc.grown hg fun e => by have := (h.row.lt _ e).1; omega).far (p := ⟨g, 1, none⟩) hne x
theorem Bld.nil {w : World} {B g : Nat} {cap : Int} (h : Rw.Cel w g [.int .i64 cap, .slice none 0 0]) (hl : g < B) : Bld w B g cap none 0 0 [] [] :=
  ⟨h, Rw.Row.nil _ _ _ _ _, rfl, Ins.nil _, Rw.NoI.nil _, hl⟩
/-- The tank that is read off at the end. -/
theorem Bld.tank {w : World} {B g : Nat} {cap : Int} {A : Option Addr} {n c : Nat} {R : List Raw} {L : List Trip} (h : Bld w B g cap A n c R L) (hl : L.length ≤ 9223372036854775807) : InT w (.agg #[.int .i64 cap, .slice A n c]) cap L ∧ Rats w A L ∧ n = L.length := by
  obtain ⟨A0, c0, e, -, -, hrd, -, -⟩ := h.row.one cR_len
  obtain ⟨rfl, -, rfl⟩ := Value.slice.inj e
  have hn : n = L.length := h.len.trans h.ins.1
  exact ⟨⟨A, c, by rw [hn], hl, h.ins.rats hrd⟩, h.ins.rats hrd, hn⟩
/-- A store into a tank that is still the zero value: no limbs of a valid number lie there (the last limb is not 0). -/
theorem In.tank {w : World} {v : Value} {zs : List Int} {g : Nat} {A : Option Addr} {n c : Nat} (h : In w v zs) (hv : validB zs = true) (hc : Rw.Cel w g [.int .i64 0, .slice A n c]) (x y : Value) : In ((w.setCell ⟨g, 0, none⟩ x).setCell ⟨g, 1, none⟩ y) v zs := by
  obtain ⟨c0, c1⟩ := hc.two
  have h2 : In (w.setCell ⟨g, 0, none⟩ x) v zs := by
    obtain ⟨A', d, rfl, h1, h2, h3⟩ := h
    refine ⟨A', d, rfl, h1, h2, fun k z hz => ?_⟩
    obtain ⟨b, off, hA, hlo, hlt, hcell⟩ := h3 k z hz
    refine ⟨b, off, hA, ⟨Nat.zero_le _, Or.inl rfl⟩, by simpa using hlt, ?_⟩
    rw [World.cell?_setCell_other w ⟨g, 0, none⟩ ⟨b, off + k, none⟩ x ?_]
    · exact hcell
    · intro e
      simp only [Addr.mk.injEq, and_true] at e
      obtain ⟨rfl, e2⟩ := e
      have hk : k = 0 := by omega
      have ho : off = 0 := by omega
      subst hk; subst ho
      rw [c0] at hcell
      cases hcell
      match zs, hz with
      | [z0], hz => simp at hz; subst hz; exact absurd hv (by decide)
      | z0 :: z1 :: l, hz =>
        obtain ⟨b', off', hA', -, -, hc'⟩ := h3 1 z1 rfl
        rw [hA] at hA'
        cases hA'
        rw [show (0 + 1 : Nat) = 1 from rfl, c1] at hc'
        cases hc'
  have c1' : (w.setCell ⟨g, 0, none⟩ x).cell? ⟨g, 1, none⟩ = some (.slice A n c) := (hc.set 0 x).two.2
  exact h2.set c1' (fun z e => by cases e) y
theorem vT_valid {t : Trip} (h : vT t = true) : validB t.2.1 = true ∧ validB t.2.2 = true := ⟨(val_parts h).1, (val_parts h).2.1⟩
theorem Ins.tank {w : World} {R : List Raw} {L : List Trip} {g : Nat} {A : Option Addr} {n c : Nat} (h : Ins w R L) (hv : ∀ t ∈ L, vT t = true) (hc : Rw.Cel w g [.int .i64 0, .slice A n c]) (x y : Value) : Ins ((w.setCell ⟨g, 0, none⟩ x).setCell ⟨g, 1, none⟩ y) R L :=
  ⟨h.1, fun k r t hr ht => by
    obtain ⟨h1, h2, h3⟩ := h.2 k r t hr ht
    obtain ⟨v1, v2⟩ := vT_valid (hv t (List.mem_of_getElem? ht))
    exact ⟨h1, In.tank h2 v1 hc x y, In.tank h3 v2 hc x y⟩⟩
/-- The row of a tank that is handed back: it lies in the result, and nowhere else. -/
theorem row_tank {w : World} {B : Nat} {A : Option Addr} {n c : Nat} {R : List Raw} {L : List Trip} (hr : Rw.Row cR 3 TR B w (.slice A n c) R) (hi : Ins w R L) (hv : ∀ t ∈ L, vT t = true) {g0 : Nat} {A0 : Option Addr} {m d : Nat} (hz : Rw.Cel w g0 [.int .i64 0, .slice A0 m d]) (h0 : g0 < B) (x y : Value) :
    Rw.Row cR 3 TR B ((w.setCell ⟨g0, 0, none⟩ x).setCell ⟨g0, 1, none⟩ y) (.slice A n c) R ∧ Ins ((w.setCell ⟨g0, 0, none⟩ x).setCell ⟨g0, 1, none⟩ y) R L := by
  have hoff := Rw.off_put2 w g0 x y
  exact ⟨hr.keep fun k hk => by have hl := hr.lt k hk; exact hoff.block k hl.2 fun e => by omega, hi.tank hv hz x y⟩
theorem row_rats {w : World} {B : Nat} {A : Option Addr} {n c : Nat} {R : List Raw} {L : List Trip} (hr : Rw.Row cR 3 TR B w (.slice A n c) R) (hi : Ins w R L) (hn : n = R.length) : Rats w A L ∧ n = L.length := by
  obtain ⟨A0, c0, e, -, -, hrd, -, -⟩ := hr.one cR_len
  obtain ⟨rfl, -, rfl⟩ := Value.slice.inj e
  exact ⟨hi.rats hrd, hn.trans hi.1⟩
theorem Bld.done {w : World} {B g : Nat} {cap : Int} {A : Option Addr} {n c : Nat} {R : List Raw} {L : List Trip} (h : Bld w B g cap A n c R L) (hv : ∀ t ∈ L, vT t = true) {g0 : Nat} {A0 : Option Addr} {m d : Nat} (hz : Rw.Cel w g0 [.int .i64 0, .slice A0 m d]) (h0 : g0 < B) (hl : L.length ≤ 9223372036854775807) :
    InT ((w.setCell ⟨g0, 0, none⟩ (.int .i64 cap)).setCell ⟨g0, 1, none⟩ (.slice A n c)) (.agg #[.int .i64 cap, .slice A n c]) cap L := by
  obtain ⟨hr, hi⟩ := row_tank h.row h.ins hv hz h0 (.int .i64 cap) (.slice A n c)
  obtain ⟨h1, h2⟩ := row_rats hr hi h.len
  exact ⟨A, c, by rw [h2], hl, h1⟩
/-! ### Contracts over valid numbers -/
end Go.Proofs.YtagjimdplmimoaaGreat.Tank
/- Same, zero, Check, Level of the reference. -/
namespace Go.Proofs.YtagjimdplmimoaaGreat.Tank
open Go.ChangeShapes Go.WideShapes Go.RowKit Go.Lib
open Go.Proofs.YtagjimdplmimoaaGreat.Rw (Rd Row Kd glt get_lt rd_one flat_len below_alloc bstep wrap_id below_drewN below_drew drew_below)
set_option linter.unusedVariables false
set_option maxRecDepth 100000

theorem ne_zero {E : Int} (h : ¬ E = 0) : (E == 0) = false ∧ (E != 0) = true := by
  have h1 : (E == 0) = false := beq_false_of_ne h
  exact ⟨h1, by rw [bne, h1]; rfl⟩
theorem res_rat {fn : Func} {p : Tmp} (h : fn.results = #[.cell p 46]) {tmps : Array Value} {w : World} {g : Nat} {u0 u1 u2 : Value} (hp : tmps.getD p undef = .pointer (some ⟨g, 0, none⟩))
    (hc : Rw.Cel w g [u0, u1, u2]) : (results fn tmps).run Tryz.prog w = .ok (.agg #[u0, u1, u2]) w := by
  have hp' : tmps[p]?.getD undef = .pointer (some ⟨g, 0, none⟩) := by simpa using hp
  obtain ⟨h0, h1, h2⟩ := hc.three
  simp [results, h, hp', go_sem, h0, h1, h2]
theorem res_rat2 {fn : Func} {p u : Tmp} (h : fn.results = #[.cell p 46, .tmp u]) {tmps : Array Value} {w : World} {g : Nat} {u0 u1 u2 : Value} (hp : tmps.getD p undef = .pointer (some ⟨g, 0, none⟩))
    (hc : Rw.Cel w g [u0, u1, u2]) : (results fn tmps).run Tryz.prog w = .ok (.tuple #[.agg #[u0, u1, u2], tmps.getD u undef]) w := by
  have hp' : tmps[p]?.getD undef = .pointer (some ⟨g, 0, none⟩) := by simpa using hp
  obtain ⟨h0, h1, h2⟩ := hc.three
  simp [results, h, hp', go_sem, h0, h1, h2]
theorem res_tank2 {fn : Func} {p u : Tmp} (h : fn.results = #[.cell p 32, .tmp u]) {tmps : Array Value} {w : World} {g : Nat} {u0 u1 : Value} (hp : tmps.getD p undef = .pointer (some ⟨g, 0, none⟩))
    (hc : Rw.Cel w g [u0, u1]) : (results fn tmps).run Tryz.prog w = .ok (.tuple #[.agg #[u0, u1], tmps.getD u undef]) w := by
  have hp' : tmps[p]?.getD undef = .pointer (some ⟨g, 0, none⟩) := by simpa using hp
  obtain ⟨h0, h1⟩ := hc.two
  simp [results, h, hp', go_sem, h0, h1]
theorem res_tank3 {fn : Func} {p u v : Tmp} (h : fn.results = #[.cell p 32, .tmp u, .tmp v]) {tmps : Array Value} {w : World} {g : Nat} {u0 u1 : Value} (hp : tmps.getD p undef = .pointer (some ⟨g, 0, none⟩))
    (hc : Rw.Cel w g [u0, u1]) : (results fn tmps).run Tryz.prog w = .ok (.tuple #[.agg #[u0, u1], tmps.getD u undef, tmps.getD v undef]) w := by
  have hp' : tmps[p]?.getD undef = .pointer (some ⟨g, 0, none⟩) := by simpa using hp
  obtain ⟨h0, h1⟩ := hc.two
  simp [results, h, hp', go_sem, h0, h1]
theorem cel_root {w : World} {g : Nat} {u0 u1 u2 : Value} (h : Rw.Cel w g [u0, u1, u2]) : Cel w g u0 u1 u2 := ⟨h.three, h.warm3⟩
theorem qI_zero : qI 0 = 0 := mkV_zero
end Go.Proofs.YtagjimdplmimoaaGreat.Tank
/- Parts of the program's fibre (gen17/m.py out of FibreH). -/
namespace Go.Proofs.YtagjimdplmimoaaGreat.Tank
open Go.ChangeShapes Go.WideShapes Go.RowKit Go.Lib
open Go.Proofs.YtagjimdplmimoaaGreat.Mem (Cl eI Own)
open Go.Proofs.YtagjimdplmimoaaGreat.Rw (glt get_lt ret_bool ret_int wrap_id bstep below_drewN below_drew drew_below below_alloc)
set_option linter.unusedVariables false
set_option maxRecDepth 100000

/-- The error of a number. -/
def nuE (most z : Int) : Int := if inM most z then 0 else 1
theorem nuE_ok {most z : Int} (h : inM most z = true) : nuE most z = 0 := by unfold nuE; rw [h]; rfl
theorem nuE_bad {most z : Int} (h : inM most z = false) : nuE most z = 1 := by unfold nuE; rw [h]; rfl
theorem nuE_zero {most z : Int} (h : nuE most z = 0) : inM most z = true := by
  cases hz : inM most z with
  | true => rfl
  | false => rw [nuE_bad hz] at h; cases h
theorem tp_checkNumber (z most : Int) (w : World) :
    Calls Tryz.prog 59 #[.int .i64 z, .int .i64 most] w fun e w' => e = .returned (.int .i64 (nuE most z)) ∧ w = w' := by
  rcases Int.lt_or_le z 0 with h0 | h0
  · have t0 : decide (z < 0) = true := decide_eq_true h0
    rw [nuE_bad (Bool.eq_false_iff.mpr fun h => by have := inM_iff.mp h; omega)]
    clear h0
    go_enter Tryz.func59, Tryz.ntmps59
    go_wp2_with fail
    go_ret
    exact ⟨rfl, rfl⟩
  have t0 : decide (z < 0) = false := decide_eq_false (by omega)
  rcases Int.lt_or_le most z with h1 | h1
  · have t1 : decide (most < z) = true := decide_eq_true h1
    rw [nuE_bad (Bool.eq_false_iff.mpr fun h => by have := inM_iff.mp h; omega)]
    clear h0 h1
    go_enter Tryz.func59, Tryz.ntmps59
    go_wp2_with fail
    go_ret
    exact ⟨rfl, rfl⟩
  have t1 : decide (most < z) = false := decide_eq_false (by omega)
  rw [nuE_ok (inM_iff.mpr ⟨h0, h1⟩)]
  clear h0 h1
  go_enter Tryz.func59, Tryz.ntmps59
  go_wp2_with fail
  go_ret
  exact ⟨rfl, rfl⟩

theorem tp_clo (b : Nat) (most z : Int) (w : World) (hc : w.cell? ⟨b, 0, none⟩ = some (.int .i64 most)) :
    Calls Tryz.prog 58 #[.int .i64 z, .pointer (some ⟨b, 0, none⟩)] w fun e w' => e = .returned (.int .i64 (nuE most z)) ∧ w = w' := by
  have HC := Lib.hid (tp_checkNumber z most w)
  go_enter Tryz.func58, Tryz.ntmps58
  go_wp2_with fail
  refine HC.out.mono ?_
  rintro e w' ⟨rfl, rfl⟩
  go_wp2_with fail
  go_ret
  exact ⟨rfl, rfl⟩

/-- The first error of a list. -/
def firG (g : Int → Int) : List Int → Int
  | [] => 0
  | z :: l => if g z = 0 then firG g l else g z
theorem firG_bad {g : Int → Int} : ∀ {l : List Int} {k : Nat} {z : Int}, l[k]? = some z → ¬ g z = 0 → (∀ (j : Nat) (y : Int), j < k → l[j]? = some y → g y = 0) → firG g l = g z
  | [], _, _, h, _, _ => by simp at h
  | y :: l, 0, z, h, hb, _ => by simp at h; subst h; rw [firG, if_neg hb]
  | y :: l, k + 1, z, h, hb, ha => by
    rw [List.getElem?_cons_succ] at h
    rw [firG, if_pos (ha 0 y (by omega) rfl)]
    exact firG_bad h hb fun j x hj hx => ha (j + 1) x (by omega) (by rw [List.getElem?_cons_succ]; exact hx)
theorem firG_ok {g : Int → Int} : ∀ {l : List Int}, (∀ (j : Nat) (y : Int), l[j]? = some y → g y = 0) → firG g l = 0
  | [], _ => rfl
  | y :: l, h => by
    rw [firG, if_pos (h 0 y rfl)]
    exact firG_ok fun j x hx => h (j + 1) x (by rw [List.getElem?_cons_succ]; exact hx)
theorem firG_nu {most : Int} {l : List Int} : firG (nuE most) l = if l.all (inM most) then 0 else 1 := by
  induction l with
  | nil => rfl
  | cons z l ih =>
    rw [firG, List.all_cons, ih]
    cases hz : inM most z with
    | true => rw [nuE_ok hz, if_pos rfl, Bool.true_and]
    | false => rw [nuE_bad hz, Bool.false_and]; rfl

/-- A function that answers of an integer as long as I holds of the memory. -/
structure Ans (fn : Nat) (ba ca : Array Value) (g : Int → Int) (I : World → Prop) : Prop where
  eg : ∀ args w, (callFunc fn args).run Tryz.prog w = .ok (.enter fn args) w
  run : ∀ z W, I W → Calls Tryz.prog fn (ba ++ #[.int .i64 z] ++ ca) W fun e W' => e = .returned (.int .i64 (g z)) ∧ W = W'
set_option maxHeartbeats 800000 in
theorem tvisit_int {fn : Nat} {ba ca : Array Value} {g : Int → Int} {I : World → Prop} (hv : Ans fn ba ca g I) (l : List Int) (A : Option Addr) (n c : Nat) (hn : n = l.length) (w : World) (ha : Cl eI w A l) (hI : I w) (hm : n ≤ 9223372036854775807) :
    Calls Tryz.prog 57 #[.slice A n c, .func (.func fn) ba ca] w fun e w' => e = .returned (.int .i64 (firG g l)) ∧ w = w' := by
  have HA := Lib.hid ha
  have HN := Lib.hid hn
  have HV := Lib.hid fun z => hv.run z w hI
  have eg := hv.eg
  obtain ⟨E, hE⟩ : ∃ E, firG g l = E := ⟨_, rfl⟩
  rw [hE]
  have HE := Lib.hid hE
  clear ha hn hv hI hE
  go_enter Tryz.func57, Tryz.ntmps57
  go_wp2_with fail
  go_loopw [10, 6, 7] (fun i _ _ wr => ∃ k : Nat, k ≤ n ∧ i = .int .i64 k ∧ (∀ (j : Nat) (y : Int), j < k → l[j]? = some y → g y = 0) ∧ wr = w) (fun i _ _ _ => n - (RowKit.intOf i).toNat)
  case atStart => exact ⟨0, Nat.zero_le _, rfl, fun j z h => absurd h (by omega), rfl⟩
  case round =>
    obtain ⟨k, hk, rfl, hg, rfl⟩ := hrel
    have HG := Lib.hid hg
    clear hg
    rcases Nat.lt_or_ge k n with hlt | hge
    · obtain ⟨z, hz⟩ := get_lt (L := l) (k := k) (by have := HN.out; omega)
      obtain ⟨b, off, rfl, hb, e0⟩ := cl_at HA.out hz
      have HZ := Lib.hid hz
      have i1 : (k : Int) < (n : Int) := by omega
      have i2 : (0 : Int) ≤ (k : Int) := by omega
      have HR := Lib.hid (HV.out z)
      obtain ⟨F, hF⟩ : ∃ F, g z = F := ⟨_, rfl⟩
      rw [hF] at HR
      have HF := Lib.hid hF
      clear hz hF
      by_cases hz : F = 0
      · subst hz
        go_wp2_with (go_at_fn fn; refine HR.out.mono ?_; rintro e w5 ⟨rfl, rfl⟩)
        go_roundw
        case rel =>
          refine ⟨k + 1, by omega, by go_num, ?_, trivial⟩
          intro j y hj hy
          rcases Nat.lt_or_eq_of_le (Nat.le_of_lt_succ hj) with h | h
          · exact HG.out j y h hy
          · subst h
            have e := HZ.out
            rw [hy] at e; cases e; exact HF.out
        case measure => simp [RowKit.intOf]; omega
      · obtain ⟨z1, z2⟩ := ne_zero hz
        obtain rfl : E = F := by rw [← HE.out, ← HF.out]; exact firG_bad HZ.out (by rw [HF.out]; exact hz) HG.out
        clear hz
        go_wp2_with (go_at_fn fn; refine HR.out.mono ?_; rintro e w5 ⟨rfl, rfl⟩)
        go_ret
        exact ⟨rfl, rfl⟩
    · obtain rfl : k = n := by omega
      obtain rfl : E = 0 := by rw [← HE.out]; exact firG_ok fun j y hy => HG.out j y (by rw [HN.out]; exact glt hy) hy
      go_wp2_with fail
      go_ret
      exact ⟨rfl, rfl⟩

set_option maxHeartbeats 800000 in
theorem tp_checkList (l : List Int) (A : Option Addr) (n c : Nat) (hn : n = l.length) (kinds most : Int) (w : World) (ha : Cl eI w A l) (hm : n ≤ 9223372036854775807) :
    Calls Tryz.prog 36 #[.slice A n c, .int .i64 kinds, .int .i64 most] w fun e w' => e = .returned (.int .i64 (lisE l kinds most)) ∧ Below w.heap.size w w' := by
  have HA := Lib.hid ha
  have HN := Lib.hid hn
  obtain ⟨E, hE⟩ : ∃ E, lisE l kinds most = E := ⟨_, rfl⟩
  rw [hE]
  have HE := Lib.hid hE
  clear ha
  rcases Int.lt_or_le kinds 1 with h0 | h0
  · have d0 : decide (kinds < 1) = true := decide_eq_true h0
    obtain rfl : E = 17 := by rw [← hE]; exact lisE_no (Bool.eq_false_iff.mpr fun h => by have := kiB_iff.mp h; omega)
    clear h0 hE hn
    go_enter Tryz.func36, Tryz.ntmps36
    go_wp2_with fail
    go_ret
    exact ⟨rfl, below_alloc _ _⟩
  have d0 : decide (kinds < 1) = false := decide_eq_false (by omega)
  rcases Int.lt_or_le 8 kinds with h1 | h1
  · have d1 : decide (8 < kinds) = true := decide_eq_true h1
    obtain rfl : E = 17 := by rw [← hE]; exact lisE_no (Bool.eq_false_iff.mpr fun h => by have := kiB_iff.mp h; omega)
    clear h0 h1 hE hn
    go_enter Tryz.func36, Tryz.ntmps36
    go_wp2_with fail
    go_ret
    exact ⟨rfl, below_alloc _ _⟩
  have d1 : decide (8 < kinds) = false := decide_eq_false (by omega)
  by_cases h2 : (n : Int) = kinds
  rotate_left
  · have d2 : ((n : Int) != kinds) = true := by simpa using h2
    have d3 : ((n : Int) == kinds) = false := by simpa using h2
    obtain rfl : E = 17 := by rw [← hE]; exact lisE_no (Bool.eq_false_iff.mpr fun h => by have := kiB_iff.mp h; omega)
    clear h0 h1 h2 hE hn
    go_enter Tryz.func36, Tryz.ntmps36
    go_wp2_with fail
    go_ret
    exact ⟨rfl, below_alloc _ _⟩
  have hK : kiB l kinds = true := kiB_iff.mpr ⟨h0, h1, by omega⟩
  have HF : Hid (E = firG (nuE most) l) := Lib.hid (by rw [← hE, firG_nu]; unfold lisE; rw [if_pos hK])
  have HV : Hid (Ans 58 #[] #[.pointer (some ⟨w.heap.size, 0, none⟩)] (nuE most) (fun W => W.cell? ⟨w.heap.size, 0, none⟩ = some (.int .i64 most))) := Lib.hid ⟨enters_of Tryz.func58 (by kernel_rfl) rfl, fun z W h => tp_clo _ _ _ _ h⟩
  subst h2
  have d2 : ((n : Int) != (n : Int)) = false := by simp
  have d3 : ((n : Int) == (n : Int)) = true := by simp
  clear h0 h1 hE hn hK
  go_enter Tryz.func36, Tryz.ntmps36
  go_upto_region 1 with fail
  generalize hw1 : w.alloc (.cells #[.int .i64 most] 3) = w1
  have HB1 : Hid (Below w.heap.size w w1) := hw1 ▸ below_alloc _ _
  have HC1 : Hid (Rw.Cel w1 w.heap.size [.int .i64 most]) := hw1 ▸ Rw.Cel.new _ [_] _
  have HVi := Lib.hid (tvisit_int HV.out l A n c HN.out w1 (HA.out.on HB1.out) (HC1.out.at_ 0 _ rfl) hm)
  clear hw1
  go_wp2_with fail
  refine HVi.out.mono ?_
  rintro e w2 ⟨rfl, rfl⟩
  go_wp2_with fail
  go_ret
  exact ⟨ret_int HF.out.symm, HB1.out⟩
theorem q_Parts (m : List Int) (A : Option Addr) (n c : Nat) (hn : n = m.length) (kinds : Int) (w : World) (ha : Cl eI w A m) (hm : n ≤ 9223372036854775807) :
    Calls Tryz.prog 21 #[.slice A n c, .int .i64 kinds] w fun e w' => e = .returned (.int .i64 (parE m kinds)) ∧ Below w.heap.size w w' := by
  have HL := Lib.hid (tp_checkList m A n c hn kinds MM w ha hm)
  clear ha hn
  go_enter Tryz.func21, Tryz.ntmps21
  go_wp2_with fail
  refine HL.out.mono ?_
  rintro e w1 ⟨rfl, hb⟩
  have B1 := Lib.hid hb
  clear hb
  go_wp2_with fail
  go_ret
  exact ⟨rfl, B1.out⟩
end Go.Proofs.YtagjimdplmimoaaGreat.Tank
/- The program: fibre.Total; Level, Check, New. -/
namespace Go.Proofs.YtagjimdplmimoaaGreat.Chest
open Go.ChangeShapes Go.WideShapes Go.RowKit Go.Lib
open Go.Proofs.YtagjimdplmimoaaGreat.Mem (Cl eI Own make_ints)
open Go.Proofs.YtagjimdplmimoaaGreat.Share (sumK sumK_zero sumK_succ mx tot_all allIn_of cl_holds one_made lst_zero own_cl)
open Go.Proofs.YtagjimdplmimoaaGreat.Num (num_sum)
open Go.Proofs.YtagjimdplmimoaaGreat.Tank (MM inM inM_iff kiB kiB_iff lisE lisE_no lisE_of lisE_mk lisE_cases cl_at q_Parts)
open Go.Proofs.YtagjimdplmimoaaGreat.Rw (glt get_lt ret_bool ret_int bstep below_drewN below_drew drew_below below_alloc)
set_option linter.unusedVariables false
set_option maxRecDepth 100000

theorem q_sum (l : List Int) (A : Option Addr) (n c : Nat) (hn : n = l.length) (w : World) (ha : Cl eI w A l) (hl : n ≤ 8) (hz : ∀ z ∈ l, 0 ≤ z ∧ z ≤ MM) :
    Calls Tryz.prog 37 #[.slice A n c] w fun e w' => e = .returned (.tuple #[.int .i64 (sumZ l), .int .i64 0]) ∧ Below w.heap.size w w' := by
  subst hn
  have hM : MM = 1099511627776 := rfl
  have hX : mx = 1125899906842624 := rfl
  have h1 : Num.allIn l = true := allIn_of fun z h => by have := hz z h; rw [hX]; omega
  have h2 := sumZ_lim hz hl
  have h3 : Num.tot l = sumZ l := tot_all l
  have hV : Num.sumV l = sumZ l := by rw [Num.sumV_all (by omega) h1, h3]; exact Num.okV_yes (by omega) (by omega)
  have hE : Num.sumE l = 0 := by rw [Num.sumE_all (by omega) h1, h3]; exact Num.okE_yes (by omega) (by omega)
  have h := num_sum l A c w (cl_holds ha) (by omega)
  rw [hV, hE] at h
  exact h

/-- fibre.Total. -/
def toV (m : List Int) : Int := if Tank.parE m (m.length : Int) = 0 then sumZ m else 0
theorem toV_no {m : List Int} (h : ¬ Tank.parE m (m.length : Int) = 0) : toV m = 0 := if_neg h
theorem toV_ok {m : List Int} (h : Tank.parE m (m.length : Int) = 0) : toV m = sumZ m := if_pos h
set_option maxHeartbeats 800000 in
theorem q_Total (m : List Int) (A : Option Addr) (n c : Nat) (hn : n = m.length) (w : World) (ha : Cl eI w A m) (hm : n ≤ 9223372036854775807) :
    Calls Tryz.prog 22 #[.slice A n c] w fun e w' => e = .returned (.tuple #[.int .i64 (toV m), .int .i64 (Tank.parE m (m.length : Int))]) ∧ Below w.heap.size w w' := by
  have HA := Lib.hid ha
  have HP := Lib.hid (q_Parts m A n c hn n w ha hm)
  obtain ⟨F, hF⟩ : ∃ F, Tank.parE m (m.length : Int) = F := ⟨_, rfl⟩
  have hF2 : Tank.parE m (n : Int) = F := by rw [hn]; exact hF
  rw [hF2] at HP
  by_cases hz : F = 0
  rotate_left
  · obtain ⟨z1, z2⟩ := ne_zero hz
    have he : toV m = 0 := toV_no (by rw [hF]; exact hz)
    rw [he, hF]
    clear ha hn hF hF2 hz he
    go_enter Tryz.func22, Tryz.ntmps22
    go_wp2_with fail
    refine HP.out.mono ?_
    rintro e w1 ⟨rfl, hb⟩
    have B1 := Lib.hid hb
    clear hb
    go_wp2_with fail
    go_ret2
    exact ⟨rfl, B1.out⟩
  subst hz
  obtain ⟨h1, h2, h3, h4⟩ := lisE_of hF2
  have HS := Lib.hid fun (W : World) (h : Cl eI W A m) => q_sum m A n c hn W h (by omega) h4
  have he : toV m = sumZ m := toV_ok hF
  rw [he, hF]
  obtain ⟨S, hS⟩ : ∃ S, sumZ m = S := ⟨_, rfl⟩
  rw [hS] at HS
  rw [hS]
  clear ha hn hF hF2 h1 h2 h3 h4 hS he
  go_enter Tryz.func22, Tryz.ntmps22
  go_wp2_with fail
  refine HP.out.mono ?_
  rintro e w1 ⟨rfl, hb⟩
  have B1 := Lib.hid hb
  clear hb
  go_wp2_with fail
  refine (HS.out w1 (HA.out.on B1.out)).mono ?_
  rintro e w2 ⟨rfl, hb⟩
  have B2 := Lib.hid (bstep B1.out hb)
  clear hb
  go_wp2_with fail
  go_ret2
  exact ⟨rfl, B2.out⟩

theorem parE_of {l : List Int} (h : 1 ≤ l.length ∧ l.length ≤ 8) : Tank.parE l (l.length : Int) = if l.all (inM MM) then 0 else 1 := by
  unfold Tank.parE lisE
  rw [kiB_iff.mpr ⟨by omega, by omega, rfl⟩]; rfl
theorem ckC_two {cap : Int} {L : List Int} (h : 1 ≤ cap ∧ cap ≤ MM) : ckC cap L = if Tank.parE L (L.length : Int) = 0 then (if cap < sumZ L then 8 else 0) else Tank.parE L (L.length : Int) := by
  by_cases hl : 1 ≤ L.length ∧ L.length ≤ 8
  · rw [parE_of hl]
    unfold ckC
    rw [if_pos h, if_pos hl]
    by_cases ha : L.all (inM MM) = true
    · rw [if_pos ha, if_pos ha, if_pos rfl]
    · rw [if_neg ha, if_neg ha, if_neg (by decide)]
  · have : Tank.parE L (L.length : Int) = 17 := lisE_no (Bool.eq_false_iff.mpr fun hk => by have := kiB_iff.mp hk; omega)
    rw [this, ckC_len h hl, if_neg (by decide)]
theorem levV_no {cap : Int} {L : List Int} (h : ¬ ckC cap L = 0) : levV cap L = 0 := if_neg h
theorem levV_ok {cap : Int} {L : List Int} (h : ckC cap L = 0) : levV cap L = sumZ L := if_pos h
set_option maxHeartbeats 1600000 in
theorem ch_Level (cap : Int) (L : List Int) (A : Option Addr) (n c : Nat) (hn : n = L.length) (w : World) (ha : Cl eI w A L) (hm : n ≤ 9223372036854775807) :
    Calls Tryz.prog 13 #[.agg #[.int .i64 cap, .slice A n c]] w fun e w' => e = .returned (.tuple #[.int .i64 (levV cap L), .int .i64 (ckC cap L)]) ∧ Below w.heap.size w w' := by
  obtain ⟨E, hE⟩ : ∃ E, ckC cap L = E := ⟨_, rfl⟩
  obtain ⟨V, hV⟩ : ∃ V, levV cap L = V := ⟨_, rfl⟩
  rw [hE, hV]
  have hMM : MM = 1099511627776 := rfl
  have key : ¬ (1 ≤ cap ∧ cap ≤ MM) → E = 1 ∧ V = 0 := fun h => by
    have h1 := ckC_cap (L := L) h
    exact ⟨by rw [← hE]; exact h1, by rw [← hV]; exact levV_no (by rw [h1]; decide)⟩
  rcases Int.lt_or_le cap 1 with h0 | h0
  · have d0 : decide (cap < 1) = true := decide_eq_true h0
    obtain ⟨rfl, rfl⟩ := key (by omega)
    clear hE hV h0 ha hn hm hMM key
    go_enter Tryz.func13, Tryz.ntmps13
    go_wp2_with fail
    go_ret2
    exact ⟨rfl, below_alloc _ _⟩
  have d0 : decide (cap < 1) = false := decide_eq_false (by omega)
  rcases Int.lt_or_le 1099511627776 cap with h1 | h1
  · have d1 : decide (1099511627776 < cap) = true := decide_eq_true h1
    obtain ⟨rfl, rfl⟩ := key (by omega)
    clear hE hV h0 h1 ha hn hm hMM key
    go_enter Tryz.func13, Tryz.ntmps13
    go_wp2_with fail
    go_ret2
    exact ⟨rfl, below_alloc _ _⟩
  have d1 : decide (1099511627776 < cap) = false := decide_eq_false (by omega)
  have hc : 1 ≤ cap ∧ cap ≤ MM := by omega
  have h2 := ckC_two (L := L) hc
  rw [hE] at h2
  have HA := Lib.hid ha
  have HT := Lib.hid fun (W : World) (h : Cl eI W A L) => q_Total L A n c hn W h hm
  obtain ⟨F, hF⟩ : ∃ F, Tank.parE L (L.length : Int) = F := ⟨_, rfl⟩
  rw [hF] at h2 HT
  by_cases hz : F = 0
  rotate_left
  · obtain ⟨z1, z2⟩ := ne_zero hz
    rw [if_neg hz] at h2
    obtain rfl : V = 0 := by rw [← hV]; exact levV_no (by rw [hE, h2]; exact hz)
    subst h2
    have ht : toV L = 0 := toV_no (by rw [hF]; exact hz)
    rw [ht] at HT
    clear hE hV h0 h1 ha hn hm hMM key hc hF hz ht
    go_enter Tryz.func13, Tryz.ntmps13
    go_wp2_with fail
    refine (HT.out _ (HA.out.on (below_alloc _ _))).mono ?_
    rintro e w1 ⟨rfl, hb⟩
    have B1 := Lib.hid (bstep (below_alloc _ _) hb)
    clear hb
    go_wp2_with fail
    go_ret2
    exact ⟨rfl, B1.out⟩
  subst hz
  rw [if_pos rfl] at h2
  have ht : toV L = sumZ L := toV_ok hF
  obtain ⟨S, hS⟩ : ∃ S, sumZ L = S := ⟨_, rfl⟩
  rw [ht, hS] at HT
  rw [hS] at h2
  rcases Int.lt_or_le cap S with hg | hg
  · have d2 : decide (cap < S) = true := decide_eq_true hg
    rw [if_pos hg] at h2
    subst h2
    obtain rfl : V = 0 := by rw [← hV]; exact levV_no (by rw [hE]; decide)
    clear hE hV h0 h1 ha hn hm hMM key hc hF ht hS hg
    go_enter Tryz.func13, Tryz.ntmps13
    go_wp2_with fail
    refine (HT.out _ (HA.out.on (below_alloc _ _))).mono ?_
    rintro e w1 ⟨rfl, hb⟩
    have B1 := Lib.hid (bstep (below_alloc _ _) hb)
    obtain ⟨x0, x1⟩ := ((Rw.Cel.new w [.int .i64 cap, .slice A n c] 26).on hb).two
    clear hb
    go_wp2_with fail
    go_ret2
    exact ⟨rfl, B1.out⟩
  · have d2 : decide (cap < S) = false := decide_eq_false (by omega)
    rw [if_neg (by omega)] at h2
    subst h2
    obtain rfl : V = S := by rw [← hV, ← hS]; exact levV_ok hE
    clear hE hV h0 h1 ha hn hm hMM key hc hF ht hS hg
    go_enter Tryz.func13, Tryz.ntmps13
    go_wp2_with fail
    refine (HT.out _ (HA.out.on (below_alloc _ _))).mono ?_
    rintro e w1 ⟨rfl, hb⟩
    have B1 := Lib.hid (bstep (below_alloc _ _) hb)
    obtain ⟨x0, x1⟩ := ((Rw.Cel.new w [.int .i64 cap, .slice A n c] 26).on hb).two
    clear hb
    go_wp2_with fail
    go_ret2
    exact ⟨rfl, B1.out⟩

set_option maxHeartbeats 800000 in
theorem ch_Check (cap : Int) (L : List Int) (A : Option Addr) (n c : Nat) (hn : n = L.length) (w : World) (ha : Cl eI w A L) (hm : n ≤ 9223372036854775807) :
    Calls Tryz.prog 15 #[.agg #[.int .i64 cap, .slice A n c]] w fun e w' => e = .returned (.int .i64 (ckC cap L)) ∧ Below w.heap.size w w' := by
  have HT := Lib.hid fun (W : World) (h : Cl eI W A L) => ch_Level cap L A n c hn W h hm
  have HA := Lib.hid ha
  obtain ⟨E, hE⟩ : ∃ E, ckC cap L = E := ⟨_, rfl⟩
  obtain ⟨V, hV⟩ : ∃ V, levV cap L = V := ⟨_, rfl⟩
  rw [hE, hV] at HT
  rw [hE]
  clear hE hV ha hn hm
  go_enter Tryz.func15, Tryz.ntmps15
  go_wp2_with fail
  refine (HT.out _ (HA.out.on (below_alloc _ _))).mono ?_
  rintro e w1 ⟨rfl, hb⟩
  have B1 := Lib.hid (bstep (below_alloc _ _) hb)
  clear hb
  go_wp2_with fail
  go_ret
  exact ⟨rfl, B1.out⟩

theorem sumK_zeros (n : Nat) : ∀ k, k ≤ n → sumK (List.replicate n 0) k = 0
  | 0, _ => sumK_zero _
  | k + 1, h => by
    have hz : (List.replicate n (0 : Int))[k]? = some 0 := by rw [List.getElem?_replicate, if_pos (by omega)]
    rw [sumK_succ hz, sumK_zeros n k (by omega)]; rfl
theorem ckC_new {cap : Int} {n : Nat} (h1 : 1 ≤ n) (h8 : n ≤ 8) : ckC cap (List.replicate n 0) = if 1 ≤ cap ∧ cap ≤ MM then 0 else 1 := by
  by_cases hc : 1 ≤ cap ∧ cap ≤ MM
  · have hl : (List.replicate n (0 : Int)).length = n := List.length_replicate
    rw [if_pos hc, ckC_end hc (by rw [hl]; omega) fun k z hz => ?_]
    · have : sumZ (List.replicate n 0) = 0 := by unfold sumZ; rw [hl]; exact sumK_zeros n n (Nat.le_refl _)
      rw [this, if_neg (by omega)]
    · have := List.eq_of_mem_replicate (List.mem_of_getElem? hz)
      subst this; decide
  · rw [if_neg hc, ckC_cap hc]
end Go.Proofs.YtagjimdplmimoaaGreat.Chest
/- The program: changed. -/
namespace Go.Proofs.YtagjimdplmimoaaGreat.Chest
open Go.ChangeShapes Go.WideShapes Go.RowKit Go.Lib
open Go.Proofs.YtagjimdplmimoaaGreat.Mem (Cl eI Own make_ints)
open Go.Proofs.YtagjimdplmimoaaGreat.Share (own_cl)
open Go.Proofs.YtagjimdplmimoaaGreat.Tank (MM cl_at)
open Go.Proofs.YtagjimdplmimoaaGreat.Rw (glt get_lt ret_bool ret_int bstep below_drewN below_drew drew_below below_alloc take_snoc_of)
set_option linter.unusedVariables false
set_option maxRecDepth 100000

/-- Masses, times a sign, added. -/
def chgL (s : Int) (L m : List Int) : List Int := List.zipWith (fun x y => x + s * y) L m
theorem chg_one (L m : List Int) : chgL 1 L m = plusL L m := by unfold chgL plusL; congr 1; funext x y; omega
theorem chg_neg (L m : List Int) : chgL (-1) L m = lessL L m := by unfold chgL lessL; congr 1; funext x y; omega
theorem chg_at {s : Int} {L m : List Int} {k : Nat} {x y : Int} (hx : L[k]? = some x) (hy : m[k]? = some y) : (chgL s L m)[k]? = some (x + s * y) := by
  unfold chgL; rw [List.getElem?_zipWith, hx, hy]
theorem chg_len {s : Int} {L m : List Int} (h : m.length = L.length) : (chgL s L m).length = L.length := by unfold chgL; rw [List.length_zipWith, h]; exact Nat.min_self _
def mixL (s : Int) (L m : List Int) (k : Nat) : List Int := (chgL s L m).take k ++ L.drop k
theorem mix_zero (s : Int) (L m : List Int) : mixL s L m 0 = L := rfl
theorem mix_all {s : Int} {L m : List Int} (h : m.length = L.length) : mixL s L m L.length = chgL s L m := by
  unfold mixL
  rw [List.drop_length, List.append_nil, List.take_of_length_le (by rw [chg_len h]; exact Nat.le_refl _)]
theorem mix_len {s : Int} {L m : List Int} {k : Nat} (h : m.length = L.length) (hk : k ≤ L.length) : (mixL s L m k).length = L.length := by
  unfold mixL
  rw [List.length_append, List.length_take, List.length_drop, chg_len h]; omega
theorem mix_at {s : Int} {L m : List Int} {k : Nat} {x : Int} (h : m.length = L.length) (hx : L[k]? = some x) : (mixL s L m k)[k]? = some x := by
  have hk := glt hx
  unfold mixL
  rw [List.getElem?_append_right (by rw [List.length_take, chg_len h]; omega), List.length_take, chg_len h, Nat.min_eq_left (by omega), Nat.sub_self, List.getElem?_drop]
  exact hx
theorem mix_set {s : Int} {L m : List Int} {k : Nat} {x y : Int} (h : m.length = L.length) (hx : L[k]? = some x) (hy : m[k]? = some y) : (mixL s L m k).set k (x + s * y) = mixL s L m (k + 1) := by
  have hk := glt hx
  have hl : ((chgL s L m).take k).length = k := by rw [List.length_take, chg_len h]; omega
  have hd : L.drop k = x :: L.drop (k + 1) := by
    rw [List.drop_eq_getElem_cons hk]
    congr 1
    rw [List.getElem?_eq_getElem hk] at hx
    exact Option.some.inj hx
  unfold mixL
  rw [List.set_append_right _ _ (by omega), hl, Nat.sub_self, hd, List.set_cons_zero, take_snoc_of (chg_at hx hy), List.append_assoc]
  rfl
theorem own_cells {w : World} {g n B : Nat} {L : List Int} {t : TypeId} (hg : w.heap[g]? = some (.cells (L.map eI).toArray t (0, 0))) (hB : B ≤ g) (hn : L.length = n) (h8 : n ≤ 8) : Own eI t B w (.slice (some ⟨g, 0, none⟩) n n) L := by
  refine ⟨by simp, Or.inr ⟨g, n, (L.map eI).toArray, by rw [hn], hB, hg, by omega, by unfold maxLen; omega, by simp [hn], ?_⟩⟩
  simp only [Nat.mul_one]
  exact List.take_of_length_le (by rw [List.length_map, hn]; exact Nat.le_refl _)
theorem src_cells {w : World} {A : Option Addr} {L : List Int} (h : Cl eI w A L) (hp : 0 < (L.map eI).length) : ∃ ad, A = some ad ∧ ∀ (j : Nat) (v : Value), (L.map eI)[j]? = some v → w.cell? (ad.add j) = some v := by
  rw [List.length_map] at hp
  obtain ⟨b, off, rfl, _, _⟩ := cl_at h (List.getElem?_eq_getElem hp)
  refine ⟨_, rfl, fun j v hv => ?_⟩
  rw [List.getElem?_map] at hv
  cases hj : L[j]? with
  | none => rw [hj] at hv; cases hv
  | some z =>
    rw [hj] at hv
    obtain rfl : eI z = v := by simpa using hv
    obtain ⟨b', off', e, _, hc⟩ := cl_at h hj
    cases e
    rw [Addr.add_lit]; exact hc
theorem copy_all {n : Nat} {L : List Int} (hn : L.length = n) : splice (List.replicate n (Value.int .i64 0)) 0 (L.map eI) = L.map eI := by
  unfold splice
  rw [List.take_zero, List.nil_append, List.drop_eq_nil_of_le (by simp [hn]), List.append_nil]
theorem size_int : (Tryz.prog.info? 3).map (·.size) = some 1 := by kernel_rfl
theorem sg_lim {s x y : Int} (hs : s = 1 ∨ s = -1) (hx : 0 ≤ x ∧ x ≤ MM) (hy : 0 ≤ y ∧ y ≤ MM) : -4398046511104 ≤ s * y ∧ s * y ≤ 4398046511104 ∧ -4398046511104 ≤ x + s * y ∧ x + s * y ≤ 4398046511104 := by
  have hM : MM = 1099511627776 := rfl
  rcases hs with rfl | rfl <;> omega

set_option maxHeartbeats 3200000 in
theorem ch_changed (cap s : Int) (L m : List Int) (A M : Option Addr) (n c n' c' : Nat) (hn : L.length = n) (hn' : m.length = n) (hnn : n' = n) (h8 : n ≤ 8) (hs : s = 1 ∨ s = -1) (hL : ∀ z ∈ L, 0 ≤ z ∧ z ≤ MM) (hm : ∀ z ∈ m, 0 ≤ z ∧ z ≤ MM) (w : World) (ha : Cl eI w A L) (hb : Cl eI w M m) :
    Calls Tryz.prog 23 #[.agg #[.int .i64 cap, .slice A n c], .slice M n' c', .int .i64 s] w (COne w cap (chgL s L m)) := by
  subst hnn
  have HA := Lib.hid ha
  have HB := Lib.hid hb
  have HN := Lib.hid (And.intro hn hn')
  have HL := Lib.hid (And.intro hL hm)
  have H8 := Lib.hid h8
  have HS := Lib.hid hs
  have HML := Lib.hid (hn'.trans hn.symm)
  have hmk := fun W => make_ints n' (by omega) W
  have HE1 : Hid ((L.map eI).length = Nat.min n' n') := Lib.hid (by rw [List.length_map, hn]; exact (Nat.min_self _).symm)
  have HE2 : Hid (0 + (L.map eI).length ≤ (List.replicate n' (Value.int .i64 0)).length) := Lib.hid (by rw [List.length_map, List.length_replicate, hn]; omega)
  have HE3 : Hid (∀ v ∈ L.map eI, v.oneCell' = true) := Lib.hid (fun v hv => by
    simp only [List.mem_map] at hv
    obtain ⟨x, _, rfl⟩ := hv
    rfl)
  clear ha hb hn hn' hL hm hs
  go_enter Tryz.func23, Tryz.ntmps23
  go_upto_region 1 with fail
  obtain ⟨w0, hw0⟩ : ∃ W, w.alloc (.cells #[.int .i64 cap, .slice A n' c] 26) = W := ⟨_, rfl⟩
  have C0 : Hid (Rw.Cel w0 w.heap.size [.int .i64 cap, .slice A n' c]) := hw0 ▸ Rw.Cel.new w [_, _] _
  have B0 : Hid (Below w.heap.size w w0) := hw0 ▸ below_alloc _ _
  have S0 : Hid (w0.heap.size = w.heap.size + 1) := Lib.hid (by rw [← hw0]; simp)
  rw [hw0]
  clear hw0
  obtain ⟨w1, hw1⟩ : ∃ W, w0.alloc (.cells #[.int .i64 0, .slice none 0 0] 26) = W := ⟨_, rfl⟩
  have D1 : Hid (Rw.Cel w1 (w.heap.size + 1) [.int .i64 0, .slice none 0 0]) := by
    refine Lib.hid ?_
    rw [← hw1, ← S0.out]; exact Rw.Cel.new w0 [_, _] _
  have C1 : Hid (Rw.Cel w1 w.heap.size [.int .i64 cap, .slice A n' c]) := hw1 ▸ C0.out.alloc _
  have B1 : Hid (Below w.heap.size w w1) := Lib.hid (bstep B0.out (hw1 ▸ below_alloc _ _))
  have S1 : Hid (w1.heap.size = w.heap.size + 2) := Lib.hid (by rw [← hw1]; simp [S0.out])
  rw [hw1]
  clear hw1 C0 B0 S0
  obtain ⟨x0, x1⟩ := C1.out.two
  go_upto_region 2 with fail
  obtain ⟨wm, hwm⟩ : ∃ W, w1.alloc (.cells (madeCells #[.int .i64 0] n') 3) = W := ⟨_, rfl⟩
  have HBM : Hid (Below w1.heap.size w1 wm) := hwm ▸ below_alloc _ _
  have HROW : Hid (wm.heap[w1.heap.size]? = some (.cells (List.replicate n' (Value.int .i64 0)).toArray 3 (0, 0))) := by
    subst hwm
    show _ = _
    rw [heap_alloc_new]
    have h := toList_madeCells_one (.int .i64 0) n'
    have e : madeCells #[.int .i64 0] n' = (List.replicate n' (Value.int .i64 0)).toArray := by
      rw [← Array.toArray_toList (xs := madeCells #[.int .i64 0] n'), h]
    rw [e]
  rw [hwm]
  clear hwm hmk x0 x1
  have HPOS : Hid (0 < (L.map eI).length → (some ⟨w1.heap.size, 0, none⟩ : Option Addr) = some ⟨w1.heap.size, 0, none⟩ ∧ ∃ ad, A = some ad ∧ ∀ (j : Nat) (v : Value), (L.map eI)[j]? = some v → wm.cell? (ad.add j) = some v) :=
    Lib.hid fun hp => ⟨rfl, src_cells (HA.out.on (bstep B1.out HBM.out)) hp⟩
  obtain ⟨x0, x1⟩ := (C1.out.on HBM.out).two
  go_wp2_with (first | (with_reducible refine wpList_copy_splice rfl (.tmp 14) (.tmp 16) 22 22 rfl 3 Tryz.underlying22 size_int _ _ _ _ _ _ rfl rfl w1.heap.size 0 (List.replicate n' (Value.int .i64 0)) _ HROW.out (L.map eI) HE1.out HPOS.out HE2.out HE3.out w1.heap.size w1 HBM.out (Nat.le_refl _) ?_; intro w3 hg3 hb3; refine Hid.out ?_) | fail)
  refine Lib.hid ?_
  have hr3 := hg3.out
  rw [copy_all HN.out.1] at hr3
  have HO3 := Lib.hid (own_cells (B := w1.heap.size) hr3 (Nat.le_refl _) HN.out.1 H8.out)
  have HB3 := Lib.hid hb3
  clear hg3 hb3 hr3 HROW HPOS x0 x1
  go_wp2_with fail
  go_loopw [20, 8, 9] (fun i _ _ wr => ∃ k : Nat, k ≤ n' ∧ i = .int .i64 k ∧ Own eI 3 w1.heap.size wr (.slice (some ⟨w1.heap.size, 0, none⟩) n' n') (mixL s L m k) ∧ Below w1.heap.size w1 wr) (fun i _ _ _ => n' - (RowKit.intOf i).toNat)
  case atStart => exact ⟨0, Nat.zero_le _, rfl, HO3.out, HB3.out⟩
  case round =>
    clear HO3 HB3
    obtain ⟨k, hk, rfl, hown, hbel⟩ := hrel
    have HO := Lib.hid hown
    have HW := Lib.hid hbel
    clear hown hbel
    rcases Nat.lt_or_ge k n' with hlt | hge
    · obtain ⟨x, hx⟩ := get_lt (L := L) (k := k) (by have := HN.out.1; omega)
      obtain ⟨y, hy⟩ := get_lt (L := m) (k := k) (by have := HN.out.2; omega)
      obtain ⟨b2, o2, hB0, hb2, h3⟩ := cl_at (HB.out.on (bstep B1.out HW.out)) hy
      subst hB0
      have hml : n' = (mixL s L m k).length := by rw [mix_len HML.out (by have := HN.out.1; omega)]; exact HN.out.1.symm
      have c1 := HO.out.cell (mix_at HML.out hx)
      have f1 := HO.out.warm hml k
      have hl := sg_lim HS.out (HL.out.1 x (List.mem_of_getElem? hx)) (HL.out.2 y (List.mem_of_getElem? hy))
      have hset := HO.out.set hml k (x + s * y)
      rw [mix_set HML.out hx hy] at hset
      obtain ⟨P, hP⟩ : ∃ P, s * y = P := ⟨_, rfl⟩
      rw [hP] at hl hset
      have wP : IntKind.i64.wrap P = P := Rw.wrap_id (by omega)
      obtain ⟨Q, hQ⟩ : ∃ Q, x + P = Q := ⟨_, rfl⟩
      rw [hQ] at hl hset
      have wQ : IntKind.i64.wrap Q = Q := Rw.wrap_id (by omega)
      have HSET := Lib.hid hset
      have i1 : (k : Int) < (n' : Int) := by omega
      have i2 : (0 : Int) ≤ (k : Int) := by omega
      clear hx hy hl hset hml hb2
      go_wp2_with fail
      go_roundw
      case rel => exact ⟨k + 1, by omega, by go_num, HSET.out, Mem.below_set HW.out (Nat.le_refl _) _⟩
      case measure => simp [RowKit.intOf]; omega
    · obtain rfl : k = n' := by omega
      have HF : Hid (Own eI 3 w1.heap.size wr (.slice (some ⟨w1.heap.size, 0, none⟩) k k) (chgL s L m)) := Lib.hid (by
        have h1 := HO.out
        rw [← HN.out.1, mix_all HML.out, HN.out.1] at h1
        exact h1)
      obtain ⟨x0, x1⟩ := (C1.out.on HW.out).two
      obtain ⟨u0, u1⟩ := (D1.out.on HW.out).two
      obtain ⟨v0, v1⟩ := (D1.out.on HW.out).warm2
      go_wp2_with fail
      refine bodyPost_ret (res_chest1 Tryz.results23 rfl ((D1.out.on HW.out).put2 _ _)) rfl ⟨_, _, _, rfl, own_len HF.out, own_far2 (HF.out.less (by rw [S1.out]; omega)) (fun e => ?_) _ _, Rw.below_put2 (bstep B1.out HW.out) (Nat.le_succ _) _ _⟩
      have h1 := (HF.out.lt _ e).1
      have h2 := S1.out
      omega
end Go.Proofs.YtagjimdplmimoaaGreat.Chest
/- The program: Fill. -/
namespace Go.Proofs.YtagjimdplmimoaaGreat.Chest
open Go.ChangeShapes Go.WideShapes Go.RowKit Go.Lib
open Go.Proofs.YtagjimdplmimoaaGreat.Mem (Cl eI Own make_ints)
open Go.Proofs.YtagjimdplmimoaaGreat.Share (errS partsL partsL_len splL ResL split_n own_cl one_made lst_zero)
open Go.Proofs.YtagjimdplmimoaaGreat.Tank (MM cl_at q_Parts lisE_of)
open Go.Proofs.YtagjimdplmimoaaGreat.Rw (glt get_lt ret_bool ret_int bstep below_drewN below_drew drew_below below_alloc)
set_option linter.unusedVariables false
set_option maxRecDepth 100000

set_option maxHeartbeats 3200000 in
theorem ch_Fill (cap : Int) (L m : List Int) (A M : Option Addr) (n c n' c' : Nat) (hn : L.length = n) (hn' : m.length = n') (w : World) (ha : Cl eI w A L) (hb : Cl eI w M m) (h1 : n ≤ 9223372036854775807) (h2 : n' ≤ 9223372036854775807) :
    Calls Tryz.prog 7 #[.agg #[.int .i64 cap, .slice A n c], .slice M n' c'] w (CRes w (filE cap L m) (filC cap L m) (filL cap L m)) := by
  have HA := Lib.hid ha
  have HB := Lib.hid hb
  have HN := Lib.hid (And.intro hn hn')
  have KC := Lib.hid fun (W : World) (h : Cl eI W A L) => ch_Level cap L A n c hn.symm W h h1
  have KP := Lib.hid fun (W : World) (h : Cl eI W M m) => q_Parts m M n' c' hn'.symm n W h h2
  have KT := Lib.hid fun (W : World) (h : Cl eI W M m) => q_Total m M n' c' hn'.symm W h h2
  obtain ⟨E, hE⟩ : ∃ E, ckC cap L = E := ⟨_, rfl⟩
  obtain ⟨F, hF⟩ : ∃ F, Tank.parE m (L.length : Int) = F := ⟨_, rfl⟩
  obtain ⟨Y, hY⟩ : ∃ Y, levV cap L = Y := ⟨_, rfl⟩
  have hF2 : Tank.parE m (n : Int) = F := by rw [← hn]; exact hF
  rw [hE, hY] at KC
  rw [hF2] at KP
  have HE := Lib.hid (And.intro hE hF)
  have HY := Lib.hid hY
  clear ha hb hn hn' h1 h2 hE hF hF2 hY
  go_enter Tryz.func7, Tryz.ntmps7
  go_upto_region 1 with fail
  obtain ⟨w0, hw0⟩ : ∃ W, w.alloc (.cells #[.int .i64 cap, .slice A n c] 26) = W := ⟨_, rfl⟩
  have C0 : Hid (Rw.Cel w0 w.heap.size [.int .i64 cap, .slice A n c]) := hw0 ▸ Rw.Cel.new w [_, _] _
  have B0 : Hid (Below w.heap.size w w0) := hw0 ▸ below_alloc _ _
  have S0 : Hid (w0.heap.size = w.heap.size + 1) := Lib.hid (by rw [← hw0]; simp)
  rw [hw0]
  clear hw0
  obtain ⟨w1, hw1⟩ : ∃ W, w0.alloc (.cells #[.int .i64 0, .slice none 0 0] 26) = W := ⟨_, rfl⟩
  have D1 : Hid (Rw.Cel w1 (w.heap.size + 1) [.int .i64 0, .slice none 0 0]) := by
    refine Lib.hid ?_
    rw [← hw1, ← S0.out]; exact Rw.Cel.new w0 [_, _] _
  have C1 : Hid (Rw.Cel w1 w.heap.size [.int .i64 cap, .slice A n c]) := hw1 ▸ C0.out.alloc _
  have B1 : Hid (Below w.heap.size w w1) := Lib.hid (bstep B0.out (hw1 ▸ below_alloc _ _))
  have S1 : Hid (w1.heap.size = w.heap.size + 2) := Lib.hid (by rw [← hw1]; simp [S0.out])
  rw [hw1]
  clear hw1 C0 B0 S0
  obtain ⟨x0, x1⟩ := C1.out.two
  go_wp2_with fail
  refine (KC.out _ (HA.out.on B1.out)).mono ?_
  rintro e w2 ⟨rfl, hb⟩
  have B2 := Lib.hid (bstep B1.out hb)
  have C2 := Lib.hid (C1.out.on hb)
  have D2 := Lib.hid (D1.out.on hb)
  have S2 : Hid (w.heap.size + 2 ≤ w2.heap.size) := Lib.hid (by have := hb.size; have := S1.out; omega)
  clear hb x0 x1 C1 D1 B1 S1
  obtain ⟨x0, x1⟩ := C2.out.two
  by_cases hz : E = 0
  rotate_left
  · obtain ⟨z1, z2⟩ := ne_zero hz
    have e1 : filE cap L m = E := (filE_ck (by rw [HE.out.1]; exact hz)).trans HE.out.1
    obtain ⟨e2, e3⟩ := fil_no (by rw [e1]; exact hz)
    have HEE := Lib.hid (And.intro e1 (And.intro e2 e3))
    clear hz e1 e2 e3
    obtain ⟨u0, u1⟩ := D2.out.two
    obtain ⟨v0, v1⟩ := D2.out.warm2
    go_wp2_with fail
    exact bodyPost_ret (res_chest2 Tryz.results7 rfl (D2.out.put2 _ _)) rfl (by rw [HEE.out.1, HEE.out.2.1, HEE.out.2.2]; exact CRes.none_ (Rw.below_put2 B2.out (Nat.le_succ _) _ _))
  subst hz
  go_wp2_with fail
  refine (KP.out _ (HB.out.on B2.out)).mono ?_
  rintro e w3 ⟨rfl, hb⟩
  have B3 := Lib.hid (bstep B2.out hb)
  have C3 := Lib.hid (C2.out.on hb)
  have D3 := Lib.hid (D2.out.on hb)
  have S3 : Hid (w.heap.size + 2 ≤ w3.heap.size) := Lib.hid (by have := hb.size; have := S2.out; omega)
  clear hb x0 x1 C2 D2 B2 S2
  obtain ⟨x0, x1⟩ := C3.out.two
  by_cases hz : F = 0
  rotate_left
  · obtain ⟨z1, z2⟩ := ne_zero hz
    have e1 : filE cap L m = F := (filE_par HE.out.1 (by rw [HE.out.2]; exact hz)).trans HE.out.2
    obtain ⟨e2, e3⟩ := fil_no (by rw [e1]; exact hz)
    have HEE := Lib.hid (And.intro e1 (And.intro e2 e3))
    clear hz e1 e2 e3
    obtain ⟨u0, u1⟩ := D3.out.two
    obtain ⟨v0, v1⟩ := D3.out.warm2
    go_wp2_with fail
    exact bodyPost_ret (res_chest2 Tryz.results7 rfl (D3.out.put2 _ _)) rfl (by rw [HEE.out.1, HEE.out.2.1, HEE.out.2.2]; exact CRes.none_ (Rw.below_put2 B3.out (Nat.le_succ _) _ _))
  subst hz
  have ok := ckC_ok HE.out.1
  obtain ⟨m1, m2, m3, m4⟩ := lisE_of HE.out.2
  have hnn : n' = n := by have := HN.out; omega
  have ht : Tank.parE m (m.length : Int) = 0 := by rw [m3]; exact HE.out.2
  have KQ := Lib.hid fun (W : World) (h : Below w3.heap.size w3 W) => ch_changed cap 1 L m A M n c n' c' HN.out.1 (HN.out.2.trans hnn) hnn (by have := ok.len; have := HN.out; omega) (Or.inl rfl) ok.all m4 W (HA.out.on (bstep B3.out h)) (HB.out.on (bstep B3.out h))
  rw [chg_one] at KQ
  have he := filE_end HE.out.1 HE.out.2
  have l1 := sumZ_lim ok.all ok.len.2
  have l2 := sumZ_lim m4 m2
  obtain ⟨T, hT⟩ : ∃ T, sumZ m = T := ⟨_, rfl⟩
  rw [toV_ok ht, ht, hT] at KT
  have hy := HY.out
  rw [levV_ok HE.out.1] at hy
  rw [hT] at he l2
  rw [hy] at he l1
  obtain ⟨V, hV⟩ : ∃ V, Y + T = V := ⟨_, rfl⟩
  rw [hV] at he
  have sV : Y + T = V := hV
  have wV : IntKind.i64.wrap V = V := Rw.wrap_id (by omega)
  have HQ0 := Lib.hid he
  clear ok m1 m2 m3 m4 hnn hT hV hy l1 l2 HE KC KP ht HY he
  go_wp2_with fail
  refine (KT.out _ (HB.out.on B3.out)).mono ?_
  rintro e w4 ⟨rfl, hb⟩
  have B4 := Lib.hid (bstep B3.out hb)
  have C4 := Lib.hid (C3.out.on hb)
  have D4 := Lib.hid (D3.out.on hb)
  have S4 : Hid (w.heap.size + 2 ≤ w4.heap.size) := Lib.hid (by have := hb.size; have := S3.out; omega)
  have KQ4 := Lib.hid (KQ.out _ hb)
  clear hb x0 x1 C3 D3 B3 S3 KQ
  obtain ⟨x0, x1⟩ := C4.out.two
  rcases Int.lt_or_le cap V with hg | hg
  · have t0 : decide (cap < V) = true := decide_eq_true hg
    have e1 : filE cap L m = 8 := HQ0.out.trans (if_pos hg)
    obtain ⟨e2, e3⟩ := fil_no (by rw [e1]; decide)
    have HEE := Lib.hid (And.intro e1 (And.intro e2 e3))
    clear hg e1 e2 e3
    obtain ⟨u0, u1⟩ := D4.out.two
    obtain ⟨v0, v1⟩ := D4.out.warm2
    go_wp2_with fail
    exact bodyPost_ret (res_chest2 Tryz.results7 rfl (D4.out.put2 _ _)) rfl (by rw [HEE.out.1, HEE.out.2.1, HEE.out.2.2]; exact CRes.none_ (Rw.below_put2 B4.out (Nat.le_succ _) _ _))
  · have t0 : decide (cap < V) = false := decide_eq_false (by omega)
    have e1 : filE cap L m = 0 := HQ0.out.trans (if_neg (by omega))
    have e2 : filC cap L m = cap := if_pos e1
    have e3 : filL cap L m = plusL L m := if_pos e1
    have HEE := Lib.hid (And.intro e1 (And.intro e2 e3))
    clear hg e1 e2 e3
    go_wp2_with fail
    refine KQ4.out.mono ?_
    rintro e w5 ⟨A5, n5, c5, rfl, hl5, ho5, hb⟩
    have B5 := Lib.hid (bstep B4.out hb)
    have D5 := Lib.hid (D4.out.on hb)
    have HO := Lib.hid (ho5.less S4.out)
    have HL5 := Lib.hid hl5
    clear hb hl5 ho5 x0 x1
    obtain ⟨u0, u1⟩ := D5.out.two
    obtain ⟨v0, v1⟩ := D5.out.warm2
    go_wp2_with fail
    exact bodyPost_ret (res_chest2 Tryz.results7 rfl (D5.out.put2 _ _)) rfl (by
      rw [HEE.out.1, HEE.out.2.1, HEE.out.2.2]
      exact ⟨_, _, _, rfl, HL5.out, own_far2 (HO.out.less (by omega)) (fun e => by have h1 := (HO.out.lt _ e).1; omega) _ _, Rw.below_put2 B5.out (Nat.le_succ _) _ _⟩)
end Go.Proofs.YtagjimdplmimoaaGreat.Chest
