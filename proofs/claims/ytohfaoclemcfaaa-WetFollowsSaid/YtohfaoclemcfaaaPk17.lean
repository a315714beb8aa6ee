/- Several texts in one: TankB, TankC, WetK, WetL, WetM, WetN. -/
import Derived.Test.YtohfaoclemcfaaaPk16
import Derived.Test.YtohfaoclemcfaaaPk15
import Derived.Test.YtohfaoclemcfaaaPk14
/- Tanks in memory: rows of numbers. Contracts over valid numbers. -/
namespace Go.Proofs.Ytohfaoclemcfaaa.Tank
open Go.ChangeShapes Go.WideShapes Go.RowKit Go.Lib
open Go.Proofs.Ytohfaoclemcfaaa.Rw (Rd Row Kd glt get_lt rd_one flat_len)
set_option linter.unusedVariables false
set_option maxRecDepth 100000

/-! ### Rows of numbers -/
abbrev Slc := Option Addr × Nat × Nat
abbrev sl (s : Slc) : Value := .slice s.1 s.2.1 s.2.2
abbrev Raw := Bool × Slc × Slc
abbrev cR (r : Raw) : List Value := [.bool r.1, sl r.2.1, sl r.2.2]
theorem cR_len (r : Raw) : (cR r).length = 3 := rfl
abbrev TR : TypeId := 27
theorem info_parts {T : TypeId} {zz : Option Value} {s b : Nat} (h : (Try.prog.info? T).map (fun i => (i.zero, i.size, i.bytes)) = some (zz, s, b)) : ∃ i, Try.prog.info? T = some i ∧ i.zero = zz ∧ i.size = s ∧ i.bytes = b := by
  cases hi : Try.prog.info? T with
  | none => rw [hi] at h; cases h
  | some i => rw [hi] at h; simp at h; exact ⟨i, rfl, h.1, h.2.1, h.2.2⟩
theorem info_r : (Try.prog.info? TR).map (fun i => (i.zero, i.size, i.bytes)) = some (some (.agg #[.bool false, .slice none 0 0, .slice none 0 0]), 3, 56) := by kernel_rfl
/-- What lies in the row stands for the numbers. -/
def Ins (w : World) (R : List Raw) (L : List Trip) : Prop :=
  R.length = L.length ∧ ∀ (k : Nat) (r : Raw) (t : Trip), R[k]? = some r → L[k]? = some t → r.1 = t.1 ∧ In w (sl r.2.1) t.2.1 ∧ In w (sl r.2.2) t.2.2
theorem Ins.nil (w : World) : Ins w [] [] := ⟨rfl, fun k r t h => by simp at h⟩
theorem Ins.on {w w' : World} {R : List Raw} {L : List Trip} (h : Ins w R L) (hb : Below w.heap.size w w') : Ins w' R L :=
  ⟨h.1, fun k r t hr ht => by obtain ⟨h1, h2, h3⟩ := h.2 k r t hr ht; exact ⟨h1, h2.on hb, h3.on hb⟩⟩
theorem Ins.snoc {w : World} {R : List Raw} {L : List Trip} {r : Raw} {t : Trip} (h : Ins w R L) (h1 : r.1 = t.1) (h2 : In w (sl r.2.1) t.2.1) (h3 : In w (sl r.2.2) t.2.2) : Ins w (R ++ [r]) (L ++ [t]) := by
  refine ⟨by rw [List.length_append, List.length_append, h.1]; rfl, fun k x u hx hu => ?_⟩
  rcases Nat.lt_or_ge k R.length with hk | hk
  · rw [List.getElem?_append_left hk] at hx
    rw [List.getElem?_append_left (by rw [← h.1]; exact hk)] at hu
    exact h.2 k x u hx hu
  · rw [List.getElem?_append_right hk] at hx
    rw [List.getElem?_append_right (by rw [← h.1]; exact hk)] at hu
    rw [← h.1] at hu
    obtain ⟨j, hj⟩ : ∃ j, k - R.length = j := ⟨_, rfl⟩
    rw [hj] at hx hu
    cases j with
    | zero => simp at hx hu; subst hx; subst hu; exact ⟨h1, h2, h3⟩
    | succ j => simp at hx
theorem Ins.rats {w : World} {A : Option Addr} {R : List Raw} {L : List Trip} (h : Rd cR 3 w A R) (hi : Ins w R L) : Rats w A L := by
  intro k t ht
  obtain ⟨r, hr⟩ := get_lt (L := R) (k := k) (by rw [hi.1]; exact glt ht)
  obtain ⟨b, off, e, hlt, hc⟩ := h k r hr
  obtain ⟨h1, h2, h3⟩ := hi.2 k r t hr ht
  obtain ⟨A1, c1, e1, i1⟩ := in_open h2
  obtain ⟨A2, c2, e2, i2⟩ := in_open h3
  have c0 := hc 0 _ rfl
  have c1' := hc 1 _ rfl
  have c2' := hc 2 _ rfl
  rw [Nat.add_zero, h1] at c0
  rw [show sl r.2.1 = _ from e1] at c1'
  rw [show sl r.2.2 = _ from e2] at c2'
  exact ⟨b, off, A1, c1, A2, c2, e, hlt, ⟨c0, c1', c2'⟩, i1, i2⟩
theorem Rats.nil (w : World) (A : Option Addr) : Rats w A [] := fun k t h => by simp at h
theorem Rats.at_ {w : World} {A : Option Addr} {L : List Trip} (h : Rats w A L) {k : Nat} {t : Trip} (ht : L[k]? = some t) : ∃ b off A1 c1 A2 c2, A = some ⟨b, off, none⟩ ∧ b < w.heap.size ∧
    w.cell? ⟨b, off + k * 3, none⟩ = some (.bool t.1) ∧ w.cell? ⟨b, off + k * 3 + 1, none⟩ = some (.slice A1 t.2.1.length c1) ∧ w.cell? ⟨b, off + k * 3 + 2, none⟩ = some (.slice A2 t.2.2.length c2) ∧ InR w (.agg #[.bool t.1, .slice A1 t.2.1.length c1, .slice A2 t.2.2.length c2]) t.1 t.2.1 t.2.2 := by
  obtain ⟨b, off, A1, c1, A2, c2, e, hlt, ⟨h0, h1, h2⟩, i1, i2⟩ := h k t ht
  exact ⟨b, off, A1, c1, A2, c2, e, hlt, h0, h1, h2, _, _, rfl, i1, i2⟩
/-- A tank's value. -/
def InT (w : World) (v : Value) (cap : Int) (L : List Trip) : Prop := ∃ A c, v = .agg #[.int .i64 cap, .slice A L.length c] ∧ L.length ≤ 9223372036854775807 ∧ Rats w A L
theorem InT.on {w w' : World} {v : Value} {cap : Int} {L : List Trip} (h : InT w v cap L) (hb : Below w.heap.size w w') : InT w' v cap L := by
  obtain ⟨A, c, e, hl, hr⟩ := h; exact ⟨A, c, e, hl, hr.on hb⟩
theorem InT.zero (w : World) : InT w (.agg #[.int .i64 0, .slice none 0 0]) 0 [] := ⟨none, 0, rfl, by simp, Rats.nil _ _⟩
/-- A tank and an error. -/
def TRes (w : World) (err cap : Int) (L : List Trip) (e : Ending) (w' : World) : Prop := ∃ v, e = .returned (.tuple #[v, .int .i64 err]) ∧ InT w' v cap L ∧ Below w.heap.size w w'
theorem TRes.none_ {w w' : World} {err : Int} (hb : Below w.heap.size w w') : TRes w err 0 [] (.returned (.tuple #[.agg #[.int .i64 0, .slice none 0 0], .int .i64 err])) w' := ⟨_, rfl, InT.zero _, hb⟩
/-- A number's value, cell by cell. -/
theorem inR_open {w : World} {v : Value} {b : Bool} {xs ys : List Int} (h : InR w v b xs ys) : ∃ A c B d, v = .agg #[.bool b, .slice A xs.length c, .slice B ys.length d] ∧ In w (.slice A xs.length c) xs ∧ In w (.slice B ys.length d) ys := by
  obtain ⟨vp, vq, rfl, h1, h2⟩ := h
  obtain ⟨A, c, rfl, i1⟩ := in_open h1
  obtain ⟨B, d, rfl, i2⟩ := in_open h2
  exact ⟨A, c, B, d, rfl, i1, i2⟩
theorem RRes.op {w : World} {err : Int} {r : Rat} {e : Ending} {w' : World} (h : RRes w err r e w') : ∃ b A n c B m d, e = .returned (.tuple #[.agg #[.bool b, .slice A n c, .slice B m d], .int .i64 err]) ∧ OutR w' (.agg #[.bool b, .slice A n c, .slice B m d]) err r ∧ Below w.heap.size w w' := by
  obtain ⟨v, rfl, ho, hb⟩ := h
  have h1 : ∃ b xs ys, InR w' v b xs ys := by
    unfold OutR at ho
    split at ho
    · exact ⟨_, _, _, ho⟩
    · exact ⟨_, _, _, ho⟩
  obtain ⟨b, xs, ys, hi⟩ := h1
  obtain ⟨A, c, B, d, rfl, -, -⟩ := inR_open hi
  exact ⟨b, A, _, c, B, _, d, rfl, ho, hb⟩
theorem IsR.cells {w : World} {b : Bool} {A B : Option Addr} {n c m d : Nat} {r : Rat} (h : IsR w (.agg #[.bool b, .slice A n c, .slice B m d]) r) : b = negR r ∧ In w (.slice A n c) (topL r) ∧ In w (.slice B m d) (botL r) := by
  obtain ⟨vp, vq, e, h1, h2⟩ := h
  simp only [Value.agg.injEq, Array.mk.injEq, List.cons.injEq, Value.bool.injEq, and_true] at e
  obtain ⟨e1, e2, e3⟩ := e
  subst e1; subst e2; subst e3
  exact ⟨rfl, h1, h2⟩
/-! ### Appends -/
theorem cR_noI (z : Raw) : ∀ u ∈ cR z, Rw.noI u := fun u hu => by
  simp at hu
  rcases hu with h | h | h <;> subst h <;> intro k z e <;> cases e
theorem zR_noI (i : TypeInfo) (zv : Value) (hi : Try.prog.info? TR = some i) (hz : i.zero = some zv) : ∀ u ∈ zv.cells.toList, Rw.noI u := by
  obtain ⟨i', h1, h2, -, -⟩ := info_parts info_r
  rw [hi] at h1
  cases h1
  rw [hz] at h2
  cases h2
  intro u hu
  have hu' : u ∈ [Value.bool false, .slice none 0 0, .slice none 0 0] := hu
  simp at hu'
  rcases hu' with h | h <;> subst h <;> intro k z e <;> cases e
theorem In.grown {w w' : World} {rv v : Value} {zs : List Int} (h : In w v zs) (hg : w.grownBy w' rv.ownBlock) (hn : Rw.NoI w rv) : In w' v zs := by
  obtain ⟨A, c, rfl, h1, h2, h3⟩ := h
  refine ⟨A, c, rfl, h1, h2, fun k z hz => ?_⟩
  obtain ⟨b, off, hA, hlo, hlt, hc⟩ := h3 k z hz
  refine ⟨b, off, hA, ⟨Nat.zero_le _, Or.inl rfl⟩, Nat.lt_of_lt_of_le hlt hg.size, ?_⟩
  by_cases hb : rv.ownBlock = some b
  · exact absurd hc (hn b hb _ _ _)
  · exact (World.cell?_of_block (a := ⟨b, off + k, none⟩) (hg.block b hlt fun e => hb e.symm)).trans hc
theorem Ins.grown {w w' : World} {rv : Value} {R : List Raw} {L : List Trip} (h : Ins w R L) (hg : w.grownBy w' rv.ownBlock) (hn : Rw.NoI w rv) : Ins w' R L :=
  ⟨h.1, fun k r t hr ht => by obtain ⟨h1, h2, h3⟩ := h.2 k r t hr ht; exact ⟨h1, In.grown h2 hg hn, In.grown h3 hg hn⟩⟩
theorem Ins.set {w : World} {R : List Raw} {L : List Trip} (h : Ins w R L) {p : Addr} {u : Value} (hx : w.cell? p = some u) (hu : ∀ z, u ≠ .int .i64 z) (x : Value) : Ins (w.setCell p x) R L :=
  ⟨h.1, fun k r t hr ht => by obtain ⟨h1, h2, h3⟩ := h.2 k r t hr ht; exact ⟨h1, h2.set hx hu x, h3.set hx hu x⟩⟩
/-- The row that a field of a tank holds, while the call builds it. -/
structure Bld (w : World) (B g : Nat) (cap : Int) (A : Option Addr) (n c : Nat) (R : List Raw) (L : List Trip) : Prop where
  cel : Rw.Cel w g [.int .i64 cap, .slice A n c]
  row : Rw.Row cR 3 TR B w (.slice A n c) R
  len : n = R.length
  ins : Ins w R L
  noi : Rw.NoI w (.slice A n c)
  lt : g < B
theorem Bld.on {w w' : World} {B g : Nat} {cap : Int} {A : Option Addr} {n c : Nat} {R : List Raw} {L : List Trip} (h : Bld w B g cap A n c R L) (hb : Below w.heap.size w w') : Bld w' B g cap A n c R L :=
  ⟨h.cel.on hb, h.row.on hb, h.len, h.ins.on hb, h.noi.keep fun k hk => hb.block k (h.row.lt k hk).2, h.lt⟩
/-- Behind the append, and the store of the new slice into the field. -/
theorem Bld.push {w w' : World} {B g : Nat} {cap : Int} {A : Option Addr} {n c : Nat} {R : List Raw} {L : List Trip} (h : Bld w B g cap A n c R L) {r : Raw} {t : Trip} {A' : Option Addr} {n' c' : Nat} (hn' : n' = R.length + 1)
    (hrow : Rw.Row cR 3 TR B w' (.slice A' n' c') (R ++ [r])) (hno : Rw.NoI w' (.slice A' n' c')) (hg : w.grownBy w' (Value.slice A n c).ownBlock) (h1 : r.1 = t.1) (h2 : In w (sl r.2.1) t.2.1) (h3 : In w (sl r.2.2) t.2.2) :
    Bld (w'.setCell ⟨g, 1, none⟩ (.slice A' n' c')) B g cap A' n' c' (R ++ [r]) (L ++ [t]) := by
  have hc : Rw.Cel w' g [.int .i64 cap, .slice A n c] := h.cel.grown hg fun e => by have := (h.row.lt _ e).1; have := h.lt; omega
  have hoff : Rw.Off (fun k => k = g) w' (w'.setCell ⟨g, 1, none⟩ (.slice A' n' c')) := Rw.Off.set (S := fun k => k = g) (Rw.Off.refl _ _) (p := ⟨g, 1, none⟩) (Or.inl rfl) _
  have hke : ∀ k, (Value.slice A' n' c').ownBlock = some k → (w'.setCell ⟨g, 1, none⟩ (.slice A' n' c')).heap[k]? = w'.heap[k]? := fun k hk => by
    have hl := hrow.lt k hk
    exact hoff.block k hl.2 fun e => by have := h.lt; omega
  refine ⟨hc.set 1 _, hrow.keep hke, by rw [hn', List.length_append]; rfl, ?_, hno.keep hke, h.lt⟩
  exact ((h.ins.grown hg h.noi).snoc h1 (In.grown h2 hg h.noi) (In.grown h3 hg h.noi)).set (u := .slice A n c) (hc.two.2) (fun z e => by cases e) _
theorem Bld.below {w0 w w' : World} {B g : Nat} {cap : Int} {A : Option Addr} {n c : Nat} {R : List Raw} {L : List Trip} (h : Bld w B g cap A n c R L) (hb : Below w0.heap.size w0 w) (hg : w.grownBy w' (Value.slice A n c).ownBlock) (hB : B ≤ w.heap.size) (h0 : w0.heap.size ≤ g) (x : Value) : Below w0.heap.size w0 (w'.setCell ⟨g, 1, none⟩ x) :=
  (hb.trans ((h.row.below hg hB).mono (Nat.le_trans h0 (Nat.le_of_lt h.lt)))).setCell (p := ⟨g, 1, none⟩) h0 x
/-- Another block's cells. -/
theorem Bld.far {w w' : World} {B g : Nat} {cap : Int} {A : Option Addr} {n c : Nat} {R : List Raw} {L : List Trip} (h : Bld w B g cap A n c R L) {g' : Nat} {us : List Value} (hc : Rw.Cel w g' us) (hg : w.grownBy w' (Value.slice A n c).ownBlock) (hl : g' < B) (hne : g ≠ g') (x : Value) : Rw.Cel (w'.setCell ⟨g, 1, none⟩ x) g' us :=
  (hc.grown hg fun e => by have := (h.row.lt _ e).1; omega).far (p := ⟨g, 1, none⟩) hne x
theorem Bld.nil {w : World} {B g : Nat} {cap : Int} (h : Rw.Cel w g [.int .i64 cap, .slice none 0 0]) (hl : g < B) : Bld w B g cap none 0 0 [] [] :=
  ⟨h, Rw.Row.nil _ _ _ _ _, rfl, Ins.nil _, Rw.NoI.nil _, hl⟩
/-- The tank that is read off at the end. -/
theorem Bld.tank {w : World} {B g : Nat} {cap : Int} {A : Option Addr} {n c : Nat} {R : List Raw} {L : List Trip} (h : Bld w B g cap A n c R L) (hl : L.length ≤ 9223372036854775807) : InT w (.agg #[.int .i64 cap, .slice A n c]) cap L ∧ Rats w A L ∧ n = L.length := by
  obtain ⟨A0, c0, e, -, -, hrd, -, -⟩ := h.row.one cR_len
  obtain ⟨rfl, -, rfl⟩ := Value.slice.inj e
  have hn : n = L.length := h.len.trans h.ins.1
  exact ⟨⟨A, c, by rw [hn], hl, h.ins.rats hrd⟩, h.ins.rats hrd, hn⟩
/-- A store into a tank that is still the zero value: no limbs of a valid number lie there (the last limb is not 0). -/
theorem In.tank {w : World} {v : Value} {zs : List Int} {g : Nat} {A : Option Addr} {n c : Nat} (h : In w v zs) (hv : validB zs = true) (hc : Rw.Cel w g [.int .i64 0, .slice A n c]) (x y : Value) : In ((w.setCell ⟨g, 0, none⟩ x).setCell ⟨g, 1, none⟩ y) v zs := by
  obtain ⟨c0, c1⟩ := hc.two
  have h2 : In (w.setCell ⟨g, 0, none⟩ x) v zs := by
    obtain ⟨A', d, rfl, h1, h2, h3⟩ := h
    refine ⟨A', d, rfl, h1, h2, fun k z hz => ?_⟩
    obtain ⟨b, off, hA, hlo, hlt, hcell⟩ := h3 k z hz
    refine ⟨b, off, hA, ⟨Nat.zero_le _, Or.inl rfl⟩, by simpa using hlt, ?_⟩
    rw [World.cell?_setCell_other w ⟨g, 0, none⟩ ⟨b, off + k, none⟩ x ?_]
    · exact hcell
    · intro e
      simp only [Addr.mk.injEq, and_true] at e
      obtain ⟨rfl, e2⟩ := e
      have hk : k = 0 := by omega
      have ho : off = 0 := by omega
      subst hk; subst ho
      rw [c0] at hcell
      cases hcell
      match zs, hz with
      | [z0], hz => simp at hz; subst hz; exact absurd hv (by decide)
      | z0 :: z1 :: l, hz =>
        obtain ⟨b', off', hA', -, -, hc'⟩ := h3 1 z1 rfl
        rw [hA] at hA'
        cases hA'
        rw [show (0 + 1 : Nat) = 1 from rfl, c1] at hc'
        cases hc'
  have c1' : (w.setCell ⟨g, 0, none⟩ x).cell? ⟨g, 1, none⟩ = some (.slice A n c) := (hc.set 0 x).two.2
  exact h2.set c1' (fun z e => by cases e) y
theorem vT_valid {t : Trip} (h : vT t = true) : validB t.2.1 = true ∧ validB t.2.2 = true := ⟨(val_parts h).1, (val_parts h).2.1⟩
theorem Ins.tank {w : World} {R : List Raw} {L : List Trip} {g : Nat} {A : Option Addr} {n c : Nat} (h : Ins w R L) (hv : ∀ t ∈ L, vT t = true) (hc : Rw.Cel w g [.int .i64 0, .slice A n c]) (x y : Value) : Ins ((w.setCell ⟨g, 0, none⟩ x).setCell ⟨g, 1, none⟩ y) R L :=
  ⟨h.1, fun k r t hr ht => by
    obtain ⟨h1, h2, h3⟩ := h.2 k r t hr ht
    obtain ⟨v1, v2⟩ := vT_valid (hv t (List.mem_of_getElem? ht))
    exact ⟨h1, In.tank h2 v1 hc x y, In.tank h3 v2 hc x y⟩⟩
/-- The row of a tank that is handed back: it lies in the result, and nowhere else. -/
theorem row_tank {w : World} {B : Nat} {A : Option Addr} {n c : Nat} {R : List Raw} {L : List Trip} (hr : Rw.Row cR 3 TR B w (.slice A n c) R) (hi : Ins w R L) (hv : ∀ t ∈ L, vT t = true) {g0 : Nat} {A0 : Option Addr} {m d : Nat} (hz : Rw.Cel w g0 [.int .i64 0, .slice A0 m d]) (h0 : g0 < B) (x y : Value) :
    Rw.Row cR 3 TR B ((w.setCell ⟨g0, 0, none⟩ x).setCell ⟨g0, 1, none⟩ y) (.slice A n c) R ∧ Ins ((w.setCell ⟨g0, 0, none⟩ x).setCell ⟨g0, 1, none⟩ y) R L := by
  have hoff := Rw.off_put2 w g0 x y
  exact ⟨hr.keep fun k hk => by have hl := hr.lt k hk; exact hoff.block k hl.2 fun e => by omega, hi.tank hv hz x y⟩
theorem row_rats {w : World} {B : Nat} {A : Option Addr} {n c : Nat} {R : List Raw} {L : List Trip} (hr : Rw.Row cR 3 TR B w (.slice A n c) R) (hi : Ins w R L) (hn : n = R.length) : Rats w A L ∧ n = L.length := by
  obtain ⟨A0, c0, e, -, -, hrd, -, -⟩ := hr.one cR_len
  obtain ⟨rfl, -, rfl⟩ := Value.slice.inj e
  exact ⟨hi.rats hrd, hn.trans hi.1⟩
theorem Bld.done {w : World} {B g : Nat} {cap : Int} {A : Option Addr} {n c : Nat} {R : List Raw} {L : List Trip} (h : Bld w B g cap A n c R L) (hv : ∀ t ∈ L, vT t = true) {g0 : Nat} {A0 : Option Addr} {m d : Nat} (hz : Rw.Cel w g0 [.int .i64 0, .slice A0 m d]) (h0 : g0 < B) (hl : L.length ≤ 9223372036854775807) :
    InT ((w.setCell ⟨g0, 0, none⟩ (.int .i64 cap)).setCell ⟨g0, 1, none⟩ (.slice A n c)) (.agg #[.int .i64 cap, .slice A n c]) cap L := by
  obtain ⟨hr, hi⟩ := row_tank h.row h.ins hv hz h0 (.int .i64 cap) (.slice A n c)
  obtain ⟨h1, h2⟩ := row_rats hr hi h.len
  exact ⟨A, c, by rw [h2], hl, h1⟩
/-! ### Contracts over valid numbers -/
theorem x_Add (r s : Rat) (hr : fitR r = true) (hs : fitR s = true) (v u : Value) (w : World) (hv : IsR w v r) (hu : IsR w u s) :
    Calls Try.prog 25 #[v, u] w (RRes w (okE (sumOk r s)) (r + s)) := by
  have h := ref_Add3 (negR r) (topL r) (botL r) (negR s) (topL s) (botL s) v u w hv hu
  rw [(op_form (ok := sumOk) (f := addOp) hr hs).1, (op_form (ok := sumOk) (f := addOp) hr hs).2] at h
  exact h
theorem x_Sub (r s : Rat) (hr : fitR r = true) (hs : fitR s = true) (v u : Value) (w : World) (hv : IsR w v r) (hu : IsR w u s) :
    Calls Try.prog 28 #[v, u] w (RRes w (okE (subOk r s)) (subOp r s)) := by
  have h := ref_Sub3 (negR r) (topL r) (botL r) (negR s) (topL s) (botL s) v u w hv hu
  rw [(op_form (ok := subOk) (f := subOp) hr hs).1, (op_form (ok := subOk) (f := subOp) hr hs).2] at h
  exact h
theorem x_Mul (r s : Rat) (hr : fitR r = true) (hs : fitR s = true) (v u : Value) (w : World) (hv : IsR w v r) (hu : IsR w u s) :
    Calls Try.prog 29 #[v, u] w (RRes w (okE (mulOk r s)) (r * s)) := by
  have h := ref_Mul3 (negR r) (topL r) (botL r) (negR s) (topL s) (botL s) v u w hv hu
  rw [(op_form (ok := mulOk) (f := mulOp) hr hs).1, (op_form (ok := mulOk) (f := mulOp) hr hs).2] at h
  exact h
theorem x_Of (n : Int) (h : 0 ≤ n) (h2 : n ≤ 1099511627776) (w : World) : Calls Try.prog 33 #[.int .i64 n] w (RRes w 0 (qI n)) := by
  have := ref_Of3 n w (by omega) (by omega)
  rw [qI_ok h h2] at this
  exact this
end Go.Proofs.Ytohfaoclemcfaaa.Tank
/- Same, zero, Check, Level of the reference. -/
namespace Go.Proofs.Ytohfaoclemcfaaa.Tank
open Go.ChangeShapes Go.WideShapes Go.RowKit Go.Lib
open Go.Proofs.Ytohfaoclemcfaaa.Rw (Rd Row Kd glt get_lt rd_one flat_len below_alloc bstep wrap_id below_drewN below_drew drew_below)
set_option linter.unusedVariables false
set_option maxRecDepth 100000

theorem ne_zero {E : Int} (h : ¬ E = 0) : (E == 0) = false ∧ (E != 0) = true := by
  have h1 : (E == 0) = false := beq_false_of_ne h
  exact ⟨h1, by rw [bne, h1]; rfl⟩
theorem res_rat {fn : Func} {p : Tmp} (h : fn.results = #[.cell p 27]) {tmps : Array Value} {w : World} {g : Nat} {u0 u1 u2 : Value} (hp : tmps.getD p undef = .pointer (some ⟨g, 0, none⟩))
    (hc : Rw.Cel w g [u0, u1, u2]) : (results fn tmps).run Try.prog w = .ok (.agg #[u0, u1, u2]) w := by
  have hp' : tmps[p]?.getD undef = .pointer (some ⟨g, 0, none⟩) := by simpa using hp
  obtain ⟨h0, h1, h2⟩ := hc.three
  simp [results, h, hp', go_sem, h0, h1, h2]
theorem res_rat2 {fn : Func} {p u : Tmp} (h : fn.results = #[.cell p 27, .tmp u]) {tmps : Array Value} {w : World} {g : Nat} {u0 u1 u2 : Value} (hp : tmps.getD p undef = .pointer (some ⟨g, 0, none⟩))
    (hc : Rw.Cel w g [u0, u1, u2]) : (results fn tmps).run Try.prog w = .ok (.tuple #[.agg #[u0, u1, u2], tmps.getD u undef]) w := by
  have hp' : tmps[p]?.getD undef = .pointer (some ⟨g, 0, none⟩) := by simpa using hp
  obtain ⟨h0, h1, h2⟩ := hc.three
  simp [results, h, hp', go_sem, h0, h1, h2]
set_option maxHeartbeats 800000 in
theorem tk_Same (t u : Trip) (va vb : Value) (w : World) (ha : InR w va t.1 t.2.1 t.2.2) (hb : InR w vb u.1 u.2.1 u.2.2) :
    Calls Try.prog 14 #[va, vb] w fun e w' => e = .returned (.bool (decide (t = u))) ∧ Below w.heap.size w w' := by
  obtain ⟨b, xs, ys⟩ := t
  obtain ⟨c, zs, us⟩ := u
  obtain ⟨A1, a1, A2, a2, rfl, ha1, ha2⟩ := inR_open ha
  obtain ⟨B1, b1, B2, b2, rfl, hb1, hb2⟩ := inR_open hb
  have HA1 := Lib.hid ha1
  have HA2 := Lib.hid ha2
  have HB1 := Lib.hid hb1
  have HB2 := Lib.hid hb2
  clear ha hb ha1 ha2 hb1 hb2
  have he : decide ((b, xs, ys) = (c, zs, us)) = ((b == c) && (decide (xs = zs) && decide (ys = us))) := by
    by_cases h1 : b = c <;> by_cases h2 : xs = zs <;> by_cases h3 : ys = us <;> simp [h1, h2, h3]
  rw [he]
  clear he
  cases hbc : (b == c) with
  | false =>
    go_enter Try.func14, Try.ntmps14
    go_wp2_with fail
    go_ret
    exact ⟨rfl, balloc (below_alloc _ _) _⟩
  | true =>
    obtain ⟨p, hp⟩ : ∃ p, decide (xs = zs) = p := ⟨_, rfl⟩
    obtain ⟨q, hq⟩ : ∃ q, decide (ys = us) = q := ⟨_, rfl⟩
    have KP := Lib.hid fun W h k => same_in xs zs (.slice A1 xs.length a1) (.slice B1 zs.length b1) W h k
    have KQ := Lib.hid fun W h k => same_in ys us (.slice A2 ys.length a2) (.slice B2 us.length b2) W h k
    rw [hp] at KP
    rw [hq] at KQ
    rw [hp, hq]
    go_enter Try.func14, Try.ntmps14
    go_wp2_with fail
    refine (KP.out _ ((HA1.out.alloc _).alloc _) ((HB1.out.alloc _).alloc _)).mono ?_
    rintro e w1 ⟨rfl, h1⟩
    obtain ⟨hc, hf⟩ := bcell h1
    have HB := Lib.hid h1
    clear h1
    cases p with
    | false =>
      go_wp2_with fail
      go_ret
      exact ⟨rfl, (balloc (below_alloc _ _) _).trans (HB.out.mono (by simp; omega))⟩
    | true =>
      go_wp2_with fail
      refine (KQ.out _ (((HA2.out.alloc _).alloc _).on HB.out) (((HB2.out.alloc _).alloc _).on HB.out)).mono ?_
      rintro e w2 ⟨rfl, h2⟩
      have HC := Lib.hid h2
      clear h2
      go_wp2_with fail
      go_ret
      exact ⟨rfl, bstep ((balloc (below_alloc _ _) _).trans (HB.out.mono (by simp; omega))) HC.out⟩
theorem cel_root {w : World} {g : Nat} {u0 u1 u2 : Value} (h : Rw.Cel w g [u0, u1, u2]) : Cel w g u0 u1 u2 := ⟨h.three, h.warm3⟩
theorem qI_zero : qI 0 = 0 := mkV_zero
end Go.Proofs.Ytohfaoclemcfaaa.Tank
/- The program's contracts as one hypothesis; light; the same numbers. -/
namespace Go.Proofs.Ytohfaoclemcfaaa.Wet
open Go.ChangeShapes Go.WideShapes Go.RowKit Go.Lib
open Go.Proofs.Ytohfaoclemcfaaa.Rw (ret_bool ret_int bstep below_drewN below_drew drew_below below_alloc)
set_option linter.unusedVariables false
set_option maxRecDepth 100000

/-- What the program's functions do, and that the examples hold. -/
structure WeKit : Prop where
  check : ∀ (f r c : Int) (w : World), Calls Try.prog 12 #[.agg #[.int .i64 f, .int .i64 r, .int .i64 c]] w fun e w' => e = .returned (.int .i64 (ckW f r c)) ∧ Below w.heap.size w w'
  step : ∀ (f r c : Int) (v : Value) (b : Bool) (xs ys : List Int) (w : World) (hv : InR w v b xs ys),
    Calls Try.prog 17 #[.agg #[.int .i64 f, .int .i64 r, .int .i64 c], v] w (RRet4 w (stE f r c b xs ys) (paV f r (ratV b xs ys)) (seV f r c (ratV b xs ys)) (afV f r c (ratV b xs ys)))
  steady : ∀ (f r c : Int) (w : World), Calls Try.prog 10 #[.agg #[.int .i64 f, .int .i64 r, .int .i64 c]] w (RRes w (ckW f r c) (sdV f r c))
  after : ∀ (f r c : Int) (v : Value) (b : Bool) (xs ys : List Int) (n : Int) (w : World) (hv : InR w v b xs ys),
    Calls Try.prog 19 #[.agg #[.int .i64 f, .int .i64 r, .int .i64 c], v, .int .i64 n] w (RRes w (afE f r c b xs ys n) (afN f r c (ratV b xs ys) n.toNat))
  paper : ∀ (f r c : Int) (v : Value) (b : Bool) (xs ys : List Int) (n : Int) (w : World) (hv : InR w v b xs ys),
    Calls Try.prog 21 #[.agg #[.int .i64 f, .int .i64 r, .int .i64 c], v, .int .i64 n] w (RRes w (afE f r c b xs ys n) (paN f r c (ratV b xs ys) n.toNat))
  awake : ∀ w : World, Calls Try.prog 15 #[] w fun e w' => e = .returned (.bool true) ∧ Below w.heap.size w w'
theorem out_same {E : Int} {q : Rat} {va vb : Value} {w : World} (ha : OutR w va E q) (hb : OutR w vb E q) :
    Calls Try.prog 14 #[va, vb] w fun e w' => e = .returned (.bool true) ∧ Below w.heap.size w w' := by
  by_cases h : E = 0
  · subst h
    have h1 := Tank.tk_Same (negR q, topL q, botL q) (negR q, topL q, botL q) va vb w (out_zero ha) (out_zero hb)
    rw [decide_eq_true rfl] at h1
    exact h1
  · unfold OutR at ha hb
    rw [if_neg h] at ha hb
    have h1 := Tank.tk_Same (false, [], []) (false, [], []) va vb w ha hb
    rw [decide_eq_true rfl] at h1
    exact h1
set_option maxHeartbeats 1600000 in
theorem law_light (v : Value) (b : Bool) (xs ys : List Int) (w : World) (ha : InR w v b xs ys) : Calls Try.prog 16 #[v] w fun e w' => e = .returned (.bool (ligB xs ys)) ∧ Below w.heap.size w w' := by
  obtain ⟨vp, vq, rfl, ha, hb⟩ := ha
  obtain ⟨A, c, rfl, ha'⟩ := in_open ha
  obtain ⟨B, d, rfl, hb'⟩ := in_open hb
  obtain ⟨n, hn⟩ : ∃ n, xs.length = n := ⟨_, rfl⟩
  obtain ⟨m, hm⟩ : ∃ m, ys.length = m := ⟨_, rfl⟩
  unfold ligB
  rw [hn, hm]
  obtain ⟨k, hk⟩ : ∃ k, max n m = k := ⟨_, rfl⟩
  rw [hk]
  have h1 : (if (n : Int) < (m : Int) then (m : Int) else (n : Int)) = (k : Int) := by split <;> omega
  have h2 : max (n : Int) (m : Int) = (k : Int) := by omega
  have h3 : (if n < m then (m : Int) else (n : Int)) = (k : Int) := by split <;> omega
  clear ha hb ha' hb' hn hm hk
  go_enter Try.func16, Try.ntmps16
  go_upto_region 1 with fail
  obtain ⟨w0, hw0⟩ : ∃ W, w.alloc (.cells #[.bool b, .slice A n c, .slice B m d] 27) = W := ⟨_, rfl⟩
  have C0 : Hid (Rw.Cel w0 w.heap.size [.bool b, .slice A n c, .slice B m d]) := hw0 ▸ Rw.Cel.new w [_, _, _] _
  have B0 : Hid (Below w.heap.size w w0) := hw0 ▸ below_alloc _ _
  rw [hw0]
  clear hw0
  obtain ⟨x0, x1, x2⟩ := C0.out.three
  go_upto_region 2 with fail
  clear h1 h2 h3 x0 x1 x2
  rcases Nat.lt_or_ge 3 k with g1 | g1
  · have d1 : decide ((k : Int) ≤ 3) = false := decide_eq_false (by omega)
    have d2 : decide (k ≤ 3) = false := decide_eq_false (by omega)
    have d3 : ¬ k ≤ 3 := by omega
    rcases Nat.lt_or_ge 8 k with g2 | g2
    · have d4 : decide ((8 : Int) < (k : Int)) = true := decide_eq_true (by omega)
      have d5 : decide (8 < k) = true := decide_eq_true g2
      rcases Nat.lt_or_ge 12 k with g3 | g3
      · have d6 : decide ((k : Int) ≤ 12) = false := decide_eq_false (by omega)
        have d7 : decide (k ≤ 12) = false := decide_eq_false (by omega)
        have d8 : ¬ k ≤ 12 := by omega
        go_wp2_with fail
        go_ret
        exact ⟨by simp [d3, d8], B0.out⟩
      · have d6 : decide ((k : Int) ≤ 12) = true := decide_eq_true (by omega)
        have d7 : decide (k ≤ 12) = true := decide_eq_true (by omega)
        go_wp2_with fail
        go_ret
        exact ⟨by simp [d3, g2, g3], B0.out⟩
    · have d4 : decide ((8 : Int) < (k : Int)) = false := decide_eq_false (by omega)
      have d5 : decide (8 < k) = false := decide_eq_false (by omega)
      have d6 : ¬ 8 < k := by omega
      go_wp2_with fail
      go_ret
      exact ⟨by simp [d3, d6], B0.out⟩
  · have d1 : decide ((k : Int) ≤ 3) = true := decide_eq_true (by omega)
    have d2 : decide (k ≤ 3) = true := decide_eq_true (by omega)
    go_wp2_with fail
    go_ret
    exact ⟨by simp [g1], B0.out⟩
end Go.Proofs.Ytohfaoclemcfaaa.Wet
/- The laws that compare with the reference: Steps, Afters, Papers (gen20/l.py). -/
namespace Go.Proofs.Ytohfaoclemcfaaa.Wet
open Go.ChangeShapes Go.WideShapes Go.RowKit Go.Lib
open Go.Proofs.Ytohfaoclemcfaaa.Rw (ret_bool ret_int bstep below_drewN below_drew drew_below below_alloc)
set_option linter.unusedVariables false
set_option maxRecDepth 100000

theorem two_in (w : World) (x0 x1 x2 y0 y1 y2 : Value) : ∃ w1 gx, (w.alloc (.cells #[x0, x1, x2] 23)).alloc (.cells #[y0, y1, y2] 27) = w1 ∧
    w.heap.size + 1 = gx ∧ Rw.Cel w1 w.heap.size [x0, x1, x2] ∧ Rw.Cel w1 gx [y0, y1, y2] ∧ Below w.heap.size w w1 :=
  ⟨_, _, rfl, rfl, (Rw.Cel.new w [_, _, _] _).alloc _, Rw.Cel.new_at _ [_, _, _] _ (by simp), bstep (below_alloc _ _) (below_alloc _ _)⟩
theorem solo (w : World) (x0 x1 x2 : Value) : ∃ W g, w.alloc (.cells #[x0, x1, x2] 27) = W ∧ w.heap.size = g ∧ Rw.Cel W g [x0, x1, x2] ∧ Below w.heap.size w W :=
  ⟨_, _, rfl, rfl, Rw.Cel.new w [_, _, _] _, below_alloc _ _⟩
set_option maxHeartbeats 6400000 in
theorem walk_WetSteps (KK : WeKit) (w : World) (f r c : Int) (v : Value) (b : Bool) (xs ys : List Int) (hv : InR w v b xs ys) :
    Calls Try.prog 4 #[.agg #[.int .i64 f, .int .i64 r, .int .i64 c], v] w fun e w' => e = .returned (.bool true) ∧ Below w.heap.size w w' := by
  have KQ := Lib.hid KK.awake
  have KL := Lib.hid fun (v : Value) (W : World) (h : InR W v b xs ys) => law_light v b xs ys W h
  obtain ⟨g, hg⟩ : ∃ x, ligB xs ys = x := ⟨_, rfl⟩
  rw [hg] at KL
  clear hg
  have K1 := Lib.hid fun (v : Value) (W : World) (h : InR W v b xs ys) => KK.step f r c v b xs ys W h
  have K2 := Lib.hid fun (v : Value) (W : World) (h : InR W v b xs ys) => wr_Step f r c v b xs ys W h
  obtain ⟨E, hE⟩ : ∃ x, stE f r c b xs ys = x := ⟨_, rfl⟩
  obtain ⟨vP, hP⟩ : ∃ x, paV f r (ratV b xs ys) = x := ⟨_, rfl⟩
  obtain ⟨vS, hS⟩ : ∃ x, seV f r c (ratV b xs ys) = x := ⟨_, rfl⟩
  obtain ⟨vA, hA⟩ : ∃ x, afV f r c (ratV b xs ys) = x := ⟨_, rfl⟩
  rw [hE, hP, hS, hA] at K1 K2
  clear hE hP hS hA
  have R0 := Lib.hid hv
  obtain ⟨vp, vq, rfl, ha, hb⟩ := hv
  obtain ⟨A0, c0, rfl, -⟩ := in_open ha
  obtain ⟨B0, d0, rfl, -⟩ := in_open hb
  obtain ⟨n0, hn0⟩ : ∃ n, xs.length = n := ⟨_, rfl⟩
  obtain ⟨m0, hm0⟩ : ∃ n, ys.length = n := ⟨_, rfl⟩
  rw [hn0, hm0] at R0 ⊢
  have HB := Lib.hid (Below.refl w.heap.size w)
  clear ha hb hn0 hm0
  go_enter Try.func4, Try.ntmps4
  go_upto_region 1 with fail
  obtain ⟨w1, gx, hw, hgx, cw, cx, hb⟩ := two_in w (.int .i64 f) (.int .i64 r) (.int .i64 c) (.bool b) (.slice A0 n0 c0) (.slice B0 m0 d0)
  have CW := Lib.hid cw
  have CX := Lib.hid cx
  replace HB := Lib.hid (bstep HB.out hb)
  replace R0 := Lib.hid (R0.out.on hb)
  rw [hgx]
  rw [hw]
  clear hw hb hgx cw cx
  obtain ⟨x00, x01, x02⟩ := CX.out.three
  go_wp2_with fail
  refine (KL.out _ _ R0.out).mono ?_
  rintro e w2 ⟨rfl, hb⟩
  replace HB := Lib.hid (bstep HB.out hb)
  replace R0 := Lib.hid (R0.out.on hb)
  replace CW := Lib.hid (CW.out.on hb)
  replace CX := Lib.hid (CX.out.on hb)
  clear hb
  clear x00 x01 x02
  cases g with
  | false =>
    go_wp2_with fail
    refine (KQ.out _).mono ?_
    rintro e wq ⟨rfl, hb⟩
    have HF := Lib.hid (bstep HB.out hb)
    clear hb
    go_wp2_with fail
    go_ret
    exact ⟨rfl, HF.out⟩
  | true =>
  obtain ⟨x00, x01, x02⟩ := CW.out.three
  obtain ⟨x10, x11, x12⟩ := CX.out.three
  go_wp2_with fail
  refine (K1.out _ _ R0.out).mono ?_
  rintro e w3 ⟨b1, A1, n1, c1, B1, m1, d1, b2, A2, n2, c2, B2, m2, d2, b3, A3, n3, c3, B3, m3, d3, rfl, hp, hq, hr, hb⟩
  replace HB := Lib.hid (bstep HB.out hb)
  replace R0 := Lib.hid (R0.out.on hb)
  replace CW := Lib.hid (CW.out.on hb)
  replace CX := Lib.hid (CX.out.on hb)
  have R1 := Lib.hid hp
  have R2 := Lib.hid hq
  have R3 := Lib.hid hr
  clear hp hq hr hb
  clear x00 x01 x02 x10 x11 x12
  go_upto_region 4 with fail
  obtain ⟨w4, g1, g2, g3, hw, hg1, hg2, hg3, h1, h2, h3, hb⟩ := trio w3 (.bool b1) (.slice A1 n1 c1) (.slice B1 m1 d1) (.bool b2) (.slice A2 n2 c2) (.slice B2 m2 d2) (.bool b3) (.slice A3 n3 c3) (.slice B3 m3 d3)
  first | rw [hg1, hg2, hg3] | rw [hg1, hg2] | rw [hg1] | skip
  rw [hw]
  replace HB := Lib.hid (bstep HB.out hb)
  replace R0 := Lib.hid (R0.out.on hb)
  replace CW := Lib.hid (CW.out.on hb)
  replace CX := Lib.hid (CX.out.on hb)
  replace R1 := Lib.hid (R1.out.on hb)
  replace R2 := Lib.hid (R2.out.on hb)
  replace R3 := Lib.hid (R3.out.on hb)
  have G1 := Lib.hid h1
  have G2 := Lib.hid h2
  have G3 := Lib.hid h3
  clear hw hg1 hg2 hg3 h1 h2 h3 hb
  obtain ⟨x00, x01, x02⟩ := CW.out.three
  obtain ⟨x10, x11, x12⟩ := CX.out.three
  go_wp2_with fail
  refine (K2.out _ _ R0.out).mono ?_
  rintro e w5 ⟨b4, A4, n4, c4, B4, m4, d4, b5, A5, n5, c5, B5, m5, d5, b6, A6, n6, c6, B6, m6, d6, rfl, hp, hq, hr, hb⟩
  replace HB := Lib.hid (bstep HB.out hb)
  replace R0 := Lib.hid (R0.out.on hb)
  replace CW := Lib.hid (CW.out.on hb)
  replace CX := Lib.hid (CX.out.on hb)
  replace R1 := Lib.hid (R1.out.on hb)
  replace R2 := Lib.hid (R2.out.on hb)
  replace R3 := Lib.hid (R3.out.on hb)
  replace G1 := Lib.hid (G1.out.on hb)
  replace G2 := Lib.hid (G2.out.on hb)
  replace G3 := Lib.hid (G3.out.on hb)
  have R4 := Lib.hid hp
  have R5 := Lib.hid hq
  have R6 := Lib.hid hr
  clear hp hq hr hb
  clear x00 x01 x02 x10 x11 x12
  go_upto_region 5 with fail
  obtain ⟨w6, g4, g5, g6, hw, hg1, hg2, hg3, h1, h2, h3, hb⟩ := trio w5 (.bool b4) (.slice A4 n4 c4) (.slice B4 m4 d4) (.bool b5) (.slice A5 n5 c5) (.slice B5 m5 d5) (.bool b6) (.slice A6 n6 c6) (.slice B6 m6 d6)
  first | rw [hg1, hg2, hg3] | rw [hg1, hg2] | rw [hg1] | skip
  rw [hw]
  replace HB := Lib.hid (bstep HB.out hb)
  replace R0 := Lib.hid (R0.out.on hb)
  replace CW := Lib.hid (CW.out.on hb)
  replace CX := Lib.hid (CX.out.on hb)
  replace R1 := Lib.hid (R1.out.on hb)
  replace R2 := Lib.hid (R2.out.on hb)
  replace R3 := Lib.hid (R3.out.on hb)
  replace G1 := Lib.hid (G1.out.on hb)
  replace G2 := Lib.hid (G2.out.on hb)
  replace G3 := Lib.hid (G3.out.on hb)
  replace R4 := Lib.hid (R4.out.on hb)
  replace R5 := Lib.hid (R5.out.on hb)
  replace R6 := Lib.hid (R6.out.on hb)
  have G4 := Lib.hid h1
  have G5 := Lib.hid h2
  have G6 := Lib.hid h3
  clear hw hg1 hg2 hg3 h1 h2 h3 hb
  obtain ⟨x00, x01, x02⟩ := G1.out.three
  obtain ⟨x10, x11, x12⟩ := G4.out.three
  go_wp2_with fail
  refine (out_same R1.out R4.out).mono ?_
  rintro e w7 ⟨rfl, hb⟩
  replace HB := Lib.hid (bstep HB.out hb)
  replace R0 := Lib.hid (R0.out.on hb)
  replace CW := Lib.hid (CW.out.on hb)
  replace CX := Lib.hid (CX.out.on hb)
  replace R1 := Lib.hid (R1.out.on hb)
  replace R2 := Lib.hid (R2.out.on hb)
  replace R3 := Lib.hid (R3.out.on hb)
  replace G1 := Lib.hid (G1.out.on hb)
  replace G2 := Lib.hid (G2.out.on hb)
  replace G3 := Lib.hid (G3.out.on hb)
  replace R4 := Lib.hid (R4.out.on hb)
  replace R5 := Lib.hid (R5.out.on hb)
  replace R6 := Lib.hid (R6.out.on hb)
  replace G4 := Lib.hid (G4.out.on hb)
  replace G5 := Lib.hid (G5.out.on hb)
  replace G6 := Lib.hid (G6.out.on hb)
  clear hb
  clear x00 x01 x02 x10 x11 x12
  obtain ⟨x00, x01, x02⟩ := G2.out.three
  obtain ⟨x10, x11, x12⟩ := G5.out.three
  go_wp2_with fail
  refine (out_same R2.out R5.out).mono ?_
  rintro e w8 ⟨rfl, hb⟩
  replace HB := Lib.hid (bstep HB.out hb)
  replace R0 := Lib.hid (R0.out.on hb)
  replace CW := Lib.hid (CW.out.on hb)
  replace CX := Lib.hid (CX.out.on hb)
  replace R1 := Lib.hid (R1.out.on hb)
  replace R2 := Lib.hid (R2.out.on hb)
  replace R3 := Lib.hid (R3.out.on hb)
  replace G1 := Lib.hid (G1.out.on hb)
  replace G2 := Lib.hid (G2.out.on hb)
  replace G3 := Lib.hid (G3.out.on hb)
  replace R4 := Lib.hid (R4.out.on hb)
  replace R5 := Lib.hid (R5.out.on hb)
  replace R6 := Lib.hid (R6.out.on hb)
  replace G4 := Lib.hid (G4.out.on hb)
  replace G5 := Lib.hid (G5.out.on hb)
  replace G6 := Lib.hid (G6.out.on hb)
  clear hb
  clear x00 x01 x02 x10 x11 x12
  obtain ⟨x00, x01, x02⟩ := G3.out.three
  obtain ⟨x10, x11, x12⟩ := G6.out.three
  go_wp2_with fail
  refine (out_same R3.out R6.out).mono ?_
  rintro e w9 ⟨rfl, hb⟩
  replace HB := Lib.hid (bstep HB.out hb)
  replace R0 := Lib.hid (R0.out.on hb)
  replace CW := Lib.hid (CW.out.on hb)
  replace CX := Lib.hid (CX.out.on hb)
  replace R1 := Lib.hid (R1.out.on hb)
  replace R2 := Lib.hid (R2.out.on hb)
  replace R3 := Lib.hid (R3.out.on hb)
  replace G1 := Lib.hid (G1.out.on hb)
  replace G2 := Lib.hid (G2.out.on hb)
  replace G3 := Lib.hid (G3.out.on hb)
  replace R4 := Lib.hid (R4.out.on hb)
  replace R5 := Lib.hid (R5.out.on hb)
  replace R6 := Lib.hid (R6.out.on hb)
  replace G4 := Lib.hid (G4.out.on hb)
  replace G5 := Lib.hid (G5.out.on hb)
  replace G6 := Lib.hid (G6.out.on hb)
  clear hb
  clear x00 x01 x02 x10 x11 x12
  go_wp2_with fail
  refine (KQ.out _).mono ?_
  rintro e wq ⟨rfl, hb⟩
  have HF := Lib.hid (bstep HB.out hb)
  clear hb
  go_wp2_with fail
  go_ret
  exact ⟨rfl, HF.out⟩
set_option maxHeartbeats 6400000 in
theorem walk_WetAfters (KK : WeKit) (w : World) (f r c : Int) (v : Value) (b : Bool) (xs ys : List Int) (hv : InR w v b xs ys) (n : Int) :
    Calls Try.prog 5 #[.agg #[.int .i64 f, .int .i64 r, .int .i64 c], v, .int .i64 n] w fun e w' => e = .returned (.bool true) ∧ Below w.heap.size w w' := by
  have KQ := Lib.hid KK.awake
  have KL := Lib.hid fun (v : Value) (W : World) (h : InR W v b xs ys) => law_light v b xs ys W h
  obtain ⟨g, hg⟩ : ∃ x, ligB xs ys = x := ⟨_, rfl⟩
  rw [hg] at KL
  clear hg
  have K1 := Lib.hid fun (v : Value) (W : World) (h : InR W v b xs ys) => KK.after f r c v b xs ys n W h
  have K2 := Lib.hid fun (v : Value) (W : World) (h : InR W v b xs ys) => wr_After f r c v b xs ys n W h
  obtain ⟨E, hE⟩ : ∃ x, afE f r c b xs ys n = x := ⟨_, rfl⟩
  obtain ⟨vP, hP⟩ : ∃ x, afN f r c (ratV b xs ys) n.toNat = x := ⟨_, rfl⟩
  rw [hE, hP] at K1 K2
  clear hE hP
  have R0 := Lib.hid hv
  obtain ⟨vp, vq, rfl, ha, hb⟩ := hv
  obtain ⟨A0, c0, rfl, -⟩ := in_open ha
  obtain ⟨B0, d0, rfl, -⟩ := in_open hb
  obtain ⟨n0, hn0⟩ : ∃ n, xs.length = n := ⟨_, rfl⟩
  obtain ⟨m0, hm0⟩ : ∃ n, ys.length = n := ⟨_, rfl⟩
  rw [hn0, hm0] at R0 ⊢
  have HB := Lib.hid (Below.refl w.heap.size w)
  clear ha hb hn0 hm0
  go_enter Try.func5, Try.ntmps5
  go_upto_region 1 with fail
  obtain ⟨w1, gx, hw, hgx, cw, cx, hb⟩ := two_in w (.int .i64 f) (.int .i64 r) (.int .i64 c) (.bool b) (.slice A0 n0 c0) (.slice B0 m0 d0)
  have CW := Lib.hid cw
  have CX := Lib.hid cx
  replace HB := Lib.hid (bstep HB.out hb)
  replace R0 := Lib.hid (R0.out.on hb)
  rw [hgx]
  rw [hw]
  clear hw hb hgx cw cx
  obtain ⟨x00, x01, x02⟩ := CX.out.three
  go_wp2_with fail
  refine (KL.out _ _ R0.out).mono ?_
  rintro e w2 ⟨rfl, hb⟩
  replace HB := Lib.hid (bstep HB.out hb)
  replace R0 := Lib.hid (R0.out.on hb)
  replace CW := Lib.hid (CW.out.on hb)
  replace CX := Lib.hid (CX.out.on hb)
  clear hb
  clear x00 x01 x02
  cases g with
  | false =>
    go_wp2_with fail
    refine (KQ.out _).mono ?_
    rintro e wq ⟨rfl, hb⟩
    have HF := Lib.hid (bstep HB.out hb)
    clear hb
    go_wp2_with fail
    go_ret
    exact ⟨rfl, HF.out⟩
  | true =>
  have hd : (decide (5 < n) = false ∨ (decide (5 < n) = true ∧ decide (n ≤ 16) = false)) ∨ (decide (5 < n) = true ∧ decide (n ≤ 16) = true) := by
    by_cases h1 : 5 < n
    · by_cases h2 : n ≤ 16
      · exact Or.inr ⟨decide_eq_true h1, decide_eq_true h2⟩
      · exact Or.inl (Or.inr ⟨decide_eq_true h1, decide_eq_false h2⟩)
    · exact Or.inl (Or.inl (decide_eq_false h1))
  rcases hd with hd | ⟨nd1, nd2⟩
  rotate_left
  · go_wp2_with fail
    refine (KQ.out _).mono ?_
    rintro e wq ⟨rfl, hb⟩
    have HF := Lib.hid (bstep HB.out hb)
    clear hb
    go_wp2_with fail
    go_ret
    exact ⟨rfl, HF.out⟩
  rcases hd with nd1 | ⟨nd1, nd2⟩
  all_goals
    obtain ⟨x00, x01, x02⟩ := CW.out.three
    obtain ⟨x10, x11, x12⟩ := CX.out.three
    go_wp2_with fail
    refine (K1.out _ _ R0.out).mono ?_
    rintro e w3 h
    obtain ⟨b1, A1, n1, c1, B1, m1, d1, rfl, ho, hb⟩ := h.open_
    replace HB := Lib.hid (bstep HB.out hb)
    replace R0 := Lib.hid (R0.out.on hb)
    replace CW := Lib.hid (CW.out.on hb)
    replace CX := Lib.hid (CX.out.on hb)
    have R1 := Lib.hid ho
    clear h ho hb
    clear x00 x01 x02 x10 x11 x12
    go_upto_region 4 with fail
    obtain ⟨w4, g1, hw, hg1, h1, hb⟩ := solo w3 (.bool b1) (.slice A1 n1 c1) (.slice B1 m1 d1)
    first | rw [hg1] | skip
    rw [hw]
    replace HB := Lib.hid (bstep HB.out hb)
    replace R0 := Lib.hid (R0.out.on hb)
    replace CW := Lib.hid (CW.out.on hb)
    replace CX := Lib.hid (CX.out.on hb)
    replace R1 := Lib.hid (R1.out.on hb)
    have G1 := Lib.hid h1
    clear hw hg1 h1 hb
    obtain ⟨x00, x01, x02⟩ := CW.out.three
    obtain ⟨x10, x11, x12⟩ := CX.out.three
    go_wp2_with fail
    refine (K2.out _ _ R0.out).mono ?_
    rintro e w5 h
    obtain ⟨b2, A2, n2, c2, B2, m2, d2, rfl, ho, hb⟩ := h.open_
    replace HB := Lib.hid (bstep HB.out hb)
    replace R0 := Lib.hid (R0.out.on hb)
    replace CW := Lib.hid (CW.out.on hb)
    replace CX := Lib.hid (CX.out.on hb)
    replace R1 := Lib.hid (R1.out.on hb)
    replace G1 := Lib.hid (G1.out.on hb)
    have R2 := Lib.hid ho
    clear h ho hb
    clear x00 x01 x02 x10 x11 x12
    go_upto_region 5 with fail
    obtain ⟨w6, g2, hw, hg1, h1, hb⟩ := solo w5 (.bool b2) (.slice A2 n2 c2) (.slice B2 m2 d2)
    first | rw [hg1] | skip
    rw [hw]
    replace HB := Lib.hid (bstep HB.out hb)
    replace R0 := Lib.hid (R0.out.on hb)
    replace CW := Lib.hid (CW.out.on hb)
    replace CX := Lib.hid (CX.out.on hb)
    replace R1 := Lib.hid (R1.out.on hb)
    replace G1 := Lib.hid (G1.out.on hb)
    replace R2 := Lib.hid (R2.out.on hb)
    have G2 := Lib.hid h1
    clear hw hg1 h1 hb
    obtain ⟨x00, x01, x02⟩ := G1.out.three
    obtain ⟨x10, x11, x12⟩ := G2.out.three
    go_wp2_with fail
    refine (out_same R1.out R2.out).mono ?_
    rintro e w7 ⟨rfl, hb⟩
    replace HB := Lib.hid (bstep HB.out hb)
    replace R0 := Lib.hid (R0.out.on hb)
    replace CW := Lib.hid (CW.out.on hb)
    replace CX := Lib.hid (CX.out.on hb)
    replace R1 := Lib.hid (R1.out.on hb)
    replace G1 := Lib.hid (G1.out.on hb)
    replace R2 := Lib.hid (R2.out.on hb)
    replace G2 := Lib.hid (G2.out.on hb)
    clear hb
    clear x00 x01 x02 x10 x11 x12
    go_wp2_with fail
    refine (KQ.out _).mono ?_
    rintro e wq ⟨rfl, hb⟩
    have HF := Lib.hid (bstep HB.out hb)
    clear hb
    go_wp2_with fail
    go_ret
    exact ⟨rfl, HF.out⟩
set_option maxHeartbeats 6400000 in
theorem walk_WetPapers (KK : WeKit) (w : World) (f r c : Int) (v : Value) (b : Bool) (xs ys : List Int) (hv : InR w v b xs ys) (n : Int) :
    Calls Try.prog 6 #[.agg #[.int .i64 f, .int .i64 r, .int .i64 c], v, .int .i64 n] w fun e w' => e = .returned (.bool true) ∧ Below w.heap.size w w' := by
  have KQ := Lib.hid KK.awake
  have KL := Lib.hid fun (v : Value) (W : World) (h : InR W v b xs ys) => law_light v b xs ys W h
  obtain ⟨g, hg⟩ : ∃ x, ligB xs ys = x := ⟨_, rfl⟩
  rw [hg] at KL
  clear hg
  have K1 := Lib.hid fun (v : Value) (W : World) (h : InR W v b xs ys) => KK.paper f r c v b xs ys n W h
  have K2 := Lib.hid fun (v : Value) (W : World) (h : InR W v b xs ys) => wr_Paper f r c v b xs ys n W h
  obtain ⟨E, hE⟩ : ∃ x, afE f r c b xs ys n = x := ⟨_, rfl⟩
  obtain ⟨vP, hP⟩ : ∃ x, paN f r c (ratV b xs ys) n.toNat = x := ⟨_, rfl⟩
  rw [hE, hP] at K1 K2
  clear hE hP
  have R0 := Lib.hid hv
  obtain ⟨vp, vq, rfl, ha, hb⟩ := hv
  obtain ⟨A0, c0, rfl, -⟩ := in_open ha
  obtain ⟨B0, d0, rfl, -⟩ := in_open hb
  obtain ⟨n0, hn0⟩ : ∃ n, xs.length = n := ⟨_, rfl⟩
  obtain ⟨m0, hm0⟩ : ∃ n, ys.length = n := ⟨_, rfl⟩
  rw [hn0, hm0] at R0 ⊢
  have HB := Lib.hid (Below.refl w.heap.size w)
  clear ha hb hn0 hm0
  go_enter Try.func6, Try.ntmps6
  go_upto_region 1 with fail
  obtain ⟨w1, gx, hw, hgx, cw, cx, hb⟩ := two_in w (.int .i64 f) (.int .i64 r) (.int .i64 c) (.bool b) (.slice A0 n0 c0) (.slice B0 m0 d0)
  have CW := Lib.hid cw
  have CX := Lib.hid cx
  replace HB := Lib.hid (bstep HB.out hb)
  replace R0 := Lib.hid (R0.out.on hb)
  rw [hgx]
  rw [hw]
  clear hw hb hgx cw cx
  obtain ⟨x00, x01, x02⟩ := CX.out.three
  go_wp2_with fail
  refine (KL.out _ _ R0.out).mono ?_
  rintro e w2 ⟨rfl, hb⟩
  replace HB := Lib.hid (bstep HB.out hb)
  replace R0 := Lib.hid (R0.out.on hb)
  replace CW := Lib.hid (CW.out.on hb)
  replace CX := Lib.hid (CX.out.on hb)
  clear hb
  clear x00 x01 x02
  cases g with
  | false =>
    go_wp2_with fail
    refine (KQ.out _).mono ?_
    rintro e wq ⟨rfl, hb⟩
    have HF := Lib.hid (bstep HB.out hb)
    clear hb
    go_wp2_with fail
    go_ret
    exact ⟨rfl, HF.out⟩
  | true =>
  have hd : (decide (5 < n) = false ∨ (decide (5 < n) = true ∧ decide (n ≤ 16) = false)) ∨ (decide (5 < n) = true ∧ decide (n ≤ 16) = true) := by
    by_cases h1 : 5 < n
    · by_cases h2 : n ≤ 16
      · exact Or.inr ⟨decide_eq_true h1, decide_eq_true h2⟩
      · exact Or.inl (Or.inr ⟨decide_eq_true h1, decide_eq_false h2⟩)
    · exact Or.inl (Or.inl (decide_eq_false h1))
  rcases hd with hd | ⟨nd1, nd2⟩
  rotate_left
  · go_wp2_with fail
    refine (KQ.out _).mono ?_
    rintro e wq ⟨rfl, hb⟩
    have HF := Lib.hid (bstep HB.out hb)
    clear hb
    go_wp2_with fail
    go_ret
    exact ⟨rfl, HF.out⟩
  rcases hd with nd1 | ⟨nd1, nd2⟩
  all_goals
    obtain ⟨x00, x01, x02⟩ := CW.out.three
    obtain ⟨x10, x11, x12⟩ := CX.out.three
    go_wp2_with fail
    refine (K1.out _ _ R0.out).mono ?_
    rintro e w3 h
    obtain ⟨b1, A1, n1, c1, B1, m1, d1, rfl, ho, hb⟩ := h.open_
    replace HB := Lib.hid (bstep HB.out hb)
    replace R0 := Lib.hid (R0.out.on hb)
    replace CW := Lib.hid (CW.out.on hb)
    replace CX := Lib.hid (CX.out.on hb)
    have R1 := Lib.hid ho
    clear h ho hb
    clear x00 x01 x02 x10 x11 x12
    go_upto_region 4 with fail
    obtain ⟨w4, g1, hw, hg1, h1, hb⟩ := solo w3 (.bool b1) (.slice A1 n1 c1) (.slice B1 m1 d1)
    first | rw [hg1] | skip
    rw [hw]
    replace HB := Lib.hid (bstep HB.out hb)
    replace R0 := Lib.hid (R0.out.on hb)
    replace CW := Lib.hid (CW.out.on hb)
    replace CX := Lib.hid (CX.out.on hb)
    replace R1 := Lib.hid (R1.out.on hb)
    have G1 := Lib.hid h1
    clear hw hg1 h1 hb
    obtain ⟨x00, x01, x02⟩ := CW.out.three
    obtain ⟨x10, x11, x12⟩ := CX.out.three
    go_wp2_with fail
    refine (K2.out _ _ R0.out).mono ?_
    rintro e w5 h
    obtain ⟨b2, A2, n2, c2, B2, m2, d2, rfl, ho, hb⟩ := h.open_
    replace HB := Lib.hid (bstep HB.out hb)
    replace R0 := Lib.hid (R0.out.on hb)
    replace CW := Lib.hid (CW.out.on hb)
    replace CX := Lib.hid (CX.out.on hb)
    replace R1 := Lib.hid (R1.out.on hb)
    replace G1 := Lib.hid (G1.out.on hb)
    have R2 := Lib.hid ho
    clear h ho hb
    clear x00 x01 x02 x10 x11 x12
    go_upto_region 5 with fail
    obtain ⟨w6, g2, hw, hg1, h1, hb⟩ := solo w5 (.bool b2) (.slice A2 n2 c2) (.slice B2 m2 d2)
    first | rw [hg1] | skip
    rw [hw]
    replace HB := Lib.hid (bstep HB.out hb)
    replace R0 := Lib.hid (R0.out.on hb)
    replace CW := Lib.hid (CW.out.on hb)
    replace CX := Lib.hid (CX.out.on hb)
    replace R1 := Lib.hid (R1.out.on hb)
    replace G1 := Lib.hid (G1.out.on hb)
    replace R2 := Lib.hid (R2.out.on hb)
    have G2 := Lib.hid h1
    clear hw hg1 h1 hb
    obtain ⟨x00, x01, x02⟩ := G1.out.three
    obtain ⟨x10, x11, x12⟩ := G2.out.three
    go_wp2_with fail
    refine (out_same R1.out R2.out).mono ?_
    rintro e w7 ⟨rfl, hb⟩
    replace HB := Lib.hid (bstep HB.out hb)
    replace R0 := Lib.hid (R0.out.on hb)
    replace CW := Lib.hid (CW.out.on hb)
    replace CX := Lib.hid (CX.out.on hb)
    replace R1 := Lib.hid (R1.out.on hb)
    replace G1 := Lib.hid (G1.out.on hb)
    replace R2 := Lib.hid (R2.out.on hb)
    replace G2 := Lib.hid (G2.out.on hb)
    clear hb
    clear x00 x01 x02 x10 x11 x12
    go_wp2_with fail
    refine (KQ.out _).mono ?_
    rintro e wq ⟨rfl, hb⟩
    have HF := Lib.hid (bstep HB.out hb)
    clear hb
    go_wp2_with fail
    go_ret
    exact ⟨rfl, HF.out⟩
end Go.Proofs.Ytohfaoclemcfaaa.Wet
/- The law Checks over WeKit. -/
namespace Go.Proofs.Ytohfaoclemcfaaa.Wet
open Go.ChangeShapes Go.WideShapes Go.RowKit Go.Lib
open Go.Proofs.Ytohfaoclemcfaaa.Rw (ret_bool ret_int bstep below_drewN below_drew drew_below below_alloc)
set_option linter.unusedVariables false
set_option maxRecDepth 100000

set_option maxHeartbeats 6400000 in
theorem walk_WetChecks (KK : WeKit) (w : World) (f r c : Int) :
    Calls Try.prog 3 #[.agg #[.int .i64 f, .int .i64 r, .int .i64 c]] w fun e w' => e = .returned (.bool true) ∧ Below w.heap.size w w' := by
  have KQ := Lib.hid KK.awake
  have K1 := Lib.hid fun (W : World) => KK.steady f r c W
  have K2 := Lib.hid fun (W : World) => wr_Steady f r c W
  have K3 := Lib.hid fun (W : World) => KK.check f r c W
  have K4 := Lib.hid fun (W : World) => wr_Check f r c W
  obtain ⟨E, hE⟩ : ∃ x, ckW f r c = x := ⟨_, rfl⟩
  obtain ⟨vP, hP⟩ : ∃ x, sdV f r c = x := ⟨_, rfl⟩
  rw [hE, hP] at K1 K2
  rw [hE] at K3 K4
  clear hE hP
  have HB := Lib.hid (Below.refl w.heap.size w)
  go_enter Try.func3, Try.ntmps3
  go_upto_region 1 with fail
  obtain ⟨w1, hw⟩ : ∃ W, w.alloc (.cells #[.int .i64 f, .int .i64 r, .int .i64 c] 23) = W := ⟨_, rfl⟩
  have CW : Hid (Rw.Cel w1 w.heap.size [.int .i64 f, .int .i64 r, .int .i64 c]) := hw ▸ Rw.Cel.new w [_, _, _] _
  replace HB : Hid (Below w.heap.size w w1) := hw ▸ below_alloc _ _
  rw [hw]
  clear hw
  obtain ⟨x00, x01, x02⟩ := CW.out.three
  go_wp2_with fail
  refine (K1.out _).mono ?_
  rintro e w3 h
  obtain ⟨b1, A1, n1, c1, B1, m1, d1, rfl, ho, hb⟩ := h.open_
  replace HB := Lib.hid (bstep HB.out hb)
  replace CW := Lib.hid (CW.out.on hb)
  have R1 := Lib.hid ho
  clear h ho hb
  clear x00 x01 x02
  go_upto_region 2 with fail
  obtain ⟨w4, g1, hw, hg1, h1, hb⟩ := solo w3 (.bool b1) (.slice A1 n1 c1) (.slice B1 m1 d1)
  first | rw [hg1] | skip
  rw [hw]
  replace HB := Lib.hid (bstep HB.out hb)
  replace CW := Lib.hid (CW.out.on hb)
  replace R1 := Lib.hid (R1.out.on hb)
  have G1 := Lib.hid h1
  clear hw hg1 h1 hb
  obtain ⟨x00, x01, x02⟩ := CW.out.three
  go_wp2_with fail
  refine (K2.out _).mono ?_
  rintro e w5 h
  obtain ⟨b2, A2, n2, c2, B2, m2, d2, rfl, ho, hb⟩ := h.open_
  replace HB := Lib.hid (bstep HB.out hb)
  replace CW := Lib.hid (CW.out.on hb)
  replace R1 := Lib.hid (R1.out.on hb)
  replace G1 := Lib.hid (G1.out.on hb)
  have R2 := Lib.hid ho
  clear h ho hb
  clear x00 x01 x02
  go_upto_region 3 with fail
  obtain ⟨w6, g2, hw, hg1, h1, hb⟩ := solo w5 (.bool b2) (.slice A2 n2 c2) (.slice B2 m2 d2)
  first | rw [hg1] | skip
  rw [hw]
  replace HB := Lib.hid (bstep HB.out hb)
  replace CW := Lib.hid (CW.out.on hb)
  replace R1 := Lib.hid (R1.out.on hb)
  replace G1 := Lib.hid (G1.out.on hb)
  replace R2 := Lib.hid (R2.out.on hb)
  have G2 := Lib.hid h1
  clear hw hg1 h1 hb
  have HX := Lib.hid fun (W : World) (h : Below w6.heap.size w6 W) => (CW.out.on h).three
  have HY := Lib.hid fun (W : World) (h : Below w6.heap.size w6 W) => (G1.out.on h).three
  have HZ := Lib.hid fun (W : World) (h : Below w6.heap.size w6 W) => (G2.out.on h).three
  have K7 := Lib.hid fun (W : World) (h : Below w6.heap.size w6 W) => out_same (R1.out.on h) (R2.out.on h)
  have HBL := Lib.hid (Below.refl w6.heap.size w6)
  clear CW R1 R2 G1 G2
  have HC := Lib.hid fun (W : World) (h : Below w6.heap.size w6 W) =>
    (And.intro (HX.out W h).1 (And.intro (HX.out W h).2.1 (And.intro (HX.out W h).2.2 (And.intro (HY.out W h).1 (And.intro (HY.out W h).2.1 (And.intro (HY.out W h).2.2 (HZ.out W h)))))))
  obtain ⟨x00, x01, x02⟩ := HX.out w6 HBL.out
  obtain ⟨x10, x11, x12⟩ := HY.out w6 HBL.out
  obtain ⟨x20, x21, x22⟩ := HZ.out w6 HBL.out
  clear HX HY HZ
  go_region_held3 (fun W => W.cell? ⟨w.heap.size, 0, none⟩ = some (.int .i64 f) ∧ W.cell? ⟨w.heap.size, 1, none⟩ = some (.int .i64 r) ∧ W.cell? ⟨w.heap.size, 2, none⟩ = some (.int .i64 c)
      ∧ W.cell? ⟨g1, 0, none⟩ = some (.bool b1) ∧ W.cell? ⟨g1, 1, none⟩ = some (.slice A1 n1 c1) ∧ W.cell? ⟨g1, 2, none⟩ = some (.slice B1 m1 d1)
      ∧ W.cell? ⟨g2, 0, none⟩ = some (.bool b2) ∧ W.cell? ⟨g2, 1, none⟩ = some (.slice A2 n2 c2) ∧ W.cell? ⟨g2, 2, none⟩ = some (.slice B2 m2 d2))
    (first | exact HC.out _ HBL.out | exact HC.out _ (bstep HBL.out (drew_below _)))
    ((first
    | (go_at_call 12; (with_reducible refine (K3.out _).mono ?_); rintro e wa ⟨rfl, hba⟩; (replace HBL := Lib.hid (bstep (bstep HBL.out (drew_below _)) hba)); clear hba)
    | (go_at_call 12; (with_reducible refine (K3.out _).mono ?_); rintro e wa ⟨rfl, hba⟩; (replace HBL := Lib.hid (bstep HBL.out hba)); clear hba)
    | (go_at_call 13; (with_reducible refine (K4.out _).mono ?_); rintro e wa ⟨rfl, hba⟩; (replace HBL := Lib.hid (bstep (bstep HBL.out (drew_below _)) hba)); clear hba)
    | (go_at_call 13; (with_reducible refine (K4.out _).mono ?_); rintro e wa ⟨rfl, hba⟩; (replace HBL := Lib.hid (bstep HBL.out hba)); clear hba)
    | (go_at_call 14; (with_reducible refine (K7.out _ (bstep HBL.out (drew_below _))).mono ?_); rintro e wa ⟨rfl, hba⟩; (replace HBL := Lib.hid (bstep (bstep HBL.out (drew_below _)) hba)); clear hba)
    | (go_at_call 14; (with_reducible refine (K7.out _ HBL.out).mono ?_); rintro e wa ⟨rfl, hba⟩; (replace HBL := Lib.hid (bstep HBL.out hba)); clear hba)
    | (go_at_call 15; (with_reducible refine (KQ.out _).mono ?_); rintro e wa ⟨rfl, hba⟩; (replace HBL := Lib.hid (bstep (bstep HBL.out (drew_below _)) hba)); clear hba)
    | (go_at_call 15; (with_reducible refine (KQ.out _).mono ?_); rintro e wa ⟨rfl, hba⟩; (replace HBL := Lib.hid (bstep HBL.out hba)); clear hba)))
  all_goals
    go_wp2_with fail
    go_ret
    exact ⟨rfl, bstep HB.out HBL.out⟩
end Go.Proofs.Ytohfaoclemcfaaa.Wet
/- The numbers of a step are not negative, and their sums fit (pure). -/
namespace Go.Proofs.Ytohfaoclemcfaaa.Wet
set_option linter.unusedVariables false
set_option maxRecDepth 100000

theorem mkV_nn {p q : Int} (hp : 0 ≤ p) (hq : 0 < q) : 0 ≤ mkV p q := by
  obtain ⟨a, rfl⟩ : ∃ a : Nat, p = a := ⟨p.toNat, by omega⟩
  obtain ⟨b, rfl⟩ : ∃ b : Nat, q = b := ⟨q.toNat, by omega⟩
  have h := mkV_mul (p := (a : Int)) (q := (b : Int)) hp hq
  have h0 : (0 : Rat) < ((b : Int) : Rat) := Rat.intCast_pos.mpr hq
  have h1 : (0 : Rat) ≤ ((a : Int) : Rat) := Rat.intCast_nonneg.mpr hp
  by_cases hn : 0 ≤ mkV (a : Int) (b : Int)
  · exact hn
  · have h2 : 0 < -mkV (a : Int) (b : Int) := by
      have := Rat.not_le.mp hn
      grind
    have h3 := Rat.mul_pos h2 h0
    rw [Rat.neg_mul, h] at h3
    grind
/-- What is left of a part of a thousand. -/
theorem left_eq {x : Rat} {k : Int} (hk : 0 ≤ k ∧ k ≤ 1000) : subOp x (x * mkV k 1000) = x * mkV (1000 - k) 1000 := by
  have h1 := mkV_mul (p := k) (q := 1000) hk.1 (by decide)
  have h2 := mkV_mul (p := 1000 - k) (q := 1000) (by omega) (by decide)
  have e2 : ((1000 : Int) : Rat) = 1000 := rfl
  rw [Rat.intCast_sub] at h2
  rw [e2] at h1 h2
  unfold subOp
  grind
theorem step_nn {f r c : Int} {W : Rat} (hf : 0 ≤ f) (hr : 1 ≤ r ∧ r ≤ 1000) (hc : 0 ≤ c ∧ c ≤ 999) (hW : 0 ≤ W) :
    0 ≤ paV f r W ∧ 0 ≤ seV f r c W ∧ 0 ≤ afV f r c W := by
  have h0 : 0 ≤ hdV f W := Rat.add_nonneg (mkV_nn hf (by decide)) hW
  have hre : reV f r W = hdV f W * mkV (1000 - r) 1000 := left_eq (by omega)
  have h1 : 0 ≤ reV f r W := by rw [hre]; exact Rat.mul_nonneg h0 (mkV_nn (by omega) (by decide))
  have hse : seV f r c W = reV f r W * mkV (1000 - c) 1000 := left_eq (by omega)
  refine ⟨Rat.mul_nonneg h0 (mkV_nn (by omega) (by decide)), ?_, Rat.mul_nonneg h1 (mkV_nn (by omega) (by decide))⟩
  rw [hse]
  exact Rat.mul_nonneg h1 (mkV_nn (by omega) (by decide))
theorem bal_mx : ∀ B M, B < lim8 → M < lim8 → ∃ D H, B * 1000 * 1000 = D ∧ (1099511627776 * B + M) * 1000 * 1000 = H ∧ (D < big48 ∧ 3 * H < big48) ∧ (2 * H * D + 2 * H * D < big48 ∧ D * D < big48) ∧ 3 * H * D + H * D < big48 := by
  intro B M hB hM
  have e : ∀ D H, D ≤ lim8 * 1000000 → H ≤ 1099511627777 * lim8 * 1000000 → (D < big48 ∧ 3 * H < big48) ∧ (2 * H * D + 2 * H * D < big48 ∧ D * D < big48) ∧ 3 * H * D + H * D < big48 := by
    intro D H h1 h2
    have h3 : H * D ≤ (1099511627777 * lim8 * 1000000) * (lim8 * 1000000) := Nat.mul_le_mul h2 h1
    have h4 : D * D ≤ (lim8 * 1000000) * (lim8 * 1000000) := Nat.mul_le_mul h1 h1
    have k1 : lim8 * 1000000 < big48 := by decide +kernel
    have k2 : 3 * (1099511627777 * lim8 * 1000000) < big48 := by decide +kernel
    have k3 : 4 * ((1099511627777 * lim8 * 1000000) * (lim8 * 1000000)) < big48 := by decide +kernel
    have k4 : (lim8 * 1000000) * (lim8 * 1000000) < big48 := by decide +kernel
    have e1 : 2 * H * D = 2 * (H * D) := Nat.mul_assoc ..
    have e2 : 3 * H * D = 3 * (H * D) := Nat.mul_assoc ..
    refine ⟨⟨Nat.lt_of_le_of_lt h1 k1, Nat.lt_of_le_of_lt (Nat.mul_le_mul_left 3 h2) k2⟩, ⟨?_, Nat.lt_of_le_of_lt h4 k4⟩, ?_⟩
    · rw [e1]
      refine Nat.lt_of_le_of_lt ?_ k3
      rw [← Nat.add_mul]
      exact Nat.mul_le_mul_left _ h3
    · rw [e2]
      refine Nat.lt_of_le_of_lt ?_ k3
      rw [show 3 * (H * D) + H * D = 4 * (H * D) by omega]
      exact Nat.mul_le_mul_left _ h3
  refine ⟨_, _, rfl, rfl, e _ _ (by omega) (by omega)⟩
/-- What the law of the balance adds fits. -/
structure Bal (f r c : Int) (q : Rat) : Prop where
  fp : fitR (paV f r q) = true
  fs : fitR (seV f r c q) = true
  fa : fitR (afV f r c q) = true
  fx : fitR (paV f r q + seV f r c q) = true
  s1 : sumOk (paV f r q) (seV f r c q) = true
  s2 : sumOk (paV f r q + seV f r c q) (afV f r c q) = true
theorem Bal.mk' {f r c : Int} {q : Rat} (h1 : q.den < lim8) (h2 : q.num.natAbs < lim8) (hk : ckW f r c = 0) : Bal f r c q := by
  obtain ⟨hf, hr, hc⟩ := ckW_of hk
  have hq := fr_self q
  have hd := hd_fr hq hf
  have HE := re_fr hd (r := r) (by omega)
  have HA := HE.mul (k_fr (k := c) (by omega))
  have HP := (pa_fr hq hf (r := r) (by omega)).up (k := 1000) (by decide)
  have HS := (HE.up (k := 1000) (by decide)).add HA.neg
  obtain ⟨D, H, e1, e2, ⟨a1, a2⟩, ⟨b1, b2⟩, b3⟩ := bal_mx q.den q.num.natAbs h1 h2
  rw [e1, e2] at HA HP HS
  have HX := HP.add HS
  refine ⟨HP.fit a1 (by omega), HS.fit a1 (by omega), HA.fit a1 (by omega), HX.fit a1 (by omega), ?_, ?_⟩
  · refine HP.sum_ok HS ?_ b2
    have e3 : (H + H) * D = 2 * H * D := by rw [show H + H = 2 * H by omega]
    have e4 : H * D ≤ 2 * H * D := Nat.mul_le_mul_right _ (by omega)
    omega
  · refine HX.sum_ok HA ?_ b2
    have e3 : (H + (H + H)) * D = 3 * H * D := by rw [show H + (H + H) = 3 * H by omega]
    omega
end Go.Proofs.Ytohfaoclemcfaaa.Wet
