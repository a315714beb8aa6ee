/- Several texts in one: TankPA, TankPB. -/
import Derived.Test.YtgmlccjjhmhgbaaPk17
import Derived.Test.YtgmlccjjhmhgbaaPk18
import Derived.Test.YtgmlccjjhmhgbaaPk15
/- The program of the stage: contracts of rat at valid numbers, the level against a mass, first errors; what a function that is handed on must keep. -/
namespace Go.Proofs.Ytgmlccjjhmhgbaa.Tank
open Go.ChangeShapes Go.WideShapes Go.RowKit Go.Lib
open Go.Proofs.Ytgmlccjjhmhgbaa.Rw (Rd Row Kd glt get_lt flat_len flat_at own_set below_alloc bstep wrap_id below_drewN below_drew drew_below take_snoc_of)
set_option linter.unusedVariables false
set_option maxRecDepth 100000

/-! ### rat at valid numbers -/
theorem yq_Add (r s : Rat) (hr : fitR r = true) (hs : fitR s = true) (v u : Value) (w : World) (hv : IsR w v r) (hu : IsR w u s) :
    Calls Try.prog 49 #[v, u] w (RRes w (okE (sumOk r s)) (r + s)) := by
  have h := rat_Add (negR r) (topL r) (botL r) (negR s) (topL s) (botL s) v u w hv hu
  rw [(op_form (ok := sumOk) (f := addOp) hr hs).1, (op_form (ok := sumOk) (f := addOp) hr hs).2] at h
  exact h
theorem yq_Sub (r s : Rat) (hr : fitR r = true) (hs : fitR s = true) (v u : Value) (w : World) (hv : IsR w v r) (hu : IsR w u s) :
    Calls Try.prog 20 #[v, u] w (RRes w (okE (subOk r s)) (subOp r s)) := by
  have h := rat_Sub (negR r) (topL r) (botL r) (negR s) (topL s) (botL s) v u w hv hu
  rw [(op_form (ok := subOk) (f := subOp) hr hs).1, (op_form (ok := subOk) (f := subOp) hr hs).2] at h
  exact h
theorem yq_Mul (r s : Rat) (hr : fitR r = true) (hs : fitR s = true) (v u : Value) (w : World) (hv : IsR w v r) (hu : IsR w u s) :
    Calls Try.prog 38 #[v, u] w (RRes w (okE (mulOk r s)) (r * s)) := by
  have h := rat_Mul (negR r) (topL r) (botL r) (negR s) (topL s) (botL s) v u w hv hu
  rw [(op_form (ok := mulOk) (f := mulOp) hr hs).1, (op_form (ok := mulOk) (f := mulOp) hr hs).2] at h
  exact h
theorem yq_Div (r s : Rat) (hr : fitR r = true) (hs : fitR s = true) (v u : Value) (w : World) (hv : IsR w v r) (hu : IsR w u s) :
    Calls Try.prog 21 #[v, u] w (RRes w (divEr r s) (divOp r s)) := by
  have h := rat_Div (negR r) (topL r) (botL r) (negR s) (topL s) (botL s) v u w hv hu
  rw [(opG_form (er := divEr) (f := divOp) hr hs).1, (opG_form (er := divEr) (f := divOp) hr hs).2] at h
  exact h
theorem yq_Cmp (r s : Rat) (hr : fitR r = true) (hs : fitR s = true) (v u : Value) (w : World) (hv : IsR w v r) (hu : IsR w u s) :
    Calls Try.prog 25 #[v, u] w fun e w' => e = .returned (.tuple #[.int .i64 (cmpG r s), .int .i64 (okE (crossOk r s))]) ∧ Below w.heap.size w w' := by
  have h := rat_Cmp (negR r) (topL r) (botL r) (negR s) (topL s) (botL s) v u w hv hu
  rw [cmpW_form hr hs, (op_form (ok := crossOk) (f := addOp) hr hs).1] at h
  exact h
theorem yq_Of (n : Int) (h : 0 ≤ n) (h2 : n ≤ 1099511627776) (w : World) : Calls Try.prog 24 #[.int .i64 n] w (RRes w 0 (qI n)) := by
  have := rat_Of n w (by omega) (by omega)
  rw [qI_ok h h2] at this
  exact this
theorem rQ_le {r : Rat} {m : Int} (h0 : 0 ≤ r) (m0 : 0 ≤ m) (h1 : r ≤ qI m) : (rQ r : Int) ≤ m := by
  rw [Rat.le_iff, (qI_num m).1, (qI_num m).2] at h1
  have hn : 0 ≤ r.num := Rat.num_nonneg.mpr h0
  obtain ⟨M, rfl⟩ : ∃ M : Nat, m = M := ⟨m.toNat, by omega⟩
  obtain ⟨K, hK⟩ : ∃ K : Nat, r.num = K := ⟨r.num.toNat, by omega⟩
  rw [hK] at h1
  unfold rQ
  rw [hK]
  have h2 : K ≤ r.den * M := by
    have h3 : ((K * 1 : Nat) : Int) ≤ ((M * r.den : Nat) : Int) := by rw [Int.natCast_mul, Int.natCast_mul]; exact h1
    have h4 := Int.ofNat_le.mp h3
    rw [Nat.mul_comm r.den M]; omega
  have h5 : K / r.den ≤ M := Nat.div_le_of_le_mul h2
  show ((K / r.den : Nat) : Int) ≤ (M : Int)
  omega
theorem rQ_lt_iff {r : Rat} {m : Int} (h0 : 0 ≤ r) (m0 : 0 ≤ m) : (rQ r : Int) < m ↔ r < qI m := by
  rw [Rat.lt_iff, (qI_num m).1, (qI_num m).2]
  have hn : 0 ≤ r.num := Rat.num_nonneg.mpr h0
  obtain ⟨M, rfl⟩ : ∃ M : Nat, m = M := ⟨m.toNat, by omega⟩
  obtain ⟨K, hK⟩ : ∃ K : Nat, r.num = K := ⟨r.num.toNat, by omega⟩
  unfold rQ
  rw [hK]
  have h1 := Nat.div_lt_iff_lt_mul (x := K) (y := M) (den_pos' r)
  have h2 : ((K : Int) * ((1 : Nat) : Int) < (M : Int) * (r.den : Int)) ↔ K < M * r.den := by
    rw [← Int.natCast_mul, ← Int.natCast_mul, Nat.mul_one]; exact Int.ofNat_lt
  rw [h2, ← h1]
  show ((K / r.den : Nat) : Int) < (M : Int) ↔ _
  omega
/-- The greatest integer that is not above. -/
theorem yq_Floor (r : Rat) (hr : fitR r = true) (h0 : 0 ≤ r) (h1 : r ≤ qI MM) (v : Value) (w : World) (hv : IsR w v r) :
    Calls Try.prog 16 #[v] w fun e w' => e = .returned (.tuple #[.int .i64 (rQ r : Int), .int .i64 0]) ∧ Below w.heap.size w w' := by
  have h := rat_Floor (negR r) (topL r) (botL r) v w hv
  have hn : negR r = false := neg_iff.mpr h0
  have hM : MM = 1099511627776 := rfl
  have hq := rQ_le h0 (by omega) h1
  have hq2 : rmag r false = rQ r := rmag_down r
  have hq3 : rQ r ≤ 1125899906842624 := by omega
  obtain ⟨e1, e2⟩ := rnd_ok hq2 hq3
  have f1 : floorV (negR r) (topL r) (botL r) = (rQ r : Int) := by
    unfold floorV
    rw [rW_form hr, hn, e1, hn]; rfl
  have f2 : floorE (negR r) (topL r) (botL r) = 0 := by
    unfold floorE
    rw [rE_form hr, hn, e2]
  rw [f1, f2] at h
  exact h
/-! ### The level against a mass -/
theorem cross_le {cap : Int} {L : List Trip} {mass : Int} (h : TOk cap L) (m0 : 0 ≤ mass) (mc : mass ≤ cap) : crossOk (qI mass) (sumV L) = true := by
  have h1 := h.cross
  unfold crossOk at h1 ⊢
  rw [Bool.and_eq_true, decide_eq_true_iff, decide_eq_true_iff, (qI_num _).1, (qI_num _).2] at h1
  rw [Bool.and_eq_true, decide_eq_true_iff, decide_eq_true_iff, (qI_num _).1, (qI_num _).2]
  exact ⟨Nat.lt_of_le_of_lt (Nat.mul_le_mul_right _ (by omega)) h1.2, h1.1⟩
theorem TOk.pos {cap : Int} {L : List Trip} (h : TOk cap L) : 0 ≤ sumV L ∧ sumV L ≤ qI MM ∧ fitR (sumV L) = true := by
  obtain ⟨h1, h2, h3⟩ := h.level
  refine ⟨by rw [h1]; exact sumR_nonneg fun q hq => (h3 q hq).2, Rat.le_trans h2 (qI_le h.c1), sumE_fit h.sum⟩
theorem stock_iff {cap : Int} {L : List Trip} {mass : Int} (h : TOk cap L) (m0 : 0 ≤ mass) : (rQ (sumV L) : Int) < mass ↔ (cap < mass ∨ 0 < cmpG (qI mass) (sumV L)) := by
  rw [rQ_lt_iff h.pos.1 m0]
  constructor
  · intro k
    rcases Int.lt_or_le cap mass with hc | hc
    · exact Or.inl hc
    · exact Or.inr ((cmpG_pos (cross_le h m0 hc)).mpr k)
  · intro k
    rcases Int.lt_or_le cap mass with hc | hc
    · refine Rat.not_le.mp fun k2 => ?_
      have k3 := Rat.le_trans k2 h.level.2.1
      rw [qI_val, qI_val] at k3
      have := Rat.intCast_le_intCast.mp k3
      omega
    · rcases k with k | k
      · omega
      · exact (cmpG_pos (cross_le h m0 hc)).mp k
/-! ### Nothing is taken -/
theorem sub_zero_ok {p : Rat} (h : fitR p = true) : subOk p 0 = true ∧ subOp p 0 = p := by
  have hn : -(0 : Rat) = 0 := by decide +kernel
  obtain ⟨h1, h2⟩ := fitR_iff.mp h
  unfold subOk subOp
  rw [hn, Rat.add_zero]
  refine ⟨?_, rfl⟩
  have e1 : (0 : Rat).num = 0 := rfl
  have e2 : (0 : Rat).den = 1 := rfl
  unfold sumOk
  rw [e1, e2, Nat.mul_one, Nat.mul_one, Int.natAbs_zero, Nat.zero_mul, Nat.add_zero, decide_eq_true h1, decide_eq_true h2, decide_eq_true big48_pos, Bool.or_true]; rfl
/-! ### First errors -/
def fE (er : Nat → Int) : Nat → Int
  | 0 => 0
  | n + 1 => if fE er n = 0 then er n else fE er n
theorem fE_ok {er : Nat → Int} : ∀ {n : Nat}, (∀ j, j < n → er j = 0) → fE er n = 0
  | 0, _ => rfl
  | n + 1, h => by rw [fE, if_pos (fE_ok fun j hj => h j (by omega))]; exact h n (by omega)
theorem fE_bad {er : Nat → Int} {k : Nat} (hb : ¬ er k = 0) (ha : ∀ j, j < k → er j = 0) : ∀ {n : Nat}, k < n → fE er n = er k
  | 0, h => by omega
  | n + 1, h => by
    rcases Nat.lt_or_eq_of_le (Nat.le_of_lt_succ h) with h1 | h1
    · rw [fE, fE_bad hb ha h1, if_neg hb]
    · subst h1
      rw [fE, if_pos (fE_ok ha)]
theorem fE_spec (er : Nat → Int) : ∀ n : Nat, (fE er n = 0 ∧ ∀ j, j < n → er j = 0) ∨ ∃ k, k < n ∧ ¬ er k = 0 ∧ fE er n = er k ∧ ∀ j, j < k → er j = 0
  | 0 => Or.inl ⟨rfl, fun j h => by omega⟩
  | n + 1 => by
    rcases fE_spec er n with ⟨h1, h2⟩ | ⟨k, h1, h2, h3, h4⟩
    · by_cases h : er n = 0
      · refine Or.inl ⟨by rw [fE, if_pos h1]; exact h, fun j hj => ?_⟩
        rcases Nat.lt_or_eq_of_le (Nat.le_of_lt_succ hj) with h5 | h5
        · exact h2 j h5
        · subst h5; exact h
      · exact Or.inr ⟨n, by omega, h, by rw [fE, if_pos h1], h2⟩
    · exact Or.inr ⟨k, by omega, h2, by rw [fE, h3, if_neg h2], h4⟩
/-! ### Numbers that stay what they are -/
def zT : Trip := (false, [], [])
/-- A number, or the zero value. -/
def vZ (t : Trip) : Prop := vT t = true ∨ t = zT
/-- Numbers that lie in the memory are as they were. -/
def Kep (w w' : World) : Prop := ∀ (t : Trip) (v : Value), vZ t → InR w v t.1 t.2.1 t.2.2 → InR w' v t.1 t.2.1 t.2.2
theorem Kep.refl (w : World) : Kep w w := fun _ _ _ h => h
theorem Kep.trans {a b c : World} (h : Kep a b) (k : Kep b c) : Kep a c := fun t v hz hi => k t v hz (h t v hz hi)
theorem Kep.of {w w' : World} (h : Below w.heap.size w w') : Kep w w' := fun t v _ hi => hi.on h
theorem Kep.isR {w w' : World} {v : Value} {r : Rat} (h : Kep w w') (hr : fitR r = true) (hi : IsR w v r) : IsR w' v r := h (triR r) v (Or.inl (vT_tri hr)) hi
theorem Kep.set {w : World} {p : Addr} {u : Value} (hx : w.cell? p = some u) (hu : ∀ z, u ≠ .int .i64 z) (x : Value) : Kep w (w.setCell p x) := fun t v _ hi => by
  obtain ⟨vp, vq, e, h1, h2⟩ := hi
  exact ⟨vp, vq, e, h1.set hx hu x, h2.set hx hu x⟩
theorem in_nil_any {w w' : World} {v : Value} (h : In w v []) : In w' v [] := by
  obtain ⟨A, c, e, h1, h2, h3⟩ := h
  exact ⟨A, c, e, h1, h2, fun k z hz => by simp at hz⟩
theorem Kep.tank {w : World} {g : Nat} {A : Option Addr} {n c : Nat} (hc : Rw.Cel w g [.int .i64 0, .slice A n c]) (x y : Value) : Kep w ((w.setCell ⟨g, 0, none⟩ x).setCell ⟨g, 1, none⟩ y) := fun t v hz hi => by
  obtain ⟨vp, vq, e, h1, h2⟩ := hi
  rcases hz with hz | rfl
  · obtain ⟨v1, v2⟩ := vT_valid hz
    exact ⟨vp, vq, e, In.tank h1 v1 hc x y, In.tank h2 v2 hc x y⟩
  · exact ⟨vp, vq, e, in_nil_any h1, in_nil_any h2⟩
theorem inR_cells {w : World} {b b' : Bool} {s1 s2 : Value} {xs ys : List Int} (h : InR w (.agg #[.bool b, s1, s2]) b' xs ys) : b = b' ∧ In w s1 xs ∧ In w s2 ys := by
  obtain ⟨vp, vq, e, h1, h2⟩ := h
  simp only [Value.agg.injEq, Array.mk.injEq, List.cons.injEq, Value.bool.injEq, and_true] at e
  obtain ⟨e1, e2, e3⟩ := e
  subst e1; subst e2; subst e3
  exact ⟨rfl, h1, h2⟩
theorem Kep.two {w w' : World} (h : Kep w w') {t : Trip} (hz : vZ t) {s1 s2 : Value} (h1 : In w s1 t.2.1) (h2 : In w s2 t.2.2) : In w' s1 t.2.1 ∧ In w' s2 t.2.2 :=
  (inR_cells (h t (.agg #[.bool t.1, s1, s2]) hz ⟨_, _, rfl, h1, h2⟩)).2
theorem Ins.kep {w w' : World} {R : List Raw} {L : List Trip} (h : Ins w R L) (hk : Kep w w') (hz : ∀ t ∈ L, vZ t) : Ins w' R L :=
  ⟨h.1, fun k r t hr ht => by
    obtain ⟨h1, h2, h3⟩ := h.2 k r t hr ht
    obtain ⟨h4, h5⟩ := hk.two (hz t (List.mem_of_getElem? ht)) h2 h3
    exact ⟨h1, h4, h5⟩⟩
/-- A slice of numbers, its cells below B. -/
theorem Rats.kep {w w' : World} {A : Option Addr} {L : List Trip} {B : Nat} (h : Rats w A L) (hA : ∀ b off, A = some ⟨b, off, none⟩ → b < B) (hz : ∀ t ∈ L, vZ t) (hb : Below B w w') (hk : Kep w w') : Rats w' A L := by
  intro k t ht
  obtain ⟨b, off, A1, c1, A2, c2, e, hlt, ⟨c0, c1', c2'⟩, i1, i2⟩ := h k t ht
  obtain ⟨j1, j2⟩ := hk.two (hz t (List.mem_of_getElem? ht)) i1 i2
  have hB := hb.block b (hA b off e)
  have hc : ∀ i, w'.cell? ⟨b, i, none⟩ = w.cell? ⟨b, i, none⟩ := fun i => World.cell?_of_block (a := ⟨b, i, none⟩) hB
  exact ⟨b, off, A1, c1, A2, c2, e, Nat.lt_of_lt_of_le hlt hb.size, ⟨(hc _).trans c0, (hc _).trans c1', (hc _).trans c2'⟩, j1, j2⟩
theorem Rats.lt {w : World} {A : Option Addr} {L : List Trip} (h : Rats w A L) (h0 : 0 < L.length) : ∀ b off, A = some ⟨b, off, none⟩ → b < w.heap.size := fun b off e => by
  obtain ⟨t, ht⟩ := get_lt h0
  obtain ⟨b', off', A1, c1, A2, c2, e', hlt, -⟩ := h 0 t ht
  rw [e] at e'; cases e'; exact hlt
/-- A row of numbers cannot lie in the box of an empty tank. -/
theorem Rats.tank {w : World} {A : Option Addr} {L : List Trip} (h : Rats w A L) (hz : ∀ t ∈ L, vZ t) {g : Nat} {A0 : Option Addr} {n c : Nat} (hc : Rw.Cel w g [.int .i64 0, .slice A0 n c]) (x y : Value) : Rats ((w.setCell ⟨g, 0, none⟩ x).setCell ⟨g, 1, none⟩ y) A L := by
  intro k t ht
  obtain ⟨b, off, A1, c1, A2, c2, e, hlt, ⟨c0, c1', c2'⟩, i1, i2⟩ := h k t ht
  obtain ⟨j1, j2⟩ := (Kep.tank hc x y).two (hz t (List.mem_of_getElem? ht)) i1 i2
  obtain ⟨d0, d1⟩ := hc.two
  have hne : b = g → 2 ≤ off + k * 3 := fun hb => by
    subst hb
    rcases Nat.lt_or_ge (off + k * 3) 2 with hl | hl
    · have : off + k * 3 = 0 ∨ off + k * 3 = 1 := by omega
      rcases this with h0 | h0
      · rw [h0, d0] at c0; cases c0
      · rw [h0, d1] at c0; cases c0
    · exact hl
  have hcl : ∀ i, off + k * 3 ≤ i → ((w.setCell ⟨g, 0, none⟩ x).setCell ⟨g, 1, none⟩ y).cell? ⟨b, i, none⟩ = w.cell? ⟨b, i, none⟩ := fun i hi => by
    rw [World.cell?_setCell_other _ ⟨g, 1, none⟩ ⟨b, i, none⟩ y (fun e => by cases e; have := hne rfl; omega), World.cell?_setCell_other _ ⟨g, 0, none⟩ ⟨b, i, none⟩ x (fun e => by cases e; have := hne rfl; omega)]
  exact ⟨b, off, A1, c1, A2, c2, e, by simpa using hlt, ⟨(hcl _ (Nat.le_refl _)).trans c0, (hcl _ (by omega)).trans c1', (hcl _ (by omega)).trans c2'⟩, j1, j2⟩
theorem InT.tank {w : World} {v : Value} {cap : Int} {L : List Trip} (h : InT w v cap L) (hz : ∀ t ∈ L, vZ t) {g : Nat} {A0 : Option Addr} {n c : Nat} (hc : Rw.Cel w g [.int .i64 0, .slice A0 n c]) (x y : Value) : InT ((w.setCell ⟨g, 0, none⟩ x).setCell ⟨g, 1, none⟩ y) v cap L := by
  obtain ⟨A, c', e, hl, hr⟩ := h
  exact ⟨A, c', e, hl, Rats.tank hr hz hc x y⟩
theorem ts_vZ {Q : List Rat} (h : ∀ q ∈ Q, fitR q = true) : ∀ t ∈ ts Q, vZ t := fun t ht => Or.inl (ts_valid h t ht)
/-! ### A number that is stored in a row -/
def zR : Raw := (false, (none, 0, 0), (none, 0, 0))
theorem flat_putT : ∀ (X : List Raw) (k : Nat) (r : Raw), k < X.length → (X.set k r).flatMap cR = (((X.flatMap cR).set (k * 3) (.bool r.1)).set (k * 3 + 1) (sl r.2.1)).set (k * 3 + 2) (sl r.2.2)
  | [], k, r, h => by simp at h
  | x :: X, 0, r, _ => by simp
  | x :: X, k + 1, r, h => by
    have ih := flat_putT X k r (by simpa using h)
    rw [List.set_cons_succ, List.flatMap_cons, ih, List.flatMap_cons]
    rw [show (k + 1) * 3 + 2 = (k * 3 + 2) + 1 + 1 + 1 by omega, show (k + 1) * 3 + 1 = (k * 3 + 1) + 1 + 1 + 1 by omega, show (k + 1) * 3 = (k * 3) + 1 + 1 + 1 by omega]
    rfl
/-- The memory behind the store. -/
abbrev putT (w : World) (g k : Nat) (r : Raw) : World := ((w.setCell ⟨g, k * 3, none⟩ (.bool r.1)).setCell ⟨g, k * 3 + 1, none⟩ (sl r.2.1)).setCell ⟨g, k * 3 + 2, none⟩ (sl r.2.2)
section
variable {w : World} {B g n c : Nat} {X : List Raw}
theorem rowT_put (hr : Rw.Row cR 3 TR B w (.slice (some ⟨g, 0, none⟩) n c) X) (hn : n = X.length) (k : Nat) (r : Raw) (hk : k < X.length) : Rw.Row cR 3 TR B (putT w g k r) (.slice (some ⟨g, 0, none⟩) n c) (X.set k r) := by
  subst hn
  have h1 := own_set (w := w) (t := TR) (B := B) (s := 3) (m := X.length) (xs := X.flatMap cR) hr (k * 3) (.bool r.1)
  have h2 := own_set h1 (k * 3 + 1) (sl r.2.1)
  have h3 := own_set h2 (k * 3 + 2) (sl r.2.2)
  unfold Rw.Row
  rw [List.length_set, flat_putT X k r hk]
  exact h3
theorem rowT_cells (hr : Rw.Row cR 3 TR B w (.slice (some ⟨g, 0, none⟩) n c) X) {k : Nat} {z : Raw} (hz : X[k]? = some z) : w.cell? ⟨g, k * 3, none⟩ = some (.bool z.1) ∧ w.cell? ⟨g, k * 3 + 1, none⟩ = some (sl z.2.1) ∧ w.cell? ⟨g, k * 3 + 2, none⟩ = some (sl z.2.2) :=
  ⟨hr.cell cR_len hz (j := 0) rfl, hr.cell cR_len hz (j := 1) rfl, hr.cell cR_len hz (j := 2) rfl⟩
theorem rowT_kep (hr : Rw.Row cR 3 TR B w (.slice (some ⟨g, 0, none⟩) n c) X) {k : Nat} (hk : k < X.length) (r : Raw) : Kep w (putT w g k r) := by
  obtain ⟨z, hz⟩ := get_lt hk
  obtain ⟨c0, c1, c2⟩ := rowT_cells hr hz
  have k0 := Kep.set c0 (fun z e => by cases e) (.bool r.1)
  have c1' : (w.setCell ⟨g, k * 3, none⟩ (.bool r.1)).cell? ⟨g, k * 3 + 1, none⟩ = some (sl z.2.1) := (World.cell?_setCell_other w _ _ _ (fun e => by have h := congrArg Addr.off e; dsimp only at h; omega)).trans c1
  have k1 := Kep.set c1' (fun z e => by cases e) (sl r.2.1)
  have c2' : ((w.setCell ⟨g, k * 3, none⟩ (.bool r.1)).setCell ⟨g, k * 3 + 1, none⟩ (sl r.2.1)).cell? ⟨g, k * 3 + 2, none⟩ = some (sl z.2.2) := (World.cell?_setCell_other _ _ _ _ (fun e => by have h := congrArg Addr.off e; dsimp only at h; omega)).trans ((World.cell?_setCell_other w _ _ _ (fun e => by have h := congrArg Addr.off e; dsimp only at h; omega)).trans c2)
  exact (k0.trans k1).trans (Kep.set c2' (fun z e => by cases e) (sl r.2.2))
theorem putT_off (w : World) (g k : Nat) (r : Raw) : Rw.Off (fun y => y = g) w (putT w g k r) :=
  (((Rw.Off.refl (fun y => y = g) w).set (p := ⟨g, k * 3, none⟩) (Or.inl rfl) _).set (p := ⟨g, k * 3 + 1, none⟩) (Or.inl rfl) _).set (p := ⟨g, k * 3 + 2, none⟩) (Or.inl rfl) _
theorem rowT_frozen (hr : Rw.Row cR 3 TR B w (.slice (some ⟨g, 0, none⟩) n c) X) (hn : n = X.length) (k : Nat) : w.frozen? ⟨g, k * 3, none⟩ = false ∧ w.frozen? ⟨g, k * 3 + 1, none⟩ = false ∧ w.frozen? ⟨g, k * 3 + 2, none⟩ = false := ⟨hr.warm hn _, hr.warm hn _, hr.warm hn _⟩
end
theorem made_raws (n : Nat) : (madeCells #[.bool false, .slice none 0 0, .slice none 0 0] (n * 3)).toList = (List.replicate n zR).flatMap cR := by
  apply List.ext_getElem?
  intro j
  by_cases hj : j < n * 3
  · have hk : (List.replicate n zR)[j / 3]? = some zR := by rw [List.getElem?_replicate, if_pos (by omega)]
    have hm : j % 3 = 0 ∨ j % 3 = 1 ∨ j % 3 = 2 := by omega
    have e : j = j / 3 * 3 + j % 3 := by omega
    have hr : (madeCells #[.bool false, .slice none 0 0, .slice none 0 0] (n * 3)).toList[j]? = (cR zR)[j % 3]? := by
      unfold madeCells
      rcases hm with hm | hm | hm <;> simp [hj, hm, zR]
    rw [hr]
    rcases hm with hm | hm | hm
    · rw [e, flat_at cR_len hk (j := j % 3) (u := .bool false) (by rw [hm]; rfl), ← e, hm]; rfl
    · rw [e, flat_at cR_len hk (j := j % 3) (u := .slice none 0 0) (by rw [hm]; rfl), ← e, hm]; rfl
    · rw [e, flat_at cR_len hk (j := j % 3) (u := .slice none 0 0) (by rw [hm]; rfl), ← e, hm]; rfl
  · rw [List.getElem?_eq_none (by simp [madeCells]; omega), List.getElem?_eq_none (by rw [flat_len cR_len, List.length_replicate]; omega)]
theorem tk_make (n : Nat) (hn : n ≤ 5000) (W : World) :
    (Instr.makeSlice 22 (.int .i64 (n : Int)) (.int .i64 (n : Int))).run Try.prog W = .ok (.slice (some ⟨W.heap.size, 0, none⟩) n n) (W.alloc (.cells (madeCells #[.bool false, .slice none 0 0, .slice none 0 0] (n * 3)) 33)) := by
  obtain ⟨i, hi, hz, hs, hb⟩ := info_parts info_r
  have h := run_make (P := Try.prog) (w := W) 22 33 i _ Try.underlying22 hi hz .i64 .i64 (n : Int) (n : Int) (by omega) (by omega) (by rw [hb]; omega) (by omega)
  rw [hs, Int.toNat_natCast] at h
  exact h
theorem rowT_made (W : World) (n : Nat) (hn : n ≤ 5000) : Rw.Row cR 3 TR W.heap.size (W.alloc (.cells (madeCells #[.bool false, .slice none 0 0, .slice none 0 0] (n * 3)) 33)) (.slice (some ⟨W.heap.size, 0, none⟩) n n) (List.replicate n zR) := by
  have h := World.ownsRow_lit (base := W.heap.size) (e := TR) (size := 3) W (madeCells #[.bool false, .slice none 0 0, .slice none 0 0] (n * 3)) n (Nat.le_refl _) (by unfold maxLen; omega) (by rw [size_madeCells])
  unfold Rw.Row
  rw [List.length_replicate, ← made_raws]
  exact h
/-- A row that is filled from its begin. -/
theorem fill_set {R : List Raw} {n k : Nat} (r : Raw) (h : R.length = k) (hk : k < n) : (R ++ List.replicate (n - k) zR).set k r = (R ++ [r]) ++ List.replicate (n - (k + 1)) zR := by
  obtain ⟨m, rfl⟩ : ∃ m, n = k + 1 + m := ⟨n - (k + 1), by omega⟩
  rw [show k + 1 + m - k = m + 1 by omega, show k + 1 + m - (k + 1) = m by omega, List.replicate_succ, List.set_append_right _ _ (by omega), show k - R.length = 0 by omega, List.set_cons_zero, List.append_assoc]; rfl
theorem fill_len {R : List Raw} {n k : Nat} (h : R.length = k) (hk : k ≤ n) : (R ++ List.replicate (n - k) zR).length = n := by
  rw [List.length_append, List.length_replicate, h]; omega
theorem fill_rats {w : World} {B g n k : Nat} {R : List Raw} {L : List Trip} (hr : Rw.Row cR 3 TR B w (.slice (some ⟨g, 0, none⟩) n n) (R ++ List.replicate (n - k) zR)) (hi : Ins w R L) (hk : R.length = k) (hn : k = n) : Rats w (some ⟨g, 0, none⟩) L ∧ n = L.length := by
  subst hn
  rw [Nat.sub_self, List.replicate_zero, List.append_nil] at hr
  exact row_rats hr hi hk.symm
end Go.Proofs.Ytgmlccjjhmhgbaa.Tank
/- The program: checkForm, Level, Check. -/
namespace Go.Proofs.Ytgmlccjjhmhgbaa.Tank
open Go.ChangeShapes Go.WideShapes Go.RowKit Go.Lib
open Go.Proofs.Ytgmlccjjhmhgbaa.Rw (Rd Row Kd glt get_lt below_alloc bstep wrap_id below_drewN below_drew drew_below)
set_option linter.unusedVariables false
set_option maxRecDepth 100000

def cnB (n : Int) : Bool := decide (1 ≤ n) && decide (n ≤ 8)
def cpB (n : Int) : Bool := decide (1 ≤ n) && decide (n ≤ MM)
theorem cnB_iff {n : Int} : cnB n = true ↔ 1 ≤ n ∧ n ≤ 8 := by unfold cnB; simp only [Bool.and_eq_true, decide_eq_true_iff]
theorem cpB_iff {n : Int} : cpB n = true ↔ 1 ≤ n ∧ n ≤ MM := by unfold cpB; simp only [Bool.and_eq_true, decide_eq_true_iff]
theorem p_isCount (n : Int) (w : World) : Calls Try.prog 28 #[.int .i64 n] w fun e w' => e = .returned (.bool (cnB n)) ∧ w = w' := by
  unfold cnB
  cases h1 : decide (1 ≤ n) with
  | false =>
    go_enter Try.func28, Try.ntmps28
    go_wp2_with fail
    go_ret
    exact ⟨rfl, rfl⟩
  | true =>
    cases h2 : decide (n ≤ 8) with
    | false =>
      go_enter Try.func28, Try.ntmps28
      go_wp2_with fail
      go_ret
      exact ⟨rfl, rfl⟩
    | true =>
      go_enter Try.func28, Try.ntmps28
      go_wp2_with fail
      go_ret
      exact ⟨rfl, rfl⟩
theorem p_isCapacity (n : Int) (w : World) : Calls Try.prog 29 #[.int .i64 n] w fun e w' => e = .returned (.bool (cpB n)) ∧ w = w' := by
  unfold cpB
  have hM : MM = 1099511627776 := rfl
  rw [hM]
  cases h1 : decide (1 ≤ n) with
  | false =>
    go_enter Try.func29, Try.ntmps29
    go_wp2_with fail
    go_ret
    exact ⟨rfl, rfl⟩
  | true =>
    cases h2 : decide (n ≤ 1099511627776) with
    | false =>
      go_enter Try.func29, Try.ntmps29
      go_wp2_with fail
      go_ret
      exact ⟨rfl, rfl⟩
    | true =>
      go_enter Try.func29, Try.ntmps29
      go_wp2_with fail
      go_ret
      exact ⟨rfl, rfl⟩
/-- The errors of Check that come before the sum. -/
def cfE (cap : Int) (L : List Trip) : Int := if 1 ≤ cap ∧ cap ≤ MM then (if 1 ≤ L.length ∧ L.length ≤ 8 then ckP L else 17) else 1
theorem ckT_cf (cap : Int) (L : List Trip) : ckT cap L = if cfE cap L = 0 then ckS cap L else cfE cap L := by
  unfold ckT cfE
  by_cases h1 : 1 ≤ cap ∧ cap ≤ MM
  · rw [if_pos h1, if_pos h1]
    unfold ckN
    by_cases h2 : 1 ≤ L.length ∧ L.length ≤ 8
    · rw [if_pos h2, if_pos h2]
    · rw [if_neg h2, if_neg h2]; rfl
  · rw [if_neg h1, if_neg h1]; rfl
theorem cfE_of {cap : Int} {L : List Trip} (h : cfE cap L = 0) : (1 ≤ cap ∧ cap ≤ MM) ∧ (1 ≤ L.length ∧ L.length ≤ 8) := by
  unfold cfE at h
  by_cases h1 : 1 ≤ cap ∧ cap ≤ MM
  · rw [if_pos h1] at h
    by_cases h2 : 1 ≤ L.length ∧ L.length ≤ 8
    · exact ⟨h1, h2⟩
    · rw [if_neg h2] at h; cases h
  · rw [if_neg h1] at h; cases h
set_option maxHeartbeats 3200000 in
theorem p_checkForm (cap : Int) (L : List Trip) (A : Option Addr) (n c : Nat) (hn : n = L.length) (w : World) (ha : Rats w A L) (hm : n ≤ 9223372036854775807) :
    Calls Try.prog 22 #[.agg #[.int .i64 cap, .slice A n c]] w fun e w' => e = .returned (.int .i64 (cfE cap L)) ∧ Below w.heap.size w w' := by
  obtain ⟨E, hE⟩ : ∃ E, cfE cap L = E := ⟨_, rfl⟩
  rw [hE]
  have K1 := Lib.hid fun W => p_isCapacity cap W
  have K2 := Lib.hid fun W => p_isCount n W
  have HA := Lib.hid ha
  have HN := Lib.hid hn
  cases h1 : cpB cap with
  | false =>
    rw [h1] at K1
    obtain rfl : E = 1 := by rw [← hE]; exact if_neg fun h => by rw [cpB_iff.mpr h] at h1; cases h1
    clear hE h1 ha hn hm K2
    go_enter Try.func22, Try.ntmps22
    go_wp2_with fail
    refine (K1.out _).mono ?_
    rintro e w1 ⟨rfl, rfl⟩
    go_wp2_with fail
    go_ret
    exact ⟨rfl, below_alloc _ _⟩
  | true =>
  rw [h1] at K1
  have hcap := cpB_iff.mp h1
  cases h2 : cnB n with
  | false =>
    rw [h2] at K2
    obtain rfl : E = 17 := by rw [← hE]; unfold cfE; rw [if_pos hcap]; exact if_neg fun h => by rw [cnB_iff.mpr ⟨by omega, by omega⟩] at h2; cases h2
    clear hE h1 h2 hcap ha hn hm
    go_enter Try.func22, Try.ntmps22
    go_wp2_with fail
    refine (K1.out _).mono ?_
    rintro e w1 ⟨rfl, rfl⟩
    go_wp2_with fail
    refine (K2.out _).mono ?_
    rintro e w1 ⟨rfl, rfl⟩
    go_wp2_with fail
    go_ret
    exact ⟨rfl, below_alloc _ _⟩
  | true =>
  rw [h2] at K2
  have hcnt := cnB_iff.mp h2
  have HE : Hid (ckP L = E) := Lib.hid (by rw [← hE]; unfold cfE; rw [if_pos hcap, if_pos (by omega)])
  have HL := Lib.hid (show n ≤ 8 by omega)
  clear hE h1 h2 hcap hcnt ha hn hm
  go_enter Try.func22, Try.ntmps22
  go_upto_region 1 with fail
  obtain ⟨w0, hw0⟩ : ∃ W, w.alloc (.cells #[.int .i64 cap, .slice A n c] 24) = W := ⟨_, rfl⟩
  have C0 : Hid (Rw.Cel w0 w.heap.size [.int .i64 cap, .slice A n c]) := hw0 ▸ Rw.Cel.new w [_, _] _
  have B0 : Hid (Below w.heap.size w w0) := hw0 ▸ below_alloc _ _
  rw [hw0]
  clear hw0
  obtain ⟨x0, x1⟩ := C0.out.two
  go_wp2_with fail
  refine (K1.out _).mono ?_
  rintro e w1 ⟨rfl, rfl⟩
  go_wp2_with fail
  refine (K2.out _).mono ?_
  rintro e w1 ⟨rfl, rfl⟩
  go_wp2_with fail
  go_loopw [17, 4] (fun i _ wr => ∃ k : Nat, k ≤ n ∧ i = .int .i64 k ∧ (∀ (j : Nat) (t : Trip), j < k → L[j]? = some t → vT t = true ∧ t.1 = false) ∧ Below w0.heap.size w0 wr) (fun i _ _ => n - (RowKit.intOf i).toNat)
  case atStart => exact ⟨0, Nat.zero_le _, rfl, fun j t h => absurd h (by omega), Below.refl _ _⟩
  case round =>
    obtain ⟨k, hk, rfl, hv, hbel⟩ := hrel
    have HV := Lib.hid hv
    have HW := Lib.hid hbel
    have BW := Lib.hid (bstep B0.out hbel)
    clear hv hbel x0 x1
    rcases Nat.lt_or_ge k n with hlt | hge
    · obtain ⟨t, ht⟩ := get_lt (L := L) (k := k) (by have := HN.out; omega)
      obtain ⟨b, off, A1, c1, A2, c2, rfl, hb, y0, y1, y2, hin⟩ := Rats.at_ (HA.out.on BW.out) ht
      have HT := Lib.hid ht
      have HI := Lib.hid hin
      have i1 : (k : Int) < (n : Int) := by omega
      have i2 : (0 : Int) ≤ (k : Int) := by omega
      have i3 : IntKind.i64.wrap ((k : Int) + 1) = (k : Int) + 1 := Rw.wrap_id (by have := HL.out; omega)
      obtain ⟨p1, hp1⟩ : ∃ x, t.2.1.length = x := ⟨_, rfl⟩
      obtain ⟨p2, hp2⟩ : ∃ x, t.2.2.length = x := ⟨_, rfl⟩
      rw [hp1] at y1 HI
      rw [hp2] at y2 HI
      clear hin hp1 hp2 ht
      go_upto_region 8 with fail
      obtain ⟨w2, hw2⟩ : ∃ W, wr.alloc (.cells #[.bool t.1, .slice A1 p1 c1, .slice A2 p2 c2] 33) = W := ⟨_, rfl⟩
      have b2 : Below wr.heap.size wr w2 := hw2 ▸ below_alloc _ _
      have C2 : Hid (Rw.Cel w2 wr.heap.size [.bool t.1, .slice A1 p1 c1, .slice A2 p2 c2]) := hw2 ▸ Rw.Cel.new wr [_, _, _] _
      have I2 := Lib.hid (HI.out.on b2)
      have HW2 := Lib.hid (bstep HW.out b2)
      rw [hw2]
      clear hw2 b2 y0 y1 y2
      have KV := Lib.hid (rat_Valid _ _ _ _ w2 I2.out)
      obtain ⟨p, hp⟩ : ∃ p, vT t = p := ⟨_, rfl⟩
      have hp2 : valR t.1 t.2.1 t.2.2 = p := hp
      rw [hp2] at KV
      have HP := Lib.hid hp
      clear hp hp2
      obtain ⟨z0, z1, z2⟩ := C2.out.three
      go_wp2_with fail
      refine KV.out.mono ?_
      rintro e w3 ⟨rfl, hb3⟩
      have C3 := Lib.hid (C2.out.on hb3)
      have HW3 := Lib.hid (bstep HW2.out hb3)
      clear hb3 z0 z1 z2
      cases p with
      | false =>
        obtain rfl : E = 3 := by
          have := (ckP_bad HT.out fun j u hj hu => HV.out j u hj hu).1 HP.out
          rw [← HE.out, this]
        go_wp2_with fail
        go_ret
        exact ⟨rfl, bstep B0.out HW3.out⟩
      | true =>
        obtain ⟨q, hq⟩ : ∃ q, t.1 = q := ⟨_, rfl⟩
        obtain ⟨z0, z1, z2⟩ := C3.out.three
        rw [hq] at z0
        have HQ := Lib.hid hq
        clear hq
        cases q with
        | true =>
          obtain rfl : E = 1 := by
            have := (ckP_bad HT.out fun j u hj hu => HV.out j u hj hu).2 HP.out HQ.out
            rw [← HE.out, this]
          go_wp2_with fail
          go_ret
          exact ⟨rfl, bstep B0.out HW3.out⟩
        | false =>
          go_wp2_with fail
          go_roundw
          case rel =>
            refine ⟨k + 1, by omega, by go_num, ?_, HW3.out⟩
            intro j u hj hu
            rcases Nat.lt_or_eq_of_le (Nat.le_of_lt_succ hj) with h | h
            · exact HV.out j u h hu
            · subst h
              have e := HT.out
              rw [hu] at e; cases e; exact ⟨HP.out, HQ.out⟩
          case measure => simp [RowKit.intOf]; omega
    · obtain rfl : k = n := by omega
      obtain rfl : E = 0 := by rw [← HE.out]; exact ckP_ok fun j u hu => HV.out j u (by have := glt hu; have := HN.out; omega) hu
      go_wp2_with fail
      go_ret
      exact ⟨rfl, BW.out⟩
set_option maxHeartbeats 3200000 in
theorem p_Level (cap : Int) (L : List Trip) (A : Option Addr) (n c : Nat) (hn : n = L.length) (w : World) (ha : Rats w A L) (hm : n ≤ 9223372036854775807) :
    Calls Try.prog 8 #[.agg #[.int .i64 cap, .slice A n c]] w (RRes w (ckT cap L) (sumV L)) := by
  have HA := Lib.hid ha
  have K1 := Lib.hid fun (W : World) (h : Rats W A L) => p_checkForm cap L A n c hn W h hm
  have KS := Lib.hid fun (W : World) (h : Rats W A L) => rat_Sum L A c W h (by omega)
  rw [← hn] at KS
  have hck := ckT_cf cap L
  obtain ⟨G, hG⟩ : ∃ G, ckT cap L = G := ⟨_, rfl⟩
  obtain ⟨E, hE⟩ : ∃ E, cfE cap L = E := ⟨_, rfl⟩
  obtain ⟨F, hF⟩ : ∃ F, sumE L = F := ⟨_, rfl⟩
  obtain ⟨V, hV⟩ : ∃ V, sumV L = V := ⟨_, rfl⟩
  have HS := Lib.hid (show ckS cap L = if F = 0 then (if crossOk V (qI cap) then (if 0 < cmpG V (qI cap) then 8 else 0) else 2) else F by unfold ckS; rw [hF, hV])
  have HFS := Lib.hid (fun h => sumE_fit (L := L) (hF.trans h))
  have HCP := Lib.hid (fun h : E = 0 => (cfE_of (hE.trans h)).1)
  rw [hG, hE] at hck
  rw [hG, hV]
  rw [hE] at K1
  rw [hF, hV] at KS
  rw [hV] at HFS
  have HG := Lib.hid hck
  clear ha hn hm hck hG hE hF hV
  go_enter Try.func8, Try.ntmps8
  go_upto_region 1 with fail
  obtain ⟨w0, hw0⟩ : ∃ W, (w.alloc (.cells #[.int .i64 cap, .slice A n c] 24)).alloc (.cells #[.bool false, .slice none 0 0, .slice none 0 0] 33) = W := ⟨_, rfl⟩
  have C0 : Hid (Rw.Cel w0 w.heap.size [.int .i64 cap, .slice A n c]) := hw0 ▸ (Rw.Cel.new w [_, _] _).alloc _
  have R0 : Hid (Rw.Cel w0 (w.heap.size + 1) [.bool false, .slice none 0 0, .slice none 0 0]) := hw0 ▸ Rw.Cel.new_at _ [_, _, _] _ (by simp)
  have B0 : Hid (Below w.heap.size w w0) := hw0 ▸ bstep (below_alloc _ _) (below_alloc _ _)
  first | rw [hw0] | skip
  clear hw0
  obtain ⟨x0, x1⟩ := C0.out.two
  go_wp2_with fail
  refine (K1.out w0 (HA.out.on B0.out)).mono ?_
  rintro e w1 ⟨rfl, hb⟩
  have B1 := Lib.hid (bstep B0.out hb)
  have C1 := Lib.hid (C0.out.on hb)
  have R1 := Lib.hid (R0.out.on hb)
  clear hb x0 x1
  by_cases hz : E = 0
  rotate_left
  · obtain ⟨z1, z2⟩ := ne_zero hz
    obtain rfl : G = E := by rw [HG.out, if_neg hz]
    obtain ⟨u0, u1, u2⟩ := R1.out.three
    obtain ⟨v0, v1, v2⟩ := R1.out.warm3
    go_wp2_with fail
    exact bodyPost_ret (res_rat2 Try.results8 rfl (R1.out.put3 _ _ _)) rfl ⟨_, rfl, OutR.no hz, Rw.below_put3 B1.out (by omega) _ _ _⟩
  subst hz
  have hcp := HCP.out rfl
  have hMM : MM = 1099511627776 := rfl
  have KO := Lib.hid fun W => yq_Of cap (by omega) (by omega) W
  have HQ := Lib.hid (qI_fit (n := cap) (by omega) (by omega))
  have HG2 : Hid (G = if F = 0 then (if crossOk V (qI cap) then (if 0 < cmpG V (qI cap) then 8 else 0) else 2) else F) := Lib.hid (by rw [HG.out, if_pos rfl]; exact HS.out)
  clear hcp hMM HCP HG HS
  obtain ⟨x0, x1⟩ := C1.out.two
  go_wp2_with fail
  refine (KS.out w1 (HA.out.on B1.out)).mono ?_
  rintro e w2 h
  obtain ⟨b1, A1, n1, c1, B1', m1, d1, rfl, ho, hb⟩ := h.open_
  have B2 := Lib.hid (bstep B1.out hb)
  have C2 := Lib.hid (C1.out.on hb)
  have R2 := Lib.hid (R1.out.on hb)
  have O2 := Lib.hid ho
  clear h ho hb x0 x1
  go_upto_region 5 with fail
  obtain ⟨w3, hw3⟩ : ∃ W, w2.alloc (.cells #[.bool b1, .slice A1 n1 c1, .slice B1' m1 d1] 33) = W := ⟨_, rfl⟩
  have b3 : Below w2.heap.size w2 w3 := hw3 ▸ below_alloc _ _
  have D3 : Hid (Rw.Cel w3 w2.heap.size [.bool b1, .slice A1 n1 c1, .slice B1' m1 d1]) := hw3 ▸ Rw.Cel.new w2 [_, _, _] _
  have B3 := Lib.hid (bstep B2.out b3)
  have C3 := Lib.hid (C2.out.on b3)
  have R3 := Lib.hid (R2.out.on b3)
  have O3 := Lib.hid (O2.out.on b3)
  rw [hw3]
  clear hw3 b3
  by_cases hz : F = 0
  rotate_left
  · obtain ⟨z1, z2⟩ := ne_zero hz
    obtain rfl : G = F := by rw [HG2.out, if_neg hz]
    obtain ⟨u0, u1, u2⟩ := R3.out.three
    obtain ⟨v0, v1, v2⟩ := R3.out.warm3
    go_wp2_with fail
    exact bodyPost_ret (res_rat2 Try.results8 rfl (R3.out.put3 _ _ _)) rfl ⟨_, rfl, OutR.no hz, Rw.below_put3 B3.out (by omega) _ _ _⟩
  subst hz
  have FV := Lib.hid (HFS.out rfl)
  have KC := Lib.hid fun v u W h k => yq_Cmp V (qI cap) FV.out HQ.out v u W h k
  have HG3 : Hid (G = if crossOk V (qI cap) then (if 0 < cmpG V (qI cap) then 8 else 0) else 2) := Lib.hid (by rw [HG2.out, if_pos rfl])
  obtain ⟨p, hp⟩ : ∃ p, crossOk V (qI cap) = p := ⟨_, rfl⟩
  obtain ⟨x, hx⟩ : ∃ x, cmpG V (qI cap) = x := ⟨_, rfl⟩
  rw [hp, hx] at KC HG3
  replace O3 := Lib.hid (O3.out.zero rfl)
  clear hp hx HFS HG2
  obtain ⟨x0, x1⟩ := C3.out.two
  go_wp2_with fail
  refine (KO.out w3).mono ?_
  rintro e w4 h
  obtain ⟨b4, A4, n4, c4, B4', m4, d4, rfl, ho, hb⟩ := h.open_
  have B4 := Lib.hid (bstep B3.out hb)
  have D4 := Lib.hid (D3.out.on hb)
  have R4 := Lib.hid (R3.out.on hb)
  have O4 := Lib.hid (O3.out.on hb)
  have P4 := Lib.hid (ho.zero rfl)
  clear h ho hb x0 x1
  go_upto_region 8 with fail
  obtain ⟨w5, hw5⟩ : ∃ W, w4.alloc (.cells #[.bool b4, .slice A4 n4 c4, .slice B4' m4 d4] 33) = W := ⟨_, rfl⟩
  have b5 : Below w4.heap.size w4 w5 := hw5 ▸ below_alloc _ _
  have E5 : Hid (Rw.Cel w5 w4.heap.size [.bool b4, .slice A4 n4 c4, .slice B4' m4 d4]) := hw5 ▸ Rw.Cel.new w4 [_, _, _] _
  have B5 := Lib.hid (bstep B4.out b5)
  have D5 := Lib.hid (D4.out.on b5)
  have R5 := Lib.hid (R4.out.on b5)
  have O5 := Lib.hid (O4.out.on b5)
  have P5 := Lib.hid (P4.out.on b5)
  rw [hw5]
  clear hw5 b5
  obtain ⟨x0, x1, x2⟩ := D5.out.three
  obtain ⟨y0, y1, y2⟩ := E5.out.three
  go_wp2_with fail
  refine (KC.out _ _ w5 O5.out P5.out).mono ?_
  rintro e w6 ⟨rfl, hb⟩
  have B6 := Lib.hid (bstep B5.out hb)
  have D6 := Lib.hid (D5.out.on hb)
  have R6 := Lib.hid (R5.out.on hb)
  have O6 := Lib.hid (O5.out.on hb)
  clear hb x0 x1 x2 y0 y1 y2
  obtain ⟨u0, u1, u2⟩ := R6.out.three
  obtain ⟨v0, v1, v2⟩ := R6.out.warm3
  cases p with
  | false =>
    obtain rfl : G = 2 := HG3.out
    have z : okE false = 2 := rfl
    rw [z]
    go_wp2_with fail
    exact bodyPost_ret (res_rat2 Try.results8 rfl (R6.out.put3 _ _ _)) rfl ⟨_, rfl, OutR.no (by decide), Rw.below_put3 B6.out (by omega) _ _ _⟩
  | true =>
    have z : okE true = 0 := rfl
    rw [z]
    by_cases hg : 0 < x
    · have t0 : decide (0 < x) = true := decide_eq_true hg
      obtain rfl : G = 8 := by rw [HG3.out, if_pos rfl, if_pos hg]
      clear hg
      go_wp2_with fail
      exact bodyPost_ret (res_rat2 Try.results8 rfl (R6.out.put3 _ _ _)) rfl ⟨_, rfl, OutR.no (by decide), Rw.below_put3 B6.out (by omega) _ _ _⟩
    · have t0 : decide (0 < x) = false := decide_eq_false hg
      obtain rfl : G = 0 := by rw [HG3.out, if_pos rfl, if_neg hg]
      clear hg
      obtain ⟨x0, x1, x2⟩ := D6.out.three
      go_wp2_with fail
      exact bodyPost_ret (res_rat2 Try.results8 rfl (R6.out.put3 _ _ _)) rfl ⟨_, rfl, OutR.ok (InR.put3 O6.out (cel_root R6.out) _ _ _), Rw.below_put3 B6.out (by omega) _ _ _⟩
set_option maxHeartbeats 800000 in
theorem p_Check (cap : Int) (L : List Trip) (A : Option Addr) (n c : Nat) (hn : n = L.length) (w : World) (ha : Rats w A L) (hm : n ≤ 9223372036854775807) :
    Calls Try.prog 31 #[.agg #[.int .i64 cap, .slice A n c]] w fun e w' => e = .returned (.int .i64 (ckT cap L)) ∧ Below w.heap.size w w' := by
  have HA := Lib.hid ha
  have KL := Lib.hid fun (W : World) (h : Rats W A L) => p_Level cap L A n c hn W h hm
  clear ha hn hm
  go_enter Try.func31, Try.ntmps31
  go_upto_region 1 with fail
  obtain ⟨w0, hw0⟩ : ∃ W, w.alloc (.cells #[.int .i64 cap, .slice A n c] 24) = W := ⟨_, rfl⟩
  have C0 : Hid (Rw.Cel w0 w.heap.size [.int .i64 cap, .slice A n c]) := hw0 ▸ Rw.Cel.new w [_, _] _
  have B0 : Hid (Below w.heap.size w w0) := hw0 ▸ below_alloc _ _
  rw [hw0]
  clear hw0
  obtain ⟨x0, x1⟩ := C0.out.two
  go_wp2_with fail
  refine (KL.out w0 (HA.out.on B0.out)).mono ?_
  rintro e w1 h
  obtain ⟨b1, A1, n1, c1, B1', m1, d1, rfl, ho, hb⟩ := h.open_
  have B1 := Lib.hid (bstep B0.out hb)
  clear h ho hb x0 x1
  go_wp2_with fail
  go_ret
  exact ⟨rfl, bstep B1.out (below_alloc _ _)⟩
end Go.Proofs.Ytgmlccjjhmhgbaa.Tank
