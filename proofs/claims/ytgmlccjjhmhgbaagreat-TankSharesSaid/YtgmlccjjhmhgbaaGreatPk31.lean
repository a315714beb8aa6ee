/- Several texts in one: TankI. -/
import Derived.Test.YtgmlccjjhmhgbaaGreatPk29
import Derived.Test.YtgmlccjjhmhgbaaGreatPk30
/- Draw of the reference. -/
namespace Go.Proofs.YtgmlccjjhmhgbaaGreat.Tank
open Go.ChangeShapes Go.WideShapes Go.RowKit Go.Lib
open Go.Proofs.YtgmlccjjhmhgbaaGreat.Rw (Rd Row Kd Off glt get_lt rd_one flat_len below_alloc bstep wrap_id below_drewN below_drew drew_below append_rowsG take_snoc_of)
set_option linter.unusedVariables false
set_option maxRecDepth 100000

/-- Two numbers in new boxes. -/
def TwoB (w : World) (r s : Rat) (x y : Value) (wz : World) : Prop :=
  ∃ gx gy b A1 n1 c1 B1 m1 d1 b' A2 n2 c2 B2 m2 d2, x = .pointer (some ⟨gx, 0, none⟩) ∧ y = .pointer (some ⟨gy, 0, none⟩) ∧ Rw.Cel wz gx [.bool b, .slice A1 n1 c1, .slice B1 m1 d1] ∧ IsR wz (.agg #[.bool b, .slice A1 n1 c1, .slice B1 m1 d1]) r ∧
    Rw.Cel wz gy [.bool b', .slice A2 n2 c2, .slice B2 m2 d2] ∧ IsR wz (.agg #[.bool b', .slice A2 n2 c2, .slice B2 m2 d2]) s ∧ Below w.heap.size w wz ∧ w.heap.size ≤ gx ∧ w.heap.size ≤ gy ∧ gx ≠ gy
theorem Kep.grown {w w' : World} {rv : Value} (hg : w.grownBy w' rv.ownBlock) (hn : Rw.NoI w rv) : Kep w w' := fun t v _ hi => by
  obtain ⟨vp, vq, e, h1, h2⟩ := hi
  exact ⟨vp, vq, e, In.grown h1 hg hn, In.grown h2 hg hn⟩
/-- A row of numbers of the call's own. -/
structure Tok (w : World) (B : Nat) (A : Option Addr) (n c : Nat) (R : List Raw) (L : List Trip) : Prop where
  row : Rw.Row cR 3 TR B w (.slice A n c) R
  len : n = R.length
  ins : Ins w R L
  noi : Rw.NoI w (.slice A n c)
theorem Tok.nil (w : World) (B : Nat) : Tok w B none 0 0 [] [] := ⟨Rw.Row.nil _ _ _ _ _, rfl, Ins.nil _, Rw.NoI.nil _⟩
theorem Tok.on {w w' : World} {B : Nat} {A : Option Addr} {n c : Nat} {R : List Raw} {L : List Trip} (h : Tok w B A n c R L) (hb : Below w.heap.size w w') : Tok w' B A n c R L :=
  ⟨h.row.on hb, h.len, h.ins.on hb, h.noi.keep fun k hk => hb.block k (h.row.lt k hk).2⟩
theorem Tok.kept {w w' : World} {B : Nat} {A : Option Addr} {n c : Nat} {R : List Raw} {L : List Trip} (h : Tok w B A n c R L) (hk : ∀ b, (Value.slice A n c).ownBlock = some b → w'.heap[b]? = w.heap[b]?) (hkp : Kep w w') (hz : ∀ t ∈ L, vZ t) : Tok w' B A n c R L :=
  ⟨h.row.keep hk, h.len, h.ins.kep hkp hz, h.noi.keep hk⟩
theorem Tok.push {w w' : World} {B : Nat} {A : Option Addr} {n c : Nat} {R : List Raw} {L : List Trip} (h : Tok w B A n c R L) {r : Raw} {t : Trip} {A' : Option Addr} {n' c' : Nat} (hn' : n' = R.length + 1)
    (hrow : Rw.Row cR 3 TR B w' (.slice A' n' c') (R ++ [r])) (hno : Rw.NoI w' (.slice A' n' c')) (hg : w.grownBy w' (Value.slice A n c).ownBlock) (h1 : r.1 = t.1) (h2 : In w (sl r.2.1) t.2.1) (h3 : In w (sl r.2.2) t.2.2) : Tok w' B A' n' c' (R ++ [r]) (L ++ [t]) :=
  ⟨hrow, by rw [hn', List.length_append]; rfl, (h.ins.grown hg h.noi).snoc h1 (In.grown h2 hg h.noi) (In.grown h3 hg h.noi), hno⟩
theorem Bld.kept {w w' : World} {B g : Nat} {cap : Int} {A : Option Addr} {n c : Nat} {R : List Raw} {L : List Trip} (h : Bld w B g cap A n c R L) {rv : Value} (hg : w.grownBy w' rv.ownBlock) (hne : rv.ownBlock ≠ some g) (hd : ∀ b, (Value.slice A n c).ownBlock = some b → rv.ownBlock ≠ some b) (hk : Kep w w') (hz : ∀ t ∈ L, vZ t) : Bld w' B g cap A n c R L := by
  have hke : ∀ k, (Value.slice A n c).ownBlock = some k → w'.heap[k]? = w.heap[k]? := fun k hk => hg.block k (h.row.lt k hk).2 fun e => hd k hk e.symm
  exact ⟨h.cel.grown hg hne, h.row.keep hke, h.len, h.ins.kep hk hz, h.noi.keep hke, h.lt⟩
theorem after_two {w w4 : World} (h : Below (((w.alloc (.cells #[.bool false, .slice none 0 0, .slice none 0 0] 33)).alloc (.cells #[.bool false, .slice none 0 0, .slice none 0 0] 33)).drew).heap.size (((w.alloc (.cells #[.bool false, .slice none 0 0, .slice none 0 0] 33)).alloc (.cells #[.bool false, .slice none 0 0, .slice none 0 0] 33)).drew) w4) : Rw.Cel w4 w.heap.size [.bool false, .slice none 0 0, .slice none 0 0] ∧ Rw.Cel w4 (w.heap.size + 1) [.bool false, .slice none 0 0, .slice none 0 0] :=
  ⟨(((Rw.Cel.new w [.bool false, .slice none 0 0, .slice none 0 0] 33).alloc _).drew).on h, ((Rw.Cel.new_at _ [.bool false, .slice none 0 0, .slice none 0 0] 33 (by simp)).drew).on h⟩
theorem TkP.op {w : World} {err : Int} {r s : Rat} {e : Ending} {w' : World} (h : TkP w err r s e w') : ∃ b A n c B m d b' A' n' c' B' m' d', e = .returned (.tuple #[.agg #[.bool b, .slice A n c, .slice B m d], .agg #[.bool b', .slice A' n' c', .slice B' m' d'], .int .i64 err]) ∧ OutR w' (.agg #[.bool b, .slice A n c, .slice B m d]) err r ∧ OutR w' (.agg #[.bool b', .slice A' n' c', .slice B' m' d']) err s ∧ Below w.heap.size w w' := by
  obtain ⟨x, y, rfl, hx, hy, hb⟩ := h
  have key : ∀ (v : Value) (r : Rat), OutR w' v err r → ∃ b A n c B m d, v = .agg #[.bool b, .slice A n c, .slice B m d] := fun v r ho => by
    have h1 : ∃ b xs ys, InR w' v b xs ys := by
      unfold OutR at ho
      split at ho
      · exact ⟨_, _, _, ho⟩
      · exact ⟨_, _, _, ho⟩
    obtain ⟨b, xs, ys, hi⟩ := h1
    obtain ⟨A, c, B, d, rfl, -, -⟩ := inR_open hi
    exact ⟨_, _, _, _, _, _, _, rfl⟩
  obtain ⟨b, A, n, c, B, m, d, rfl⟩ := key x r hx
  obtain ⟨b', A', n', c', B', m', d', rfl⟩ := key y s hy
  exact ⟨_, _, _, _, _, _, _, _, _, _, _, _, _, _, rfl, hx, hy, hb⟩
/-- What the first parts give fits. -/
theorem dr_takes {L : List Trip} {mass : Int} {k : Nat} (hL : ∀ q ∈ qs L, fitR q = true) (h : ∀ (j : Nat) (p : Rat), j < k → (qs L)[j]? = some p → ¬ mass = 0 → tkE p (qI mass) (sumV L) = 0) : (∀ q ∈ (drX L mass).take k, fitR q = true) ∧ (∀ q ∈ (drY L mass).take k, fitR q = true) := by
  refine ⟨fun q hq => ?_, fun q hq => ?_⟩
  · obtain ⟨j, hj⟩ := List.mem_iff_getElem?.mp hq
    rw [List.getElem?_take] at hj
    split at hj
    · unfold drX at hj
      rw [List.getElem?_map] at hj
      cases hp : (qs L)[j]? with
      | none => rw [hp] at hj; cases hj
      | some p =>
        rw [hp] at hj
        cases hj
        dsimp only
        by_cases hm : mass = 0
        · rw [if_pos hm]; exact fit_zero
        · rw [if_neg hm]; exact fit_div (tkE_of (h j p (by assumption) hp hm)).2.1
    · cases hj
  · obtain ⟨j, hj⟩ := List.mem_iff_getElem?.mp hq
    rw [List.getElem?_take] at hj
    split at hj
    · unfold drY at hj
      rw [List.getElem?_map] at hj
      cases hp : (qs L)[j]? with
      | none => rw [hp] at hj; cases hj
      | some p =>
        rw [hp] at hj
        cases hj
        have hpf := hL p (List.mem_of_getElem? hp)
        dsimp only
        by_cases hm : mass = 0
        · rw [if_pos hm]; exact hpf
        · rw [if_neg hm]
          obtain ⟨-, h2, h3⟩ := tkE_of (h j p (by assumption) hp hm)
          exact fit_sub hpf (fit_div h2) h3
    · cases hj
theorem own_fresh {w : World} {B : Nat} {A : Option Addr} {n c : Nat} {R : List Raw} (h : Rw.Row cR 3 TR B w (.slice A n c) R) {b : Nat} (hb : (Value.slice A n c).ownBlock = some b) : b < w.heap.size := (h.lt b hb).2
theorem Tok.set_far {w : World} {B g : Nat} {A : Option Addr} {n c : Nat} {R : List Raw} {L : List Trip} (h : Tok w B A n c R L) (hg : g < B) {u : Value} (hx : w.cell? ⟨g, 1, none⟩ = some u) (hu : ∀ z, u ≠ .int .i64 z) (hz : ∀ t ∈ L, vZ t) (x : Value) : Tok (w.setCell ⟨g, 1, none⟩ x) B A n c R L :=
  h.kept (fun b hb => by
    have hl := h.row.lt b hb
    exact Below.heap_setCell w ⟨g, 1, none⟩ x b (by dsimp only; omega)) (Kep.set hx hu x) hz
set_option maxHeartbeats 6400000 in
theorem tk_Draw (cap : Int) (L : List Trip) (A : Option Addr) (n c : Nat) (hn : n = L.length) (mass : Int) (w : World) (ha : Rats w A L) (hm : n ≤ 9223372036854775807) :
    Calls Tryz.prog 23 #[.agg #[.int .i64 cap, .slice A n c], .int .i64 mass] w (DrR w (drE cap L mass) (drC cap L mass) (drP cap L mass) (drT cap L mass)) := by
  have HA := Lib.hid ha
  have KL := Lib.hid fun (W : World) (h : Rats W A L) => tk_Level cap L A n c hn W h hm
  obtain ⟨E, hE⟩ : ∃ E, ckT cap L = E := ⟨_, rfl⟩
  obtain ⟨V, hV⟩ : ∃ V, sumV L = V := ⟨_, rfl⟩
  obtain ⟨G, hG⟩ : ∃ G, drE cap L mass = G := ⟨_, rfl⟩
  have hno := fun h => dr_no hG h
  have hyes := fun h : G = 0 => dr_yes (hG.trans h)
  have hfit := fun h : G = 0 => dr_fit (hG.trans h)
  obtain ⟨GC, hGC⟩ : ∃ GC, drC cap L mass = GC := ⟨_, rfl⟩
  obtain ⟨GT, hGT⟩ : ∃ GT, drT cap L mass = GT := ⟨_, rfl⟩
  obtain ⟨GP, hGP⟩ : ∃ GP, drP cap L mass = GP := ⟨_, rfl⟩
  rw [hGC, hGT, hGP] at hno hyes
  rw [hE, hV] at KL
  rw [hG, hGC, hGT, hGP]
  have HE := Lib.hid hE
  have HV := Lib.hid hV
  have HG := Lib.hid hG
  have NO := Lib.hid hno
  have YES := Lib.hid hyes
  have FIT := Lib.hid hfit
  have HN := Lib.hid hn
  clear ha hn hE hV hG hno hyes hfit hGC hGT hGP hm
  go_enter Tryz.func23, Tryz.ntmps23
  go_upto_region 1 with fail
  obtain ⟨w0, hw0⟩ : ∃ W, (w.alloc (.cells #[.int .i64 cap, .slice A n c] 24)).alloc (.cells #[.int .i64 0, .slice none 0 0] 24) = W := ⟨_, rfl⟩
  have C0 : Hid (Rw.Cel w0 w.heap.size [.int .i64 cap, .slice A n c]) := hw0 ▸ (Rw.Cel.new w [_, _] _).alloc _
  have R0 : Hid (Rw.Cel w0 (w.heap.size + 1) [.int .i64 0, .slice none 0 0]) := hw0 ▸ Rw.Cel.new_at _ [_, _] _ (by simp)
  have B0 : Hid (Below w.heap.size w w0) := hw0 ▸ bstep (below_alloc _ _) (below_alloc _ _)
  first | rw [hw0] | skip
  clear hw0
  obtain ⟨x0, x1⟩ := C0.out.two
  go_wp2_with fail
  refine (KL.out w0 (Rats.on HA.out B0.out)).mono ?_
  rintro e w1 h
  obtain ⟨b1, A1, n1, c1, B1, m1, e1, rfl, ho, hb⟩ := h.open_
  have O1 := Lib.hid ho
  have BB1 := Lib.hid (bstep B0.out hb)
  have C1 := Lib.hid (C0.out.on hb)
  have R1 := Lib.hid (R0.out.on hb)
  clear h ho hb x0 x1
  go_upto_region 2 with fail
  obtain ⟨w2, hw2⟩ : ∃ W, w1.alloc (.cells #[.bool b1, .slice A1 n1 c1, .slice B1 m1 e1] 33) = W := ⟨_, rfl⟩
  obtain ⟨gl, hgl⟩ : ∃ g, w1.heap.size = g := ⟨_, rfl⟩
  have b2 : Below w1.heap.size w1 w2 := hw2 ▸ below_alloc _ _
  have L2 : Hid (Rw.Cel w2 gl [.bool b1, .slice A1 n1 c1, .slice B1 m1 e1]) := hw2 ▸ hgl ▸ Rw.Cel.new w1 [_, _, _] _
  have BB2 := Lib.hid (bstep BB1.out b2)
  have C2 := Lib.hid (C1.out.on b2)
  have R2 := Lib.hid (R1.out.on b2)
  have O2 := Lib.hid (O1.out.on b2)
  have GL : Hid (w.heap.size + 1 < gl) := Lib.hid (by have := R1.out.lt; omega)
  rw [hw2, hgl]
  clear hw2 b2 hgl
  obtain ⟨u0, u1⟩ := R2.out.two
  obtain ⟨v0, v1⟩ := R2.out.warm2
  by_cases hz : E = 0
  rotate_left
  · obtain ⟨z1, z2⟩ := ne_zero hz
    obtain rfl : G = E := by rw [← HG.out, ← HE.out]; exact if_neg (by rw [HE.out]; exact hz)
    obtain ⟨f1, f2, f3⟩ := NO.out hz
    subst f1; subst f2; subst f3
    go_wp2_with fail
    exact bodyPost_ret (res_tank3 Tryz.results23 rfl (R2.out.put2 _ _)) rfl (DrR.none_ (Rw.below_put2 BB2.out (by omega) _ _))
  subst hz
  have HOK := Lib.hid (ckT_of HE.out)
  have O3 := Lib.hid (O2.out.zero rfl)
  by_cases h0 : mass < 0
  · have d0 : decide (mass < 0) = true := decide_eq_true h0
    obtain rfl : G = 1 := by rw [← HG.out]; exact drE_rng HE.out (Bool.eq_false_iff.mpr fun h => by have := inM_iff.mp h; omega)
    obtain ⟨f1, f2, f3⟩ := NO.out (by decide)
    subst f1; subst f2; subst f3
    clear h0
    go_wp2_with fail
    exact bodyPost_ret (res_tank3 Tryz.results23 rfl (R2.out.put2 _ _)) rfl (DrR.none_ (Rw.below_put2 BB2.out (by omega) _ _))
  have d0 : decide (mass < 0) = false := decide_eq_false h0
  by_cases h1 : 1099511627776 < mass
  · have d1 : decide (1099511627776 < mass) = true := decide_eq_true h1
    have hMM : MM = 1099511627776 := rfl
    obtain rfl : G = 1 := by rw [← HG.out]; exact drE_rng HE.out (Bool.eq_false_iff.mpr fun h => by have := inM_iff.mp h; omega)
    obtain ⟨f1, f2, f3⟩ := NO.out (by decide)
    subst f1; subst f2; subst f3
    clear h0 h1 hMM
    go_wp2_with fail
    exact bodyPost_ret (res_tank3 Tryz.results23 rfl (R2.out.put2 _ _)) rfl (DrR.none_ (Rw.below_put2 BB2.out (by omega) _ _))
  have d1 : decide (1099511627776 < mass) = false := decide_eq_false h1
  have HI := Lib.hid (show inM MM mass = true from inM_iff.mpr ⟨by omega, Int.not_lt.mp h1⟩)
  have HM0 := Lib.hid (show 0 ≤ mass by omega)
  have KO := Lib.hid fun W => x_Of mass (by omega) (by omega) W
  have FM := Lib.hid (qI_fit HM0.out (inM_iff.mp HI.out).2)
  have hpos := HOK.out.pos
  rw [HV.out] at hpos
  have FV := Lib.hid hpos.2.2
  have KC := Lib.hid fun a b W h k => x_Cmp (qI mass) V FM.out FV.out a b W h k
  clear h0 h1 hpos u0 u1 v0 v1
  go_upto_region 6 with fail
  go_wp2_with fail
  refine (KO.out w2).mono ?_
  rintro e w3 h
  obtain ⟨b3, A3, n3, c3, B3, m3, e3, rfl, ho, hb⟩ := h.open_
  have M3 := Lib.hid (ho.zero rfl)
  have BB3 := Lib.hid (bstep BB2.out hb)
  have C3 := Lib.hid (C2.out.on hb)
  have R3 := Lib.hid (R2.out.on hb)
  have L3 := Lib.hid (L2.out.on hb)
  have O4 := Lib.hid (O3.out.on hb)
  clear h ho hb
  go_upto_region 7 with fail
  obtain ⟨w4, hw4⟩ : ∃ W, w3.alloc (.cells #[.bool b3, .slice A3 n3 c3, .slice B3 m3 e3] 33) = W := ⟨_, rfl⟩
  obtain ⟨gm, hgm⟩ : ∃ g, w3.heap.size = g := ⟨_, rfl⟩
  have b4 : Below w3.heap.size w3 w4 := hw4 ▸ below_alloc _ _
  have N4 : Hid (Rw.Cel w4 gm [.bool b3, .slice A3 n3 c3, .slice B3 m3 e3]) := hw4 ▸ hgm ▸ Rw.Cel.new w3 [_, _, _] _
  have BB4 := Lib.hid (bstep BB3.out b4)
  have C4 := Lib.hid (C3.out.on b4)
  have R4 := Lib.hid (R3.out.on b4)
  have L4 := Lib.hid (L3.out.on b4)
  have O5 := Lib.hid (O4.out.on b4)
  have M4 := Lib.hid (M3.out.on b4)
  have GM : Hid (gl < gm) := Lib.hid (by have := L3.out.lt; omega)
  rw [hw4, hgm]
  clear hw4 b4 hgm
  obtain ⟨x0, x1⟩ := C4.out.two
  obtain ⟨u0, u1⟩ := R4.out.two
  obtain ⟨v0, v1⟩ := R4.out.warm2
  by_cases h2 : cap < mass
  · have d2 : decide (cap < mass) = true := decide_eq_true h2
    obtain rfl : G = 19 := by rw [← HG.out]; exact drE_stock HE.out HI.out (Or.inl h2)
    obtain ⟨f1, f2, f3⟩ := NO.out (by decide)
    subst f1; subst f2; subst f3
    clear h2
    go_wp2_with fail
    exact bodyPost_ret (res_tank3 Tryz.results23 rfl (R4.out.put2 _ _)) rfl (DrR.none_ (Rw.below_put2 BB4.out (by omega) _ _))
  have d2 : decide (cap < mass) = false := decide_eq_false h2
  obtain ⟨X, hX⟩ : ∃ X, cmpG (qI mass) V = X := ⟨_, rfl⟩
  obtain ⟨Z, hZ⟩ : ∃ Z, okE (crossOk (qI mass) V) = Z := ⟨_, rfl⟩
  have hst : ¬ 0 < X → ¬ (cap < mass ∨ 0 < cmpG (qI mass) (sumV L)) := fun h => by rw [HV.out, hX]; omega
  have hst2 : 0 < X → (cap < mass ∨ 0 < cmpG (qI mass) (sumV L)) := fun h => by rw [HV.out, hX]; exact Or.inr h
  have HST := Lib.hid (And.intro hst hst2)
  rw [hX, hZ] at KC
  clear h2 hst hst2 hX hZ
  obtain ⟨y0, y1, y2⟩ := N4.out.three
  obtain ⟨z0, z1, z2⟩ := L4.out.three
  go_wp2_with fail
  refine (KC.out _ _ w4 M4.out O5.out).mono ?_
  rintro e w5 ⟨rfl, hb⟩
  have BB5 := Lib.hid (bstep BB4.out hb)
  have C5 := Lib.hid (C4.out.on hb)
  have R5 := Lib.hid (R4.out.on hb)
  have L5 := Lib.hid (L4.out.on hb)
  have N5 := Lib.hid (N4.out.on hb)
  have O6 := Lib.hid (O5.out.on hb)
  have M5 := Lib.hid (M4.out.on hb)
  clear hb x0 x1 u0 u1 v0 v1 y0 y1 y2 z0 z1 z2
  by_cases hs : 0 < X
  · have d3 : decide (0 < X) = true := decide_eq_true hs
    obtain rfl : G = 19 := by rw [← HG.out]; exact drE_stock HE.out HI.out (HST.out.2 hs)
    obtain ⟨f1, f2, f3⟩ := NO.out (by decide)
    subst f1; subst f2; subst f3
    clear hs
    obtain ⟨u0, u1⟩ := R5.out.two
    obtain ⟨v0, v1⟩ := R5.out.warm2
    go_wp2_with fail
    exact bodyPost_ret (res_tank3 Tryz.results23 rfl (R5.out.put2 _ _)) rfl (DrR.none_ (Rw.below_put2 BB5.out (by omega) _ _))
  have d3 : decide (0 < X) = false := decide_eq_false hs
  have HTK := Lib.hid (drE_tk HE.out HI.out (HST.out.1 (by omega)))
  clear hs HST
  obtain ⟨x0, x1⟩ := C5.out.two
  go_upto_region 15 with fail
  obtain ⟨w6, hw6⟩ : ∃ W, w5.alloc (.cells #[.int .i64 cap, .slice none 0 0] 24) = W := ⟨_, rfl⟩
  obtain ⟨g, hg⟩ : ∃ g, w5.heap.size = g := ⟨_, rfl⟩
  have b6 : Below w5.heap.size w5 w6 := hw6 ▸ below_alloc _ _
  have T6 : Hid (Rw.Cel w6 g [.int .i64 cap, .slice none 0 0]) := hw6 ▸ hg ▸ Rw.Cel.new w5 [_, _] _
  have BB6 := Lib.hid (bstep BB5.out b6)
  have C6 := Lib.hid (C5.out.on b6)
  have R6 := Lib.hid (R5.out.on b6)
  have L6 := Lib.hid (L5.out.on b6)
  have N6 := Lib.hid (N5.out.on b6)
  have O7 := Lib.hid (O6.out.on b6)
  have M6 := Lib.hid (M5.out.on b6)
  have GG : Hid (gm < g ∧ g + 1 ≤ w6.heap.size) := Lib.hid ⟨by have := N5.out.lt; omega, T6.out.lt⟩
  rw [hg, hw6]
  clear hw6 hg b6 x0 x1
  have HFP := Lib.hid fun t ht => (trip_form (HOK.out.all t ht).1).1
  have KZ := Lib.hid fun W => tk_zero W
  go_loopw [15, 14, 8] (fun i s14 s8 wr => ∃ (k : Nat) (A' : Option Addr) (p' c' : Nat) (R : List Raw) (At : Option Addr) (nt ct : Nat) (Rt : List Raw), k ≤ n ∧ i = .int .i64 k ∧ s14 = .slice At nt ct ∧ s8 = .int .i64 0 ∧ Bld wr (g + 1) g cap A' p' c' R (ts ((drY L mass).take k)) ∧ Tok wr (g + 1) At nt ct Rt (ts ((drX L mass).take k)) ∧ (∀ b, (Value.slice At nt ct).ownBlock = some b → (Value.slice A' p' c').ownBlock ≠ some b) ∧ (∀ (j : Nat) (p : Rat), j < k → (qs L)[j]? = some p → ¬ mass = 0 → tkE p (qI mass) V = 0) ∧ Below g w6 wr ∧ Kep w6 wr ∧ g + 1 ≤ wr.heap.size) (fun i _ _ _ => n - (RowKit.intOf i).toNat)
  case atStart => exact ⟨0, none, 0, 0, [], none, 0, 0, [], Nat.zero_le _, rfl, rfl, rfl, Bld.nil T6.out (by omega), Tok.nil _ _, fun b h => (by cases h), fun j p h => absurd h (by omega), Below.refl _ _, Kep.refl _, GG.out.2⟩
  case round =>
    obtain ⟨k, A', p', c', R, At, nt, ct, Rt, hk, rfl, rfl, rfl, hbld, htok, hdis, hv, hbel, hkep, hsz⟩ := hrel
    have HQ := Lib.hid hbld
    have HT := Lib.hid htok
    have HD := Lib.hid hdis
    have HVv := Lib.hid hv
    have HB := Lib.hid hbel
    have HKp := Lib.hid hkep
    have HS := Lib.hid hsz
    clear hbld htok hdis hv hbel hkep hsz
    have BW : Hid (Below w.heap.size w wr) := Lib.hid (BB6.out.trans (HB.out.mono (by have := GG.out.1; have := GM.out; have := GL.out; omega)))
    have C7 := Lib.hid (C6.out.below HB.out (by have := GG.out.1; have := GM.out; have := GL.out; omega))
    have R7 := Lib.hid (R6.out.below HB.out (by have := GG.out.1; have := GM.out; have := GL.out; omega))
    have L7 := Lib.hid (L6.out.below HB.out (by have := GG.out.1; have := GM.out; omega))
    have N7 := Lib.hid (N6.out.below HB.out GG.out.1)
    have O8 := Lib.hid (HKp.out.isR FV.out O7.out)
    have M7 := Lib.hid (HKp.out.isR FM.out M6.out)
    obtain ⟨x0, x1⟩ := C7.out.two
    rcases Nat.lt_or_ge k n with hlt | hge
    · obtain ⟨t, ht⟩ := get_lt (L := L) (k := k) (by have := HN.out; omega)
      obtain ⟨b2, o2, A6, c6, A8, c8, hA0, hb2, y0, y1, y2, hin⟩ := Rats.at_ (Rats.on HA.out BW.out) ht
      subst hA0
      have i1 : (k : Int) < (n : Int) := by omega
      have i2 : (0 : Int) ≤ (k : Int) := by omega
      have i3 : IntKind.i64.wrap ((k : Int) + 1) = (k : Int) + 1 := Rw.wrap_id (by have := HOK.out.n1; have := HN.out; omega)
      have VT := Lib.hid (HOK.out.all t (List.mem_of_getElem? ht)).1
      have HP := Lib.hid (trip_isR VT.out hin)
      have HTk := Lib.hid ht
      obtain ⟨t0, ht0⟩ : ∃ x, t.1 = x := ⟨_, rfl⟩
      obtain ⟨p1, hp1⟩ : ∃ x, t.2.1.length = x := ⟨_, rfl⟩
      obtain ⟨p2, hp2⟩ : ∃ x, t.2.2.length = x := ⟨_, rfl⟩
      rw [ht0, hp1, hp2] at HP
      rw [ht0] at y0
      rw [hp1] at y1
      rw [hp2] at y2
      clear ht hin ht0 hp1 hp2
      obtain ⟨wq, rfl⟩ : ∃ W, W = wr := ⟨wr, rfl⟩
      have HCE : Hid (∀ W, Below wq.heap.size wq W → (W.cell? ⟨w.heap.size, 0, none⟩ = some (.int .i64 cap) ∧ W.cell? ⟨w.heap.size, 1, none⟩ = some (.slice (some ⟨b2, o2, none⟩) n c)) ∧ (W.cell? ⟨b2, o2 + k * 3, none⟩ = some (.bool t0) ∧ W.cell? ⟨b2, o2 + k * 3 + 1, none⟩ = some (.slice A6 p1 c6) ∧ W.cell? ⟨b2, o2 + k * 3 + 2, none⟩ = some (.slice A8 p2 c8))) := fun W h =>
        ⟨(C7.out.on h).two, (h.cell (p := ⟨b2, o2 + k * 3, none⟩) hb2).trans y0, (h.cell (p := ⟨b2, o2 + k * 3 + 1, none⟩) hb2).trans y1, (h.cell (p := ⟨b2, o2 + k * 3 + 2, none⟩) hb2).trans y2⟩
      go_upto_region 17 with fail
      go_cut [16, 17] from 63 to 68 (fun x y wz => TwoB wq 0 (rT t) x y wz)
      case first =>
        refine wp_region_held_drew (S := (fun W => Below wq.heap.size wq W)) (by kernel_rfl) (drew_below _) (fun hHeld => ?_)
        refine wpAnyH_take (i := 1) (oi := { dst := some 64, op := Op.fieldAddr 24 (Operand.tmp 2) 1, type := 0, pos := "ref.go:130", after := #[{ on := 8, ground := Ground.gcOnly Departure.lateStores }], guard := none }) (v := ?_) rfl (by kernel_rfl) (by kernel_rfl) (by kernel_rfl) (fun _ _ _ h => h) (Or.inl ⟨by rfl, ?_⟩) (by assumption) ?_
        rotate_left
        · intro w hSw
          obtain ⟨⟨x0, x1⟩, y0, y1, y2⟩ := HCE.out _ hSw
          go_simp
          try with_reducible rfl
        try simp only [Act.put, List.setIfInBounds_toArray, List.set_cons_zero, List.set_cons_succ]
        refine wpAnyH_take (i := 2) (oi := { dst := some 65, op := Op.load 22 (Operand.tmp 64), type := 22, pos := "ref.go:130", after := #[{ on := 1, ground := Ground.data }, { on := 8, ground := Ground.gcOnly Departure.lateStores }], guard := none }) (v := ?_) rfl (by kernel_rfl) (by kernel_rfl) (by kernel_rfl) (fun _ _ _ h => h) (Or.inl ⟨by rfl, ?_⟩) (by assumption) ?_
        rotate_left
        · intro w hSw
          obtain ⟨⟨x0, x1⟩, y0, y1, y2⟩ := HCE.out _ hSw
          go_simp
          try with_reducible rfl
        try simp only [Act.put, List.setIfInBounds_toArray, List.set_cons_zero, List.set_cons_succ]
        refine wpAnyH_take (i := 3) (oi := { dst := some 66, op := Op.move (Operand.tmp 15), type := 3, pos := "ref.go:130", after := #[{ on := 8, ground := Ground.gcOnly Departure.lateStores }], guard := none }) (v := ?_) rfl (by kernel_rfl) (by kernel_rfl) (by kernel_rfl) (fun _ _ _ h => h) (Or.inl ⟨by rfl, ?_⟩) (by assumption) ?_
        rotate_left
        · intro w hSw
          obtain ⟨⟨x0, x1⟩, y0, y1, y2⟩ := HCE.out _ hSw
          go_simp
          try with_reducible rfl
        try simp only [Act.put, List.setIfInBounds_toArray, List.set_cons_zero, List.set_cons_succ]
        refine wpAnyH_take (i := 4) (oi := { dst := some 67, op := Op.indexAddr 22 (Operand.tmp 65) (Operand.tmp 66), type := 0, pos := "ref.go:130", after := #[{ on := 2, ground := Ground.data }, { on := 3, ground := Ground.data }, { on := 8, ground := Ground.gcOnly Departure.lateStores }], guard := none }) (v := ?_) rfl (by kernel_rfl) (by kernel_rfl) (by kernel_rfl) (fun _ _ _ h => h) (Or.inl ⟨by rfl, ?_⟩) (by assumption) ?_
        rotate_left
        · intro w hSw
          obtain ⟨⟨x0, x1⟩, y0, y1, y2⟩ := HCE.out _ hSw
          go_simp
          try with_reducible rfl
        try simp only [Act.put, List.setIfInBounds_toArray, List.set_cons_zero, List.set_cons_succ]
        refine wpAnyH_take (i := 5) (oi := { dst := some 68, op := Op.load 33 (Operand.tmp 67), type := 33, pos := "ref.go:130", after := #[{ on := 4, ground := Ground.data }, { on := 8, ground := Ground.gcOnly Departure.lateStores }], guard := none }) (v := ?_) rfl (by kernel_rfl) (by kernel_rfl) (by kernel_rfl) (fun _ _ _ h => h) (Or.inl ⟨by rfl, ?_⟩) (by assumption) ?_
        rotate_left
        · intro w hSw
          obtain ⟨⟨x0, x1⟩, y0, y1, y2⟩ := HCE.out _ hSw
          go_simp
          try with_reducible rfl
        try simp only [Act.put, List.setIfInBounds_toArray, List.set_cons_zero, List.set_cons_succ]
        obtain ⟨wd, hwd⟩ : ∃ W, wq.drew = W := ⟨_, rfl⟩
        have HBd : Hid (Below wq.heap.size wq wd) := hwd ▸ drew_below _
        rw [hwd]
        clear hwd hHeld
        refine wpAnyH_ready (rs := [0, 6, 7]) (by kernel_rfl) (by simp) ?_
        refine (AllReadyH.cons (o := { dst := some 63, op := Op.call { callee := Callee.value (Operand.func 40), args := #[], argTypes := #[] }, type := 33, pos := "ref.go:130", after := #[], guard := none }) rfl (fun K hK => ?_) (AllReadyH.cons (o := { dst := some 16, op := Op.alloc 33, type := 0, pos := "ref.go:130", after := #[], guard := none }) rfl (fun K hK => ?_) (AllReadyH.cons (o := { dst := some 17, op := Op.alloc 33, type := 0, pos := "ref.go:130", after := #[], guard := none }) rfl (fun K hK => ?_) AllReadyH.nil)))
        · go_simp
          refine (KZ.out _).mono ?_
          rintro e wz1 ⟨v1, rfl, hv, hb⟩
          obtain ⟨A9, n9, B9, m9, rfl, -, -⟩ := inR_open hv
          have HV1 := Lib.hid hv
          have HB1 := Lib.hid (bstep HBd.out hb)
          go_wp2_with fail
          refine hK.out _ _ ?_ (fun hHeld => ?_)
          · exact HB1.out
          clear hK K hHeld hv hb
          try simp only [Act.put, List.setIfInBounds_toArray, List.set_cons_zero, List.set_cons_succ]
          refine wpAnyH_ready (rs := [6, 7]) (by kernel_rfl) (by simp) ?_
          refine (AllReadyH.cons (o := { dst := some 16, op := Op.alloc 33, type := 0, pos := "ref.go:130", after := #[], guard := none }) rfl (fun K hK => ?_) (AllReadyH.cons (o := { dst := some 17, op := Op.alloc 33, type := 0, pos := "ref.go:130", after := #[], guard := none }) rfl (fun K hK => ?_) AllReadyH.nil))
          · go_simp
            refine hK.out _ _ ?_ (fun hHeld => ?_)
            · exact bstep HB1.out (below_alloc _ _)
            clear hK K hHeld
            try simp only [Act.put, List.setIfInBounds_toArray, List.set_cons_zero, List.set_cons_succ]
            obtain ⟨wz2, hw2⟩ : ∃ W, wz1.alloc (.cells #[.bool false, .slice none 0 0, .slice none 0 0] 33) = W := ⟨_, rfl⟩
            obtain ⟨gx, hg2⟩ : ∃ g, wz1.heap.size = g := ⟨_, rfl⟩
            have hb : Below wz1.heap.size wz1 wz2 := hw2 ▸ below_alloc _ _
            have Cx2 : Hid (Rw.Cel wz2 gx [.bool false, .slice none 0 0, .slice none 0 0]) := hw2 ▸ hg2 ▸ Rw.Cel.new wz1 [_, _, _] _
            have Lgx : Hid (wq.heap.size ≤ gx) := Lib.hid (by have := HB1.out.size; omega)
            have HB2 := Lib.hid (bstep HB1.out hb)
            have HV2 := Lib.hid (IsR.on HV1.out hb)
            rw [hw2, hg2]
            clear hw2 hg2 hb
            refine wpAnyH_ready (rs := [7]) (by kernel_rfl) (by simp) ?_
            refine (AllReadyH.cons (o := { dst := some 17, op := Op.alloc 33, type := 0, pos := "ref.go:130", after := #[], guard := none }) rfl (fun K hK => ?_) AllReadyH.nil)
            · go_simp
              refine hK.out _ _ ?_ (fun hHeld => ?_)
              · exact bstep HB2.out (below_alloc _ _)
              clear hK K hHeld
              try simp only [Act.put, List.setIfInBounds_toArray, List.set_cons_zero, List.set_cons_succ]
              obtain ⟨wz3, hw3⟩ : ∃ W, wz2.alloc (.cells #[.bool false, .slice none 0 0, .slice none 0 0] 33) = W := ⟨_, rfl⟩
              obtain ⟨gy, hg3⟩ : ∃ g, wz2.heap.size = g := ⟨_, rfl⟩
              have hb : Below wz2.heap.size wz2 wz3 := hw3 ▸ below_alloc _ _
              have Cy3 : Hid (Rw.Cel wz3 gy [.bool false, .slice none 0 0, .slice none 0 0]) := hw3 ▸ hg3 ▸ Rw.Cel.new wz2 [_, _, _] _
              have Lgy : Hid (wq.heap.size ≤ gy) := Lib.hid (by have := HB2.out.size; omega)
              have HNE : Hid (gx ≠ gy) := Lib.hid (by have := Cx2.out.lt; omega)
              have Cx3 := Lib.hid (Cx2.out.on hb)
              have HB3 := Lib.hid (bstep HB2.out hb)
              have HV3 := Lib.hid (IsR.on HV2.out hb)
              rw [hw3, hg3]
              clear hw3 hg3 hb
              refine wpAnyH_ready (rs := [8]) (by kernel_rfl) (by simp) ?_
              refine (AllReadyH.cons (o := { dst := none, op := Op.store 33 (Operand.tmp 16) (Operand.tmp 63), type := 0, pos := "ref.go:130", after := #[{ on := 6, ground := Ground.data }, { on := 0, ground := Ground.data }, { on := 0, ground := Ground.chain }, { on := 0, ground := Ground.phase }, { on := 1, ground := Ground.textOnly Departure.lateStores }, { on := 2, ground := Ground.textOnly Departure.lateStores }, { on := 3, ground := Ground.textOnly Departure.lateStores }, { on := 4, ground := Ground.textOnly Departure.lateStores }, { on := 5, ground := Ground.textOnly Departure.lateStores }, { on := 6, ground := Ground.phase }, { on := 7, ground := Ground.phase }], guard := none }) rfl (fun K hK => ?_) AllReadyH.nil)
              · obtain ⟨s0, s1, s2⟩ := Cx3.out.three
                obtain ⟨f0, f1, f2⟩ := Cx3.out.warm3
                go_simp
                refine hK.out _ _ ?_ (fun hHeld => ?_)
                · exact Rw.below_put3 HB3.out Lgx.out _ _ _
                clear hK K hHeld s0 s1 s2 f0 f1 f2
                try simp only [Act.put, List.setIfInBounds_toArray, List.set_cons_zero, List.set_cons_succ]
                obtain ⟨wz4, hw4⟩ : ∃ W, ((wz3.setCell ⟨gx, 0, none⟩ (.bool (negR 0))).setCell ⟨gx, 1, none⟩ (.slice A9 (topL 0).length n9)).setCell ⟨gx, 2, none⟩ (.slice B9 (botL 0).length m9) = W := ⟨_, rfl⟩
                have Cx4 : Hid (Rw.Cel wz4 gx [.bool (negR 0), .slice A9 (topL 0).length n9, .slice B9 (botL 0).length m9]) := hw4 ▸ Cx3.out.put3 _ _ _
                have Cy4 : Hid (Rw.Cel wz4 gy [.bool false, .slice none 0 0, .slice none 0 0]) := hw4 ▸ far3 Cy3.out (by have := HNE.out; omega) _ _ _
                have HB4 : Hid (Below wq.heap.size wq wz4) := hw4 ▸ Rw.below_put3 HB3.out Lgx.out _ _ _
                have HV4 : Hid (IsR wz4 (.agg #[.bool (negR 0), .slice A9 (topL 0).length n9, .slice B9 (botL 0).length m9]) 0) := hw4 ▸ InR.put3 HV3.out (cel_root Cx3.out) _ _ _
                rw [hw4]
                clear hw4
                refine wpAnyH_ready (rs := [9]) (by kernel_rfl) (by simp) ?_
                refine (AllReadyH.cons (o := { dst := none, op := Op.store 33 (Operand.tmp 17) (Operand.tmp 68), type := 0, pos := "ref.go:130", after := #[{ on := 7, ground := Ground.data }, { on := 5, ground := Ground.data }, { on := 8, ground := Ground.chain }, { on := 0, ground := Ground.phase }, { on := 1, ground := Ground.phase }, { on := 2, ground := Ground.phase }, { on := 3, ground := Ground.phase }, { on := 4, ground := Ground.phase }, { on := 5, ground := Ground.phase }, { on := 6, ground := Ground.phase }, { on := 7, ground := Ground.phase }, { on := 8, ground := Ground.phase }], guard := none }) rfl (fun K hK => ?_) AllReadyH.nil)
                · obtain ⟨s0, s1, s2⟩ := Cy4.out.three
                  obtain ⟨f0, f1, f2⟩ := Cy4.out.warm3
                  go_simp
                  refine hK.out _ _ ?_ (fun hHeld => ?_)
                  · exact Rw.below_put3 HB4.out Lgy.out _ _ _
                  clear hK K hHeld s0 s1 s2 f0 f1 f2
                  try simp only [Act.put, List.setIfInBounds_toArray, List.set_cons_zero, List.set_cons_succ]
                  obtain ⟨wz5, hw5⟩ : ∃ W, ((wz4.setCell ⟨gy, 0, none⟩ (.bool t0)).setCell ⟨gy, 1, none⟩ (.slice A6 p1 c6)).setCell ⟨gy, 2, none⟩ (.slice A8 p2 c8) = W := ⟨_, rfl⟩
                  have Cy5 : Hid (Rw.Cel wz5 gy [.bool t0, .slice A6 p1 c6, .slice A8 p2 c8]) := hw5 ▸ Cy4.out.put3 _ _ _
                  have Cx5 : Hid (Rw.Cel wz5 gx [.bool (negR 0), .slice A9 (topL 0).length n9, .slice B9 (botL 0).length m9]) := hw5 ▸ far3 Cx4.out (by have := HNE.out; omega) _ _ _
                  have HB5 : Hid (Below wq.heap.size wq wz5) := hw5 ▸ Rw.below_put3 HB4.out Lgy.out _ _ _
                  have HV5 : Hid (IsR wz5 (.agg #[.bool (negR 0), .slice A9 (topL 0).length n9, .slice B9 (botL 0).length m9]) 0) := hw5 ▸ InR.put3 HV4.out (cel_root Cy4.out) _ _ _
                  rw [hw5]
                  clear hw5
                  refine wpAnyH_done (by kernel_rfl) ?_ _
                  go_wp2_with fail
                  go_meet
                  case rel => exact ⟨gx, gy, _, _, _, _, _, _, _, _, _, _, _, _, _, _, rfl, rfl, Cx5.out, HV5.out, Cy5.out, HP.out.on HB5.out, HB5.out, Lgx.out, Lgy.out, HNE.out⟩
          · go_simp
            refine hK.out _ _ ?_ (fun hHeld => ?_)
            · exact bstep HB1.out (below_alloc _ _)
            clear hK K hHeld
            try simp only [Act.put, List.setIfInBounds_toArray, List.set_cons_zero, List.set_cons_succ]
            obtain ⟨wz6, hw6⟩ : ∃ W, wz1.alloc (.cells #[.bool false, .slice none 0 0, .slice none 0 0] 33) = W := ⟨_, rfl⟩
            obtain ⟨gy, hg6⟩ : ∃ g, wz1.heap.size = g := ⟨_, rfl⟩
            have hb : Below wz1.heap.size wz1 wz6 := hw6 ▸ below_alloc _ _
            have Cy6 : Hid (Rw.Cel wz6 gy [.bool false, .slice none 0 0, .slice none 0 0]) := hw6 ▸ hg6 ▸ Rw.Cel.new wz1 [_, _, _] _
            have Lgy : Hid (wq.heap.size ≤ gy) := Lib.hid (by have := HB1.out.size; omega)
            have HB6 := Lib.hid (bstep HB1.out hb)
            have HV6 := Lib.hid (IsR.on HV1.out hb)
            rw [hw6, hg6]
            clear hw6 hg6 hb
            refine wpAnyH_ready (rs := [6]) (by kernel_rfl) (by simp) ?_
            refine (AllReadyH.cons (o := { dst := some 16, op := Op.alloc 33, type := 0, pos := "ref.go:130", after := #[], guard := none }) rfl (fun K hK => ?_) AllReadyH.nil)
            · go_simp
              refine hK.out _ _ ?_ (fun hHeld => ?_)
              · exact bstep HB6.out (below_alloc _ _)
              clear hK K hHeld
              try simp only [Act.put, List.setIfInBounds_toArray, List.set_cons_zero, List.set_cons_succ]
              obtain ⟨wz7, hw7⟩ : ∃ W, wz6.alloc (.cells #[.bool false, .slice none 0 0, .slice none 0 0] 33) = W := ⟨_, rfl⟩
              obtain ⟨gx, hg7⟩ : ∃ g, wz6.heap.size = g := ⟨_, rfl⟩
              have hb : Below wz6.heap.size wz6 wz7 := hw7 ▸ below_alloc _ _
              have Cx7 : Hid (Rw.Cel wz7 gx [.bool false, .slice none 0 0, .slice none 0 0]) := hw7 ▸ hg7 ▸ Rw.Cel.new wz6 [_, _, _] _
              have Lgx : Hid (wq.heap.size ≤ gx) := Lib.hid (by have := HB6.out.size; omega)
              have HNE : Hid (gx ≠ gy) := Lib.hid (by have := Cy6.out.lt; omega)
              have Cy7 := Lib.hid (Cy6.out.on hb)
              have HB7 := Lib.hid (bstep HB6.out hb)
              have HV7 := Lib.hid (IsR.on HV6.out hb)
              rw [hw7, hg7]
              clear hw7 hg7 hb
              refine wpAnyH_ready (rs := [8]) (by kernel_rfl) (by simp) ?_
              refine (AllReadyH.cons (o := { dst := none, op := Op.store 33 (Operand.tmp 16) (Operand.tmp 63), type := 0, pos := "ref.go:130", after := #[{ on := 6, ground := Ground.data }, { on := 0, ground := Ground.data }, { on := 0, ground := Ground.chain }, { on := 0, ground := Ground.phase }, { on := 1, ground := Ground.textOnly Departure.lateStores }, { on := 2, ground := Ground.textOnly Departure.lateStores }, { on := 3, ground := Ground.textOnly Departure.lateStores }, { on := 4, ground := Ground.textOnly Departure.lateStores }, { on := 5, ground := Ground.textOnly Departure.lateStores }, { on := 6, ground := Ground.phase }, { on := 7, ground := Ground.phase }], guard := none }) rfl (fun K hK => ?_) AllReadyH.nil)
              · obtain ⟨s0, s1, s2⟩ := Cx7.out.three
                obtain ⟨f0, f1, f2⟩ := Cx7.out.warm3
                go_simp
                refine hK.out _ _ ?_ (fun hHeld => ?_)
                · exact Rw.below_put3 HB7.out Lgx.out _ _ _
                clear hK K hHeld s0 s1 s2 f0 f1 f2
                try simp only [Act.put, List.setIfInBounds_toArray, List.set_cons_zero, List.set_cons_succ]
                obtain ⟨wz8, hw8⟩ : ∃ W, ((wz7.setCell ⟨gx, 0, none⟩ (.bool (negR 0))).setCell ⟨gx, 1, none⟩ (.slice A9 (topL 0).length n9)).setCell ⟨gx, 2, none⟩ (.slice B9 (botL 0).length m9) = W := ⟨_, rfl⟩
                have Cx8 : Hid (Rw.Cel wz8 gx [.bool (negR 0), .slice A9 (topL 0).length n9, .slice B9 (botL 0).length m9]) := hw8 ▸ Cx7.out.put3 _ _ _
                have Cy8 : Hid (Rw.Cel wz8 gy [.bool false, .slice none 0 0, .slice none 0 0]) := hw8 ▸ far3 Cy7.out (by have := HNE.out; omega) _ _ _
                have HB8 : Hid (Below wq.heap.size wq wz8) := hw8 ▸ Rw.below_put3 HB7.out Lgx.out _ _ _
                have HV8 : Hid (IsR wz8 (.agg #[.bool (negR 0), .slice A9 (topL 0).length n9, .slice B9 (botL 0).length m9]) 0) := hw8 ▸ InR.put3 HV7.out (cel_root Cx7.out) _ _ _
                rw [hw8]
                clear hw8
                refine wpAnyH_ready (rs := [9]) (by kernel_rfl) (by simp) ?_
                refine (AllReadyH.cons (o := { dst := none, op := Op.store 33 (Operand.tmp 17) (Operand.tmp 68), type := 0, pos := "ref.go:130", after := #[{ on := 7, ground := Ground.data }, { on := 5, ground := Ground.data }, { on := 8, ground := Ground.chain }, { on := 0, ground := Ground.phase }, { on := 1, ground := Ground.phase }, { on := 2, ground := Ground.phase }, { on := 3, ground := Ground.phase }, { on := 4, ground := Ground.phase }, { on := 5, ground := Ground.phase }, { on := 6, ground := Ground.phase }, { on := 7, ground := Ground.phase }, { on := 8, ground := Ground.phase }], guard := none }) rfl (fun K hK => ?_) AllReadyH.nil)
                · obtain ⟨s0, s1, s2⟩ := Cy8.out.three
                  obtain ⟨f0, f1, f2⟩ := Cy8.out.warm3
                  go_simp
                  refine hK.out _ _ ?_ (fun hHeld => ?_)
                  · exact Rw.below_put3 HB8.out Lgy.out _ _ _
                  clear hK K hHeld s0 s1 s2 f0 f1 f2
                  try simp only [Act.put, List.setIfInBounds_toArray, List.set_cons_zero, List.set_cons_succ]
                  obtain ⟨wz9, hw9⟩ : ∃ W, ((wz8.setCell ⟨gy, 0, none⟩ (.bool t0)).setCell ⟨gy, 1, none⟩ (.slice A6 p1 c6)).setCell ⟨gy, 2, none⟩ (.slice A8 p2 c8) = W := ⟨_, rfl⟩
                  have Cy9 : Hid (Rw.Cel wz9 gy [.bool t0, .slice A6 p1 c6, .slice A8 p2 c8]) := hw9 ▸ Cy8.out.put3 _ _ _
                  have Cx9 : Hid (Rw.Cel wz9 gx [.bool (negR 0), .slice A9 (topL 0).length n9, .slice B9 (botL 0).length m9]) := hw9 ▸ far3 Cx8.out (by have := HNE.out; omega) _ _ _
                  have HB9 : Hid (Below wq.heap.size wq wz9) := hw9 ▸ Rw.below_put3 HB8.out Lgy.out _ _ _
                  have HV9 : Hid (IsR wz9 (.agg #[.bool (negR 0), .slice A9 (topL 0).length n9, .slice B9 (botL 0).length m9]) 0) := hw9 ▸ InR.put3 HV8.out (cel_root Cy8.out) _ _ _
                  rw [hw9]
                  clear hw9
                  refine wpAnyH_done (by kernel_rfl) ?_ _
                  go_wp2_with fail
                  go_meet
                  case rel => exact ⟨gx, gy, _, _, _, _, _, _, _, _, _, _, _, _, _, _, rfl, rfl, Cx9.out, HV9.out, Cy9.out, HP.out.on HB9.out, HB9.out, Lgx.out, Lgy.out, HNE.out⟩
        · go_simp
          refine hK.out _ _ ?_ (fun hHeld => ?_)
          · exact bstep HBd.out (below_alloc _ _)
          clear hK K hHeld
          try simp only [Act.put, List.setIfInBounds_toArray, List.set_cons_zero, List.set_cons_succ]
          obtain ⟨wz10, hw10⟩ : ∃ W, wd.alloc (.cells #[.bool false, .slice none 0 0, .slice none 0 0] 33) = W := ⟨_, rfl⟩
          obtain ⟨gx, hg10⟩ : ∃ g, wd.heap.size = g := ⟨_, rfl⟩
          have hb : Below wd.heap.size wd wz10 := hw10 ▸ below_alloc _ _
          have Cx10 : Hid (Rw.Cel wz10 gx [.bool false, .slice none 0 0, .slice none 0 0]) := hw10 ▸ hg10 ▸ Rw.Cel.new wd [_, _, _] _
          have Lgx : Hid (wq.heap.size ≤ gx) := Lib.hid (by have := HBd.out.size; omega)
          have HB10 := Lib.hid (bstep HBd.out hb)
          rw [hw10, hg10]
          clear hw10 hg10 hb
          refine wpAnyH_ready (rs := [0, 7]) (by kernel_rfl) (by simp) ?_
          refine (AllReadyH.cons (o := { dst := some 63, op := Op.call { callee := Callee.value (Operand.func 40), args := #[], argTypes := #[] }, type := 33, pos := "ref.go:130", after := #[], guard := none }) rfl (fun K hK => ?_) (AllReadyH.cons (o := { dst := some 17, op := Op.alloc 33, type := 0, pos := "ref.go:130", after := #[], guard := none }) rfl (fun K hK => ?_) AllReadyH.nil))
          · go_simp
            refine (KZ.out _).mono ?_
            rintro e wz11 ⟨v11, rfl, hv, hb⟩
            obtain ⟨A9, n9, B9, m9, rfl, -, -⟩ := inR_open hv
            have HV11 := Lib.hid hv
            have HB11 := Lib.hid (bstep HB10.out hb)
            have Cx11 := Lib.hid (Cx10.out.on hb)
            go_wp2_with fail
            refine hK.out _ _ ?_ (fun hHeld => ?_)
            · exact HB11.out
            clear hK K hHeld hv hb
            try simp only [Act.put, List.setIfInBounds_toArray, List.set_cons_zero, List.set_cons_succ]
            refine wpAnyH_ready (rs := [7]) (by kernel_rfl) (by simp) ?_
            refine (AllReadyH.cons (o := { dst := some 17, op := Op.alloc 33, type := 0, pos := "ref.go:130", after := #[], guard := none }) rfl (fun K hK => ?_) AllReadyH.nil)
            · go_simp
              refine hK.out _ _ ?_ (fun hHeld => ?_)
              · exact bstep HB11.out (below_alloc _ _)
              clear hK K hHeld
              try simp only [Act.put, List.setIfInBounds_toArray, List.set_cons_zero, List.set_cons_succ]
              obtain ⟨wz12, hw12⟩ : ∃ W, wz11.alloc (.cells #[.bool false, .slice none 0 0, .slice none 0 0] 33) = W := ⟨_, rfl⟩
              obtain ⟨gy, hg12⟩ : ∃ g, wz11.heap.size = g := ⟨_, rfl⟩
              have hb : Below wz11.heap.size wz11 wz12 := hw12 ▸ below_alloc _ _
              have Cy12 : Hid (Rw.Cel wz12 gy [.bool false, .slice none 0 0, .slice none 0 0]) := hw12 ▸ hg12 ▸ Rw.Cel.new wz11 [_, _, _] _
              have Lgy : Hid (wq.heap.size ≤ gy) := Lib.hid (by have := HB11.out.size; omega)
              have HNE : Hid (gx ≠ gy) := Lib.hid (by have := Cx11.out.lt; omega)
              have Cx12 := Lib.hid (Cx11.out.on hb)
              have HB12 := Lib.hid (bstep HB11.out hb)
              have HV12 := Lib.hid (IsR.on HV11.out hb)
              rw [hw12, hg12]
              clear hw12 hg12 hb
              refine wpAnyH_ready (rs := [8]) (by kernel_rfl) (by simp) ?_
              refine (AllReadyH.cons (o := { dst := none, op := Op.store 33 (Operand.tmp 16) (Operand.tmp 63), type := 0, pos := "ref.go:130", after := #[{ on := 6, ground := Ground.data }, { on := 0, ground := Ground.data }, { on := 0, ground := Ground.chain }, { on := 0, ground := Ground.phase }, { on := 1, ground := Ground.textOnly Departure.lateStores }, { on := 2, ground := Ground.textOnly Departure.lateStores }, { on := 3, ground := Ground.textOnly Departure.lateStores }, { on := 4, ground := Ground.textOnly Departure.lateStores }, { on := 5, ground := Ground.textOnly Departure.lateStores }, { on := 6, ground := Ground.phase }, { on := 7, ground := Ground.phase }], guard := none }) rfl (fun K hK => ?_) AllReadyH.nil)
              · obtain ⟨s0, s1, s2⟩ := Cx12.out.three
                obtain ⟨f0, f1, f2⟩ := Cx12.out.warm3
                go_simp
                refine hK.out _ _ ?_ (fun hHeld => ?_)
                · exact Rw.below_put3 HB12.out Lgx.out _ _ _
                clear hK K hHeld s0 s1 s2 f0 f1 f2
                try simp only [Act.put, List.setIfInBounds_toArray, List.set_cons_zero, List.set_cons_succ]
                obtain ⟨wz13, hw13⟩ : ∃ W, ((wz12.setCell ⟨gx, 0, none⟩ (.bool (negR 0))).setCell ⟨gx, 1, none⟩ (.slice A9 (topL 0).length n9)).setCell ⟨gx, 2, none⟩ (.slice B9 (botL 0).length m9) = W := ⟨_, rfl⟩
                have Cx13 : Hid (Rw.Cel wz13 gx [.bool (negR 0), .slice A9 (topL 0).length n9, .slice B9 (botL 0).length m9]) := hw13 ▸ Cx12.out.put3 _ _ _
                have Cy13 : Hid (Rw.Cel wz13 gy [.bool false, .slice none 0 0, .slice none 0 0]) := hw13 ▸ far3 Cy12.out (by have := HNE.out; omega) _ _ _
                have HB13 : Hid (Below wq.heap.size wq wz13) := hw13 ▸ Rw.below_put3 HB12.out Lgx.out _ _ _
                have HV13 : Hid (IsR wz13 (.agg #[.bool (negR 0), .slice A9 (topL 0).length n9, .slice B9 (botL 0).length m9]) 0) := hw13 ▸ InR.put3 HV12.out (cel_root Cx12.out) _ _ _
                rw [hw13]
                clear hw13
                refine wpAnyH_ready (rs := [9]) (by kernel_rfl) (by simp) ?_
                refine (AllReadyH.cons (o := { dst := none, op := Op.store 33 (Operand.tmp 17) (Operand.tmp 68), type := 0, pos := "ref.go:130", after := #[{ on := 7, ground := Ground.data }, { on := 5, ground := Ground.data }, { on := 8, ground := Ground.chain }, { on := 0, ground := Ground.phase }, { on := 1, ground := Ground.phase }, { on := 2, ground := Ground.phase }, { on := 3, ground := Ground.phase }, { on := 4, ground := Ground.phase }, { on := 5, ground := Ground.phase }, { on := 6, ground := Ground.phase }, { on := 7, ground := Ground.phase }, { on := 8, ground := Ground.phase }], guard := none }) rfl (fun K hK => ?_) AllReadyH.nil)
                · obtain ⟨s0, s1, s2⟩ := Cy13.out.three
                  obtain ⟨f0, f1, f2⟩ := Cy13.out.warm3
                  go_simp
                  refine hK.out _ _ ?_ (fun hHeld => ?_)
                  · exact Rw.below_put3 HB13.out Lgy.out _ _ _
                  clear hK K hHeld s0 s1 s2 f0 f1 f2
                  try simp only [Act.put, List.setIfInBounds_toArray, List.set_cons_zero, List.set_cons_succ]
                  obtain ⟨wz14, hw14⟩ : ∃ W, ((wz13.setCell ⟨gy, 0, none⟩ (.bool t0)).setCell ⟨gy, 1, none⟩ (.slice A6 p1 c6)).setCell ⟨gy, 2, none⟩ (.slice A8 p2 c8) = W := ⟨_, rfl⟩
                  have Cy14 : Hid (Rw.Cel wz14 gy [.bool t0, .slice A6 p1 c6, .slice A8 p2 c8]) := hw14 ▸ Cy13.out.put3 _ _ _
                  have Cx14 : Hid (Rw.Cel wz14 gx [.bool (negR 0), .slice A9 (topL 0).length n9, .slice B9 (botL 0).length m9]) := hw14 ▸ far3 Cx13.out (by have := HNE.out; omega) _ _ _
                  have HB14 : Hid (Below wq.heap.size wq wz14) := hw14 ▸ Rw.below_put3 HB13.out Lgy.out _ _ _
                  have HV14 : Hid (IsR wz14 (.agg #[.bool (negR 0), .slice A9 (topL 0).length n9, .slice B9 (botL 0).length m9]) 0) := hw14 ▸ InR.put3 HV13.out (cel_root Cy13.out) _ _ _
                  rw [hw14]
                  clear hw14
                  refine wpAnyH_done (by kernel_rfl) ?_ _
                  go_wp2_with fail
                  go_meet
                  case rel => exact ⟨gx, gy, _, _, _, _, _, _, _, _, _, _, _, _, _, _, rfl, rfl, Cx14.out, HV14.out, Cy14.out, HP.out.on HB14.out, HB14.out, Lgx.out, Lgy.out, HNE.out⟩
          · go_simp
            refine hK.out _ _ ?_ (fun hHeld => ?_)
            · exact bstep HB10.out (below_alloc _ _)
            clear hK K hHeld
            try simp only [Act.put, List.setIfInBounds_toArray, List.set_cons_zero, List.set_cons_succ]
            obtain ⟨wz15, hw15⟩ : ∃ W, wz10.alloc (.cells #[.bool false, .slice none 0 0, .slice none 0 0] 33) = W := ⟨_, rfl⟩
            obtain ⟨gy, hg15⟩ : ∃ g, wz10.heap.size = g := ⟨_, rfl⟩
            have hb : Below wz10.heap.size wz10 wz15 := hw15 ▸ below_alloc _ _
            have Cy15 : Hid (Rw.Cel wz15 gy [.bool false, .slice none 0 0, .slice none 0 0]) := hw15 ▸ hg15 ▸ Rw.Cel.new wz10 [_, _, _] _
            have Lgy : Hid (wq.heap.size ≤ gy) := Lib.hid (by have := HB10.out.size; omega)
            have HNE : Hid (gx ≠ gy) := Lib.hid (by have := Cx10.out.lt; omega)
            have Cx15 := Lib.hid (Cx10.out.on hb)
            have HB15 := Lib.hid (bstep HB10.out hb)
            rw [hw15, hg15]
            clear hw15 hg15 hb
            refine wpAnyH_ready (rs := [0]) (by kernel_rfl) (by simp) ?_
            refine (AllReadyH.cons (o := { dst := some 63, op := Op.call { callee := Callee.value (Operand.func 40), args := #[], argTypes := #[] }, type := 33, pos := "ref.go:130", after := #[], guard := none }) rfl (fun K hK => ?_) AllReadyH.nil)
            · go_simp
              refine (KZ.out _).mono ?_
              rintro e wz16 ⟨v16, rfl, hv, hb⟩
              obtain ⟨A9, n9, B9, m9, rfl, -, -⟩ := inR_open hv
              have HV16 := Lib.hid hv
              have HB16 := Lib.hid (bstep HB15.out hb)
              have Cx16 := Lib.hid (Cx15.out.on hb)
              have Cy16 := Lib.hid (Cy15.out.on hb)
              go_wp2_with fail
              refine hK.out _ _ ?_ (fun hHeld => ?_)
              · exact HB16.out
              clear hK K hHeld hv hb
              try simp only [Act.put, List.setIfInBounds_toArray, List.set_cons_zero, List.set_cons_succ]
              refine wpAnyH_ready (rs := [8]) (by kernel_rfl) (by simp) ?_
              refine (AllReadyH.cons (o := { dst := none, op := Op.store 33 (Operand.tmp 16) (Operand.tmp 63), type := 0, pos := "ref.go:130", after := #[{ on := 6, ground := Ground.data }, { on := 0, ground := Ground.data }, { on := 0, ground := Ground.chain }, { on := 0, ground := Ground.phase }, { on := 1, ground := Ground.textOnly Departure.lateStores }, { on := 2, ground := Ground.textOnly Departure.lateStores }, { on := 3, ground := Ground.textOnly Departure.lateStores }, { on := 4, ground := Ground.textOnly Departure.lateStores }, { on := 5, ground := Ground.textOnly Departure.lateStores }, { on := 6, ground := Ground.phase }, { on := 7, ground := Ground.phase }], guard := none }) rfl (fun K hK => ?_) AllReadyH.nil)
              · obtain ⟨s0, s1, s2⟩ := Cx16.out.three
                obtain ⟨f0, f1, f2⟩ := Cx16.out.warm3
                go_simp
                refine hK.out _ _ ?_ (fun hHeld => ?_)
                · exact Rw.below_put3 HB16.out Lgx.out _ _ _
                clear hK K hHeld s0 s1 s2 f0 f1 f2
                try simp only [Act.put, List.setIfInBounds_toArray, List.set_cons_zero, List.set_cons_succ]
                obtain ⟨wz17, hw17⟩ : ∃ W, ((wz16.setCell ⟨gx, 0, none⟩ (.bool (negR 0))).setCell ⟨gx, 1, none⟩ (.slice A9 (topL 0).length n9)).setCell ⟨gx, 2, none⟩ (.slice B9 (botL 0).length m9) = W := ⟨_, rfl⟩
                have Cx17 : Hid (Rw.Cel wz17 gx [.bool (negR 0), .slice A9 (topL 0).length n9, .slice B9 (botL 0).length m9]) := hw17 ▸ Cx16.out.put3 _ _ _
                have Cy17 : Hid (Rw.Cel wz17 gy [.bool false, .slice none 0 0, .slice none 0 0]) := hw17 ▸ far3 Cy16.out (by have := HNE.out; omega) _ _ _
                have HB17 : Hid (Below wq.heap.size wq wz17) := hw17 ▸ Rw.below_put3 HB16.out Lgx.out _ _ _
                have HV17 : Hid (IsR wz17 (.agg #[.bool (negR 0), .slice A9 (topL 0).length n9, .slice B9 (botL 0).length m9]) 0) := hw17 ▸ InR.put3 HV16.out (cel_root Cx16.out) _ _ _
                rw [hw17]
                clear hw17
                refine wpAnyH_ready (rs := [9]) (by kernel_rfl) (by simp) ?_
                refine (AllReadyH.cons (o := { dst := none, op := Op.store 33 (Operand.tmp 17) (Operand.tmp 68), type := 0, pos := "ref.go:130", after := #[{ on := 7, ground := Ground.data }, { on := 5, ground := Ground.data }, { on := 8, ground := Ground.chain }, { on := 0, ground := Ground.phase }, { on := 1, ground := Ground.phase }, { on := 2, ground := Ground.phase }, { on := 3, ground := Ground.phase }, { on := 4, ground := Ground.phase }, { on := 5, ground := Ground.phase }, { on := 6, ground := Ground.phase }, { on := 7, ground := Ground.phase }, { on := 8, ground := Ground.phase }], guard := none }) rfl (fun K hK => ?_) AllReadyH.nil)
                · obtain ⟨s0, s1, s2⟩ := Cy17.out.three
                  obtain ⟨f0, f1, f2⟩ := Cy17.out.warm3
                  go_simp
                  refine hK.out _ _ ?_ (fun hHeld => ?_)
                  · exact Rw.below_put3 HB17.out Lgy.out _ _ _
                  clear hK K hHeld s0 s1 s2 f0 f1 f2
                  try simp only [Act.put, List.setIfInBounds_toArray, List.set_cons_zero, List.set_cons_succ]
                  obtain ⟨wz18, hw18⟩ : ∃ W, ((wz17.setCell ⟨gy, 0, none⟩ (.bool t0)).setCell ⟨gy, 1, none⟩ (.slice A6 p1 c6)).setCell ⟨gy, 2, none⟩ (.slice A8 p2 c8) = W := ⟨_, rfl⟩
                  have Cy18 : Hid (Rw.Cel wz18 gy [.bool t0, .slice A6 p1 c6, .slice A8 p2 c8]) := hw18 ▸ Cy17.out.put3 _ _ _
                  have Cx18 : Hid (Rw.Cel wz18 gx [.bool (negR 0), .slice A9 (topL 0).length n9, .slice B9 (botL 0).length m9]) := hw18 ▸ far3 Cx17.out (by have := HNE.out; omega) _ _ _
                  have HB18 : Hid (Below wq.heap.size wq wz18) := hw18 ▸ Rw.below_put3 HB17.out Lgy.out _ _ _
                  have HV18 : Hid (IsR wz18 (.agg #[.bool (negR 0), .slice A9 (topL 0).length n9, .slice B9 (botL 0).length m9]) 0) := hw18 ▸ InR.put3 HV17.out (cel_root Cy17.out) _ _ _
                  rw [hw18]
                  clear hw18
                  refine wpAnyH_done (by kernel_rfl) ?_ _
                  go_wp2_with fail
                  go_meet
                  case rel => exact ⟨gx, gy, _, _, _, _, _, _, _, _, _, _, _, _, _, _, rfl, rfl, Cx18.out, HV18.out, Cy18.out, HP.out.on HB18.out, HB18.out, Lgx.out, Lgy.out, HNE.out⟩
        · go_simp
          refine hK.out _ _ ?_ (fun hHeld => ?_)
          · exact bstep HBd.out (below_alloc _ _)
          clear hK K hHeld
          try simp only [Act.put, List.setIfInBounds_toArray, List.set_cons_zero, List.set_cons_succ]
          obtain ⟨wz19, hw19⟩ : ∃ W, wd.alloc (.cells #[.bool false, .slice none 0 0, .slice none 0 0] 33) = W := ⟨_, rfl⟩
          obtain ⟨gy, hg19⟩ : ∃ g, wd.heap.size = g := ⟨_, rfl⟩
          have hb : Below wd.heap.size wd wz19 := hw19 ▸ below_alloc _ _
          have Cy19 : Hid (Rw.Cel wz19 gy [.bool false, .slice none 0 0, .slice none 0 0]) := hw19 ▸ hg19 ▸ Rw.Cel.new wd [_, _, _] _
          have Lgy : Hid (wq.heap.size ≤ gy) := Lib.hid (by have := HBd.out.size; omega)
          have HB19 := Lib.hid (bstep HBd.out hb)
          rw [hw19, hg19]
          clear hw19 hg19 hb
          refine wpAnyH_ready (rs := [0, 6]) (by kernel_rfl) (by simp) ?_
          refine (AllReadyH.cons (o := { dst := some 63, op := Op.call { callee := Callee.value (Operand.func 40), args := #[], argTypes := #[] }, type := 33, pos := "ref.go:130", after := #[], guard := none }) rfl (fun K hK => ?_) (AllReadyH.cons (o := { dst := some 16, op := Op.alloc 33, type := 0, pos := "ref.go:130", after := #[], guard := none }) rfl (fun K hK => ?_) AllReadyH.nil))
          · go_simp
            refine (KZ.out _).mono ?_
            rintro e wz20 ⟨v20, rfl, hv, hb⟩
            obtain ⟨A9, n9, B9, m9, rfl, -, -⟩ := inR_open hv
            have HV20 := Lib.hid hv
            have HB20 := Lib.hid (bstep HB19.out hb)
            have Cy20 := Lib.hid (Cy19.out.on hb)
            go_wp2_with fail
            refine hK.out _ _ ?_ (fun hHeld => ?_)
            · exact HB20.out
            clear hK K hHeld hv hb
            try simp only [Act.put, List.setIfInBounds_toArray, List.set_cons_zero, List.set_cons_succ]
            refine wpAnyH_ready (rs := [6]) (by kernel_rfl) (by simp) ?_
            refine (AllReadyH.cons (o := { dst := some 16, op := Op.alloc 33, type := 0, pos := "ref.go:130", after := #[], guard := none }) rfl (fun K hK => ?_) AllReadyH.nil)
            · go_simp
              refine hK.out _ _ ?_ (fun hHeld => ?_)
              · exact bstep HB20.out (below_alloc _ _)
              clear hK K hHeld
              try simp only [Act.put, List.setIfInBounds_toArray, List.set_cons_zero, List.set_cons_succ]
              obtain ⟨wz21, hw21⟩ : ∃ W, wz20.alloc (.cells #[.bool false, .slice none 0 0, .slice none 0 0] 33) = W := ⟨_, rfl⟩
              obtain ⟨gx, hg21⟩ : ∃ g, wz20.heap.size = g := ⟨_, rfl⟩
              have hb : Below wz20.heap.size wz20 wz21 := hw21 ▸ below_alloc _ _
              have Cx21 : Hid (Rw.Cel wz21 gx [.bool false, .slice none 0 0, .slice none 0 0]) := hw21 ▸ hg21 ▸ Rw.Cel.new wz20 [_, _, _] _
              have Lgx : Hid (wq.heap.size ≤ gx) := Lib.hid (by have := HB20.out.size; omega)
              have HNE : Hid (gx ≠ gy) := Lib.hid (by have := Cy20.out.lt; omega)
              have Cy21 := Lib.hid (Cy20.out.on hb)
              have HB21 := Lib.hid (bstep HB20.out hb)
              have HV21 := Lib.hid (IsR.on HV20.out hb)
              rw [hw21, hg21]
              clear hw21 hg21 hb
              refine wpAnyH_ready (rs := [8]) (by kernel_rfl) (by simp) ?_
              refine (AllReadyH.cons (o := { dst := none, op := Op.store 33 (Operand.tmp 16) (Operand.tmp 63), type := 0, pos := "ref.go:130", after := #[{ on := 6, ground := Ground.data }, { on := 0, ground := Ground.data }, { on := 0, ground := Ground.chain }, { on := 0, ground := Ground.phase }, { on := 1, ground := Ground.textOnly Departure.lateStores }, { on := 2, ground := Ground.textOnly Departure.lateStores }, { on := 3, ground := Ground.textOnly Departure.lateStores }, { on := 4, ground := Ground.textOnly Departure.lateStores }, { on := 5, ground := Ground.textOnly Departure.lateStores }, { on := 6, ground := Ground.phase }, { on := 7, ground := Ground.phase }], guard := none }) rfl (fun K hK => ?_) AllReadyH.nil)
              · obtain ⟨s0, s1, s2⟩ := Cx21.out.three
                obtain ⟨f0, f1, f2⟩ := Cx21.out.warm3
                go_simp
                refine hK.out _ _ ?_ (fun hHeld => ?_)
                · exact Rw.below_put3 HB21.out Lgx.out _ _ _
                clear hK K hHeld s0 s1 s2 f0 f1 f2
                try simp only [Act.put, List.setIfInBounds_toArray, List.set_cons_zero, List.set_cons_succ]
                obtain ⟨wz22, hw22⟩ : ∃ W, ((wz21.setCell ⟨gx, 0, none⟩ (.bool (negR 0))).setCell ⟨gx, 1, none⟩ (.slice A9 (topL 0).length n9)).setCell ⟨gx, 2, none⟩ (.slice B9 (botL 0).length m9) = W := ⟨_, rfl⟩
                have Cx22 : Hid (Rw.Cel wz22 gx [.bool (negR 0), .slice A9 (topL 0).length n9, .slice B9 (botL 0).length m9]) := hw22 ▸ Cx21.out.put3 _ _ _
                have Cy22 : Hid (Rw.Cel wz22 gy [.bool false, .slice none 0 0, .slice none 0 0]) := hw22 ▸ far3 Cy21.out (by have := HNE.out; omega) _ _ _
                have HB22 : Hid (Below wq.heap.size wq wz22) := hw22 ▸ Rw.below_put3 HB21.out Lgx.out _ _ _
                have HV22 : Hid (IsR wz22 (.agg #[.bool (negR 0), .slice A9 (topL 0).length n9, .slice B9 (botL 0).length m9]) 0) := hw22 ▸ InR.put3 HV21.out (cel_root Cx21.out) _ _ _
                rw [hw22]
                clear hw22
                refine wpAnyH_ready (rs := [9]) (by kernel_rfl) (by simp) ?_
                refine (AllReadyH.cons (o := { dst := none, op := Op.store 33 (Operand.tmp 17) (Operand.tmp 68), type := 0, pos := "ref.go:130", after := #[{ on := 7, ground := Ground.data }, { on := 5, ground := Ground.data }, { on := 8, ground := Ground.chain }, { on := 0, ground := Ground.phase }, { on := 1, ground := Ground.phase }, { on := 2, ground := Ground.phase }, { on := 3, ground := Ground.phase }, { on := 4, ground := Ground.phase }, { on := 5, ground := Ground.phase }, { on := 6, ground := Ground.phase }, { on := 7, ground := Ground.phase }, { on := 8, ground := Ground.phase }], guard := none }) rfl (fun K hK => ?_) AllReadyH.nil)
                · obtain ⟨s0, s1, s2⟩ := Cy22.out.three
                  obtain ⟨f0, f1, f2⟩ := Cy22.out.warm3
                  go_simp
                  refine hK.out _ _ ?_ (fun hHeld => ?_)
                  · exact Rw.below_put3 HB22.out Lgy.out _ _ _
                  clear hK K hHeld s0 s1 s2 f0 f1 f2
                  try simp only [Act.put, List.setIfInBounds_toArray, List.set_cons_zero, List.set_cons_succ]
                  obtain ⟨wz23, hw23⟩ : ∃ W, ((wz22.setCell ⟨gy, 0, none⟩ (.bool t0)).setCell ⟨gy, 1, none⟩ (.slice A6 p1 c6)).setCell ⟨gy, 2, none⟩ (.slice A8 p2 c8) = W := ⟨_, rfl⟩
                  have Cy23 : Hid (Rw.Cel wz23 gy [.bool t0, .slice A6 p1 c6, .slice A8 p2 c8]) := hw23 ▸ Cy22.out.put3 _ _ _
                  have Cx23 : Hid (Rw.Cel wz23 gx [.bool (negR 0), .slice A9 (topL 0).length n9, .slice B9 (botL 0).length m9]) := hw23 ▸ far3 Cx22.out (by have := HNE.out; omega) _ _ _
                  have HB23 : Hid (Below wq.heap.size wq wz23) := hw23 ▸ Rw.below_put3 HB22.out Lgy.out _ _ _
                  have HV23 : Hid (IsR wz23 (.agg #[.bool (negR 0), .slice A9 (topL 0).length n9, .slice B9 (botL 0).length m9]) 0) := hw23 ▸ InR.put3 HV22.out (cel_root Cy22.out) _ _ _
                  rw [hw23]
                  clear hw23
                  refine wpAnyH_done (by kernel_rfl) ?_ _
                  go_wp2_with fail
                  go_meet
                  case rel => exact ⟨gx, gy, _, _, _, _, _, _, _, _, _, _, _, _, _, _, rfl, rfl, Cx23.out, HV23.out, Cy23.out, HP.out.on HB23.out, HB23.out, Lgx.out, Lgy.out, HNE.out⟩
          · go_simp
            refine hK.out _ _ ?_ (fun hHeld => ?_)
            · exact bstep HB19.out (below_alloc _ _)
            clear hK K hHeld
            try simp only [Act.put, List.setIfInBounds_toArray, List.set_cons_zero, List.set_cons_succ]
            obtain ⟨wz24, hw24⟩ : ∃ W, wz19.alloc (.cells #[.bool false, .slice none 0 0, .slice none 0 0] 33) = W := ⟨_, rfl⟩
            obtain ⟨gx, hg24⟩ : ∃ g, wz19.heap.size = g := ⟨_, rfl⟩
            have hb : Below wz19.heap.size wz19 wz24 := hw24 ▸ below_alloc _ _
            have Cx24 : Hid (Rw.Cel wz24 gx [.bool false, .slice none 0 0, .slice none 0 0]) := hw24 ▸ hg24 ▸ Rw.Cel.new wz19 [_, _, _] _
            have Lgx : Hid (wq.heap.size ≤ gx) := Lib.hid (by have := HB19.out.size; omega)
            have HNE : Hid (gx ≠ gy) := Lib.hid (by have := Cy19.out.lt; omega)
            have Cy24 := Lib.hid (Cy19.out.on hb)
            have HB24 := Lib.hid (bstep HB19.out hb)
            rw [hw24, hg24]
            clear hw24 hg24 hb
            refine wpAnyH_ready (rs := [0]) (by kernel_rfl) (by simp) ?_
            refine (AllReadyH.cons (o := { dst := some 63, op := Op.call { callee := Callee.value (Operand.func 40), args := #[], argTypes := #[] }, type := 33, pos := "ref.go:130", after := #[], guard := none }) rfl (fun K hK => ?_) AllReadyH.nil)
            · go_simp
              refine (KZ.out _).mono ?_
              rintro e wz25 ⟨v25, rfl, hv, hb⟩
              obtain ⟨A9, n9, B9, m9, rfl, -, -⟩ := inR_open hv
              have HV25 := Lib.hid hv
              have HB25 := Lib.hid (bstep HB24.out hb)
              have Cx25 := Lib.hid (Cx24.out.on hb)
              have Cy25 := Lib.hid (Cy24.out.on hb)
              go_wp2_with fail
              refine hK.out _ _ ?_ (fun hHeld => ?_)
              · exact HB25.out
              clear hK K hHeld hv hb
              try simp only [Act.put, List.setIfInBounds_toArray, List.set_cons_zero, List.set_cons_succ]
              refine wpAnyH_ready (rs := [8]) (by kernel_rfl) (by simp) ?_
              refine (AllReadyH.cons (o := { dst := none, op := Op.store 33 (Operand.tmp 16) (Operand.tmp 63), type := 0, pos := "ref.go:130", after := #[{ on := 6, ground := Ground.data }, { on := 0, ground := Ground.data }, { on := 0, ground := Ground.chain }, { on := 0, ground := Ground.phase }, { on := 1, ground := Ground.textOnly Departure.lateStores }, { on := 2, ground := Ground.textOnly Departure.lateStores }, { on := 3, ground := Ground.textOnly Departure.lateStores }, { on := 4, ground := Ground.textOnly Departure.lateStores }, { on := 5, ground := Ground.textOnly Departure.lateStores }, { on := 6, ground := Ground.phase }, { on := 7, ground := Ground.phase }], guard := none }) rfl (fun K hK => ?_) AllReadyH.nil)
              · obtain ⟨s0, s1, s2⟩ := Cx25.out.three
                obtain ⟨f0, f1, f2⟩ := Cx25.out.warm3
                go_simp
                refine hK.out _ _ ?_ (fun hHeld => ?_)
                · exact Rw.below_put3 HB25.out Lgx.out _ _ _
                clear hK K hHeld s0 s1 s2 f0 f1 f2
                try simp only [Act.put, List.setIfInBounds_toArray, List.set_cons_zero, List.set_cons_succ]
                obtain ⟨wz26, hw26⟩ : ∃ W, ((wz25.setCell ⟨gx, 0, none⟩ (.bool (negR 0))).setCell ⟨gx, 1, none⟩ (.slice A9 (topL 0).length n9)).setCell ⟨gx, 2, none⟩ (.slice B9 (botL 0).length m9) = W := ⟨_, rfl⟩
                have Cx26 : Hid (Rw.Cel wz26 gx [.bool (negR 0), .slice A9 (topL 0).length n9, .slice B9 (botL 0).length m9]) := hw26 ▸ Cx25.out.put3 _ _ _
                have Cy26 : Hid (Rw.Cel wz26 gy [.bool false, .slice none 0 0, .slice none 0 0]) := hw26 ▸ far3 Cy25.out (by have := HNE.out; omega) _ _ _
                have HB26 : Hid (Below wq.heap.size wq wz26) := hw26 ▸ Rw.below_put3 HB25.out Lgx.out _ _ _
                have HV26 : Hid (IsR wz26 (.agg #[.bool (negR 0), .slice A9 (topL 0).length n9, .slice B9 (botL 0).length m9]) 0) := hw26 ▸ InR.put3 HV25.out (cel_root Cx25.out) _ _ _
                rw [hw26]
                clear hw26
                refine wpAnyH_ready (rs := [9]) (by kernel_rfl) (by simp) ?_
                refine (AllReadyH.cons (o := { dst := none, op := Op.store 33 (Operand.tmp 17) (Operand.tmp 68), type := 0, pos := "ref.go:130", after := #[{ on := 7, ground := Ground.data }, { on := 5, ground := Ground.data }, { on := 8, ground := Ground.chain }, { on := 0, ground := Ground.phase }, { on := 1, ground := Ground.phase }, { on := 2, ground := Ground.phase }, { on := 3, ground := Ground.phase }, { on := 4, ground := Ground.phase }, { on := 5, ground := Ground.phase }, { on := 6, ground := Ground.phase }, { on := 7, ground := Ground.phase }, { on := 8, ground := Ground.phase }], guard := none }) rfl (fun K hK => ?_) AllReadyH.nil)
                · obtain ⟨s0, s1, s2⟩ := Cy26.out.three
                  obtain ⟨f0, f1, f2⟩ := Cy26.out.warm3
                  go_simp
                  refine hK.out _ _ ?_ (fun hHeld => ?_)
                  · exact Rw.below_put3 HB26.out Lgy.out _ _ _
                  clear hK K hHeld s0 s1 s2 f0 f1 f2
                  try simp only [Act.put, List.setIfInBounds_toArray, List.set_cons_zero, List.set_cons_succ]
                  obtain ⟨wz27, hw27⟩ : ∃ W, ((wz26.setCell ⟨gy, 0, none⟩ (.bool t0)).setCell ⟨gy, 1, none⟩ (.slice A6 p1 c6)).setCell ⟨gy, 2, none⟩ (.slice A8 p2 c8) = W := ⟨_, rfl⟩
                  have Cy27 : Hid (Rw.Cel wz27 gy [.bool t0, .slice A6 p1 c6, .slice A8 p2 c8]) := hw27 ▸ Cy26.out.put3 _ _ _
                  have Cx27 : Hid (Rw.Cel wz27 gx [.bool (negR 0), .slice A9 (topL 0).length n9, .slice B9 (botL 0).length m9]) := hw27 ▸ far3 Cx26.out (by have := HNE.out; omega) _ _ _
                  have HB27 : Hid (Below wq.heap.size wq wz27) := hw27 ▸ Rw.below_put3 HB26.out Lgy.out _ _ _
                  have HV27 : Hid (IsR wz27 (.agg #[.bool (negR 0), .slice A9 (topL 0).length n9, .slice B9 (botL 0).length m9]) 0) := hw27 ▸ InR.put3 HV26.out (cel_root Cy26.out) _ _ _
                  rw [hw27]
                  clear hw27
                  refine wpAnyH_done (by kernel_rfl) ?_ _
                  go_wp2_with fail
                  go_meet
                  case rel => exact ⟨gx, gy, _, _, _, _, _, _, _, _, _, _, _, _, _, _, rfl, rfl, Cx27.out, HV27.out, Cy27.out, HP.out.on HB27.out, HB27.out, Lgx.out, Lgy.out, HNE.out⟩
      case rest =>
        obtain ⟨gx, gy, bx, Ax, nx, cx, Bx, mx, dx, by_, Ay, ny, cy, By, my, dy, rfl, rfl, hcx, hvx, hcy, hvy, hb, hlx, hly, hne⟩ := hcut
        have CX := Lib.hid hcx
        have CY := Lib.hid hcy
        have VX := Lib.hid hvx
        have VY := Lib.hid hvy
        have BC := Lib.hid hb
        have LX := Lib.hid hlx
        have LY := Lib.hid hly
        have HNE := Lib.hid hne
        clear hcx hvx hcy hvy hb hlx hly hne x0 x1 y0 y1 y2
        have HP7 := Lib.hid (HP.out.on BC.out)
        have M9 := Lib.hid (M7.out.on BC.out)
        have O9 := Lib.hid (O8.out.on BC.out)
        have FP := Lib.hid (trip_form VT.out).1
        have KT := Lib.hid fun a b c W h1 h2 h3 => tk_taken (rT t) (qI mass) V FP.out FM.out FV.out a b c W h1 h2 h3
        have HXk : Hid ((drX L mass)[k]? = some (if mass = 0 then 0 else tkX (rT t) (qI mass) V)) := Lib.hid (by unfold drX; rw [List.getElem?_map, qs_at HTk.out, HV.out]; rfl)
        have HYk : Hid ((drY L mass)[k]? = some (if mass = 0 then rT t else tkY (rT t) (qI mass) V)) := Lib.hid (by unfold drY; rw [List.getElem?_map, qs_at HTk.out, HV.out]; rfl)
        obtain ⟨F, hF⟩ : ∃ F, tkE (rT t) (qI mass) V = F := ⟨_, rfl⟩
        obtain ⟨X, hX⟩ : ∃ X, tkX (rT t) (qI mass) V = X := ⟨_, rfl⟩
        obtain ⟨Y, hY⟩ : ∃ Y, tkY (rT t) (qI mass) V = Y := ⟨_, rfl⟩
        have HFit : Hid (F = 0 → fitR X = true ∧ fitR Y = true) := fun h => by
          obtain ⟨-, h2, h3⟩ := tkE_of (hF.trans h)
          exact ⟨hX ▸ fit_div h2, hY ▸ fit_sub FP.out (fit_div h2) h3⟩
        rw [hF, hX, hY] at KT
        rw [hX] at HXk
        rw [hY] at HYk
        have HF := Lib.hid hF
        clear hF hX hY
        have HCB : Hid (∀ W, Below wq.heap.size wq W → (W.cell? ⟨w.heap.size, 0, none⟩ = some (.int .i64 cap) ∧ W.cell? ⟨w.heap.size, 1, none⟩ = some (.slice (some ⟨b2, o2, none⟩) n c)) ∧ (W.cell? ⟨b2, o2 + k * 3, none⟩ = some (.bool t0) ∧ W.cell? ⟨b2, o2 + k * 3 + 1, none⟩ = some (.slice A6 p1 c6) ∧ W.cell? ⟨b2, o2 + k * 3 + 2, none⟩ = some (.slice A8 p2 c8)) ∧ (W.cell? ⟨gm, 0, none⟩ = some (.bool b3) ∧ W.cell? ⟨gm, 1, none⟩ = some (.slice A3 n3 c3) ∧ W.cell? ⟨gm, 2, none⟩ = some (.slice B3 m3 e3)) ∧ (W.cell? ⟨gl, 0, none⟩ = some (.bool b1) ∧ W.cell? ⟨gl, 1, none⟩ = some (.slice A1 n1 c1) ∧ W.cell? ⟨gl, 2, none⟩ = some (.slice B1 m1 e1))) := fun W hb => ⟨(HCE.out W hb).1, (HCE.out W hb).2, (N7.out.on hb).three, (L7.out.on hb).three⟩
        by_cases hbad : ¬ mass = 0 ∧ ¬ F = 0
        · obtain ⟨hm, hz⟩ := hbad
          obtain ⟨g1, g2⟩ := ne_zero hz
          have d5 : decide (0 < mass) = true := decide_eq_true (by have := HM0.out; omega)
          obtain rfl : G = F := by
            rw [← HG.out, HTK.out, if_neg hm, HV.out, ← HF.out]
            exact tkF_bad (qs_at HTk.out) (by rw [HF.out]; exact hz) fun j u hj hu => HVv.out j u hj hu hm
          obtain ⟨h1, h2, h3⟩ := NO.out hz
          subst h1; subst h2; subst h3
          have HZz := Lib.hid hz
          clear hm hz
          go_upto_region 19 with fail
          refine wp_region_held_drew (S := (fun W => Below wq.heap.size wq W)) (by kernel_rfl) (below_drew BC.out) (fun hHeld => ?_)
          refine wpAnyH_take (i := 0) (oi := { dst := some 72, op := Op.fieldAddr 24 (Operand.tmp 2) 1, type := 0, pos := "ref.go:132", after := #[], guard := none }) (v := ?_) rfl (by kernel_rfl) (by kernel_rfl) (by kernel_rfl) (fun _ _ _ h => h) (Or.inl ⟨by rfl, ?_⟩) (by assumption) ?_
          rotate_left
          · intro w hSw
            obtain ⟨⟨x0, x1⟩, ⟨y0, y1, y2⟩, ⟨z0, z1, z2⟩, z3, z4, z5⟩ := HCB.out _ hSw
            go_simp
            try with_reducible rfl
          try simp only [Act.put, List.setIfInBounds_toArray, List.set_cons_zero, List.set_cons_succ]
          refine wpAnyH_take (i := 1) (oi := { dst := some 73, op := Op.load 22 (Operand.tmp 72), type := 22, pos := "ref.go:132", after := #[{ on := 0, ground := Ground.data }], guard := none }) (v := ?_) rfl (by kernel_rfl) (by kernel_rfl) (by kernel_rfl) (fun _ _ _ h => h) (Or.inl ⟨by rfl, ?_⟩) (by assumption) ?_
          rotate_left
          · intro w hSw
            obtain ⟨⟨x0, x1⟩, ⟨y0, y1, y2⟩, ⟨z0, z1, z2⟩, z3, z4, z5⟩ := HCB.out _ hSw
            go_simp
            try with_reducible rfl
          try simp only [Act.put, List.setIfInBounds_toArray, List.set_cons_zero, List.set_cons_succ]
          refine wpAnyH_take (i := 2) (oi := { dst := some 74, op := Op.move (Operand.tmp 15), type := 3, pos := "ref.go:132", after := #[], guard := none }) (v := ?_) rfl (by kernel_rfl) (by kernel_rfl) (by kernel_rfl) (fun _ _ _ h => h) (Or.inl ⟨by rfl, ?_⟩) (by assumption) ?_
          rotate_left
          · intro w hSw
            obtain ⟨⟨x0, x1⟩, ⟨y0, y1, y2⟩, ⟨z0, z1, z2⟩, z3, z4, z5⟩ := HCB.out _ hSw
            go_simp
            try with_reducible rfl
          try simp only [Act.put, List.setIfInBounds_toArray, List.set_cons_zero, List.set_cons_succ]
          refine wpAnyH_take (i := 3) (oi := { dst := some 75, op := Op.indexAddr 22 (Operand.tmp 73) (Operand.tmp 74), type := 0, pos := "ref.go:132", after := #[{ on := 1, ground := Ground.data }, { on := 2, ground := Ground.data }], guard := none }) (v := ?_) rfl (by kernel_rfl) (by kernel_rfl) (by kernel_rfl) (fun _ _ _ h => h) (Or.inl ⟨by rfl, ?_⟩) (by assumption) ?_
          rotate_left
          · intro w hSw
            obtain ⟨⟨x0, x1⟩, ⟨y0, y1, y2⟩, ⟨z0, z1, z2⟩, z3, z4, z5⟩ := HCB.out _ hSw
            go_simp
            try with_reducible rfl
          try simp only [Act.put, List.setIfInBounds_toArray, List.set_cons_zero, List.set_cons_succ]
          refine wpAnyH_take (i := 4) (oi := { dst := some 76, op := Op.load 33 (Operand.tmp 75), type := 33, pos := "ref.go:132", after := #[{ on := 3, ground := Ground.data }], guard := none }) (v := ?_) rfl (by kernel_rfl) (by kernel_rfl) (by kernel_rfl) (fun _ _ _ h => h) (Or.inl ⟨by rfl, ?_⟩) (by assumption) ?_
          rotate_left
          · intro w hSw
            obtain ⟨⟨x0, x1⟩, ⟨y0, y1, y2⟩, ⟨z0, z1, z2⟩, z3, z4, z5⟩ := HCB.out _ hSw
            go_simp
            try with_reducible rfl
          try simp only [Act.put, List.setIfInBounds_toArray, List.set_cons_zero, List.set_cons_succ]
          refine wpAnyH_take (i := 5) (oi := { dst := some 77, op := Op.load 33 (Operand.tmp 9), type := 33, pos := "ref.go:132", after := #[], guard := none }) (v := ?_) rfl (by kernel_rfl) (by kernel_rfl) (by kernel_rfl) (fun _ _ _ h => h) (Or.inl ⟨by rfl, ?_⟩) (by assumption) ?_
          rotate_left
          · intro w hSw
            obtain ⟨⟨x0, x1⟩, ⟨y0, y1, y2⟩, ⟨z0, z1, z2⟩, z3, z4, z5⟩ := HCB.out _ hSw
            go_simp
            try with_reducible rfl
          try simp only [Act.put, List.setIfInBounds_toArray, List.set_cons_zero, List.set_cons_succ]
          refine wpAnyH_take (i := 6) (oi := { dst := some 78, op := Op.load 33 (Operand.tmp 7), type := 33, pos := "ref.go:132", after := #[], guard := none }) (v := ?_) rfl (by kernel_rfl) (by kernel_rfl) (by kernel_rfl) (fun _ _ _ h => h) (Or.inl ⟨by rfl, ?_⟩) (by assumption) ?_
          rotate_left
          · intro w hSw
            obtain ⟨⟨x0, x1⟩, ⟨y0, y1, y2⟩, ⟨z0, z1, z2⟩, z3, z4, z5⟩ := HCB.out _ hSw
            go_simp
            try with_reducible rfl
          try simp only [Act.put, List.setIfInBounds_toArray, List.set_cons_zero, List.set_cons_succ]
          refine wpAnyH_ready (rs := [7]) (by kernel_rfl) (by simp) ?_
          refine AllReadyH.cons (o := { dst := some 79, op := Op.call { callee := Callee.value (Operand.func 56), args := #[Operand.tmp 76, Operand.tmp 77, Operand.tmp 78], argTypes := #[33, 33, 33] }, type := 68, pos := "ref.go:132", after := #[{ on := 4, ground := Ground.data }, { on := 5, ground := Ground.data }, { on := 6, ground := Ground.data }], guard := none }) rfl (fun K hK => ?_) AllReadyH.nil
          go_simp
          refine (KT.out _ _ _ _ (HP7.out.on (drew_below _)) (M9.out.on (drew_below _)) (O9.out.on (drew_below _))).mono ?_
          rintro e w8 h8
          obtain ⟨q1, q2, q3, q4, q5, q6, q7, r1, r2, r3, r4, r5, r6, r7, rfl, hox, hoy, hb8⟩ := h8.op
          have HOX := Lib.hid hox
          have HOY := Lib.hid hoy
          have X8 := Lib.hid (CX.out.on (bstep (drew_below _) hb8))
          have Y8 := Lib.hid (CY.out.on (bstep (drew_below _) hb8))
          have D8 := Lib.hid (bstep BC.out (bstep (drew_below _) hb8))
          go_wp2_with fail
          refine hK.out _ _ ?_ (fun hHeld => ?_)
          · exact D8.out
          clear hK K h8 hox hoy hb8
          try simp only [Act.put, List.setIfInBounds_toArray, List.set_cons_zero, List.set_cons_succ]
          refine wpAnyH_take (i := 8) (oi := { dst := some 71, op := Op.move (Operand.tmp 79), type := 68, pos := "ref.go:132", after := #[{ on := 7, ground := Ground.data }], guard := none }) (v := ?_) rfl (by kernel_rfl) (by kernel_rfl) (by kernel_rfl) (fun _ _ _ h => h) (Or.inl ⟨by rfl, ?_⟩) (by assumption) ?_
          rotate_left
          · intro w hSw
            go_simp
            try with_reducible rfl
          try simp only [Act.put, List.setIfInBounds_toArray, List.set_cons_zero, List.set_cons_succ]
          refine wpAnyH_take (i := 9) (oi := { dst := some 80, op := Op.extract (Operand.tmp 71) 0, type := 33, pos := "ref.go:132", after := #[{ on := 8, ground := Ground.data }], guard := none }) (v := ?_) rfl (by kernel_rfl) (by kernel_rfl) (by kernel_rfl) (fun _ _ _ h => h) (Or.inl ⟨by rfl, ?_⟩) (by assumption) ?_
          rotate_left
          · intro w hSw
            go_simp
            try with_reducible rfl
          try simp only [Act.put, List.setIfInBounds_toArray, List.set_cons_zero, List.set_cons_succ]
          refine wpAnyH_take (i := 10) (oi := { dst := some 81, op := Op.extract (Operand.tmp 71) 1, type := 33, pos := "ref.go:132", after := #[{ on := 8, ground := Ground.data }, { on := 12, ground := Ground.gcOnly Departure.lateStores }], guard := none }) (v := ?_) rfl (by kernel_rfl) (by kernel_rfl) (by kernel_rfl) (fun _ _ _ h => h) (Or.inl ⟨by rfl, ?_⟩) (by assumption) ?_
          rotate_left
          · intro w hSw
            go_simp
            try with_reducible rfl
          try simp only [Act.put, List.setIfInBounds_toArray, List.set_cons_zero, List.set_cons_succ]
          refine wpAnyH_take (i := 11) (oi := { dst := some 82, op := Op.extract (Operand.tmp 71) 2, type := 27, pos := "ref.go:132", after := #[{ on := 8, ground := Ground.data }, { on := 13, ground := Ground.gcOnly Departure.lateStores }], guard := none }) (v := ?_) rfl (by kernel_rfl) (by kernel_rfl) (by kernel_rfl) (fun _ _ _ h => h) (Or.inl ⟨by rfl, ?_⟩) (by assumption) ?_
          rotate_left
          · intro w hSw
            go_simp
            try with_reducible rfl
          try simp only [Act.put, List.setIfInBounds_toArray, List.set_cons_zero, List.set_cons_succ]
          refine wpAnyH_ready (rs := [12]) (by kernel_rfl) (by simp) ?_
          refine AllReadyH.cons (o := { dst := none, op := Op.store 33 (Operand.tmp 16) (Operand.tmp 80), type := 0, pos := "ref.go:132", after := #[{ on := 9, ground := Ground.data }, { on := 7, ground := Ground.chain }, { on := 0, ground := Ground.phase }, { on := 1, ground := Ground.phase }, { on := 2, ground := Ground.phase }, { on := 3, ground := Ground.phase }, { on := 4, ground := Ground.phase }, { on := 5, ground := Ground.phase }, { on := 6, ground := Ground.phase }, { on := 7, ground := Ground.phase }, { on := 8, ground := Ground.phase }, { on := 9, ground := Ground.phase }, { on := 10, ground := Ground.textOnly Departure.lateStores }, { on := 11, ground := Ground.textOnly Departure.lateStores }], guard := none }) rfl (fun K hK => ?_) AllReadyH.nil
          obtain ⟨s0, s1, s2⟩ := X8.out.three
          obtain ⟨f0, f1, f2⟩ := X8.out.warm3
          go_simp
          refine hK.out _ _ ?_ (fun hHeld => ?_)
          · exact Rw.below_put3 D8.out LX.out _ _ _
          clear hK K s0 s1 s2 f0 f1 f2
          try simp only [Act.put, List.setIfInBounds_toArray, List.set_cons_zero, List.set_cons_succ]
          obtain ⟨wx, hw⟩ : ∃ W, ((w8.setCell ⟨gx, 0, none⟩ (.bool q1)).setCell ⟨gx, 1, none⟩ (.slice q2 q3 q4)).setCell ⟨gx, 2, none⟩ (.slice q5 q6 q7) = W := ⟨_, rfl⟩
          have X9a : Hid (Rw.Cel wx gx [.bool q1, .slice q2 q3 q4, .slice q5 q6 q7]) := hw ▸ X8.out.put3 _ _ _
          have Y9a : Hid (Rw.Cel wx gy [.bool by_, .slice Ay ny cy, .slice By my dy]) := hw ▸ far3 Y8.out HNE.out _ _ _
          have D9a : Hid (Below wq.heap.size wq wx) := hw ▸ Rw.below_put3 D8.out LX.out _ _ _
          have K9a : Hid (Kep w8 wx) := hw ▸ Kep.rat X8.out _ _ _
          rw [hw]
          clear hw hHeld
          refine wpAnyH_ready (rs := [13]) (by kernel_rfl) (by simp) ?_
          refine AllReadyH.cons (o := { dst := none, op := Op.store 33 (Operand.tmp 17) (Operand.tmp 81), type := 0, pos := "ref.go:132", after := #[{ on := 10, ground := Ground.data }, { on := 12, ground := Ground.chain }, { on := 0, ground := Ground.phase }, { on := 1, ground := Ground.phase }, { on := 2, ground := Ground.phase }, { on := 3, ground := Ground.phase }, { on := 4, ground := Ground.phase }, { on := 5, ground := Ground.phase }, { on := 6, ground := Ground.phase }, { on := 7, ground := Ground.phase }, { on := 8, ground := Ground.phase }, { on := 9, ground := Ground.phase }, { on := 10, ground := Ground.phase }, { on := 11, ground := Ground.textOnly Departure.lateStores }, { on := 12, ground := Ground.phase }], guard := none }) rfl (fun K hK => ?_) AllReadyH.nil
          obtain ⟨s0, s1, s2⟩ := Y9a.out.three
          obtain ⟨f0, f1, f2⟩ := Y9a.out.warm3
          go_simp
          refine hK.out _ _ ?_ (fun hHeld => ?_)
          · exact Rw.below_put3 D9a.out LY.out _ _ _
          clear hK K s0 s1 s2 f0 f1 f2
          try simp only [Act.put, List.setIfInBounds_toArray, List.set_cons_zero, List.set_cons_succ]
          obtain ⟨w9, hw⟩ : ∃ W, ((wx.setCell ⟨gy, 0, none⟩ (.bool r1)).setCell ⟨gy, 1, none⟩ (.slice r2 r3 r4)).setCell ⟨gy, 2, none⟩ (.slice r5 r6 r7) = W := ⟨_, rfl⟩
          have X9 : Hid (Rw.Cel w9 gx [.bool q1, .slice q2 q3 q4, .slice q5 q6 q7]) := hw ▸ far3 X9a.out (fun e => HNE.out e.symm) _ _ _
          have Y9 : Hid (Rw.Cel w9 gy [.bool r1, .slice r2 r3 r4, .slice r5 r6 r7]) := hw ▸ Y9a.out.put3 _ _ _
          have D9 : Hid (Below wq.heap.size wq w9) := hw ▸ Rw.below_put3 D9a.out LY.out _ _ _
          have K9 : Hid (Kep w8 w9) := hw ▸ K9a.out.trans (Kep.rat Y9a.out _ _ _)
          rw [hw]
          clear hw
          refine wpAnyH_take (i := 14) (oi := { dst := some 8, op := Op.assign (Operand.tmp 82), type := 27, pos := "ref.go:132", after := #[{ on := 11, ground := Ground.data }, { on := 13, ground := Ground.chain }, { on := 0, ground := Ground.phase }, { on := 1, ground := Ground.phase }, { on := 2, ground := Ground.phase }, { on := 3, ground := Ground.phase }, { on := 4, ground := Ground.phase }, { on := 5, ground := Ground.phase }, { on := 6, ground := Ground.phase }, { on := 7, ground := Ground.phase }, { on := 8, ground := Ground.phase }, { on := 9, ground := Ground.phase }, { on := 10, ground := Ground.phase }, { on := 11, ground := Ground.phase }, { on := 12, ground := Ground.phase }, { on := 13, ground := Ground.phase }], guard := none }) (v := ?_) rfl (by kernel_rfl) (by kernel_rfl) (by kernel_rfl) (fun _ _ _ h => h) (Or.inl ⟨by rfl, ?_⟩) (by assumption) ?_
          rotate_left
          · intro w hSw
            go_simp
            try with_reducible rfl
          try simp only [Act.put, List.setIfInBounds_toArray, List.set_cons_zero, List.set_cons_succ]
          refine wpAnyH_done (by kernel_rfl) ?_ _
          have R9 := Lib.hid (R7.out.on D9.out)
          have BF := Lib.hid (bstep BW.out D9.out)
          obtain ⟨u0, u1⟩ := R9.out.two
          obtain ⟨v0, v1⟩ := R9.out.warm2
          go_wp2_with fail
          exact bodyPost_ret (res_tank3 Tryz.results23 rfl (R9.out.put2 _ _)) rfl (DrR.none_ (Rw.below_put2 BF.out (by omega) _ _))
        have HGood : Hid (¬ mass = 0 → F = 0) := fun hm => Classical.byContradiction fun h => hbad ⟨hm, h⟩
        clear hbad
        obtain ⟨bm, hbm⟩ : ∃ b, decide (0 < mass) = b := ⟨_, rfl⟩
        have HBM : Hid ((bm = true → ¬ mass = 0) ∧ (bm = false → mass = 0)) := Lib.hid ⟨fun h => by rw [h] at hbm; have := of_decide_eq_true hbm; omega, fun h => by rw [h] at hbm; have := of_decide_eq_false hbm; have := HM0.out; omega⟩
        go_upto_if 70 with fail
        clear hbm
        go_cut [8, 16, 17] from 56 to 96 (fun e x y wz => e = .int .i64 0 ∧ TwoB wq (if mass = 0 then 0 else X) (if mass = 0 then rT t else Y) x y wz)
        case first =>
          cases bm with
          | false =>
            have hm := HBM.out.2 rfl
            have hrel : TwoB wq (if mass = 0 then 0 else X) (if mass = 0 then rT t else Y) (.pointer (some ⟨gx, 0, none⟩)) (.pointer (some ⟨gy, 0, none⟩)) wc := by
              rw [if_pos hm, if_pos hm]
              exact ⟨gx, gy, _, _, _, _, _, _, _, _, _, _, _, _, _, _, rfl, rfl, CX.out, VX.out, CY.out, VY.out, BC.out, LX.out, LY.out, HNE.out⟩
            have HREL := Lib.hid hrel
            clear hm hrel
            go_wp2_with fail
            go_meet
            case rel => exact ⟨rfl, HREL.out⟩
          | true =>
            have hm := HBM.out.1 rfl
            obtain rfl := HGood.out hm
            have HFXY := Lib.hid (HFit.out rfl)
            have HMM := Lib.hid hm
            clear hm
            go_upto_region 19 with fail
            refine wp_region_held_drew (S := (fun W => Below wq.heap.size wq W)) (by kernel_rfl) (below_drew BC.out) (fun hHeld => ?_)
            refine wpAnyH_take (i := 0) (oi := { dst := some 72, op := Op.fieldAddr 24 (Operand.tmp 2) 1, type := 0, pos := "ref.go:132", after := #[], guard := none }) (v := ?_) rfl (by kernel_rfl) (by kernel_rfl) (by kernel_rfl) (fun _ _ _ h => h) (Or.inl ⟨by rfl, ?_⟩) (by assumption) ?_
            rotate_left
            · intro w hSw
              obtain ⟨⟨x0, x1⟩, ⟨y0, y1, y2⟩, ⟨z0, z1, z2⟩, z3, z4, z5⟩ := HCB.out _ hSw
              go_simp
              try with_reducible rfl
            try simp only [Act.put, List.setIfInBounds_toArray, List.set_cons_zero, List.set_cons_succ]
            refine wpAnyH_take (i := 1) (oi := { dst := some 73, op := Op.load 22 (Operand.tmp 72), type := 22, pos := "ref.go:132", after := #[{ on := 0, ground := Ground.data }], guard := none }) (v := ?_) rfl (by kernel_rfl) (by kernel_rfl) (by kernel_rfl) (fun _ _ _ h => h) (Or.inl ⟨by rfl, ?_⟩) (by assumption) ?_
            rotate_left
            · intro w hSw
              obtain ⟨⟨x0, x1⟩, ⟨y0, y1, y2⟩, ⟨z0, z1, z2⟩, z3, z4, z5⟩ := HCB.out _ hSw
              go_simp
              try with_reducible rfl
            try simp only [Act.put, List.setIfInBounds_toArray, List.set_cons_zero, List.set_cons_succ]
            refine wpAnyH_take (i := 2) (oi := { dst := some 74, op := Op.move (Operand.tmp 15), type := 3, pos := "ref.go:132", after := #[], guard := none }) (v := ?_) rfl (by kernel_rfl) (by kernel_rfl) (by kernel_rfl) (fun _ _ _ h => h) (Or.inl ⟨by rfl, ?_⟩) (by assumption) ?_
            rotate_left
            · intro w hSw
              obtain ⟨⟨x0, x1⟩, ⟨y0, y1, y2⟩, ⟨z0, z1, z2⟩, z3, z4, z5⟩ := HCB.out _ hSw
              go_simp
              try with_reducible rfl
            try simp only [Act.put, List.setIfInBounds_toArray, List.set_cons_zero, List.set_cons_succ]
            refine wpAnyH_take (i := 3) (oi := { dst := some 75, op := Op.indexAddr 22 (Operand.tmp 73) (Operand.tmp 74), type := 0, pos := "ref.go:132", after := #[{ on := 1, ground := Ground.data }, { on := 2, ground := Ground.data }], guard := none }) (v := ?_) rfl (by kernel_rfl) (by kernel_rfl) (by kernel_rfl) (fun _ _ _ h => h) (Or.inl ⟨by rfl, ?_⟩) (by assumption) ?_
            rotate_left
            · intro w hSw
              obtain ⟨⟨x0, x1⟩, ⟨y0, y1, y2⟩, ⟨z0, z1, z2⟩, z3, z4, z5⟩ := HCB.out _ hSw
              go_simp
              try with_reducible rfl
            try simp only [Act.put, List.setIfInBounds_toArray, List.set_cons_zero, List.set_cons_succ]
            refine wpAnyH_take (i := 4) (oi := { dst := some 76, op := Op.load 33 (Operand.tmp 75), type := 33, pos := "ref.go:132", after := #[{ on := 3, ground := Ground.data }], guard := none }) (v := ?_) rfl (by kernel_rfl) (by kernel_rfl) (by kernel_rfl) (fun _ _ _ h => h) (Or.inl ⟨by rfl, ?_⟩) (by assumption) ?_
            rotate_left
            · intro w hSw
              obtain ⟨⟨x0, x1⟩, ⟨y0, y1, y2⟩, ⟨z0, z1, z2⟩, z3, z4, z5⟩ := HCB.out _ hSw
              go_simp
              try with_reducible rfl
            try simp only [Act.put, List.setIfInBounds_toArray, List.set_cons_zero, List.set_cons_succ]
            refine wpAnyH_take (i := 5) (oi := { dst := some 77, op := Op.load 33 (Operand.tmp 9), type := 33, pos := "ref.go:132", after := #[], guard := none }) (v := ?_) rfl (by kernel_rfl) (by kernel_rfl) (by kernel_rfl) (fun _ _ _ h => h) (Or.inl ⟨by rfl, ?_⟩) (by assumption) ?_
            rotate_left
            · intro w hSw
              obtain ⟨⟨x0, x1⟩, ⟨y0, y1, y2⟩, ⟨z0, z1, z2⟩, z3, z4, z5⟩ := HCB.out _ hSw
              go_simp
              try with_reducible rfl
            try simp only [Act.put, List.setIfInBounds_toArray, List.set_cons_zero, List.set_cons_succ]
            refine wpAnyH_take (i := 6) (oi := { dst := some 78, op := Op.load 33 (Operand.tmp 7), type := 33, pos := "ref.go:132", after := #[], guard := none }) (v := ?_) rfl (by kernel_rfl) (by kernel_rfl) (by kernel_rfl) (fun _ _ _ h => h) (Or.inl ⟨by rfl, ?_⟩) (by assumption) ?_
            rotate_left
            · intro w hSw
              obtain ⟨⟨x0, x1⟩, ⟨y0, y1, y2⟩, ⟨z0, z1, z2⟩, z3, z4, z5⟩ := HCB.out _ hSw
              go_simp
              try with_reducible rfl
            try simp only [Act.put, List.setIfInBounds_toArray, List.set_cons_zero, List.set_cons_succ]
            refine wpAnyH_ready (rs := [7]) (by kernel_rfl) (by simp) ?_
            refine AllReadyH.cons (o := { dst := some 79, op := Op.call { callee := Callee.value (Operand.func 56), args := #[Operand.tmp 76, Operand.tmp 77, Operand.tmp 78], argTypes := #[33, 33, 33] }, type := 68, pos := "ref.go:132", after := #[{ on := 4, ground := Ground.data }, { on := 5, ground := Ground.data }, { on := 6, ground := Ground.data }], guard := none }) rfl (fun K hK => ?_) AllReadyH.nil
            go_simp
            refine (KT.out _ _ _ _ (HP7.out.on (drew_below _)) (M9.out.on (drew_below _)) (O9.out.on (drew_below _))).mono ?_
            rintro e w8 h8
            obtain ⟨q1, q2, q3, q4, q5, q6, q7, r1, r2, r3, r4, r5, r6, r7, rfl, hox, hoy, hb8⟩ := h8.op
            have HOX := Lib.hid hox
            have HOY := Lib.hid hoy
            have X8 := Lib.hid (CX.out.on (bstep (drew_below _) hb8))
            have Y8 := Lib.hid (CY.out.on (bstep (drew_below _) hb8))
            have D8 := Lib.hid (bstep BC.out (bstep (drew_below _) hb8))
            go_wp2_with fail
            refine hK.out _ _ ?_ (fun hHeld => ?_)
            · exact D8.out
            clear hK K h8 hox hoy hb8
            try simp only [Act.put, List.setIfInBounds_toArray, List.set_cons_zero, List.set_cons_succ]
            refine wpAnyH_take (i := 8) (oi := { dst := some 71, op := Op.move (Operand.tmp 79), type := 68, pos := "ref.go:132", after := #[{ on := 7, ground := Ground.data }], guard := none }) (v := ?_) rfl (by kernel_rfl) (by kernel_rfl) (by kernel_rfl) (fun _ _ _ h => h) (Or.inl ⟨by rfl, ?_⟩) (by assumption) ?_
            rotate_left
            · intro w hSw
              go_simp
              try with_reducible rfl
            try simp only [Act.put, List.setIfInBounds_toArray, List.set_cons_zero, List.set_cons_succ]
            refine wpAnyH_take (i := 9) (oi := { dst := some 80, op := Op.extract (Operand.tmp 71) 0, type := 33, pos := "ref.go:132", after := #[{ on := 8, ground := Ground.data }], guard := none }) (v := ?_) rfl (by kernel_rfl) (by kernel_rfl) (by kernel_rfl) (fun _ _ _ h => h) (Or.inl ⟨by rfl, ?_⟩) (by assumption) ?_
            rotate_left
            · intro w hSw
              go_simp
              try with_reducible rfl
            try simp only [Act.put, List.setIfInBounds_toArray, List.set_cons_zero, List.set_cons_succ]
            refine wpAnyH_take (i := 10) (oi := { dst := some 81, op := Op.extract (Operand.tmp 71) 1, type := 33, pos := "ref.go:132", after := #[{ on := 8, ground := Ground.data }, { on := 12, ground := Ground.gcOnly Departure.lateStores }], guard := none }) (v := ?_) rfl (by kernel_rfl) (by kernel_rfl) (by kernel_rfl) (fun _ _ _ h => h) (Or.inl ⟨by rfl, ?_⟩) (by assumption) ?_
            rotate_left
            · intro w hSw
              go_simp
              try with_reducible rfl
            try simp only [Act.put, List.setIfInBounds_toArray, List.set_cons_zero, List.set_cons_succ]
            refine wpAnyH_take (i := 11) (oi := { dst := some 82, op := Op.extract (Operand.tmp 71) 2, type := 27, pos := "ref.go:132", after := #[{ on := 8, ground := Ground.data }, { on := 13, ground := Ground.gcOnly Departure.lateStores }], guard := none }) (v := ?_) rfl (by kernel_rfl) (by kernel_rfl) (by kernel_rfl) (fun _ _ _ h => h) (Or.inl ⟨by rfl, ?_⟩) (by assumption) ?_
            rotate_left
            · intro w hSw
              go_simp
              try with_reducible rfl
            try simp only [Act.put, List.setIfInBounds_toArray, List.set_cons_zero, List.set_cons_succ]
            refine wpAnyH_ready (rs := [12]) (by kernel_rfl) (by simp) ?_
            refine AllReadyH.cons (o := { dst := none, op := Op.store 33 (Operand.tmp 16) (Operand.tmp 80), type := 0, pos := "ref.go:132", after := #[{ on := 9, ground := Ground.data }, { on := 7, ground := Ground.chain }, { on := 0, ground := Ground.phase }, { on := 1, ground := Ground.phase }, { on := 2, ground := Ground.phase }, { on := 3, ground := Ground.phase }, { on := 4, ground := Ground.phase }, { on := 5, ground := Ground.phase }, { on := 6, ground := Ground.phase }, { on := 7, ground := Ground.phase }, { on := 8, ground := Ground.phase }, { on := 9, ground := Ground.phase }, { on := 10, ground := Ground.textOnly Departure.lateStores }, { on := 11, ground := Ground.textOnly Departure.lateStores }], guard := none }) rfl (fun K hK => ?_) AllReadyH.nil
            obtain ⟨s0, s1, s2⟩ := X8.out.three
            obtain ⟨f0, f1, f2⟩ := X8.out.warm3
            go_simp
            refine hK.out _ _ ?_ (fun hHeld => ?_)
            · exact Rw.below_put3 D8.out LX.out _ _ _
            clear hK K s0 s1 s2 f0 f1 f2
            try simp only [Act.put, List.setIfInBounds_toArray, List.set_cons_zero, List.set_cons_succ]
            obtain ⟨wx, hw⟩ : ∃ W, ((w8.setCell ⟨gx, 0, none⟩ (.bool q1)).setCell ⟨gx, 1, none⟩ (.slice q2 q3 q4)).setCell ⟨gx, 2, none⟩ (.slice q5 q6 q7) = W := ⟨_, rfl⟩
            have X9a : Hid (Rw.Cel wx gx [.bool q1, .slice q2 q3 q4, .slice q5 q6 q7]) := hw ▸ X8.out.put3 _ _ _
            have Y9a : Hid (Rw.Cel wx gy [.bool by_, .slice Ay ny cy, .slice By my dy]) := hw ▸ far3 Y8.out HNE.out _ _ _
            have D9a : Hid (Below wq.heap.size wq wx) := hw ▸ Rw.below_put3 D8.out LX.out _ _ _
            have K9a : Hid (Kep w8 wx) := hw ▸ Kep.rat X8.out _ _ _
            rw [hw]
            clear hw hHeld
            refine wpAnyH_ready (rs := [13]) (by kernel_rfl) (by simp) ?_
            refine AllReadyH.cons (o := { dst := none, op := Op.store 33 (Operand.tmp 17) (Operand.tmp 81), type := 0, pos := "ref.go:132", after := #[{ on := 10, ground := Ground.data }, { on := 12, ground := Ground.chain }, { on := 0, ground := Ground.phase }, { on := 1, ground := Ground.phase }, { on := 2, ground := Ground.phase }, { on := 3, ground := Ground.phase }, { on := 4, ground := Ground.phase }, { on := 5, ground := Ground.phase }, { on := 6, ground := Ground.phase }, { on := 7, ground := Ground.phase }, { on := 8, ground := Ground.phase }, { on := 9, ground := Ground.phase }, { on := 10, ground := Ground.phase }, { on := 11, ground := Ground.textOnly Departure.lateStores }, { on := 12, ground := Ground.phase }], guard := none }) rfl (fun K hK => ?_) AllReadyH.nil
            obtain ⟨s0, s1, s2⟩ := Y9a.out.three
            obtain ⟨f0, f1, f2⟩ := Y9a.out.warm3
            go_simp
            refine hK.out _ _ ?_ (fun hHeld => ?_)
            · exact Rw.below_put3 D9a.out LY.out _ _ _
            clear hK K s0 s1 s2 f0 f1 f2
            try simp only [Act.put, List.setIfInBounds_toArray, List.set_cons_zero, List.set_cons_succ]
            obtain ⟨w9, hw⟩ : ∃ W, ((wx.setCell ⟨gy, 0, none⟩ (.bool r1)).setCell ⟨gy, 1, none⟩ (.slice r2 r3 r4)).setCell ⟨gy, 2, none⟩ (.slice r5 r6 r7) = W := ⟨_, rfl⟩
            have X9 : Hid (Rw.Cel w9 gx [.bool q1, .slice q2 q3 q4, .slice q5 q6 q7]) := hw ▸ far3 X9a.out (fun e => HNE.out e.symm) _ _ _
            have Y9 : Hid (Rw.Cel w9 gy [.bool r1, .slice r2 r3 r4, .slice r5 r6 r7]) := hw ▸ Y9a.out.put3 _ _ _
            have D9 : Hid (Below wq.heap.size wq w9) := hw ▸ Rw.below_put3 D9a.out LY.out _ _ _
            have K9 : Hid (Kep w8 w9) := hw ▸ K9a.out.trans (Kep.rat Y9a.out _ _ _)
            rw [hw]
            clear hw
            refine wpAnyH_take (i := 14) (oi := { dst := some 8, op := Op.assign (Operand.tmp 82), type := 27, pos := "ref.go:132", after := #[{ on := 11, ground := Ground.data }, { on := 13, ground := Ground.chain }, { on := 0, ground := Ground.phase }, { on := 1, ground := Ground.phase }, { on := 2, ground := Ground.phase }, { on := 3, ground := Ground.phase }, { on := 4, ground := Ground.phase }, { on := 5, ground := Ground.phase }, { on := 6, ground := Ground.phase }, { on := 7, ground := Ground.phase }, { on := 8, ground := Ground.phase }, { on := 9, ground := Ground.phase }, { on := 10, ground := Ground.phase }, { on := 11, ground := Ground.phase }, { on := 12, ground := Ground.phase }, { on := 13, ground := Ground.phase }], guard := none }) (v := ?_) rfl (by kernel_rfl) (by kernel_rfl) (by kernel_rfl) (fun _ _ _ h => h) (Or.inl ⟨by rfl, ?_⟩) (by assumption) ?_
            rotate_left
            · intro w hSw
              go_simp
              try with_reducible rfl
            try simp only [Act.put, List.setIfInBounds_toArray, List.set_cons_zero, List.set_cons_succ]
            refine wpAnyH_done (by kernel_rfl) ?_ _
            have FXY : Hid (IsR w9 (.agg #[.bool q1, .slice q2 q3 q4, .slice q5 q6 q7]) X ∧ IsR w9 (.agg #[.bool r1, .slice r2 r3 r4, .slice r5 r6 r7]) Y) := Lib.hid ⟨K9.out.isR HFXY.out.1 (HOX.out.zero rfl), K9.out.isR HFXY.out.2 (HOY.out.zero rfl)⟩
            have hrel : TwoB wq (if mass = 0 then 0 else X) (if mass = 0 then rT t else Y) (.pointer (some ⟨gx, 0, none⟩)) (.pointer (some ⟨gy, 0, none⟩)) w9 := by
              rw [if_neg HMM.out, if_neg HMM.out]
              exact ⟨gx, gy, _, _, _, _, _, _, _, _, _, _, _, _, _, _, rfl, rfl, X9.out, FXY.out.1, Y9.out, FXY.out.2, D9.out, LX.out, LY.out, HNE.out⟩
            have HREL := Lib.hid hrel
            clear hrel
            go_wp2_with fail
            go_meet
            case rel => exact ⟨rfl, HREL.out⟩
        case rest =>
          obtain ⟨rfl, gx2, gy2, bx2, Ax2, nx2, cx2, Bx2, mx2, dx2, by2, Ay2, ny2, cy2, By2, my2, dy2, rfl, rfl, hcx, hvx, hcy, hvy, hb, hlx, hly, hne⟩ := hcut
          obtain ⟨wy, rfl⟩ : ∃ W, W = wc := ⟨wc, rfl⟩
          obtain ⟨XV, hXV⟩ : ∃ X', (if mass = 0 then 0 else X) = X' := ⟨_, rfl⟩
          obtain ⟨YV, hYV⟩ : ∃ X', (if mass = 0 then rT t else Y) = X' := ⟨_, rfl⟩
          rw [hXV] at hvx
          rw [hYV] at hvy
          obtain ⟨ex, ixp, ixq⟩ := IsR.cells hvx
          obtain ⟨ey, iyp, iyq⟩ := IsR.cells hvy
          have PX := Lib.hid (And.intro ex (And.intro ixp ixq))
          have PY := Lib.hid (And.intro ey (And.intro iyp iyq))
          have E8 := Lib.hid hb
          have CX2 := Lib.hid hcx
          have CY2 := Lib.hid hcy
          have HLY2 := Lib.hid hly
          clear ex ixp ixq ey iyp iyq hvx hvy hb hcx hcy hlx hly hne
          have HVS : Hid (∀ (j : Nat) (p : Rat), j < k + 1 → (qs L)[j]? = some p → ¬ mass = 0 → tkE p (qI mass) V = 0) := Lib.hid (by
            intro j p hj hp hm
            rcases Nat.lt_or_eq_of_le (Nat.le_of_lt_succ hj) with h | h
            · exact HVv.out j p h hp hm
            · subst h
              rw [qs_at HTk.out] at hp; cases hp
              rw [HF.out]; exact HGood.out hm)
          have hqf : ∀ q ∈ qs L, fitR q = true := fun q hq => (HOK.out.level.2.2 q hq).1
          have hf0 := dr_takes (L := L) (mass := mass) (k := k) hqf (by rw [HV.out]; exact HVv.out)
          have hf1 := dr_takes (L := L) (mass := mass) (k := k + 1) hqf (by rw [HV.out]; exact HVS.out)
          have HF0 := Lib.hid hf0
          have HF1 := Lib.hid hf1
          have HTX : Hid (ts ((drX L mass).take (k + 1)) = ts ((drX L mass).take k) ++ [triR XV]) := Lib.hid (ts_take_succ (by rw [HXk.out, hXV]))
          have HTY : Hid (ts ((drY L mass).take (k + 1)) = ts ((drY L mass).take k) ++ [triR YV]) := Lib.hid (ts_take_succ (by rw [HYk.out, hYV]))
          have HSx : Hid (Rt.length + 1 ≤ 1000000) := Lib.hid (by have h1 := HT.out.ins.1; rw [ts_len] at h1; have := List.length_take_le k (drX L mass); have := HOK.out.n1; have := HN.out; omega)
          have HSy : Hid (R.length + 1 ≤ 1000000) := Lib.hid (by have h1 := HQ.out.ins.1; rw [ts_len] at h1; have := List.length_take_le k (drY L mass); have := HOK.out.n1; have := HN.out; omega)
          clear hqf hf0 hf1 hXV hYV
          have QA := Lib.hid (HQ.out.on (bstep E8.out (below_alloc wy (.cells #[.bool bx2, .slice Ax2 nx2 cx2, .slice Bx2 mx2 dx2] 33))))
          have TA := Lib.hid (HT.out.on (bstep E8.out (below_alloc wy (.cells #[.bool bx2, .slice Ax2 nx2 cx2, .slice Bx2 mx2 dx2] 33))))
          have EA := Lib.hid (bstep E8.out (below_alloc wy (.cells #[.bool bx2, .slice Ax2 nx2 cx2, .slice Bx2 mx2 dx2] 33)))
          have HGA : Hid (g + 1 ≤ (wy.alloc (.cells #[.bool bx2, .slice Ax2 nx2 cx2, .slice Bx2 mx2 dx2] 33)).heap.size) := Nat.le_trans HS.out EA.out.size
          have CYA := Lib.hid (CY2.out.on (below_alloc wy (.cells #[.bool bx2, .slice Ax2 nx2 cx2, .slice Bx2 mx2 dx2] 33)))
          have CYo : Hid (∀ b, (Value.slice At nt ct).ownBlock = some b → b < wq.heap.size) := Lib.hid fun b hb => (HT.out.row.lt b hb).2
          obtain ⟨x0, x1, x2⟩ := CX2.out.three
          go_wp2_with (at_builtin; refine append_rowsG kdR cR_noI zR_noI rfl (.tmp 87) (.tmp 89) rfl (.slice At nt ct) Rt rfl TA.out.row TA.out.noi (some ⟨wy.heap.size, 0, none⟩) 1 1 [(bx2, (Ax2, nx2, cx2), (Bx2, mx2, dx2))] rfl (by decide) rfl (rd_one cR_len (heap_alloc_new _ _)) HSx.out HGA.out ?_; intro Av nv cv w8 hn8 hr8 ho8 hg8 hb8; have HN8 := Lib.hid hn8; have HR8 := Lib.hid hr8; have HO8 := Lib.hid ho8; have HG8 := Lib.hid hg8; have HB8 := Lib.hid hb8; clear hn8 hr8 ho8 hg8 hb8; refine Hid.out ?_)
          have PXA := Lib.hid (And.intro PX.out.1 (And.intro (PX.out.2.1.on (below_alloc wy (.cells #[.bool bx2, .slice Ax2 nx2 cx2, .slice Bx2 mx2 dx2] 33))) (PX.out.2.2.on (below_alloc wy (.cells #[.bool bx2, .slice Ax2 nx2 cx2, .slice Bx2 mx2 dx2] 33)))))
          have T8 := Lib.hid (Tok.push (t := triR XV) TA.out HN8.out HR8.out HO8.out HG8.out PXA.out.1 PXA.out.2.1 PXA.out.2.2)
          rw [← HTX.out] at T8
          have KG8 := Lib.hid (Kep.grown HG8.out TA.out.noi)
          have HNg : Hid ((Value.slice At nt ct).ownBlock ≠ some g) := Lib.hid fun e => by have := (TA.out.row.lt _ e).1; omega
          have Q8 := Lib.hid (QA.out.kept HG8.out HNg.out (fun b hb e => HD.out b e hb) KG8.out (ts_vZ HF0.out.2))
          have B8 : Hid (Below g w6 w8) := Lib.hid ((HB.out.trans (EA.out.mono (by have := HS.out; omega))).trans ⟨HG8.out.os, HG8.out.tape, HG8.out.output, HG8.out.size, fun i hi => HG8.out.block i (by have := HGA.out; omega) fun e => by have := (TA.out.row.lt i e.symm).1; omega⟩)
          have K8 : Hid (Kep w6 w8) := Lib.hid ((HKp.out.trans (Kep.of EA.out)).trans KG8.out)
          have S8 : Hid (g + 1 ≤ w8.heap.size) := Nat.le_trans HGA.out HG8.out.size
          have KY8 : Hid (Kep wy w8) := Lib.hid ((Kep.of (below_alloc _ _)).trans KG8.out)
          have D8 : Hid (∀ b, (Value.slice Av nv cv).ownBlock = some b → (Value.slice A' p' c').ownBlock ≠ some b) := Lib.hid fun b hb e => by
            rcases HB8.out with h | h
            · rw [h] at hb; exact HD.out b hb e
            · rw [h] at hb
              have h1 := (QA.out.row.lt b e).2
              have h2 := (HQ.out.row.lt b e).2
              have h3 := E8.out.size
              have h4 : (wy.alloc (.cells #[.bool bx2, .slice Ax2 nx2 cx2, .slice Bx2 mx2 dx2] 33)).heap.size = b := Option.some.inj hb
              have h5 := EA.out.size
              omega
          have CY8 : Hid (Rw.Cel w8 gy2 [.bool by2, .slice Ay2 ny2 cy2, .slice By2 my2 dy2]) := Lib.hid (CYA.out.grown HG8.out fun e => by have := CYo.out _ e; have := HLY2.out; omega)
          have PY8 : Hid (by2 = negR YV ∧ In w8 (.slice Ay2 ny2 cy2) (topL YV) ∧ In w8 (.slice By2 my2 dy2) (botL YV)) := Lib.hid ⟨PY.out.1, In.grown (PY.out.2.1.on (below_alloc _ _)) HG8.out TA.out.noi, In.grown (PY.out.2.2.on (below_alloc _ _)) HG8.out TA.out.noi⟩
          clear x0 x1 x2
          have QB := Lib.hid (Q8.out.on (below_alloc w8 (.cells #[.bool by2, .slice Ay2 ny2 cy2, .slice By2 my2 dy2] 33)))
          have TB := Lib.hid (T8.out.on (below_alloc w8 (.cells #[.bool by2, .slice Ay2 ny2 cy2, .slice By2 my2 dy2] 33)))
          have HGB : Hid (g + 1 ≤ (w8.alloc (.cells #[.bool by2, .slice Ay2 ny2 cy2, .slice By2 my2 dy2] 33)).heap.size) := Nat.le_trans S8.out (below_alloc _ _).size
          obtain ⟨x0, x1⟩ := Q8.out.cel.two
          obtain ⟨y0, y1, y2⟩ := CY8.out.three
          refine Lib.hid ?_
          go_wp2_with (at_builtin; refine append_rowsG kdR cR_noI zR_noI rfl (.tmp 92) (.tmp 94) rfl (.slice A' p' c') R rfl QB.out.row QB.out.noi (some ⟨w8.heap.size, 0, none⟩) 1 1 [(by2, (Ay2, ny2, cy2), (By2, my2, dy2))] rfl (by decide) rfl (rd_one cR_len (heap_alloc_new _ _)) HSy.out HGB.out ?_; intro A9 n9 c9 w9 hn9 hr9 ho9 hg9 hb9; have HN9 := Lib.hid hn9; have HR9 := Lib.hid hr9; have HO9 := Lib.hid ho9; have HG9 := Lib.hid hg9; have HB9 := Lib.hid hb9; clear hn9 hr9 ho9 hg9 hb9; refine Hid.out ?_)
          have PYB := Lib.hid (And.intro PY8.out.1 (And.intro (PY8.out.2.1.on (below_alloc w8 (.cells #[.bool by2, .slice Ay2 ny2 cy2, .slice By2 my2 dy2] 33))) (PY8.out.2.2.on (below_alloc w8 (.cells #[.bool by2, .slice Ay2 ny2 cy2, .slice By2 my2 dy2] 33)))))
          have Q9 := Lib.hid (Bld.push (t := triR YV) QB.out HN9.out HR9.out HO9.out HG9.out PYB.out.1 PYB.out.2.1 PYB.out.2.2)
          rw [← HTY.out] at Q9
          have C9 := Lib.hid (QB.out.cel.grown HG9.out fun e => by have := (QB.out.row.lt _ e).1; omega)
          have KG9 := Lib.hid (Kep.grown HG9.out QB.out.noi)
          have T9 := Lib.hid (TB.out.kept (w' := w9) (fun b hb => HG9.out.block b (TB.out.row.lt b hb).2 fun e => D8.out b hb e.symm) KG9.out (ts_vZ HF1.out.1))
          have T10 := Lib.hid (T9.out.set_far (Nat.lt_succ_self g) C9.out.two.2 (fun z e => by cases e) (ts_vZ HF1.out.1) (.slice A9 n9 c9))
          have K10 : Hid (Kep w6 (w9.setCell ⟨g, 1, none⟩ (.slice A9 n9 c9))) := Lib.hid (((K8.out.trans (Kep.of (below_alloc _ _))).trans KG9.out).trans (Kep.set C9.out.two.2 (fun z e => by cases e) _))
          have B10 : Hid (Below g w6 (w9.setCell ⟨g, 1, none⟩ (.slice A9 n9 c9))) := Lib.hid (((B8.out.trans ((below_alloc _ _).mono (by have := S8.out; omega))).trans ⟨HG9.out.os, HG9.out.tape, HG9.out.output, HG9.out.size, fun i hi => HG9.out.block i (by have := HGB.out; omega) fun e => by have := (QB.out.row.lt i e.symm).1; omega⟩).setCell (p := ⟨g, 1, none⟩) (Nat.le_refl _) _)
          have S10 : Hid (g + 1 ≤ (w9.setCell ⟨g, 1, none⟩ (.slice A9 n9 c9)).heap.size) := Lib.hid (by have := HGB.out; have := HG9.out.size; simp only [World.size_setCell]; omega)
          have D10 : Hid (∀ b, (Value.slice Av nv cv).ownBlock = some b → (Value.slice A9 n9 c9).ownBlock ≠ some b) := Lib.hid fun b hb e => by
            rcases HB9.out with h | h
            · rw [h] at e; exact D8.out b hb e
            · rw [h] at e
              have h1 := (T8.out.row.lt b hb).2
              have h4 : (w8.alloc (.cells #[.bool by2, .slice Ay2 ny2 cy2, .slice By2 my2 dy2] 33)).heap.size = b := Option.some.inj e
              have h5 := (below_alloc w8 (.cells #[.bool by2, .slice Ay2 ny2 cy2, .slice By2 my2 dy2] 33)).size
              omega
          clear x0 x1 y0 y1 y2
          obtain ⟨x0, x1⟩ := C9.out.two
          obtain ⟨f0, f1⟩ := C9.out.warm2
          refine Lib.hid ?_
          go_wp2_with fail
          go_roundw
          case rel => exact ⟨k + 1, A9, n9, c9, _, Av, nv, cv, _, by omega, by go_num, rfl, rfl, Q9.out, T10.out, D10.out, HVS.out, B10.out, K10.out, S10.out⟩
          case measure => simp [RowKit.intOf]; omega
    · obtain rfl : k = n := by omega
      have hG0 : G = 0 := by
        rw [← HG.out, HTK.out, HV.out]
        by_cases hm : mass = 0
        · rw [if_pos hm]
        · rw [if_neg hm]
          exact tkF_ok fun j u hu => HVv.out j u (by have := glt hu; rw [qs_len] at this; have := HN.out; omega) hu hm
      subst hG0
      obtain ⟨h1, h2, h3⟩ := YES.out rfl
      obtain ⟨hfx, hfy⟩ := FIT.out rfl
      subst h1; subst h2; subst h3
      have hq := HQ.out
      have ht := HT.out
      rw [List.take_of_length_le (by rw [drY_len, ← HN.out]; exact Nat.le_refl _)] at hq
      rw [List.take_of_length_le (by rw [drX_len, ← HN.out]; exact Nat.le_refl _)] at ht
      have hlY : (ts (drY L mass)).length ≤ 9223372036854775807 := by rw [ts_len, drY_len]; have := HOK.out.n1; omega
      have KT := Lib.hid (hq.done (ts_valid hfy) R7.out (by have := GG.out.1; have := GM.out; have := GL.out; omega) hlY)
      obtain ⟨hr, hl⟩ := row_rats ht.row ht.ins ht.len
      have KR := Lib.hid (Rats.tank hr (ts_vZ hfx) R7.out (.int .i64 GC) (.slice A' p' c'))
      have KN := Lib.hid hl
      have KM : Hid (nt ≤ 9223372036854775807) := Lib.hid (by rw [hl, ts_len, drX_len]; have := HOK.out.n1; omega)
      have HQc := Lib.hid hq.cel
      clear hq ht hlY hr hl hfx hfy
      obtain ⟨y0, y1⟩ := HQc.out.two
      obtain ⟨u0, u1⟩ := R7.out.two
      obtain ⟨v0, v1⟩ := R7.out.warm2
      go_wp2_with fail
      exact bodyPost_ret (res_tank3 Tryz.results23 rfl (R7.out.put2 _ _)) rfl ⟨_, _, _, _, rfl, KT.out, KN.out, KM.out, KR.out, Rw.below_put2 BW.out (by omega) _ _⟩
#print axioms tk_Draw
end Go.Proofs.YtgmlccjjhmhgbaaGreat.Tank
