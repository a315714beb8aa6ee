/- Several texts in one: TankPH, TankPI. -/
import Derived.Test.YtgmlccjjhmhgbaaGreatPk27
/- The program: the function that Draw hands on. -/
namespace Go.Proofs.YtgmlccjjhmhgbaaGreat.Tank
open Go.ChangeShapes Go.WideShapes Go.RowKit Go.Lib
open Go.Proofs.YtgmlccjjhmhgbaaGreat.Rw (Rd Row Kd Off glt get_lt below_alloc bstep wrap_id below_drewN below_drew drew_below take_snoc_of)
set_option linter.unusedVariables false
set_option maxRecDepth 100000

theorem Kep.rat {w : World} {g : Nat} {b : Bool} {A B : Option Addr} {n c m d : Nat} (hc : Rw.Cel w g [.bool b, .slice A n c, .slice B m d]) (x0 x1 x2 : Value) : Kep w (((w.setCell ⟨g, 0, none⟩ x0).setCell ⟨g, 1, none⟩ x1).setCell ⟨g, 2, none⟩ x2) := fun t v hz hi => InR.put3 hi (cel_root hc) x0 x1 x2
/-- The memory ahead of part k of a draw. -/
structure DrJ (L : List Trip) (A : Option Addr) (mass : Int) (b0 : Bool) (A0 : Option Addr) (n0 c0 : Nat) (B0 : Option Addr) (m0 d0 gm gl gt gk n : Nat) (k : Nat) (W : World) : Prop where
  rats : Rats W A L
  cm : Rw.Cel W gm [.int .i64 mass]
  cl : Rw.Cel W gl [.bool b0, .slice A0 n0 c0, .slice B0 m0 d0]
  lv : IsR W (.agg #[.bool b0, .slice A0 n0 c0, .slice B0 m0 d0]) (sumV L)
  ct : Rw.Cel W gt [.slice (some ⟨gk, 0, none⟩) n n]
  row : ∃ R, R.length = k ∧ Rw.Row cR 3 TR gk W (.slice (some ⟨gk, 0, none⟩) n n) (R ++ List.replicate (n - k) zR) ∧ Ins W R (ts ((drX L mass).take k))
  fit : ∀ q ∈ (drX L mass).take k, fitR q = true
section
variable {L : List Trip} {A : Option Addr} {mass : Int} {b0 : Bool} {A0 : Option Addr} {n0 c0 : Nat} {B0 : Option Addr} {m0 d0 gm gl gt gk n : Nat}
theorem DrJ.step_ {k : Nat} {w w' : World} (h : DrJ L A mass b0 A0 n0 c0 B0 m0 d0 gm gl gt gk n k w) (hL : ∀ t ∈ L, vT t = true) (fv : fitR (sumV L) = true) (hA : ∀ b off, A = some ⟨b, off, none⟩ → b < gk) (h1 : gm < gk) (h2 : gl < gk) (h3 : gk < gt) {T : Nat → Prop} (ho : Off T w w') (hT : ∀ y, T y → gk ≤ y ∧ y ≠ gt) (hk : Kep w w')
    (hr : ∃ R, R.length = k + 1 ∧ Rw.Row cR 3 TR gk w' (.slice (some ⟨gk, 0, none⟩) n n) (R ++ List.replicate (n - (k + 1)) zR) ∧ Ins w' R (ts ((drX L mass).take (k + 1)))) (hf : ∀ q ∈ (drX L mass).take (k + 1), fitR q = true) : DrJ L A mass b0 A0 n0 c0 B0 m0 d0 gm gl gt gk n (k + 1) w' := by
  obtain ⟨R, _, hrow, _⟩ := h.row
  have hb : Below gk w w' := ho.below (Nat.le_of_lt (hrow.lt gk rfl).2) fun y hy => (hT y hy).1
  exact ⟨Rats.kep h.rats hA (fun t ht => Or.inl (hL t ht)) hb hk, h.cm.below hb h1, h.cl.below hb h2, hk.isR fv h.lv, h.ct.off ho fun e => (hT _ e).2 rfl, hr, hf⟩
theorem DrJ.stab {k B : Nat} {w w' : World} (h : DrJ L A mass b0 A0 n0 c0 B0 m0 d0 gm gl gt gk n k w) (hL : ∀ t ∈ L, vT t = true) (fv : fitR (sumV L) = true) (hA : ∀ b off, A = some ⟨b, off, none⟩ → b < gk) (h1 : gm < gk) (h2 : gl < gk) (h3 : gk < gt) (h4 : gt < B) (hb : Below B w w') (hk : Kep w w') : DrJ L A mass b0 A0 n0 c0 B0 m0 d0 gm gl gt gk n k w' := by
  obtain ⟨R, hR, hrow, hi⟩ := h.row
  exact ⟨Rats.kep h.rats (fun b off e => by have := hA b off e; omega) (fun t ht => Or.inl (hL t ht)) hb hk, h.cm.below hb (by omega), h.cl.below hb (by omega), hk.isR fv h.lv, h.ct.below hb (by omega), ⟨R, hR, hrow.keep (fun y hy => by cases hy; exact hb.block gk (by omega)), hi.kep hk (ts_vZ h.fit)⟩, h.fit⟩
set_option maxHeartbeats 6400000 in
theorem p_Draw1 {k : Nat} {t : Trip} {va : Value} {w : World} (hL : ∀ t ∈ L, vT t = true) (fv : fitR (sumV L) = true) (mm0 : 0 ≤ mass) (mm1 : mass ≤ MM) (hn : n = L.length) (hn8 : n ≤ 8) (hA : ∀ b off, A = some ⟨b, off, none⟩ → b < gk) (h1 : gm < gk) (h2 : gl < gk) (h3 : gk < gt)
    (ht : L[k]? = some t) (hj : DrJ L A mass b0 A0 n0 c0 B0 m0 d0 gm gl gt gk n k w) (ha : InR w va t.1 t.2.1 t.2.2) :
    Calls Tryz.prog 53 #[.int .i64 k, va, .pointer (some ⟨gm, 0, none⟩), .pointer (some ⟨gl, 0, none⟩), .pointer (some ⟨gt, 0, none⟩)] w (StR w (fun y => y = gk) (erD mass (sumV L) (rT t)) (leD mass (sumV L) (rT t)) (DrJ L A mass b0 A0 n0 c0 B0 m0 d0 gm gl gt gk n (k + 1))) := by
  have hv := hL t (List.mem_of_getElem? ht)
  have fp := (trip_form hv).1
  have hp := trip_isR hv ha
  obtain ⟨A1, a1, B1, b1, rfl, -, -⟩ := inR_open ha
  obtain ⟨t0, ht0⟩ : ∃ x, t.1 = x := ⟨_, rfl⟩
  obtain ⟨t1, ht1⟩ : ∃ x, t.2.1.length = x := ⟨_, rfl⟩
  obtain ⟨t2, ht2⟩ : ∃ x, t.2.2.length = x := ⟨_, rfl⟩
  rw [ht0, ht1, ht2] at hp
  rw [ht0, ht1, ht2]
  have hxk : (drX L mass)[k]? = some (ptV (rT t) mass (sumV L)) := by rw [drX_pt, List.getElem?_map, qs_at ht]; rfl
  have hkl := glt ht
  obtain ⟨p, hpp⟩ : ∃ p, rT t = p := ⟨_, rfl⟩
  rw [hpp] at fp hp hxk ⊢
  obtain ⟨v, hvv⟩ : ∃ v, sumV L = v := ⟨_, rfl⟩
  have HJ := Lib.hid hj
  have HPx := Lib.hid (And.intro fp hp)
  have hlv := hj.lv
  have fv' := fv
  rw [hvv] at hlv fv' hxk ⊢
  have KP := Lib.hid fun a c W h k => p_portion p v mass fp fv' mm0 mm1 a c W h k
  obtain ⟨F, hF⟩ : ∃ F, ptE p mass v = F := ⟨_, rfl⟩
  obtain ⟨X, hX⟩ : ∃ X, ptV p mass v = X := ⟨_, rfl⟩
  have HFX := Lib.hid fun h : F = 0 => (hX ▸ ptV_fit (p := p) (mass := mass) (v := v) (hF.trans h) : fitR X = true)
  have HE : Hid (erD mass v p = if F = 0 then okE (subOk p X) else F) := Lib.hid (by unfold erD; rw [hF, hX])
  have HLe : Hid (leD mass v p = subOp p X) := Lib.hid (by unfold leD; rw [hX])
  rw [hF, hX] at KP
  rw [hX] at hxk
  obtain ⟨E, hE⟩ : ∃ E, erD mass v p = E := ⟨_, rfl⟩
  obtain ⟨Y, hY⟩ : ∃ Y, leD mass v p = Y := ⟨_, rfl⟩
  rw [hE] at HE
  rw [hY] at HLe
  rw [hE, hY]
  have HX := Lib.hid hxk
  have HLV := Lib.hid hlv
  have HL := Lib.hid (And.intro hL (And.intro fv hA))
  have HK := Lib.hid (show k < n by omega)
  have HO := Lib.hid (And.intro h1 (And.intro h2 (And.intro h3 hn8)))
  obtain ⟨R, hR, hrow, hins⟩ := hj.row
  have hgkl := (hrow.lt gk rfl).2
  have HR := Lib.hid (And.intro hR (And.intro hrow hins))
  have hgtl := hj.ct.lt
  have i1 : (k : Int) < (n : Int) := by omega
  have i2 : (0 : Int) ≤ (k : Int) := by omega
  clear ha hp ht0 ht1 ht2 hpp hvv hj hlv fv' hF hX hxk hE hY hL fv hA hR hrow hins hv fp ht hkl hn mm0 mm1 h1 h2 h3 hn8
  go_enter Tryz.func53, Tryz.ntmps53
  go_upto_region 1 with fail
  obtain ⟨w0, hw0⟩ : ∃ W, (w.alloc (.cells #[.bool t0, .slice A1 t1 a1, .slice B1 t2 b1] 33)).alloc (.cells #[.bool false, .slice none 0 0, .slice none 0 0] 33) = W := ⟨_, rfl⟩
  have P0 : Hid (Rw.Cel w0 w.heap.size [.bool t0, .slice A1 t1 a1, .slice B1 t2 b1]) := hw0 ▸ (Rw.Cel.new w [_, _, _] _).alloc _
  have R0 : Hid (Rw.Cel w0 (w.heap.size + 1) [.bool false, .slice none 0 0, .slice none 0 0]) := hw0 ▸ Rw.Cel.new_at _ [_, _, _] _ (by simp)
  have BB0 : Hid (Below w.heap.size w w0) := hw0 ▸ bstep (below_alloc _ _) (below_alloc _ _)
  first | rw [hw0] | skip
  clear hw0
  have M0 := Lib.hid (HJ.out.cm.on BB0.out)
  have L0 := Lib.hid (HJ.out.cl.on BB0.out)
  have T0 := Lib.hid (HJ.out.ct.on BB0.out)
  have X0 := Lib.hid (HPx.out.2.on BB0.out)
  have V0 := Lib.hid (HLV.out.on BB0.out)
  have W0 := Lib.hid (HR.out.2.1.on BB0.out)
  have HS0 := Lib.hid BB0.out.size
  have HLn : Hid ((R ++ List.replicate (n - k) zR).length = n) := fill_len HR.out.1 (Nat.le_of_lt HK.out)
  have HCF : Hid (∀ W, Off (fun y => y = gk) w0 W → (W.cell? ⟨w.heap.size, 0, none⟩ = some (.bool t0) ∧ W.cell? ⟨w.heap.size, 1, none⟩ = some (.slice A1 t1 a1) ∧ W.cell? ⟨w.heap.size, 2, none⟩ = some (.slice B1 t2 b1)) ∧ W.cell? ⟨gm, 0, none⟩ = some (.int .i64 mass) ∧ (W.cell? ⟨gl, 0, none⟩ = some (.bool b0) ∧ W.cell? ⟨gl, 1, none⟩ = some (.slice A0 n0 c0) ∧ W.cell? ⟨gl, 2, none⟩ = some (.slice B0 m0 d0)) ∧ W.cell? ⟨gt, 0, none⟩ = some (.slice (some ⟨gk, 0, none⟩) n n)) := fun W ho =>
    ⟨(P0.out.off ho (by omega)).three, (M0.out.off ho (by have := HO.out; omega)).at_ 0 _ rfl, (L0.out.off ho (by have := HO.out; omega)).three, (T0.out.off ho (by have := HO.out; omega)).at_ 0 _ rfl⟩
  have HRB : Hid (∀ W, Below w0.heap.size w0 W → Rw.Row cR 3 TR gk W (.slice (some ⟨gk, 0, none⟩) n n) (R ++ List.replicate (n - k) zR) ∧ (W.cell? ⟨gk, k * 3, none⟩ = some (.bool false) ∧ W.cell? ⟨gk, k * 3 + 1, none⟩ = some (.slice none 0 0) ∧ W.cell? ⟨gk, k * 3 + 2, none⟩ = some (.slice none 0 0)) ∧ (W.frozen? ⟨gk, k * 3, none⟩ = false ∧ W.frozen? ⟨gk, k * 3 + 1, none⟩ = false ∧ W.frozen? ⟨gk, k * 3 + 2, none⟩ = false)) := fun W hb => by
    have hr := W0.out.on hb
    have hz : (R ++ List.replicate (n - k) zR)[k]? = some zR := by
      rw [List.getElem?_append_right (by rw [HR.out.1]; exact Nat.le_refl _), HR.out.1, Nat.sub_self, List.getElem?_replicate, if_pos (by have := HK.out; omega)]
    exact ⟨hr, rowT_cells hr hz, rowT_frozen hr HLn.out.symm k⟩
  obtain ⟨⟨p0, p1, p2⟩, q0, ⟨r0, r1, r2⟩, s0⟩ := HCF.out _ (Off.refl _ _)
  go_upto_region 2 with fail
  go_region_held3 (fun W => (W.cell? ⟨w.heap.size, 0, none⟩ = some (.bool t0) ∧ W.cell? ⟨w.heap.size, 1, none⟩ = some (.slice A1 t1 a1) ∧ W.cell? ⟨w.heap.size, 2, none⟩ = some (.slice B1 t2 b1)) ∧ W.cell? ⟨gm, 0, none⟩ = some (.int .i64 mass) ∧ (W.cell? ⟨gl, 0, none⟩ = some (.bool b0) ∧ W.cell? ⟨gl, 1, none⟩ = some (.slice A0 n0 c0) ∧ W.cell? ⟨gl, 2, none⟩ = some (.slice B0 m0 d0)) ∧ W.cell? ⟨gt, 0, none⟩ = some (.slice (some ⟨gk, 0, none⟩) n n))
    (first | exact HCF.out _ (Off.refl _ _) | exact HCF.out _ (Off.refl _ _).drew | exact HCF.out _ ((Off.refl _ _).drew.then_below hb3) | exact HCF.out _ (((((Off.refl (fun y => y = gk) w0).drew.then_below hb3).set (p := ⟨gk, k * 3, none⟩) (Or.inl rfl) _).set (p := ⟨gk, k * 3 + 1, none⟩) (Or.inl rfl) _).set (p := ⟨gk, k * 3 + 2, none⟩) (Or.inl rfl) _))
    ((go_at_call 54; (refine (KP.out _ _ _ ?_ ?_).mono ?_); (exact X0.out.on (drew_below _)); (exact V0.out.on (drew_below _)); rintro e w3 h3; obtain ⟨b6, A6, n6, c6, B6, m6, d6, rfl, ho6, hb3⟩ := h3.open_; have HO6 := Lib.hid ho6; clear h3 ho6; (obtain ⟨-, ⟨z0, z1, z2⟩, y0, y1, y2⟩ := HRB.out w3 (bstep (drew_below _) hb3))))
  have HB3 := Lib.hid (bstep (drew_below _) hb3)
  obtain ⟨w4, hw4⟩ : ∃ W, ((w3.setCell ⟨gk, k * 3, none⟩ (.bool b6)).setCell ⟨gk, k * 3 + 1, none⟩ (.slice A6 n6 c6)).setCell ⟨gk, k * 3 + 2, none⟩ (.slice B6 m6 d6) = W := ⟨_, rfl⟩
  have hrow3 := (HRB.out _ HB3.out).1
  have hk3 : k < (R ++ List.replicate (n - k) zR).length := by rw [HLn.out]; exact HK.out
  have W4 : Hid (Rw.Row cR 3 TR gk w4 (.slice (some ⟨gk, 0, none⟩) n n) ((R ++ [(b6, (A6, n6, c6), (B6, m6, d6))]) ++ List.replicate (n - (k + 1)) zR)) := Lib.hid (by
    have := rowT_put hrow3 HLn.out.symm k (b6, (A6, n6, c6), (B6, m6, d6)) hk3
    rw [fill_set _ HR.out.1 HK.out] at this
    exact hw4 ▸ this)
  have K4 : Hid (Kep w3 w4) := hw4 ▸ rowT_kep hrow3 hk3 (b6, (A6, n6, c6), (B6, m6, d6))
  have P4 : Hid (Off (fun y => y = gk) w3 w4) := hw4 ▸ putT_off w3 gk k (b6, (A6, n6, c6), (B6, m6, d6))
  have O4 : Hid (Off (fun y => y = gk) w w4) := Lib.hid (((Off.of_below (S := fun y => y = gk) BB0.out).then_below HB3.out).trans P4.out fun y hy => Or.inl hy)
  have Q4 : Hid (Rw.Cel w4 w.heap.size [.bool t0, .slice A1 t1 a1, .slice B1 t2 b1]) := Lib.hid ((P0.out.on HB3.out).off P4.out (by omega))
  have R4 : Hid (Rw.Cel w4 (w.heap.size + 1) [.bool false, .slice none 0 0, .slice none 0 0]) := Lib.hid ((R0.out.on HB3.out).off P4.out (by omega))
  have T4 : Hid (Rw.Cel w4 gt [.slice (some ⟨gk, 0, none⟩) n n]) := Lib.hid ((T0.out.on HB3.out).off P4.out (by have := HO.out; omega))
  have KK4 : Hid (Kep w w4) := Lib.hid (((Kep.of BB0.out).trans (Kep.of HB3.out)).trans K4.out)
  have X4 := Lib.hid (KK4.out.isR HPx.out.1 HPx.out.2)
  rw [hw4]
  clear hrow3 hk3 hw4 z0 z1 z2 y0 y1 y2 hb3 p0 p1 p2 q0 r0 r1 r2 s0
  by_cases hz : F = 0
  rotate_left
  · obtain ⟨z1, z2⟩ := ne_zero hz
    obtain rfl : E = F := by rw [HE.out, if_neg hz]
    obtain ⟨u0, u1, u2⟩ := R4.out.three
    obtain ⟨f0, f1, f2⟩ := R4.out.warm3
    go_wp2_with fail
    exact bodyPost_ret (res_rat2 Tryz.results53 rfl (R4.out.put3 _ _ _)) rfl ⟨_, _, _, _, _, _, _, rfl, OutR.no hz, O4.out.trans (Rw.off_put3 w4 _ _ _ _) (fun y hy => Or.inr (by subst hy; omega)), KK4.out.trans (Kep.rat R4.out _ _ _), fun h => absurd h hz⟩
  subst hz
  have FX := Lib.hid (HFX.out rfl)
  have Z3 := Lib.hid (HO6.out.zero rfl)
  have Z4 := Lib.hid (K4.out.isR FX.out Z3.out)
  have KS := Lib.hid fun a b W h k => yq_Sub p X HPx.out.1 FX.out a b W h k
  have hE2 := HE.out
  rw [if_pos rfl] at hE2
  rw [← hE2, ← HLe.out] at KS
  clear hE2
  have HC4 : Hid (∀ W, Off (fun y => y = w.heap.size + 1) w4 W → (W.cell? ⟨w.heap.size, 0, none⟩ = some (.bool t0) ∧ W.cell? ⟨w.heap.size, 1, none⟩ = some (.slice A1 t1 a1) ∧ W.cell? ⟨w.heap.size, 2, none⟩ = some (.slice B1 t2 b1)) ∧ W.cell? ⟨gt, 0, none⟩ = some (.slice (some ⟨gk, 0, none⟩) n n) ∧ (W.cell? ⟨gk, k * 3, none⟩ = some (.bool b6) ∧ W.cell? ⟨gk, k * 3 + 1, none⟩ = some (.slice A6 n6 c6) ∧ W.cell? ⟨gk, k * 3 + 2, none⟩ = some (.slice B6 m6 d6))) := fun W ho => by
    have hr := W4.out.keep (w' := W) fun y hy => by
      cases hy
      exact ho.block gk (W4.out.lt gk rfl).2 (by omega)
    have hz : ((R ++ [(b6, (A6, n6, c6), (B6, m6, d6))]) ++ List.replicate (n - (k + 1)) zR)[k]? = some (b6, (A6, n6, c6), (B6, m6, d6)) := by
      rw [List.getElem?_append_left (by rw [List.length_append, HR.out.1]; simp), List.getElem?_append_right (by rw [HR.out.1]; exact Nat.le_refl _), HR.out.1, Nat.sub_self]; rfl
    exact ⟨(Q4.out.off ho (by omega)).three, (T4.out.off ho (by omega)).at_ 0 _ rfl, rowT_cells hr hz⟩
  have HRes : Hid (∀ W, Below w4.heap.size w4 W → (W.cell? ⟨w.heap.size + 1, 0, none⟩ = some (.bool false) ∧ W.cell? ⟨w.heap.size + 1, 1, none⟩ = some (.slice none 0 0) ∧ W.cell? ⟨w.heap.size + 1, 2, none⟩ = some (.slice none 0 0)) ∧ (W.frozen? ⟨w.heap.size + 1, 0, none⟩ = false ∧ W.frozen? ⟨w.heap.size + 1, 1, none⟩ = false ∧ W.frozen? ⟨w.heap.size + 1, 2, none⟩ = false)) := fun W hb => ⟨(R4.out.on hb).three, (R4.out.on hb).warm3⟩
  obtain ⟨⟨p0, p1, p2⟩, s0, z0, z1, z2⟩ := HC4.out _ (Off.refl _ _)
  go_upto_region 5 with fail
  go_region_held3 (fun W => (W.cell? ⟨w.heap.size, 0, none⟩ = some (.bool t0) ∧ W.cell? ⟨w.heap.size, 1, none⟩ = some (.slice A1 t1 a1) ∧ W.cell? ⟨w.heap.size, 2, none⟩ = some (.slice B1 t2 b1)) ∧ W.cell? ⟨gt, 0, none⟩ = some (.slice (some ⟨gk, 0, none⟩) n n) ∧ (W.cell? ⟨gk, k * 3, none⟩ = some (.bool b6) ∧ W.cell? ⟨gk, k * 3 + 1, none⟩ = some (.slice A6 n6 c6) ∧ W.cell? ⟨gk, k * 3 + 2, none⟩ = some (.slice B6 m6 d6)))
    (first | exact HC4.out _ (Off.refl _ _) | exact HC4.out _ (Off.refl _ _).drew | exact HC4.out _ ((Off.refl _ _).drew.then_below hb5) | exact HC4.out _ (((((Off.refl (fun y => y = w.heap.size + 1) w4).drew.then_below hb5).set (p := ⟨w.heap.size + 1, 0, none⟩) (Or.inl rfl) _).set (p := ⟨w.heap.size + 1, 1, none⟩) (Or.inl rfl) _).set (p := ⟨w.heap.size + 1, 2, none⟩) (Or.inl rfl) _))
    ((go_at_call 55; (refine (KS.out _ _ _ ?_ ?_).mono ?_); (exact X4.out.on (drew_below _)); (exact Z4.out.on (drew_below _)); rintro e w5 h5; obtain ⟨b7, A7, n7, c7, B7, m7, d7, rfl, ho7, hb5⟩ := h5.open_; have HO7 := Lib.hid ho7; clear h5 ho7; (obtain ⟨⟨y0, y1, y2⟩, g0, g1, g2⟩ := HRes.out w5 (bstep (drew_below _) hb5))))
  have HB5 := Lib.hid (bstep (drew_below _) hb5)
  have R5 := Lib.hid (R4.out.on HB5.out)
  have K5 : Hid (Kep w4 (((w5.setCell ⟨w.heap.size + 1, 0, none⟩ (.bool b7)).setCell ⟨w.heap.size + 1, 1, none⟩ (.slice A7 n7 c7)).setCell ⟨w.heap.size + 1, 2, none⟩ (.slice B7 m7 d7))) := Lib.hid ((Kep.of HB5.out).trans (Kep.rat R5.out _ _ _))
  have P5 : Hid (Off (fun y => y = w.heap.size + 1) w4 (((w5.setCell ⟨w.heap.size + 1, 0, none⟩ (.bool b7)).setCell ⟨w.heap.size + 1, 1, none⟩ (.slice A7 n7 c7)).setCell ⟨w.heap.size + 1, 2, none⟩ (.slice B7 m7 d7))) := Lib.hid ((Off.of_below HB5.out).trans (Rw.off_put3 w5 _ _ _ _) fun y hy => Or.inl hy)
  have O5 : Hid (Off (fun y => y = gk) w (((w5.setCell ⟨w.heap.size + 1, 0, none⟩ (.bool b7)).setCell ⟨w.heap.size + 1, 1, none⟩ (.slice A7 n7 c7)).setCell ⟨w.heap.size + 1, 2, none⟩ (.slice B7 m7 d7))) := Lib.hid (O4.out.trans P5.out fun y hy => Or.inr (by omega))
  have hfit : ∀ q ∈ (drX L mass).take (k + 1), fitR q = true := by
    rw [take_snoc_of HX.out]
    intro q hq
    rcases List.mem_append.mp hq with hq | hq
    · exact HJ.out.fit q hq
    · simp at hq; subst hq; exact FX.out
  have hrow5 := W4.out.keep (w' := (((w5.setCell ⟨w.heap.size + 1, 0, none⟩ (.bool b7)).setCell ⟨w.heap.size + 1, 1, none⟩ (.slice A7 n7 c7)).setCell ⟨w.heap.size + 1, 2, none⟩ (.slice B7 m7 d7))) fun y hy => by
    cases hy
    exact P5.out.block gk (W4.out.lt gk rfl).2 (by omega)
  obtain ⟨en, ip, iq⟩ := IsR.cells Z4.out
  have hins5 : Ins (((w5.setCell ⟨w.heap.size + 1, 0, none⟩ (.bool b7)).setCell ⟨w.heap.size + 1, 1, none⟩ (.slice A7 n7 c7)).setCell ⟨w.heap.size + 1, 2, none⟩ (.slice B7 m7 d7)) (R ++ [(b6, (A6, n6, c6), (B6, m6, d6))]) (ts ((drX L mass).take (k + 1))) := by
    refine Ins.kep ?_ K5.out (ts_vZ hfit)
    rw [ts_take_succ HX.out]
    exact (HR.out.2.2.kep KK4.out (ts_vZ HJ.out.fit)).snoc (r := (b6, (A6, n6, c6), (B6, m6, d6))) (t := triR X) en ip iq
  have hfin := HJ.out.step_ HL.out.1 HL.out.2.1 HL.out.2.2 HO.out.1 HO.out.2.1 HO.out.2.2.1 O5.out (fun y hy => ⟨by omega, by have := HO.out.2.2.1; omega⟩) (KK4.out.trans K5.out) ⟨R ++ [(b6, (A6, n6, c6), (B6, m6, d6))], by rw [List.length_append, HR.out.1]; rfl, hrow5, hins5⟩ hfit
  have HFIN := Lib.hid hfin
  have HOUT := Lib.hid (OutR.put3 HO7.out (cel_root R5.out) (.bool b7) (.slice A7 n7 c7) (.slice B7 m7 d7))
  clear hfin hrow5 hins5 hfit en ip iq hb5 y0 y1 y2 g0 g1 g2 p0 p1 p2 s0 z0 z1 z2
  go_wp2_with fail
  exact bodyPost_ret (res_rat2 Tryz.results53 rfl (R5.out.put3 _ _ _)) rfl ⟨_, _, _, _, _, _, _, rfl, HOUT.out, O5.out, KK4.out.trans K5.out, fun _ => HFIN.out⟩
theorem bcm_draw {B : Nat} (hL : ∀ t ∈ L, vT t = true) (fv : fitR (sumV L) = true) (mm0 : 0 ≤ mass) (mm1 : mass ≤ MM) (hn : n = L.length) (hn8 : n ≤ 8) (hA : ∀ b off, A = some ⟨b, off, none⟩ → b < gk) (h1 : gm < gk) (h2 : gl < gk) (h3 : gk < gt) (h4 : gt < B) :
    Bcm 53 #[] #[.pointer (some ⟨gm, 0, none⟩), .pointer (some ⟨gl, 0, none⟩), .pointer (some ⟨gt, 0, none⟩)] L (drY L mass) (fun k => erD mass (sumV L) ((qs L).getD k 0)) B (fun y => y = gk) A (DrJ L A mass b0 A0 n0 c0 B0 m0 d0 gm gl gt gk n) where
  eg := enters_of Tryz.func53 (by kernel_rfl) rfl
  lt := fun y h => by omega
  rats := fun k W h => h.rats
  stab := fun k W W' h hs hb hk => h.stab hL fv hA h1 h2 h3 h4 hb hk
  fit := fun k q hq he => by
    rw [drY_le hL, List.getElem?_map] at hq
    cases hp : (qs L)[k]? with
    | none => rw [hp] at hq; cases hq
    | some p =>
      rw [hp] at hq
      cases hq
      rw [getD_at hp] at he
      exact leD_fit (qs_fit hL p (List.mem_of_getElem? hp)) he
  step := fun k t q W v ht hq hs hJ hi => by
    rw [drY_le hL, List.getElem?_map, qs_at ht] at hq
    cases hq
    rw [getD_at (qs_at ht)]
    exact p_Draw1 hL fv mm0 mm1 hn hn8 hA h1 h2 h3 ht hJ hi
end
end Go.Proofs.YtgmlccjjhmhgbaaGreat.Tank
/- The program: Draw. -/
namespace Go.Proofs.YtgmlccjjhmhgbaaGreat.Tank
open Go.ChangeShapes Go.WideShapes Go.RowKit Go.Lib
open Go.Proofs.YtgmlccjjhmhgbaaGreat.Rw (Rd Row Kd Off glt get_lt below_alloc bstep wrap_id below_drewN below_drew drew_below take_snoc_of)
set_option linter.unusedVariables false
set_option maxRecDepth 100000

/-- A tank, what was taken, an error. -/
def DrR (w : World) (err cap : Int) (P T : List Trip) (e : Ending) (w' : World) : Prop :=
  ∃ v A n c, e = .returned (.tuple #[v, .slice A n c, .int .i64 err]) ∧ InT w' v cap P ∧ n = T.length ∧ n ≤ 9223372036854775807 ∧ Rats w' A T ∧ Below w.heap.size w w'
theorem DrR.none_ {w w' : World} {err : Int} (hb : Below w.heap.size w w') : DrR w err 0 [] [] (.returned (.tuple #[.agg #[.int .i64 0, .slice none 0 0], .slice none 0 0, .int .i64 err])) w' := ⟨_, none, 0, 0, rfl, InT.zero _, rfl, by omega, Rats.nil _ _, hb⟩
theorem dr_no {cap : Int} {L : List Trip} {mass E : Int} (h : drE cap L mass = E) (h0 : ¬ E = 0) : drC cap L mass = 0 ∧ drT cap L mass = [] ∧ drP cap L mass = [] := by
  unfold drC drT drP
  rw [h, if_neg h0, if_neg h0, if_neg h0]; exact ⟨rfl, rfl, rfl⟩
theorem dr_yes {cap : Int} {L : List Trip} {mass : Int} (h : drE cap L mass = 0) : drC cap L mass = cap ∧ drT cap L mass = ts (drX L mass) ∧ drP cap L mass = ts (drY L mass) := by
  unfold drC drT drP
  rw [if_pos h, if_pos h, if_pos h]; exact ⟨rfl, rfl, rfl⟩
theorem drE_rng {cap : Int} {L : List Trip} {mass : Int} (h : ckT cap L = 0) (h2 : inM MM mass = false) : drE cap L mass = 1 := by
  unfold drE drM; rw [if_pos h, h2]; rfl
theorem drE_stock {cap : Int} {L : List Trip} {mass : Int} (h : ckT cap L = 0) (h2 : inM MM mass = true) (h3 : cap < mass ∨ 0 < cmpG (qI mass) (sumV L)) : drE cap L mass = 19 := by
  unfold drE drM; rw [if_pos h, if_pos h2, if_pos h3]
theorem drE_tk {cap : Int} {L : List Trip} {mass : Int} (h : ckT cap L = 0) (h2 : inM MM mass = true) (h3 : ¬ (cap < mass ∨ 0 < cmpG (qI mass) (sumV L))) : drE cap L mass = if mass = 0 then 0 else tkF (qI mass) (sumV L) (qs L) := by
  unfold drE drM; rw [if_pos h, if_pos h2, if_neg h3]
theorem drX_len (L : List Trip) (mass : Int) : (drX L mass).length = L.length := by unfold drX; rw [List.length_map, qs_len]
theorem drY_len (L : List Trip) (mass : Int) : (drY L mass).length = L.length := by unfold drY; rw [List.length_map, qs_len]
set_option maxHeartbeats 6400000 in
theorem p_Draw (cap : Int) (L : List Trip) (A : Option Addr) (n c : Nat) (hn : n = L.length) (mass : Int) (w : World) (ha : Rats w A L) (hm : n ≤ 9223372036854775807) :
    Calls Tryz.prog 22 #[.agg #[.int .i64 cap, .slice A n c], .int .i64 mass] w (DrR w (drE cap L mass) (drC cap L mass) (drP cap L mass) (drT cap L mass)) := by
  have HA := Lib.hid ha
  have KL := Lib.hid fun (W : World) (h : Rats W A L) => p_Level cap L A n c hn W h hm
  obtain ⟨E, hE⟩ : ∃ E, ckT cap L = E := ⟨_, rfl⟩
  obtain ⟨V, hV⟩ : ∃ V, sumV L = V := ⟨_, rfl⟩
  obtain ⟨G, hG⟩ : ∃ G, drE cap L mass = G := ⟨_, rfl⟩
  have hno := fun h => dr_no hG h
  have hyes := fun h : G = 0 => dr_yes (hG.trans h)
  obtain ⟨GC, hGC⟩ : ∃ GC, drC cap L mass = GC := ⟨_, rfl⟩
  obtain ⟨GT, hGT⟩ : ∃ GT, drT cap L mass = GT := ⟨_, rfl⟩
  obtain ⟨GP, hGP⟩ : ∃ GP, drP cap L mass = GP := ⟨_, rfl⟩
  rw [hGC, hGT, hGP] at hno hyes
  rw [hE, hV] at KL
  rw [hG, hGC, hGT, hGP]
  have HE := Lib.hid hE
  have HV := Lib.hid hV
  have HG := Lib.hid hG
  have NO := Lib.hid hno
  have YES := Lib.hid hyes
  have HN := Lib.hid hn
  clear ha hn hE hV hG hno hyes hGC hGT hGP hm
  go_enter Tryz.func22, Tryz.ntmps22
  go_upto_region 1 with fail
  obtain ⟨w0, hw0⟩ : ∃ W, ((w.alloc (.cells #[.int .i64 cap, .slice A n c] 24)).alloc (.cells #[.int .i64 mass] 3)).alloc (.cells #[.int .i64 0, .slice none 0 0] 24) = W := ⟨_, rfl⟩
  have C0 : Hid (Rw.Cel w0 w.heap.size [.int .i64 cap, .slice A n c]) := hw0 ▸ ((Rw.Cel.new w [_, _] _).alloc _).alloc _
  have M0 : Hid (Rw.Cel w0 (w.heap.size + 1) [.int .i64 mass]) := hw0 ▸ (Rw.Cel.new_at _ [_] _ (by simp)).alloc _
  have R0 : Hid (Rw.Cel w0 (w.heap.size + 2) [.int .i64 0, .slice none 0 0]) := hw0 ▸ Rw.Cel.new_at _ [_, _] _ (by simp)
  have B0 : Hid (Below w.heap.size w w0) := hw0 ▸ bstep (bstep (below_alloc _ _) (below_alloc _ _)) (below_alloc _ _)
  first | rw [hw0] | skip
  clear hw0
  obtain ⟨x0, x1⟩ := C0.out.two
  go_wp2_with fail
  refine (KL.out w0 (Rats.on HA.out B0.out)).mono ?_
  rintro e w1 h
  obtain ⟨b1, A1, n1, c1, B1, m1, e1, rfl, ho, hb⟩ := h.open_
  have O1 := Lib.hid ho
  have BB1 := Lib.hid (bstep B0.out hb)
  have C1 := Lib.hid (C0.out.on hb)
  have M1 := Lib.hid (M0.out.on hb)
  have R1 := Lib.hid (R0.out.on hb)
  clear h ho hb x0 x1
  go_upto_region 2 with fail
  obtain ⟨w2, hw2⟩ : ∃ W, w1.alloc (.cells #[.bool b1, .slice A1 n1 c1, .slice B1 m1 e1] 33) = W := ⟨_, rfl⟩
  obtain ⟨gl, hgl⟩ : ∃ g, w1.heap.size = g := ⟨_, rfl⟩
  have b2 : Below w1.heap.size w1 w2 := hw2 ▸ below_alloc _ _
  have L2 : Hid (Rw.Cel w2 gl [.bool b1, .slice A1 n1 c1, .slice B1 m1 e1]) := hw2 ▸ hgl ▸ Rw.Cel.new w1 [_, _, _] _
  have BB2 := Lib.hid (bstep BB1.out b2)
  have C2 := Lib.hid (C1.out.on b2)
  have M2 := Lib.hid (M1.out.on b2)
  have R2 := Lib.hid (R1.out.on b2)
  have O2 := Lib.hid (O1.out.on b2)
  have GL : Hid (w.heap.size + 2 < gl) := Lib.hid (by have := R1.out.lt; omega)
  rw [hw2, hgl]
  clear hw2 b2 hgl
  obtain ⟨u0, u1⟩ := R2.out.two
  obtain ⟨v0, v1⟩ := R2.out.warm2
  by_cases hz : E = 0
  rotate_left
  · obtain ⟨z1, z2⟩ := ne_zero hz
    obtain rfl : G = E := by rw [← HG.out, ← HE.out]; exact if_neg (by rw [HE.out]; exact hz)
    obtain ⟨f1, f2, f3⟩ := NO.out hz
    subst f1; subst f2; subst f3
    go_wp2_with fail
    exact bodyPost_ret (res_tank3 Tryz.results22 rfl (R2.out.put2 _ _)) rfl (DrR.none_ (Rw.below_put2 BB2.out (by omega) _ _))
  subst hz
  have HOK := Lib.hid (ckT_of HE.out)
  have O3 := Lib.hid (O2.out.zero rfl)
  have q0 := M2.out.at_ 0 _ rfl
  by_cases h0 : mass < 0
  · have d0 : decide (mass < 0) = true := decide_eq_true h0
    obtain rfl : G = 1 := by rw [← HG.out]; exact drE_rng HE.out (Bool.eq_false_iff.mpr fun h => by have := inM_iff.mp h; omega)
    obtain ⟨f1, f2, f3⟩ := NO.out (by decide)
    subst f1; subst f2; subst f3
    clear h0
    go_wp2_with fail
    exact bodyPost_ret (res_tank3 Tryz.results22 rfl (R2.out.put2 _ _)) rfl (DrR.none_ (Rw.below_put2 BB2.out (by omega) _ _))
  have d0 : decide (mass < 0) = false := decide_eq_false h0
  by_cases h1 : 1099511627776 < mass
  · have d1 : decide (1099511627776 < mass) = true := decide_eq_true h1
    have hMM : MM = 1099511627776 := rfl
    obtain rfl : G = 1 := by rw [← HG.out]; exact drE_rng HE.out (Bool.eq_false_iff.mpr fun h => by have := inM_iff.mp h; omega)
    obtain ⟨f1, f2, f3⟩ := NO.out (by decide)
    subst f1; subst f2; subst f3
    clear h0 h1 hMM
    go_wp2_with fail
    exact bodyPost_ret (res_tank3 Tryz.results22 rfl (R2.out.put2 _ _)) rfl (DrR.none_ (Rw.below_put2 BB2.out (by omega) _ _))
  have d1 : decide (1099511627776 < mass) = false := decide_eq_false h1
  have HI := Lib.hid (show inM MM mass = true from inM_iff.mpr ⟨by omega, Int.not_lt.mp h1⟩)
  have hm0 : 0 ≤ mass := by omega
  have HM0 := Lib.hid hm0
  have hpos := HOK.out.pos
  rw [HV.out] at hpos
  have KF := Lib.hid fun a W k => yq_Floor V hpos.2.2 hpos.1 hpos.2.1 a W k
  have hst := stock_iff HOK.out hm0
  rw [HV.out] at hst
  obtain ⟨Q, hQ⟩ : ∃ Q : Int, (rQ V : Int) = Q := ⟨_, rfl⟩
  rw [hQ] at KF hst
  have HST := Lib.hid hst
  have FV := Lib.hid hpos.2.2
  clear h0 h1 hm0 hpos hst hQ
  obtain ⟨x0, x1, x2⟩ := L2.out.three
  go_upto_region 6 with fail
  go_wp2_with fail
  refine (KF.out _ w2 O3.out).mono ?_
  rintro e w3 ⟨rfl, hb⟩
  have BB3 := Lib.hid (bstep BB2.out hb)
  have C3 := Lib.hid (C2.out.on hb)
  have M3 := Lib.hid (M2.out.on hb)
  have R3 := Lib.hid (R2.out.on hb)
  have L3 := Lib.hid (L2.out.on hb)
  have O4 := Lib.hid (O3.out.on hb)
  clear hb x0 x1 x2 u0 u1 v0 v1 q0
  have q0 := M3.out.at_ 0 _ rfl
  by_cases hs : Q < mass
  · have d2 : decide (Q < mass) = true := decide_eq_true hs
    obtain rfl : G = 19 := by rw [← HG.out]; exact drE_stock HE.out HI.out (by rw [HV.out]; exact HST.out.mp hs)
    obtain ⟨f1, f2, f3⟩ := NO.out (by decide)
    subst f1; subst f2; subst f3
    clear hs
    obtain ⟨u0, u1⟩ := R3.out.two
    obtain ⟨v0, v1⟩ := R3.out.warm2
    go_wp2_with fail
    exact bodyPost_ret (res_tank3 Tryz.results22 rfl (R3.out.put2 _ _)) rfl (DrR.none_ (Rw.below_put2 BB3.out (by omega) _ _))
  have d2 : decide (Q < mass) = false := decide_eq_false hs
  have HTK := Lib.hid (drE_tk HE.out HI.out (by rw [HV.out]; exact fun h => hs (HST.out.mpr h)))
  have hn8 : n ≤ 8 := by have := HOK.out.n1; have := HN.out; omega
  have HN8 := Lib.hid hn8
  have hmk := tk_make n (by omega)
  clear hs hn8
  obtain ⟨x0, x1⟩ := C3.out.two
  go_upto_region 10 with fail
  obtain ⟨gk, hgk⟩ : ∃ g, w3.heap.size = g := ⟨_, rfl⟩
  obtain ⟨w4, hw4⟩ : ∃ W, (w3.alloc (.cells (madeCells #[.bool false, .slice none 0 0, .slice none 0 0] (n * 3)) 33)).alloc (.cells #[.slice (some ⟨gk, 0, none⟩) n n] 22) = W := ⟨_, rfl⟩
  have W4 : Hid (Rw.Row cR 3 TR gk w4 (.slice (some ⟨gk, 0, none⟩) n n) ([] ++ List.replicate (n - 0) zR)) := hw4 ▸ ((hgk ▸ rowT_made w3 n (by have := HN8.out; omega) : Rw.Row cR 3 TR gk (w3.alloc (.cells (madeCells #[.bool false, .slice none 0 0, .slice none 0 0] (n * 3)) 33)) (.slice (some ⟨gk, 0, none⟩) n n) (List.replicate n zR)).on (below_alloc _ _))
  have T4 : Hid (Rw.Cel w4 (gk + 1) [.slice (some ⟨gk, 0, none⟩) n n]) := hw4 ▸ Rw.Cel.new_at _ [_] _ (by simp [hgk])
  have b4 : Below w3.heap.size w3 w4 := hw4 ▸ bstep (below_alloc _ _) (below_alloc _ _)
  have BB4 := Lib.hid (bstep BB3.out b4)
  have C4 := Lib.hid (C3.out.on b4)
  have M4 := Lib.hid (M3.out.on b4)
  have R4 := Lib.hid (R3.out.on b4)
  have L4 := Lib.hid (L3.out.on b4)
  have O5 := Lib.hid (O4.out.on b4)
  have GK : Hid (gl < gk ∧ w.heap.size + 2 < gk) := Lib.hid ⟨by have := L3.out.lt; omega, by have := R3.out.lt; omega⟩
  rw [hgk, hw4]
  clear hw4 hgk b4 hmk x0 x1 q0
  have A4 := Lib.hid (Rats.on HA.out BB4.out)
  have HAb : Hid (∀ b off, A = some ⟨b, off, none⟩ → b < gk) := Lib.hid fun b off e => by
    have := Rats.lt HA.out (by have := HOK.out.n0; omega) b off e
    have := GK.out.2
    omega
  have HVL : Hid (∀ t ∈ L, vT t = true) := fun t ht => (HOK.out.all t ht).1
  have HJ : Hid (DrJ L A mass b1 A1 n1 c1 B1 m1 e1 (w.heap.size + 1) gl (gk + 1) gk n 0 w4) := Lib.hid ⟨A4.out, M4.out, L4.out, HV.out ▸ O5.out, T4.out, ⟨[], rfl, W4.out, by rw [List.take_zero]; exact Ins.nil _⟩, by rw [List.take_zero]; intro q hq; cases hq⟩
  have hmm1 : mass ≤ MM := (inM_iff.mp HI.out).2
  have KC := Lib.hid (p_changed (w := w4) (bcm_draw (B := w4.heap.size) HVL.out (by rw [HV.out]; exact FV.out) HM0.out hmm1 HN.out HN8.out HAb.out (by have := GK.out; omega) GK.out.1 (Nat.lt_succ_self _) T4.out.lt) (drY_len L mass) cap n c HN.out HJ.out HN8.out)
  have hfe := fE_draw (mass := mass) HVL.out
  rw [← HTK.out, HG.out, ← HN.out] at hfe
  rw [hfe] at KC
  clear hfe hmm1
  obtain ⟨x0, x1⟩ := C4.out.two
  go_wp2_with fail
  refine KC.out.mono ?_
  rintro e w5 ⟨x, A3, n3, c3, rfl, ho, hsz, hno5, hyes5⟩
  have O6 := Lib.hid ho
  have NO5 := Lib.hid hno5
  have YES5 := Lib.hid hyes5
  have BB5 : Hid (Below w.heap.size w w5) := Lib.hid (BB4.out.trans (ho.below BB4.out.size fun y hy => by have := GK.out.2; omega))
  have R5 := Lib.hid (R4.out.off ho (by have := GK.out.2; omega))
  have T5 := Lib.hid (T4.out.off ho (by omega))
  clear ho hsz hno5 hyes5 x0 x1
  go_upto_region 11 with fail
  obtain ⟨w6, hw6⟩ : ∃ W, w5.alloc (.cells #[.int .i64 x, .slice A3 n3 c3] 24) = W := ⟨_, rfl⟩
  obtain ⟨gx, hgx⟩ : ∃ g, w5.heap.size = g := ⟨_, rfl⟩
  have b6 : Below w5.heap.size w5 w6 := hw6 ▸ below_alloc _ _
  have D6 : Hid (Rw.Cel w6 gx [.int .i64 x, .slice A3 n3 c3]) := hw6 ▸ hgx ▸ Rw.Cel.new w5 [_, _] _
  have BB6 := Lib.hid (bstep BB5.out b6)
  have HB6 := Lib.hid b6
  have R6 := Lib.hid (R5.out.on b6)
  have T6 := Lib.hid (T5.out.on b6)
  have GX : Hid (w.heap.size + 2 < gx ∧ gk + 1 < gx) := Lib.hid ⟨by have := R5.out.lt; omega, by have := T5.out.lt; omega⟩
  rw [hw6, hgx]
  clear hw6 hgx b6
  obtain ⟨u0, u1⟩ := R6.out.two
  obtain ⟨v0, v1⟩ := R6.out.warm2
  by_cases hz : G = 0
  rotate_left
  · obtain ⟨z1, z2⟩ := ne_zero hz
    obtain ⟨f1, f2, f3⟩ := NO.out hz
    subst f1; subst f2; subst f3
    go_wp2_with fail
    exact bodyPost_ret (res_tank3 Tryz.results22 rfl (R6.out.put2 _ _)) rfl (DrR.none_ (Rw.below_put2 BB6.out (by omega) _ _))
  obtain ⟨f1, f2, f3⟩ := YES.out hz
  obtain ⟨hT, hJ, hfy⟩ := YES5.out hz
  subst f1; subst f2; subst f3; subst hz
  have hfx := hJ.fit
  rw [List.take_of_length_le (by rw [drX_len, ← HN.out]; exact Nat.le_refl _)] at hfx
  obtain ⟨R, hR, hrow, hins⟩ := hJ.row
  rw [List.take_of_length_le (by rw [drX_len, ← HN.out]; exact Nat.le_refl _)] at hins
  obtain ⟨hr, hl⟩ := fill_rats hrow hins hR rfl
  have KT := Lib.hid (InT.tank (InT.on hT HB6.out) (ts_vZ hfy) R6.out (.int .i64 x) (.slice A3 n3 c3))
  have KR := Lib.hid (Rats.tank (Rats.on hr HB6.out) (ts_vZ hfx) R6.out (.int .i64 x) (.slice A3 n3 c3))
  have KN := Lib.hid hl
  have HX := Lib.hid HN8.out
  clear hT hJ hfy hfx hR hrow hins hr hl
  obtain ⟨y0, y1⟩ := D6.out.two
  have s0 := T6.out.at_ 0 _ rfl
  have s1 := (((T6.out.far (p := ⟨w.heap.size + 2, 0, none⟩) (by have := GK.out; dsimp only; omega) (.int .i64 x)).far (p := ⟨w.heap.size + 2, 1, none⟩) (by have := GK.out; dsimp only; omega) (.slice A3 n3 c3))).at_ 0 _ rfl
  have l1 : w.heap.size + 2 < gx := GX.out.1
  have l2 : w.heap.size + 2 < gk + 1 := by have := GK.out; omega
  go_upto_region 13 with fail
  go_region
  all_goals
    go_wp2_with fail
    exact bodyPost_ret (res_tank3 Tryz.results22 rfl (R6.out.put2 _ _).drew) rfl ⟨_, _, _, _, rfl, KT.out, KN.out, by have := HX.out; omega, KR.out, below_drew (Rw.below_put2 BB6.out (by omega) _ _)⟩
end Go.Proofs.YtgmlccjjhmhgbaaGreat.Tank
