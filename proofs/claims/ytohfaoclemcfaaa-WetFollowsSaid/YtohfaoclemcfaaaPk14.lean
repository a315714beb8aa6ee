/- Several texts in one: WetC, WetD, WetE. -/
import Derived.Test.YtohfaoclemcfaaaPk13
import Derived.Test.YtohfaoclemcfaaaPk10
/- The reference: of, step (gen20/c.py). -/
namespace Go.Proofs.Ytohfaoclemcfaaa.Wet
open Go.ChangeShapes Go.WideShapes Go.RowKit Go.Lib
open Go.Proofs.Ytohfaoclemcfaaa.Rw (ret_bool ret_int bstep below_drewN below_drew drew_below below_alloc)
set_option linter.unusedVariables false
set_option maxRecDepth 100000

theorem out_zero {w : World} {v : Value} {r : Rat} (h : OutR w v 0 r) : IsR w v r := by unfold OutR at h; rw [if_pos rfl] at h; exact h
theorem isR_open {w : World} {v : Value} {q : Rat} (h : IsR w v q) : ∃ b A n c B m d, v = .agg #[.bool b, .slice A n c, .slice B m d] := by
  obtain ⟨vp, vq, rfl, ha, hb⟩ := h
  obtain ⟨A, c, rfl, -⟩ := in_open ha
  obtain ⟨B, d, rfl, -⟩ := in_open hb
  exact ⟨_, _, _, _, _, _, _, rfl⟩
theorem y_Of {n : Int} (h0 : 0 ≤ n) (h1 : n ≤ 1099511627776) (w : World) : Calls Try.prog 33 #[.int .i64 n] w (RRes w 0 (mkV n 1)) := by
  have k := ref_Of3 n w (by omega) (by omega)
  have e : mkE n 1 = 0 := mkE_4 (inRB_iff.mpr (by omega)) (inRB_iff.mpr (by decide)) (by decide)
  rw [e] at k
  exact k
theorem y_Make {p q : Int} (h0 : 0 ≤ p) (h1 : p ≤ 1000000) (h2 : 1 ≤ q) (h3 : q ≤ 1000000) (w : World) : Calls Try.prog 27 #[.int .i64 p, .int .i64 q] w (RRes w 0 (mkV p q)) := by
  have k := ref_Make3 p q w (by omega) (by omega) (by omega) (by omega)
  have e : mkE p q = 0 := mkE_4 (inRB_iff.mpr (by omega)) (inRB_iff.mpr (by omega)) (by omega)
  rw [e] at k
  exact k
theorem okE_yes {b : Bool} (h : b = true) : okE b = 0 := by rw [h]; rfl
theorem y_Add {r s : Rat} (hr : fitR r = true) (hs : fitR s = true) (ho : sumOk r s = true) (v u : Value) (w : World) (hv : IsR w v r) (hu : IsR w u s) :
    Calls Try.prog 25 #[v, u] w (RRes w 0 (r + s)) := by
  have k := ref_AddF r s hr hs v u w hv hu
  rw [okE_yes ho] at k
  exact k
theorem y_Mul {r s : Rat} (hr : fitR r = true) (hs : fitR s = true) (ho : mulOk r s = true) (v u : Value) (w : World) (hv : IsR w v r) (hu : IsR w u s) :
    Calls Try.prog 29 #[v, u] w (RRes w 0 (r * s)) := by
  have k := ref_MulF r s hr hs v u w hv hu
  rw [okE_yes ho] at k
  exact k
theorem y_Sub {r s : Rat} (hr : fitR r = true) (hs : fitR s = true) (ho : subOk r s = true) (v u : Value) (w : World) (hv : IsR w v r) (hu : IsR w u s) :
    Calls Try.prog 28 #[v, u] w (RRes w 0 (subOp r s)) := by
  have k := ref_Sub3 (negR r) (topL r) (botL r) (negR s) (topL s) (botL s) v u w hv hu
  rw [(op_form (ok := subOk) (f := subOp) hr hs).1, (op_form (ok := subOk) (f := subOp) hr hs).2, okE_yes ho] at k
  exact k
theorem k_fr {k : Int} (hk : 0 ≤ k ∧ k ≤ 1000) : Fr 1000 1000 (mkV k 1000) := by
  have h := mkV_fr (p := k) (q := 1000) hk.1 (by decide)
  exact h.le (by omega)
theorem cel_root {w : World} {g : Nat} {u0 u1 u2 : Value} (h : Rw.Cel w g [u0, u1, u2]) : Cel w g u0 u1 u2 := ⟨h.three, h.warm3⟩
/-- What a part leaves. -/
theorem re_fr {B H : Nat} {x : Rat} {r : Int} (hx : Fr B H x) (hr : 0 ≤ r ∧ r ≤ 1000) : Fr (B * 1000) (H * 1000) (subOp x (x * mkV r 1000)) := by
  obtain ⟨a, ha, h1⟩ := hx.num
  have hm := mkV_mul (p := r) (q := 1000) hr.1 (by decide)
  have e1 : ((1000 : Int) : Rat) = 1000 := rfl
  rw [e1] at hm
  refine ⟨Nat.mul_pos hx.pos (by decide), a * (1000 - r), ?_, ?_⟩
  · have e2 : ((B * 1000 : Nat) : Rat) = (B : Rat) * 1000 := by rw [Rat.natCast_mul]; rfl
    rw [e2, Rat.intCast_mul, Rat.intCast_sub, e1, ← ha, ← hm]
    unfold subOp
    grind
  · rw [Int.natAbs_mul]
    exact Nat.mul_le_mul h1 (by omega)
/-- A step's numbers fit. -/
def Lim (B M : Nat) : Prop := 2000000000 * ((1099511627776 * B + M) * B) < big48
theorem Lim.facts {B M : Nat} (h : Lim B M) (hB : 0 < B) : ∃ H X, 1099511627776 * B + M = H ∧ H * B = X ∧ H ≤ X ∧ B ≤ X ∧ B * B ≤ X ∧ 2000000000 * X < big48 := by
  refine ⟨_, _, rfl, rfl, Nat.le_mul_of_pos_right _ hB, ?_, ?_, h⟩
  · exact Nat.le_mul_of_pos_left _ (by omega)
  · exact Nat.mul_le_mul_right _ (by omega)
theorem hd_fr {B M : Nat} {q : Rat} {f : Int} (hq : Fr B M q) (hf : 0 ≤ f ∧ f ≤ MM) : Fr B (1099511627776 * B + M) (hdV f q) := by
  have h1 := (mkV_fr (p := f) (q := 1) hf.1 (by decide)).le (N := 1099511627776) (by have h9 := hf.2; have hM : MM = 1099511627776 := rfl; omega)
  have h2 := h1.up hq.pos
  have e : (1 : Int).toNat * B = B := by show 1 * B = B; omega
  rw [e] at h2
  exact h2.add hq
/-- What a step wants. -/
structure Stp (f r c : Int) (q : Rat) : Prop where
  fq : fitR q = true
  ff : fitR (mkV f 1) = true
  so : sumOk (mkV f 1) q = true
  fh : fitR (hdV f q) = true
  fp : fitR (paV f r q) = true
  s1 : subOk (hdV f q) (paV f r q) = true
  fe : fitR (reV f r q) = true
  fa : fitR (afV f r c q) = true
  s2 : subOk (reV f r q) (afV f r c q) = true
  fs : fitR (seV f r c q) = true
  hh : ∃ H B, Fr B H (hdV f q) ∧ B * 1000 < big48 ∧ H * 1000 < big48
  hr : ∃ H B, Fr B H (reV f r q) ∧ B * 1000 < big48 ∧ H * 1000 < big48
theorem Stp.mk' {f r c : Int} {q : Rat} {B M : Nat} (hq : Fr B M q) (hl : Lim B M) (hk : ckW f r c = 0) : Stp f r c q := by
  obtain ⟨hf, hr, hc⟩ := ckW_of hk
  obtain ⟨H, X, e1, e2, h1, h2, h3, h4⟩ := hl.facts hq.pos
  have hd := hd_fr hq hf
  rw [e1] at hd
  have F1 := (mkV_fr (p := f) (q := 1) hf.1 (by decide)).le (N := 1099511627776) (by have h9 := hf.2; have hM : MM = 1099511627776 := rfl; omega)
  have HP := hd.mul (k_fr (k := r) (by omega))
  have HE := re_fr hd (r := r) (by omega)
  have HA := HE.mul (k_fr (k := c) (by omega))
  have HS := re_fr HE (r := c) (by omega)
  have x1 : H * (B * 1000) = X * 1000 := by rw [← Nat.mul_assoc, e2]
  have x2 : H * 1000 * B = X * 1000 := by rw [Nat.mul_right_comm, e2]
  have x3 : B * (B * 1000) = B * B * 1000 := by rw [Nat.mul_assoc]
  have x4 : H * 1000 * (B * 1000 * 1000) = X * 1000000000 := by rw [Nat.mul_assoc B, ← Nat.mul_assoc, x2]; omega
  have x5 : H * 1000 * 1000 * (B * 1000) = X * 1000000000 := by rw [← Nat.mul_assoc, Nat.mul_right_comm (H * 1000), x2]; omega
  have x6 : B * 1000 * (B * 1000 * 1000) = B * B * 1000000000 := by rw [Nat.mul_assoc B 1000 1000, ← Nat.mul_assoc, Nat.mul_right_comm B]; omega
  refine ⟨hq.fit (by omega) (by omega), F1.fit (small48 (by decide)) (small48 (by decide)), ?_, hd.fit (by omega) (by omega), HP.fit (by omega) (by omega), hd.sub_ok HP (by rw [x1, x2]; omega) (by rw [x3]; omega), HE.fit (by omega) (by omega), HA.fit (by omega) (by omega), HE.sub_ok HA (by rw [x4, x5]; omega) (by rw [x6]; omega), HS.fit (by omega) (by omega), ⟨H, B, hd, by omega, by omega⟩, ⟨H * 1000, B * 1000, HE, by omega, by omega⟩⟩
  refine F1.sum_ok hq ?_ ?_
  · show 1099511627776 * B + M * 1 < big48
    omega
  · show 1 * B < big48
    omega
theorem big_1000 : 1000 < big48 := small48 (by decide)
/-- A number of the call's own, or one that came in. -/
def RRet (w : World) (q : Rat) (e : Ending) (w' : World) : Prop := ∃ b A n c B m d, e = .returned (.agg #[.bool b, .slice A n c, .slice B m d]) ∧ IsR w' (.agg #[.bool b, .slice A n c, .slice B m d]) q ∧ Below w.heap.size w w'
set_option maxHeartbeats 3200000 in
theorem wr_of {q : Rat} {k : Int} {B M : Nat} (hq : Fr B M q) (hB : B * 1000 < big48) (hM : M * 1000 < big48) (hk : 0 ≤ k ∧ k ≤ 1000) (v : Value) (w : World) (hv : IsR w v q) :
    Calls Try.prog 60 #[v, .int .i64 k] w (RRet w (q * mkV k 1000)) := by
  have fq := hq.fit (by omega) (by omega)
  have fk := (k_fr hk).fit big_1000 big_1000
  have mo := hq.mul_ok (k_fr hk) hM hB
  have KM := Lib.hid fun (W : World) => y_Make hk.1 (show k ≤ 1000000 by omega) (show (1 : Int) ≤ 1000 by decide) (by decide) W
  have KU := Lib.hid fun (v u : Value) (W : World) (h : IsR W v q) (h2 : IsR W u (mkV k 1000)) => y_Mul fq fk mo v u W h h2
  obtain ⟨b0, A0, n0, c0, B0, m0, d0, rfl⟩ := isR_open hv
  have R0 := Lib.hid hv
  have HB := Lib.hid (Below.refl w.heap.size w)
  obtain ⟨p, hp⟩ : ∃ p, mkV k 1000 = p := ⟨_, rfl⟩
  rw [hp] at KM KU ⊢
  clear fq fk mo hq hB hM hv hk hp
  go_enter Try.func60, Try.ntmps60
  go_upto_region 1 with fail
  obtain ⟨w1, hw⟩ : ∃ W, (w.alloc (.cells #[.bool b0, .slice A0 n0 c0, .slice B0 m0 d0] 27)).alloc (.cells #[.bool false, .slice none 0 0, .slice none 0 0] 27) = W := ⟨_, rfl⟩
  have C0 : Hid (Rw.Cel w1 w.heap.size [.bool b0, .slice A0 n0 c0, .slice B0 m0 d0]) := hw ▸ (Rw.Cel.new w [_, _, _] _).alloc _
  have C1 : Hid (Rw.Cel w1 (w.heap.size + 1) [.bool false, .slice none 0 0, .slice none 0 0]) := hw ▸ Rw.Cel.new_at _ [_, _, _] _ (by simp)
  have hb : Below w.heap.size w w1 := hw ▸ bstep (below_alloc _ _) (below_alloc _ _)
  replace HB := Lib.hid (bstep HB.out hb)
  replace R0 := Lib.hid (R0.out.on hb)
  first | rw [hw] | skip
  clear hw hb
  go_wp2_with fail
  refine (KM.out _).mono ?_
  rintro e w2 h
  obtain ⟨b1, A1, n1, c1, B1, m1, d1, rfl, ho, hb⟩ := h.open_
  replace HB := Lib.hid (bstep HB.out hb)
  replace R0 := Lib.hid (R0.out.on hb)
  replace C0 := Lib.hid (C0.out.on hb)
  replace C1 := Lib.hid (C1.out.on hb)
  have R1 := Lib.hid (out_zero ho)
  clear h ho hb
  go_upto_region 2 with fail
  obtain ⟨w3, hw⟩ : ∃ W, w2.alloc (.cells #[.bool b1, .slice A1 n1 c1, .slice B1 m1 d1] 27) = W := ⟨_, rfl⟩
  obtain ⟨gC2, hg⟩ : ∃ g, w2.heap.size = g := ⟨_, rfl⟩
  have hb : Below w2.heap.size w2 w3 := hw ▸ below_alloc _ _
  have C2 : Hid (Rw.Cel w3 gC2 [.bool b1, .slice A1 n1 c1, .slice B1 m1 d1]) := hw ▸ hg ▸ Rw.Cel.new w2 [_, _, _] _
  replace HB := Lib.hid (bstep HB.out hb)
  replace R0 := Lib.hid (R0.out.on hb)
  replace C0 := Lib.hid (C0.out.on hb)
  replace C1 := Lib.hid (C1.out.on hb)
  replace R1 := Lib.hid (R1.out.on hb)
  first | rw [hw, hg] | rw [hw]
  clear hw hg hb
  obtain ⟨x00, x01, x02⟩ := C0.out.three
  obtain ⟨x10, x11, x12⟩ := C2.out.three
  go_wp2_with fail
  refine (KU.out _ _ _ R0.out R1.out).mono ?_
  rintro e w4 h
  obtain ⟨b2, A2, n2, c2, B2, m2, d2, rfl, ho, hb⟩ := h.open_
  replace HB := Lib.hid (bstep HB.out hb)
  replace R0 := Lib.hid (R0.out.on hb)
  replace C0 := Lib.hid (C0.out.on hb)
  replace C1 := Lib.hid (C1.out.on hb)
  replace R1 := Lib.hid (R1.out.on hb)
  replace C2 := Lib.hid (C2.out.on hb)
  have R2 := Lib.hid (out_zero ho)
  clear h ho hb
  clear x00 x01 x02 x10 x11 x12
  go_upto_region 3 with fail
  obtain ⟨w5, hw⟩ : ∃ W, w4.alloc (.cells #[.bool b2, .slice A2 n2 c2, .slice B2 m2 d2] 27) = W := ⟨_, rfl⟩
  obtain ⟨gC3, hg⟩ : ∃ g, w4.heap.size = g := ⟨_, rfl⟩
  have hb : Below w4.heap.size w4 w5 := hw ▸ below_alloc _ _
  have C3 : Hid (Rw.Cel w5 gC3 [.bool b2, .slice A2 n2 c2, .slice B2 m2 d2]) := hw ▸ hg ▸ Rw.Cel.new w4 [_, _, _] _
  replace HB := Lib.hid (bstep HB.out hb)
  replace R0 := Lib.hid (R0.out.on hb)
  replace C0 := Lib.hid (C0.out.on hb)
  replace C1 := Lib.hid (C1.out.on hb)
  replace R1 := Lib.hid (R1.out.on hb)
  replace C2 := Lib.hid (C2.out.on hb)
  replace R2 := Lib.hid (R2.out.on hb)
  first | rw [hw, hg] | rw [hw]
  clear hw hg hb
  obtain ⟨x00, x01, x02⟩ := C3.out.three
  obtain ⟨x10, x11, x12⟩ := C1.out.three
  obtain ⟨v0, v1, v2⟩ := C1.out.warm3
  go_wp2_with fail
  exact bodyPost_ret (res_r1 Try.results60 rfl (C1.out.put3 _ _ _)) rfl ⟨_, _, _, _, _, _, _, rfl, InR.put3 R2.out (cel_root C1.out) _ _ _, Rw.below_put3 HB.out (Nat.le_succ _) _ _ _⟩
theorem far3 {w : World} {g g' : Nat} {us : List Value} (h : Rw.Cel w g us) (hg : g' ≠ g) (x y z : Value) : Rw.Cel (((w.setCell ⟨g', 0, none⟩ x).setCell ⟨g', 1, none⟩ y).setCell ⟨g', 2, none⟩ z) g us :=
  ((h.far (p := ⟨g', 0, none⟩) hg x).far (p := ⟨g', 1, none⟩) hg y).far (p := ⟨g', 2, none⟩) hg z
/-- Three numbers. -/
def RRet3 (w : World) (p q r : Rat) (e : Ending) (w' : World) : Prop :=
  ∃ b1 A1 n1 c1 B1 m1 d1 b2 A2 n2 c2 B2 m2 d2 b3 A3 n3 c3 B3 m3 d3, e = .returned (.tuple #[.agg #[.bool b1, .slice A1 n1 c1, .slice B1 m1 d1], .agg #[.bool b2, .slice A2 n2 c2, .slice B2 m2 d2], .agg #[.bool b3, .slice A3 n3 c3, .slice B3 m3 d3]]) ∧
    IsR w' (.agg #[.bool b1, .slice A1 n1 c1, .slice B1 m1 d1]) p ∧ IsR w' (.agg #[.bool b2, .slice A2 n2 c2, .slice B2 m2 d2]) q ∧ IsR w' (.agg #[.bool b3, .slice A3 n3 c3, .slice B3 m3 d3]) r ∧ Below w.heap.size w w'
set_option maxHeartbeats 6400000 in
theorem wr_step {f r c : Int} {q : Rat} (hs : Stp f r c q) (hk : ckW f r c = 0) (v : Value) (w : World) (hv : IsR w v q) :
    Calls Try.prog 41 #[.agg #[.int .i64 f, .int .i64 r, .int .i64 c], v] w (RRet3 w (paV f r q) (seV f r c q) (afV f r c q)) := by
  obtain ⟨hf, hr, hc⟩ := ckW_of hk
  obtain ⟨H1, B1, fr1, g1, g2⟩ := hs.hh
  obtain ⟨H2, B2, fr2, g3, g4⟩ := hs.hr
  have KF := Lib.hid fun (W : World) => y_Of hf.1 hf.2 W
  have KA := Lib.hid fun (v u : Value) (W : World) (h : IsR W v (mkV f 1)) (h2 : IsR W u q) => y_Add hs.ff hs.fq hs.so v u W h h2
  have KP := Lib.hid fun (v : Value) (W : World) (h : IsR W v (hdV f q)) => wr_of fr1 g1 g2 (show 0 ≤ r ∧ r ≤ 1000 by omega) v W h
  have KE := Lib.hid fun (v u : Value) (W : World) (h : IsR W v (hdV f q)) (h2 : IsR W u (paV f r q)) => y_Sub hs.fh hs.fp hs.s1 v u W h h2
  have KW := Lib.hid fun (v : Value) (W : World) (h : IsR W v (reV f r q)) => wr_of fr2 g3 g4 (show 0 ≤ c ∧ c ≤ 1000 by omega) v W h
  have KS := Lib.hid fun (v u : Value) (W : World) (h : IsR W v (reV f r q)) (h2 : IsR W u (afV f r c q)) => y_Sub hs.fe hs.fa hs.s2 v u W h h2
  rw [show mkV f 1 + q = hdV f q from rfl] at KA
  rw [show hdV f q * mkV r 1000 = paV f r q from rfl] at KP
  rw [show subOp (hdV f q) (paV f r q) = reV f r q from rfl] at KE
  rw [show reV f r q * mkV c 1000 = afV f r c q from rfl] at KW
  rw [show subOp (reV f r q) (afV f r c q) = seV f r c q from rfl] at KS
  obtain ⟨vF, hF⟩ : ∃ x, mkV f 1 = x := ⟨_, rfl⟩
  obtain ⟨vH, hH⟩ : ∃ x, hdV f q = x := ⟨_, rfl⟩
  obtain ⟨vP, hP⟩ : ∃ x, paV f r q = x := ⟨_, rfl⟩
  obtain ⟨vE, hE⟩ : ∃ x, reV f r q = x := ⟨_, rfl⟩
  obtain ⟨vA, hA⟩ : ∃ x, afV f r c q = x := ⟨_, rfl⟩
  obtain ⟨vS, hS⟩ : ∃ x, seV f r c q = x := ⟨_, rfl⟩
  rw [hF] at KF KA
  rw [hH] at KA KP KE
  rw [hP] at KP KE ⊢
  rw [hE] at KE KW KS
  rw [hA] at KW KS ⊢
  rw [hS] at KS ⊢
  obtain ⟨b0, A0, n0, c0, B0, m0, d0, rfl⟩ := isR_open hv
  have R0 := Lib.hid hv
  have HB := Lib.hid (Below.refl w.heap.size w)
  clear hs hk hf hr hc fr1 fr2 g1 g2 g3 g4 hF hH hP hE hA hS hv
  go_enter Try.func41, Try.ntmps41
  go_upto_region 1 with fail
  obtain ⟨w1, hw⟩ : ∃ W, ((((w.alloc (.cells #[.int .i64 f, .int .i64 r, .int .i64 c] 23)).alloc (.cells #[.bool b0, .slice A0 n0 c0, .slice B0 m0 d0] 27)).alloc (.cells #[.bool false, .slice none 0 0, .slice none 0 0] 27)).alloc (.cells #[.bool false, .slice none 0 0, .slice none 0 0] 27)).alloc (.cells #[.bool false, .slice none 0 0, .slice none 0 0] 27) = W := ⟨_, rfl⟩
  have CW : Hid (Rw.Cel w1 w.heap.size [.int .i64 f, .int .i64 r, .int .i64 c]) := hw ▸ ((((Rw.Cel.new w [_, _, _] _).alloc _).alloc _).alloc _).alloc _
  have CX : Hid (Rw.Cel w1 (w.heap.size + 1) [.bool b0, .slice A0 n0 c0, .slice B0 m0 d0]) := hw ▸ (((Rw.Cel.new_at _ [_, _, _] _ (by simp)).alloc _).alloc _).alloc _
  have Z1 : Hid (Rw.Cel w1 (w.heap.size + 2) [.bool false, .slice none 0 0, .slice none 0 0]) := hw ▸ ((Rw.Cel.new_at _ [_, _, _] _ (by simp)).alloc _).alloc _
  have Z2 : Hid (Rw.Cel w1 (w.heap.size + 3) [.bool false, .slice none 0 0, .slice none 0 0]) := hw ▸ (Rw.Cel.new_at _ [_, _, _] _ (by simp)).alloc _
  have Z3 : Hid (Rw.Cel w1 (w.heap.size + 4) [.bool false, .slice none 0 0, .slice none 0 0]) := hw ▸ Rw.Cel.new_at _ [_, _, _] _ (by simp)
  have hb : Below w.heap.size w w1 := hw ▸ bstep (bstep (bstep (bstep (below_alloc _ _) (below_alloc _ _)) (below_alloc _ _)) (below_alloc _ _)) (below_alloc _ _)
  have SZ : Hid (w.heap.size + 5 ≤ w1.heap.size) := Lib.hid (by rw [← hw]; simp)
  obtain ⟨z1, hz1⟩ : ∃ z, w.heap.size + 1 + 1 = z := ⟨_, rfl⟩
  obtain ⟨z2, hz2⟩ : ∃ z, z1 + 1 = z := ⟨_, rfl⟩
  obtain ⟨z3, hz3⟩ : ∃ z, z2 + 1 = z := ⟨_, rfl⟩
  have HZ : Hid (z1 = w.heap.size + 2 ∧ z2 = w.heap.size + 3 ∧ z3 = w.heap.size + 4) := Lib.hid (by omega)
  rw [← HZ.out.1] at Z1
  rw [← HZ.out.2.1] at Z2
  rw [← HZ.out.2.2] at Z3
  replace HB := Lib.hid (bstep HB.out hb)
  replace R0 := Lib.hid (R0.out.on hb)
  rw [hz1, hz2, hz3]
  first | rw [hw] | skip
  clear hw hb hz1 hz2 hz3
  obtain ⟨x00, x01, x02⟩ := CW.out.three
  go_wp2_with fail
  refine (KF.out _).mono ?_
  rintro e w2 h
  obtain ⟨b1, A1, n1, c1, B1, m1, d1, rfl, ho, hb⟩ := h.open_
  replace HB := Lib.hid (bstep HB.out hb)
  replace SZ := Lib.hid (Nat.le_trans SZ.out hb.size)
  replace R0 := Lib.hid (R0.out.on hb)
  replace CW := Lib.hid (CW.out.on hb)
  replace CX := Lib.hid (CX.out.on hb)
  replace Z1 := Lib.hid (Z1.out.on hb)
  replace Z2 := Lib.hid (Z2.out.on hb)
  replace Z3 := Lib.hid (Z3.out.on hb)
  have R1 := Lib.hid (out_zero ho)
  clear h ho hb
  clear x00 x01 x02
  go_upto_region 2 with fail
  obtain ⟨w3, hw⟩ : ∃ W, w2.alloc (.cells #[.bool b1, .slice A1 n1 c1, .slice B1 m1 d1] 27) = W := ⟨_, rfl⟩
  obtain ⟨gC1, hg⟩ : ∃ g, w2.heap.size = g := ⟨_, rfl⟩
  have hb : Below w2.heap.size w2 w3 := hw ▸ below_alloc _ _
  have C1 : Hid (Rw.Cel w3 gC1 [.bool b1, .slice A1 n1 c1, .slice B1 m1 d1]) := hw ▸ hg ▸ Rw.Cel.new w2 [_, _, _] _
  have SC1 : Hid (w.heap.size + 5 ≤ gC1) := Lib.hid (by have := SZ.out; omega)
  replace HB := Lib.hid (bstep HB.out hb)
  replace SZ := Lib.hid (Nat.le_trans SZ.out hb.size)
  replace R0 := Lib.hid (R0.out.on hb)
  replace CW := Lib.hid (CW.out.on hb)
  replace CX := Lib.hid (CX.out.on hb)
  replace Z1 := Lib.hid (Z1.out.on hb)
  replace Z2 := Lib.hid (Z2.out.on hb)
  replace Z3 := Lib.hid (Z3.out.on hb)
  replace R1 := Lib.hid (R1.out.on hb)
  first | rw [hw, hg] | rw [hw]
  clear hw hg hb
  obtain ⟨x00, x01, x02⟩ := C1.out.three
  obtain ⟨x10, x11, x12⟩ := CX.out.three
  go_wp2_with fail
  refine (KA.out _ _ _ R1.out R0.out).mono ?_
  rintro e w4 h
  obtain ⟨b2, A2, n2, c2, B2, m2, d2, rfl, ho, hb⟩ := h.open_
  replace HB := Lib.hid (bstep HB.out hb)
  replace SZ := Lib.hid (Nat.le_trans SZ.out hb.size)
  replace R0 := Lib.hid (R0.out.on hb)
  replace CW := Lib.hid (CW.out.on hb)
  replace CX := Lib.hid (CX.out.on hb)
  replace Z1 := Lib.hid (Z1.out.on hb)
  replace Z2 := Lib.hid (Z2.out.on hb)
  replace Z3 := Lib.hid (Z3.out.on hb)
  replace R1 := Lib.hid (R1.out.on hb)
  replace C1 := Lib.hid (C1.out.on hb)
  have R2 := Lib.hid (out_zero ho)
  clear h ho hb
  clear x00 x01 x02 x10 x11 x12
  go_upto_region 3 with fail
  obtain ⟨w5, hw⟩ : ∃ W, w4.alloc (.cells #[.bool b2, .slice A2 n2 c2, .slice B2 m2 d2] 27) = W := ⟨_, rfl⟩
  obtain ⟨gC2, hg⟩ : ∃ g, w4.heap.size = g := ⟨_, rfl⟩
  have hb : Below w4.heap.size w4 w5 := hw ▸ below_alloc _ _
  have C2 : Hid (Rw.Cel w5 gC2 [.bool b2, .slice A2 n2 c2, .slice B2 m2 d2]) := hw ▸ hg ▸ Rw.Cel.new w4 [_, _, _] _
  have SC2 : Hid (w.heap.size + 5 ≤ gC2) := Lib.hid (by have := SZ.out; omega)
  replace HB := Lib.hid (bstep HB.out hb)
  replace SZ := Lib.hid (Nat.le_trans SZ.out hb.size)
  replace R0 := Lib.hid (R0.out.on hb)
  replace CW := Lib.hid (CW.out.on hb)
  replace CX := Lib.hid (CX.out.on hb)
  replace Z1 := Lib.hid (Z1.out.on hb)
  replace Z2 := Lib.hid (Z2.out.on hb)
  replace Z3 := Lib.hid (Z3.out.on hb)
  replace R1 := Lib.hid (R1.out.on hb)
  replace C1 := Lib.hid (C1.out.on hb)
  replace R2 := Lib.hid (R2.out.on hb)
  first | rw [hw, hg] | rw [hw]
  clear hw hg hb
  obtain ⟨x00, x01, x02⟩ := C2.out.three
  obtain ⟨x10, x11, x12⟩ := CW.out.three
  go_wp2_with fail
  refine (KP.out _ _ R2.out).mono ?_
  rintro e w6 ⟨b3, A3, n3, c3, B3, m3, d3, rfl, ho, hb⟩
  replace HB := Lib.hid (bstep HB.out hb)
  replace SZ := Lib.hid (Nat.le_trans SZ.out hb.size)
  replace R0 := Lib.hid (R0.out.on hb)
  replace CW := Lib.hid (CW.out.on hb)
  replace CX := Lib.hid (CX.out.on hb)
  replace Z1 := Lib.hid (Z1.out.on hb)
  replace Z2 := Lib.hid (Z2.out.on hb)
  replace Z3 := Lib.hid (Z3.out.on hb)
  replace R1 := Lib.hid (R1.out.on hb)
  replace C1 := Lib.hid (C1.out.on hb)
  replace R2 := Lib.hid (R2.out.on hb)
  replace C2 := Lib.hid (C2.out.on hb)
  have R3 := Lib.hid ho
  clear ho hb
  clear x00 x01 x02 x10 x11 x12
  go_upto_region 4 with fail
  obtain ⟨w7, hw⟩ : ∃ W, w6.alloc (.cells #[.bool b3, .slice A3 n3 c3, .slice B3 m3 d3] 27) = W := ⟨_, rfl⟩
  obtain ⟨gC3, hg⟩ : ∃ g, w6.heap.size = g := ⟨_, rfl⟩
  have hb : Below w6.heap.size w6 w7 := hw ▸ below_alloc _ _
  have C3 : Hid (Rw.Cel w7 gC3 [.bool b3, .slice A3 n3 c3, .slice B3 m3 d3]) := hw ▸ hg ▸ Rw.Cel.new w6 [_, _, _] _
  have SC3 : Hid (w.heap.size + 5 ≤ gC3) := Lib.hid (by have := SZ.out; omega)
  replace HB := Lib.hid (bstep HB.out hb)
  replace SZ := Lib.hid (Nat.le_trans SZ.out hb.size)
  replace R0 := Lib.hid (R0.out.on hb)
  replace CW := Lib.hid (CW.out.on hb)
  replace CX := Lib.hid (CX.out.on hb)
  replace Z1 := Lib.hid (Z1.out.on hb)
  replace Z2 := Lib.hid (Z2.out.on hb)
  replace Z3 := Lib.hid (Z3.out.on hb)
  replace R1 := Lib.hid (R1.out.on hb)
  replace C1 := Lib.hid (C1.out.on hb)
  replace R2 := Lib.hid (R2.out.on hb)
  replace C2 := Lib.hid (C2.out.on hb)
  replace R3 := Lib.hid (R3.out.on hb)
  first | rw [hw, hg] | rw [hw]
  clear hw hg hb
  obtain ⟨x00, x01, x02⟩ := C2.out.three
  obtain ⟨x10, x11, x12⟩ := C3.out.three
  go_wp2_with fail
  refine (KE.out _ _ _ R2.out R3.out).mono ?_
  rintro e w8 h
  obtain ⟨b4, A4, n4, c4, B4, m4, d4, rfl, ho, hb⟩ := h.open_
  replace HB := Lib.hid (bstep HB.out hb)
  replace SZ := Lib.hid (Nat.le_trans SZ.out hb.size)
  replace R0 := Lib.hid (R0.out.on hb)
  replace CW := Lib.hid (CW.out.on hb)
  replace CX := Lib.hid (CX.out.on hb)
  replace Z1 := Lib.hid (Z1.out.on hb)
  replace Z2 := Lib.hid (Z2.out.on hb)
  replace Z3 := Lib.hid (Z3.out.on hb)
  replace R1 := Lib.hid (R1.out.on hb)
  replace C1 := Lib.hid (C1.out.on hb)
  replace R2 := Lib.hid (R2.out.on hb)
  replace C2 := Lib.hid (C2.out.on hb)
  replace R3 := Lib.hid (R3.out.on hb)
  replace C3 := Lib.hid (C3.out.on hb)
  have R4 := Lib.hid (out_zero ho)
  clear h ho hb
  clear x00 x01 x02 x10 x11 x12
  go_upto_region 5 with fail
  obtain ⟨w9, hw⟩ : ∃ W, w8.alloc (.cells #[.bool b4, .slice A4 n4 c4, .slice B4 m4 d4] 27) = W := ⟨_, rfl⟩
  obtain ⟨gC4, hg⟩ : ∃ g, w8.heap.size = g := ⟨_, rfl⟩
  have hb : Below w8.heap.size w8 w9 := hw ▸ below_alloc _ _
  have C4 : Hid (Rw.Cel w9 gC4 [.bool b4, .slice A4 n4 c4, .slice B4 m4 d4]) := hw ▸ hg ▸ Rw.Cel.new w8 [_, _, _] _
  have SC4 : Hid (w.heap.size + 5 ≤ gC4) := Lib.hid (by have := SZ.out; omega)
  replace HB := Lib.hid (bstep HB.out hb)
  replace SZ := Lib.hid (Nat.le_trans SZ.out hb.size)
  replace R0 := Lib.hid (R0.out.on hb)
  replace CW := Lib.hid (CW.out.on hb)
  replace CX := Lib.hid (CX.out.on hb)
  replace Z1 := Lib.hid (Z1.out.on hb)
  replace Z2 := Lib.hid (Z2.out.on hb)
  replace Z3 := Lib.hid (Z3.out.on hb)
  replace R1 := Lib.hid (R1.out.on hb)
  replace C1 := Lib.hid (C1.out.on hb)
  replace R2 := Lib.hid (R2.out.on hb)
  replace C2 := Lib.hid (C2.out.on hb)
  replace R3 := Lib.hid (R3.out.on hb)
  replace C3 := Lib.hid (C3.out.on hb)
  replace R4 := Lib.hid (R4.out.on hb)
  first | rw [hw, hg] | rw [hw]
  clear hw hg hb
  obtain ⟨x00, x01, x02⟩ := C4.out.three
  obtain ⟨x10, x11, x12⟩ := CW.out.three
  go_wp2_with fail
  refine (KW.out _ _ R4.out).mono ?_
  rintro e w10 ⟨b5, A5, n5, c5, B5, m5, d5, rfl, ho, hb⟩
  replace HB := Lib.hid (bstep HB.out hb)
  replace SZ := Lib.hid (Nat.le_trans SZ.out hb.size)
  replace R0 := Lib.hid (R0.out.on hb)
  replace CW := Lib.hid (CW.out.on hb)
  replace CX := Lib.hid (CX.out.on hb)
  replace Z1 := Lib.hid (Z1.out.on hb)
  replace Z2 := Lib.hid (Z2.out.on hb)
  replace Z3 := Lib.hid (Z3.out.on hb)
  replace R1 := Lib.hid (R1.out.on hb)
  replace C1 := Lib.hid (C1.out.on hb)
  replace R2 := Lib.hid (R2.out.on hb)
  replace C2 := Lib.hid (C2.out.on hb)
  replace R3 := Lib.hid (R3.out.on hb)
  replace C3 := Lib.hid (C3.out.on hb)
  replace R4 := Lib.hid (R4.out.on hb)
  replace C4 := Lib.hid (C4.out.on hb)
  have R5 := Lib.hid ho
  clear ho hb
  clear x00 x01 x02 x10 x11 x12
  go_upto_region 6 with fail
  obtain ⟨w11, hw⟩ : ∃ W, w10.alloc (.cells #[.bool b5, .slice A5 n5 c5, .slice B5 m5 d5] 27) = W := ⟨_, rfl⟩
  obtain ⟨gC5, hg⟩ : ∃ g, w10.heap.size = g := ⟨_, rfl⟩
  have hb : Below w10.heap.size w10 w11 := hw ▸ below_alloc _ _
  have C5 : Hid (Rw.Cel w11 gC5 [.bool b5, .slice A5 n5 c5, .slice B5 m5 d5]) := hw ▸ hg ▸ Rw.Cel.new w10 [_, _, _] _
  have SC5 : Hid (w.heap.size + 5 ≤ gC5) := Lib.hid (by have := SZ.out; omega)
  replace HB := Lib.hid (bstep HB.out hb)
  replace SZ := Lib.hid (Nat.le_trans SZ.out hb.size)
  replace R0 := Lib.hid (R0.out.on hb)
  replace CW := Lib.hid (CW.out.on hb)
  replace CX := Lib.hid (CX.out.on hb)
  replace Z1 := Lib.hid (Z1.out.on hb)
  replace Z2 := Lib.hid (Z2.out.on hb)
  replace Z3 := Lib.hid (Z3.out.on hb)
  replace R1 := Lib.hid (R1.out.on hb)
  replace C1 := Lib.hid (C1.out.on hb)
  replace R2 := Lib.hid (R2.out.on hb)
  replace C2 := Lib.hid (C2.out.on hb)
  replace R3 := Lib.hid (R3.out.on hb)
  replace C3 := Lib.hid (C3.out.on hb)
  replace R4 := Lib.hid (R4.out.on hb)
  replace C4 := Lib.hid (C4.out.on hb)
  replace R5 := Lib.hid (R5.out.on hb)
  first | rw [hw, hg] | rw [hw]
  clear hw hg hb
  obtain ⟨x00, x01, x02⟩ := C4.out.three
  obtain ⟨x10, x11, x12⟩ := C5.out.three
  go_wp2_with fail
  refine (KS.out _ _ _ R4.out R5.out).mono ?_
  rintro e w12 h
  obtain ⟨b6, A6, n6, c6, B6, m6, d6, rfl, ho, hb⟩ := h.open_
  replace HB := Lib.hid (bstep HB.out hb)
  replace SZ := Lib.hid (Nat.le_trans SZ.out hb.size)
  replace R0 := Lib.hid (R0.out.on hb)
  replace CW := Lib.hid (CW.out.on hb)
  replace CX := Lib.hid (CX.out.on hb)
  replace Z1 := Lib.hid (Z1.out.on hb)
  replace Z2 := Lib.hid (Z2.out.on hb)
  replace Z3 := Lib.hid (Z3.out.on hb)
  replace R1 := Lib.hid (R1.out.on hb)
  replace C1 := Lib.hid (C1.out.on hb)
  replace R2 := Lib.hid (R2.out.on hb)
  replace C2 := Lib.hid (C2.out.on hb)
  replace R3 := Lib.hid (R3.out.on hb)
  replace C3 := Lib.hid (C3.out.on hb)
  replace R4 := Lib.hid (R4.out.on hb)
  replace C4 := Lib.hid (C4.out.on hb)
  replace R5 := Lib.hid (R5.out.on hb)
  replace C5 := Lib.hid (C5.out.on hb)
  have R6 := Lib.hid (out_zero ho)
  clear h ho hb
  clear x00 x01 x02 x10 x11 x12
  go_upto_region 7 with fail
  obtain ⟨w13, hw⟩ : ∃ W, w12.alloc (.cells #[.bool b6, .slice A6 n6 c6, .slice B6 m6 d6] 27) = W := ⟨_, rfl⟩
  obtain ⟨gC6, hg⟩ : ∃ g, w12.heap.size = g := ⟨_, rfl⟩
  have hb : Below w12.heap.size w12 w13 := hw ▸ below_alloc _ _
  have C6 : Hid (Rw.Cel w13 gC6 [.bool b6, .slice A6 n6 c6, .slice B6 m6 d6]) := hw ▸ hg ▸ Rw.Cel.new w12 [_, _, _] _
  have SC6 : Hid (w.heap.size + 5 ≤ gC6) := Lib.hid (by have := SZ.out; omega)
  replace HB := Lib.hid (bstep HB.out hb)
  replace SZ := Lib.hid (Nat.le_trans SZ.out hb.size)
  replace R0 := Lib.hid (R0.out.on hb)
  replace CW := Lib.hid (CW.out.on hb)
  replace CX := Lib.hid (CX.out.on hb)
  replace Z1 := Lib.hid (Z1.out.on hb)
  replace Z2 := Lib.hid (Z2.out.on hb)
  replace Z3 := Lib.hid (Z3.out.on hb)
  replace R1 := Lib.hid (R1.out.on hb)
  replace C1 := Lib.hid (C1.out.on hb)
  replace R2 := Lib.hid (R2.out.on hb)
  replace C2 := Lib.hid (C2.out.on hb)
  replace R3 := Lib.hid (R3.out.on hb)
  replace C3 := Lib.hid (C3.out.on hb)
  replace R4 := Lib.hid (R4.out.on hb)
  replace C4 := Lib.hid (C4.out.on hb)
  replace R5 := Lib.hid (R5.out.on hb)
  replace C5 := Lib.hid (C5.out.on hb)
  replace R6 := Lib.hid (R6.out.on hb)
  first | rw [hw, hg] | rw [hw]
  clear hw hg hb
  obtain ⟨x00, x01, x02⟩ := C3.out.three
  obtain ⟨x10, x11, x12⟩ := C6.out.three
  obtain ⟨x20, x21, x22⟩ := C5.out.three
  obtain ⟨x30, x31, x32⟩ := Z1.out.three
  obtain ⟨x40, x41, x42⟩ := Z2.out.three
  obtain ⟨x50, x51, x52⟩ := Z3.out.three
  have n32 : ¬ gC3 = z1 := by have := SC3.out; have := HZ.out; omega
  have n33 : ¬ gC3 = z2 := by have := SC3.out; have := HZ.out; omega
  have n34 : ¬ gC3 = z3 := by have := SC3.out; have := HZ.out; omega
  have n52 : ¬ gC5 = z1 := by have := SC5.out; have := HZ.out; omega
  have n53 : ¬ gC5 = z2 := by have := SC5.out; have := HZ.out; omega
  have n54 : ¬ gC5 = z3 := by have := SC5.out; have := HZ.out; omega
  have n62 : ¬ gC6 = z1 := by have := SC6.out; have := HZ.out; omega
  have n63 : ¬ gC6 = z2 := by have := SC6.out; have := HZ.out; omega
  have n64 : ¬ gC6 = z3 := by have := SC6.out; have := HZ.out; omega
  have m32 : ¬ z1 = gC3 := by have := SC3.out; have := HZ.out; omega
  have m33 : ¬ z2 = gC3 := by have := SC3.out; have := HZ.out; omega
  have m34 : ¬ z3 = gC3 := by have := SC3.out; have := HZ.out; omega
  have m52 : ¬ z1 = gC5 := by have := SC5.out; have := HZ.out; omega
  have m53 : ¬ z2 = gC5 := by have := SC5.out; have := HZ.out; omega
  have m54 : ¬ z3 = gC5 := by have := SC5.out; have := HZ.out; omega
  have m62 : ¬ z1 = gC6 := by have := SC6.out; have := HZ.out; omega
  have m63 : ¬ z2 = gC6 := by have := SC6.out; have := HZ.out; omega
  have m64 : ¬ z3 = gC6 := by have := SC6.out; have := HZ.out; omega
  have o12 : ¬ z1 = z2 := by have := HZ.out; omega
  have o13 : ¬ z1 = z3 := by have := HZ.out; omega
  have o21 : ¬ z2 = z1 := by have := HZ.out; omega
  have o23 : ¬ z2 = z3 := by have := HZ.out; omega
  have o31 : ¬ z3 = z1 := by have := HZ.out; omega
  have o32 : ¬ z3 = z2 := by have := HZ.out; omega
  obtain ⟨v10, v11, v12⟩ := Z1.out.warm3
  obtain ⟨v20, v21, v22⟩ := Z2.out.warm3
  obtain ⟨v30, v31, v32⟩ := Z3.out.warm3
  go_region
  all_goals
    clear n32 m32 n33 m33 n34 m34 n52 m52 n53 m53 n54 m54 n62 m62 n63 m63 n64 m64 o12 o13 o21 o23 o31 o32 x00 x01 x02 x10 x11 x12 x20 x21 x22 x30 x31 x32 x40 x41 x42 x50 x51 x52 v10 v11 v12 v20 v21 v22 v30 v31 v32
    obtain ⟨w14, hw⟩ : ∃ W, ((w13.setCell ⟨z1, 0, none⟩ (.bool b3)).setCell ⟨z1, 1, none⟩ (.slice A3 n3 c3)).setCell ⟨z1, 2, none⟩ (.slice B3 m3 d3) = W := ⟨_, rfl⟩
    have T3 : Hid (IsR w14 (.agg #[.bool b3, .slice A3 n3 c3, .slice B3 m3 d3]) vP) := Lib.hid (by rw [← hw]; exact InR.put3 R3.out (cel_root Z1.out) _ _ _)
    have T6 : Hid (IsR w14 (.agg #[.bool b6, .slice A6 n6 c6, .slice B6 m6 d6]) vS) := Lib.hid (by rw [← hw]; exact InR.put3 R6.out (cel_root Z1.out) _ _ _)
    have T5 : Hid (IsR w14 (.agg #[.bool b5, .slice A5 n5 c5, .slice B5 m5 d5]) vA) := Lib.hid (by rw [← hw]; exact InR.put3 R5.out (cel_root Z1.out) _ _ _)
    have TB : Hid (Below w.heap.size w w14) := Lib.hid (by rw [← hw]; exact Rw.below_put3 HB.out (show w.heap.size ≤ z1 by have := HZ.out; omega) _ _ _)
    have TZ1 : Hid (Rw.Cel w14 z1 [.bool b3, .slice A3 n3 c3, .slice B3 m3 d3]) := Lib.hid (by rw [← hw]; exact Z1.out.put3 _ _ _)
    have TZ2 : Hid (Rw.Cel w14 z2 [.bool false, .slice none 0 0, .slice none 0 0]) := Lib.hid (by rw [← hw]; exact far3 Z2.out (show z1 ≠ z2 by have := HZ.out; omega) _ _ _)
    have TZ3 : Hid (Rw.Cel w14 z3 [.bool false, .slice none 0 0, .slice none 0 0]) := Lib.hid (by rw [← hw]; exact far3 Z3.out (show z1 ≠ z3 by have := HZ.out; omega) _ _ _)
    rw [hw]
    clear hw HB R3 R6 R5 Z1 Z2 Z3
    have HB := TB
    have R3 := T3
    have R6 := T6
    have R5 := T5
    have Z1 := TZ1
    have Z2 := TZ2
    have Z3 := TZ3
    clear TB T3 T6 T5 TZ1 TZ2 TZ3
    obtain ⟨w15, hw⟩ : ∃ W, ((w14.setCell ⟨z2, 0, none⟩ (.bool b6)).setCell ⟨z2, 1, none⟩ (.slice A6 n6 c6)).setCell ⟨z2, 2, none⟩ (.slice B6 m6 d6) = W := ⟨_, rfl⟩
    have T3 : Hid (IsR w15 (.agg #[.bool b3, .slice A3 n3 c3, .slice B3 m3 d3]) vP) := Lib.hid (by rw [← hw]; exact InR.put3 R3.out (cel_root Z2.out) _ _ _)
    have T6 : Hid (IsR w15 (.agg #[.bool b6, .slice A6 n6 c6, .slice B6 m6 d6]) vS) := Lib.hid (by rw [← hw]; exact InR.put3 R6.out (cel_root Z2.out) _ _ _)
    have T5 : Hid (IsR w15 (.agg #[.bool b5, .slice A5 n5 c5, .slice B5 m5 d5]) vA) := Lib.hid (by rw [← hw]; exact InR.put3 R5.out (cel_root Z2.out) _ _ _)
    have TB : Hid (Below w.heap.size w w15) := Lib.hid (by rw [← hw]; exact Rw.below_put3 HB.out (show w.heap.size ≤ z2 by have := HZ.out; omega) _ _ _)
    have TZ1 : Hid (Rw.Cel w15 z1 [.bool b3, .slice A3 n3 c3, .slice B3 m3 d3]) := Lib.hid (by rw [← hw]; exact far3 Z1.out (show z2 ≠ z1 by have := HZ.out; omega) _ _ _)
    have TZ2 : Hid (Rw.Cel w15 z2 [.bool b6, .slice A6 n6 c6, .slice B6 m6 d6]) := Lib.hid (by rw [← hw]; exact Z2.out.put3 _ _ _)
    have TZ3 : Hid (Rw.Cel w15 z3 [.bool false, .slice none 0 0, .slice none 0 0]) := Lib.hid (by rw [← hw]; exact far3 Z3.out (show z2 ≠ z3 by have := HZ.out; omega) _ _ _)
    rw [hw]
    clear hw HB R3 R6 R5 Z1 Z2 Z3
    have HB := TB
    have R3 := T3
    have R6 := T6
    have R5 := T5
    have Z1 := TZ1
    have Z2 := TZ2
    have Z3 := TZ3
    clear TB T3 T6 T5 TZ1 TZ2 TZ3
    obtain ⟨w16, hw⟩ : ∃ W, ((w15.setCell ⟨z3, 0, none⟩ (.bool b5)).setCell ⟨z3, 1, none⟩ (.slice A5 n5 c5)).setCell ⟨z3, 2, none⟩ (.slice B5 m5 d5) = W := ⟨_, rfl⟩
    have T3 : Hid (IsR w16 (.agg #[.bool b3, .slice A3 n3 c3, .slice B3 m3 d3]) vP) := Lib.hid (by rw [← hw]; exact InR.put3 R3.out (cel_root Z3.out) _ _ _)
    have T6 : Hid (IsR w16 (.agg #[.bool b6, .slice A6 n6 c6, .slice B6 m6 d6]) vS) := Lib.hid (by rw [← hw]; exact InR.put3 R6.out (cel_root Z3.out) _ _ _)
    have T5 : Hid (IsR w16 (.agg #[.bool b5, .slice A5 n5 c5, .slice B5 m5 d5]) vA) := Lib.hid (by rw [← hw]; exact InR.put3 R5.out (cel_root Z3.out) _ _ _)
    have TB : Hid (Below w.heap.size w w16) := Lib.hid (by rw [← hw]; exact Rw.below_put3 HB.out (show w.heap.size ≤ z3 by have := HZ.out; omega) _ _ _)
    have TZ1 : Hid (Rw.Cel w16 z1 [.bool b3, .slice A3 n3 c3, .slice B3 m3 d3]) := Lib.hid (by rw [← hw]; exact far3 Z1.out (show z3 ≠ z1 by have := HZ.out; omega) _ _ _)
    have TZ2 : Hid (Rw.Cel w16 z2 [.bool b6, .slice A6 n6 c6, .slice B6 m6 d6]) := Lib.hid (by rw [← hw]; exact far3 Z2.out (show z3 ≠ z2 by have := HZ.out; omega) _ _ _)
    have TZ3 : Hid (Rw.Cel w16 z3 [.bool b5, .slice A5 n5 c5, .slice B5 m5 d5]) := Lib.hid (by rw [← hw]; exact Z3.out.put3 _ _ _)
    rw [hw]
    clear hw HB R3 R6 R5 Z1 Z2 Z3
    have HB := TB
    have R3 := T3
    have R6 := T6
    have R5 := T5
    have Z1 := TZ1
    have Z2 := TZ2
    have Z3 := TZ3
    clear TB T3 T6 T5 TZ1 TZ2 TZ3
    go_wp2_with fail
    have F1 : Hid (Rw.Cel w16.drew z1 [.bool b3, .slice A3 n3 c3, .slice B3 m3 d3]) := Lib.hid Z1.out.drew
    have F2 : Hid (Rw.Cel w16.drew z2 [.bool b6, .slice A6 n6 c6, .slice B6 m6 d6]) := Lib.hid Z2.out.drew
    have F3 : Hid (Rw.Cel w16.drew z3 [.bool b5, .slice A5 n5 c5, .slice B5 m5 d5]) := Lib.hid Z3.out.drew
    have HF : Hid (RRet3 w vP vS vA (.returned (.tuple #[.agg #[.bool b3, .slice A3 n3 c3, .slice B3 m3 d3], .agg #[.bool b6, .slice A6 n6 c6, .slice B6 m6 d6], .agg #[.bool b5, .slice A5 n5 c5, .slice B5 m5 d5]])) w16.drew) := Lib.hid ⟨_, _, _, _, _, _, _, _, _, _, _, _, _, _, _, _, _, _, _, _, _, rfl, R3.out, R6.out, R5.out, below_drew HB.out⟩
    exact bodyPost_ret (res_r3 Try.results41 rfl rfl rfl F1.out F2.out F3.out) rfl HF.out
end Go.Proofs.Ytohfaoclemcfaaa.Wet
/- The wet end: white water that is let in, and n steps (pure). -/
namespace Go.Proofs.Ytohfaoclemcfaaa.Wet
set_option linter.unusedVariables false
set_option maxRecDepth 100000

/-- 8 limbs. -/
def lim8 : Nat := 1000000000 ^ 8
def pw6 : Nat := 1000000
theorem fr_self (q : Rat) : Fr q.den q.num.natAbs q := by
  refine ⟨Nat.pos_of_ne_zero q.den_nz, q.num, ?_, Nat.le_refl _⟩
  have hb : ((q.den : Nat) : Rat) ≠ 0 := fun e => q.den_nz (Rat.natCast_eq_zero_iff.mp e)
  have h : q * ((q.den : Nat) : Rat) = mkRat q.num q.den * ((q.den : Nat) : Rat) := by rw [Rat.mkRat_self]
  rw [h, Rat.mkRat_eq_div, Rat.div_def, Rat.mul_assoc]
  show (q.num : Rat) * (((q.den : Nat) : Rat)⁻¹ * ((q.den : Nat) : Rat)) = _
  rw [Rat.inv_mul_cancel _ hb, Rat.mul_one]
theorem wh_fr {b : Bool} {xs ys : List Int} (h : whE b xs ys = 0) : ∃ q, fitR q = true ∧ b = negR q ∧ xs = topL q ∧ ys = botL q ∧ 0 ≤ q.num ∧ q.den < lim8 ∧ q.num.natAbs < lim8 := by
  obtain ⟨h1, rfl, h3, h4⟩ := whE_of h
  obtain ⟨q, hq, hb, rfl, rfl⟩ := val_form h1
  refine ⟨q, hq, hb, rfl, rfl, ?_, limbs_len_le.mp h4, limbs_len_le.mp h3⟩
  have := of_decide_eq_false hb.symm
  omega
/-- After n steps. -/
structure Wn (n : Nat) (q s : Rat) : Prop where
  n16 : n ≤ 16
  ex : ∃ B M S, Fr B M q ∧ Fr B S s ∧ B ≤ lim8 * pw6 ^ n ∧ M ≤ (lim8 + n * 1099511627776 * lim8) * pw6 ^ n ∧ S ≤ n * M
theorem Wn.start {q : Rat} (h1 : q.den < lim8) (h2 : q.num.natAbs < lim8) : Wn 0 q (mkV 0 1) := by
  refine ⟨by omega, q.den, q.num.natAbs, 0, fr_self q, ?_, ?_, ?_, by omega⟩
  · have h := (mkV_fr (p := 0) (q := 1) (by decide) (by decide)).up (Nat.pos_of_ne_zero q.den_nz)
    have e : (1 : Int).toNat * q.den = q.den := by show 1 * q.den = _; omega
    have e2 : (0 : Int).toNat * q.den = 0 := by show 0 * q.den = _; omega
    rw [e, e2] at h
    exact h
  · rw [Nat.pow_zero]; omega
  · rw [Nat.pow_zero]; omega
def bmx : Nat := lim8 * pw6 ^ 16
def mmx : Nat := (lim8 + 16 * 1099511627776 * lim8) * pw6 ^ 16
theorem lim_mx : 2000000000 * ((1099511627776 * bmx + mmx) * bmx) < big48 := by decide +kernel
theorem sum_mx : (16 * mmx) * (bmx * 1000) + ((1099511627776 * bmx + mmx) * 1000) * bmx < big48 ∧ bmx * (bmx * 1000) < big48 ∧ bmx < big48 ∧ 16 * mmx < big48 := by decide +kernel
theorem Wn.mx {n : Nat} {q s : Rat} (h : Wn n q s) : ∃ B M S, Fr B M q ∧ Fr B S s ∧ B ≤ bmx ∧ M ≤ mmx ∧ S ≤ 16 * mmx := by
  obtain ⟨B, M, S, h1, h2, h3, h4, h5⟩ := h.ex
  have hp : pw6 ^ n ≤ pw6 ^ 16 := Nat.pow_le_pow_right (by decide) h.n16
  have hB : B ≤ bmx := Nat.le_trans h3 (Nat.mul_le_mul_left _ hp)
  have hn : n * 1099511627776 * lim8 ≤ 16 * 1099511627776 * lim8 := Nat.mul_le_mul_right _ (Nat.mul_le_mul_right _ h.n16)
  have hM : M ≤ mmx := Nat.le_trans h4 (Nat.mul_le_mul (by omega) hp)
  exact ⟨B, M, S, h1, h2, hB, hM, Nat.le_trans h5 (Nat.mul_le_mul h.n16 hM)⟩
theorem Wn.stp {n : Nat} {q s : Rat} {f r c : Int} (h : Wn n q s) (hk : ckW f r c = 0) : Stp f r c q := by
  obtain ⟨B, M, S, h1, h2, h3, h4, h5⟩ := h.mx
  refine Stp.mk' h1 ?_ hk
  refine Nat.lt_of_le_of_lt (Nat.mul_le_mul_left _ (Nat.mul_le_mul (Nat.add_le_add (Nat.mul_le_mul_left _ h3) h4) h3)) lim_mx
theorem pa_fr {B M : Nat} {q : Rat} {f r : Int} (hq : Fr B M q) (hf : 0 ≤ f ∧ f ≤ MM) (hr : 0 ≤ r ∧ r ≤ 1000) : Fr (B * 1000) ((1099511627776 * B + M) * 1000) (paV f r q) := (hd_fr hq hf).mul (k_fr hr)
/-- The sum of the paper fits. -/
theorem Wn.sum {n : Nat} {q s : Rat} {f r c : Int} (h : Wn n q s) (hk : ckW f r c = 0) : sumOk s (paV f r q) = true ∧ fitR s = true := by
  obtain ⟨hf, hr, hc⟩ := ckW_of hk
  obtain ⟨B, M, S, h1, h2, h3, h4, h5⟩ := h.mx
  have hp := pa_fr h1 hf (r := r) (by omega)
  refine ⟨h2.sum_ok hp ?_ ?_, h2.fit (Nat.lt_of_le_of_lt h3 sum_mx.2.2.1) (Nat.lt_of_le_of_lt h5 sum_mx.2.2.2)⟩
  · exact Nat.lt_of_le_of_lt (Nat.add_le_add (Nat.mul_le_mul h5 (Nat.mul_le_mul_right _ h3)) (Nat.mul_le_mul (Nat.mul_le_mul_right _ (Nat.add_le_add (Nat.mul_le_mul_left _ h3) h4)) h3)) sum_mx.1
  · exact Nat.lt_of_le_of_lt (Nat.mul_le_mul h3 (Nat.mul_le_mul_right _ h3)) sum_mx.2.1
theorem Wn.next {n : Nat} {q s : Rat} {f r c : Int} (h : Wn n q s) (hn : n < 16) (hk : ckW f r c = 0) : Wn (n + 1) (afV f r c q) (s + paV f r q) := by
  obtain ⟨hf, hr, hc⟩ := ckW_of hk
  obtain ⟨B, M, S, h1, h2, h3, h4, h5⟩ := h.ex
  have hd := hd_fr h1 hf
  have HE := re_fr hd (r := r) (by omega)
  have HA := HE.mul (k_fr (k := c) (by omega))
  have HP := (pa_fr h1 hf (r := r) (by omega)).up (k := 1000) (by decide)
  have HS := (h2.up (k := 1000) (by decide)).up (k := 1000) (by decide)
  obtain ⟨H, hH⟩ : ∃ H, 1099511627776 * B + M = H := ⟨_, rfl⟩
  rw [hH] at HE HA HP
  refine ⟨by omega, B * 1000 * 1000, H * 1000 * 1000, S * 1000 * 1000 + H * 1000 * 1000, HA, HS.add HP, ?_, ?_, ?_⟩
  · rw [Nat.pow_succ, ← Nat.mul_assoc]
    have e : B * 1000 * 1000 = B * pw6 := by unfold pw6; omega
    rw [e]
    exact Nat.mul_le_mul_right _ h3
  · have e : H * 1000 * 1000 = H * pw6 := by unfold pw6; omega
    rw [e, Nat.pow_succ, ← Nat.mul_assoc]
    refine Nat.mul_le_mul_right _ ?_
    rw [← hH]
    have h6 : 1099511627776 * B ≤ 1099511627776 * lim8 * pw6 ^ n := by rw [Nat.mul_assoc]; exact Nat.mul_le_mul_left _ h3
    have h7 := Nat.add_le_add h6 h4
    rw [← Nat.add_mul] at h7
    refine Nat.le_trans h7 (Nat.mul_le_mul_right _ ?_)
    rw [Nat.add_mul n 1, Nat.one_mul, Nat.add_mul]
    omega
  · have h6 : S ≤ n * H := Nat.le_trans h5 (Nat.mul_le_mul_left _ (by omega))
    have h7 : S * 1000 * 1000 ≤ n * (H * 1000 * 1000) := by
      rw [← Nat.mul_assoc, ← Nat.mul_assoc]
      exact Nat.mul_le_mul_right _ (Nat.mul_le_mul_right _ h6)
    rw [Nat.add_mul n 1, Nat.one_mul]
    omega
theorem Wn.all {q : Rat} {f r c : Int} (h1 : q.den < lim8) (h2 : q.num.natAbs < lim8) (hk : ckW f r c = 0) : ∀ n, n ≤ 16 → Wn n (afN f r c q n) (paN f r c q n)
  | 0, _ => Wn.start h1 h2
  | n + 1, h => (Wn.all h1 h2 hk n (by omega)).next (by omega) hk
end Go.Proofs.Ytohfaoclemcfaaa.Wet
/- The reference: Step, Steady (gen20/e.py). -/
namespace Go.Proofs.Ytohfaoclemcfaaa.Wet
open Go.ChangeShapes Go.WideShapes Go.RowKit Go.Lib
open Go.Proofs.Ytohfaoclemcfaaa.Rw (ret_bool ret_int bstep below_drewN below_drew drew_below below_alloc)
set_option linter.unusedVariables false
set_option maxRecDepth 100000

/-- Three numbers and an error. -/
def RRet4 (w : World) (E : Int) (p q r : Rat) (e : Ending) (w' : World) : Prop :=
  ∃ b1 A1 n1 c1 B1 m1 d1 b2 A2 n2 c2 B2 m2 d2 b3 A3 n3 c3 B3 m3 d3, e = .returned (.tuple #[.agg #[.bool b1, .slice A1 n1 c1, .slice B1 m1 d1], .agg #[.bool b2, .slice A2 n2 c2, .slice B2 m2 d2], .agg #[.bool b3, .slice A3 n3 c3, .slice B3 m3 d3], .int .i64 E]) ∧
    OutR w' (.agg #[.bool b1, .slice A1 n1 c1, .slice B1 m1 d1]) E p ∧ OutR w' (.agg #[.bool b2, .slice A2 n2 c2, .slice B2 m2 d2]) E q ∧ OutR w' (.agg #[.bool b3, .slice A3 n3 c3, .slice B3 m3 d3]) E r ∧ Below w.heap.size w w'
theorem stE_ck {f r c : Int} {b : Bool} {xs ys : List Int} (h : ¬ ckW f r c = 0) : stE f r c b xs ys = ckW f r c := if_neg h
theorem stE_wh {f r c : Int} {b : Bool} {xs ys : List Int} (h : ckW f r c = 0) : stE f r c b xs ys = whE b xs ys := if_pos h
/-- Five blocks: what comes in, and where the results lie. -/
theorem five (w : World) (x0 x1 x2 y0 y1 y2 : Value) : ∃ w1 z1 z2 z3, ((((w.alloc (.cells #[x0, x1, x2] 23)).alloc (.cells #[y0, y1, y2] 27)).alloc (.cells #[.bool false, .slice none 0 0, .slice none 0 0] 27)).alloc (.cells #[.bool false, .slice none 0 0, .slice none 0 0] 27)).alloc (.cells #[.bool false, .slice none 0 0, .slice none 0 0] 27) = w1 ∧
    w.heap.size + 1 + 1 = z1 ∧ z1 + 1 = z2 ∧ z2 + 1 = z3 ∧ Rw.Cel w1 w.heap.size [x0, x1, x2] ∧ Rw.Cel w1 (w.heap.size + 1) [y0, y1, y2] ∧ Rw.Cel w1 z1 [.bool false, .slice none 0 0, .slice none 0 0] ∧ Rw.Cel w1 z2 [.bool false, .slice none 0 0, .slice none 0 0] ∧ Rw.Cel w1 z3 [.bool false, .slice none 0 0, .slice none 0 0] ∧ Below w.heap.size w w1 ∧ w.heap.size + 5 ≤ w1.heap.size := by
  refine ⟨_, _, _, _, rfl, rfl, rfl, rfl, ((((Rw.Cel.new w [_, _, _] _).alloc _).alloc _).alloc _).alloc _, (((Rw.Cel.new_at _ [_, _, _] _ (by simp)).alloc _).alloc _).alloc _, ((Rw.Cel.new_at _ [_, _, _] _ (by simp)).alloc _).alloc _, (Rw.Cel.new_at _ [_, _, _] _ (by simp)).alloc _, Rw.Cel.new_at _ [_, _, _] _ (by simp), bstep (bstep (bstep (bstep (below_alloc _ _) (below_alloc _ _)) (below_alloc _ _)) (below_alloc _ _)) (below_alloc _ _), by simp⟩
/-- Three numbers stored into three boxes. -/
theorem put9 {w : World} {z1 z2 z3 : Nat} {u1 u2 u3 : Bool} {A1 A2 A3 B1 B2 B3 : Option Addr} {n1 n2 n3 c1 c2 c3 m1 m2 m3 d1 d2 d3 : Nat} (h1 : Rw.Cel w z1 [.bool u1, .slice A1 n1 c1, .slice B1 m1 d1]) (h2 : Rw.Cel w z2 [.bool u2, .slice A2 n2 c2, .slice B2 m2 d2]) (h3 : Rw.Cel w z3 [.bool u3, .slice A3 n3 c3, .slice B3 m3 d3])
    (o12 : z1 ≠ z2) (o13 : z1 ≠ z3) (o23 : z2 ≠ z3) (x0 x1 x2 y0 y1 y2 t0 t1 t2 : Value) : ∃ W, ((((((((w.setCell ⟨z1, 0, none⟩ x0).setCell ⟨z1, 1, none⟩ x1).setCell ⟨z1, 2, none⟩ x2).setCell ⟨z2, 0, none⟩ y0).setCell ⟨z2, 1, none⟩ y1).setCell ⟨z2, 2, none⟩ y2).setCell ⟨z3, 0, none⟩ t0).setCell ⟨z3, 1, none⟩ t1).setCell ⟨z3, 2, none⟩ t2 = W ∧
    Rw.Cel W z1 [x0, x1, x2] ∧ Rw.Cel W z2 [y0, y1, y2] ∧ Rw.Cel W z3 [t0, t1, t2] ∧ (∀ v b xs ys, InR w v b xs ys → InR W v b xs ys) ∧ (∀ B w0, Below B w0 w → B ≤ z1 → B ≤ z2 → B ≤ z3 → Below B w0 W) := by
  have a2 := far3 h2 o12 x0 x1 x2
  have a3 := far3 h3 o13 x0 x1 x2
  have b3 := far3 a3 o23 y0 y1 y2
  refine ⟨_, rfl, far3 (far3 (h1.put3 x0 x1 x2) o12.symm y0 y1 y2) o13.symm t0 t1 t2, far3 (a2.put3 y0 y1 y2) o23.symm t0 t1 t2, b3.put3 t0 t1 t2, fun v b xs ys h => InR.put3 (InR.put3 (InR.put3 h (cel_root h1) x0 x1 x2) (cel_root a2) y0 y1 y2) (cel_root b3) t0 t1 t2, fun B w0 h k1 k2 k3 => Rw.below_put3 (Rw.below_put3 (Rw.below_put3 h k1 x0 x1 x2) k2 y0 y1 y2) k3 t0 t1 t2⟩
/-- Three numbers in boxes of their own. -/
theorem trio (w : World) (x0 x1 x2 y0 y1 y2 t0 t1 t2 : Value) : ∃ W g1 g2 g3, ((w.alloc (.cells #[x0, x1, x2] 27)).alloc (.cells #[y0, y1, y2] 27)).alloc (.cells #[t0, t1, t2] 27) = W ∧
    w.heap.size = g1 ∧ g1 + 1 = g2 ∧ g2 + 1 = g3 ∧ Rw.Cel W g1 [x0, x1, x2] ∧ Rw.Cel W g2 [y0, y1, y2] ∧ Rw.Cel W g3 [t0, t1, t2] ∧ Below w.heap.size w W :=
  ⟨_, _, _, _, rfl, rfl, rfl, rfl, ((Rw.Cel.new w [_, _, _] _).alloc _).alloc _, (Rw.Cel.new_at _ [_, _, _] _ (by simp)).alloc _, Rw.Cel.new_at _ [_, _, _] _ (by simp), bstep (bstep (below_alloc _ _) (below_alloc _ _)) (below_alloc _ _)⟩
set_option maxHeartbeats 6400000 in
theorem wr_Step (f r c : Int) (v : Value) (b : Bool) (xs ys : List Int) (w : World) (hv : InR w v b xs ys) :
    Calls Try.prog 18 #[.agg #[.int .i64 f, .int .i64 r, .int .i64 c], v] w (RRet4 w (stE f r c b xs ys) (paV f r (ratV b xs ys)) (seV f r c (ratV b xs ys)) (afV f r c (ratV b xs ys))) := by
  have KC := Lib.hid fun (W : World) => wr_Check f r c W
  have KW := Lib.hid fun (v : Value) (W : World) (h : InR W v b xs ys) => wr_White v b xs ys W h
  obtain ⟨E, hE⟩ : ∃ E, ckW f r c = E := ⟨_, rfl⟩
  obtain ⟨G, hG⟩ : ∃ G, whE b xs ys = G := ⟨_, rfl⟩
  obtain ⟨T, hT⟩ : ∃ T, stE f r c b xs ys = T := ⟨_, rfl⟩
  rw [hE] at KC
  rw [hG] at KW
  rw [hT]
  have HE := Lib.hid (And.intro hE (And.intro hG hT))
  have KS := Lib.hid fun (h0 : ckW f r c = 0) (h1 : whE b xs ys = 0) (v : Value) (W : World) (h : InR W v b xs ys) => (by
    obtain ⟨q, hq, rfl, rfl, rfl, h4, h5, h6⟩ := wh_fr h1
    rw [(form_val hq).2]
    exact wr_step ((Wn.start h5 h6).stp h0) h0 v W h : Calls Try.prog 41 #[.agg #[.int .i64 f, .int .i64 r, .int .i64 c], v] W (RRet3 W (paV f r (ratV b xs ys)) (seV f r c (ratV b xs ys)) (afV f r c (ratV b xs ys))))
  obtain ⟨vP, hP⟩ : ∃ x, paV f r (ratV b xs ys) = x := ⟨_, rfl⟩
  obtain ⟨vS, hS⟩ : ∃ x, seV f r c (ratV b xs ys) = x := ⟨_, rfl⟩
  obtain ⟨vA, hA⟩ : ∃ x, afV f r c (ratV b xs ys) = x := ⟨_, rfl⟩
  rw [hP, hS, hA] at KS ⊢
  have R0 := Lib.hid hv
  obtain ⟨vp, vq, rfl, ha, hb⟩ := hv
  obtain ⟨A0, c0, rfl, -⟩ := in_open ha
  obtain ⟨B0, d0, rfl, -⟩ := in_open hb
  obtain ⟨n0, hn0⟩ : ∃ n, xs.length = n := ⟨_, rfl⟩
  obtain ⟨m0, hm0⟩ : ∃ n, ys.length = n := ⟨_, rfl⟩
  rw [hn0, hm0] at R0 ⊢
  have HB := Lib.hid (Below.refl w.heap.size w)
  clear hE hG hT hP hS hA ha hb hn0 hm0
  go_enter Try.func18, Try.ntmps18
  go_upto_region 1 with fail
  obtain ⟨w1, z1, z2, z3, hw, hz1, hz2, hz3, cw, cx, cz1, cz2, cz3, hb, hsz⟩ := five w (.int .i64 f) (.int .i64 r) (.int .i64 c) (.bool b) (.slice A0 n0 c0) (.slice B0 m0 d0)
  have CW := Lib.hid cw
  have CX := Lib.hid cx
  have Z1 := Lib.hid cz1
  have Z2 := Lib.hid cz2
  have Z3 := Lib.hid cz3
  have SZ := Lib.hid hsz
  have HZ : Hid (z1 = w.heap.size + 2 ∧ z2 = w.heap.size + 3 ∧ z3 = w.heap.size + 4) := Lib.hid (by omega)
  replace HB := Lib.hid (bstep HB.out hb)
  replace R0 := Lib.hid (R0.out.on hb)
  rw [hz1, hz2, hz3]
  rw [hw]
  clear hw hb hz1 hz2 hz3 cw cx cz1 cz2 cz3 hsz
  obtain ⟨x00, x01, x02⟩ := CW.out.three
  go_wp2_with fail
  refine (KC.out _).mono ?_
  rintro e w2 ⟨rfl, hb⟩
  replace HB := Lib.hid (bstep HB.out hb)
  replace SZ := Lib.hid (Nat.le_trans SZ.out hb.size)
  replace R0 := Lib.hid (R0.out.on hb)
  replace CW := Lib.hid (CW.out.on hb)
  replace CX := Lib.hid (CX.out.on hb)
  replace Z1 := Lib.hid (Z1.out.on hb)
  replace Z2 := Lib.hid (Z2.out.on hb)
  replace Z3 := Lib.hid (Z3.out.on hb)
  clear hb
  clear x00 x01 x02
  by_cases hz : E = 0
  rotate_left
  · obtain ⟨y1, y2⟩ := ne_zero hz
    obtain rfl : T = E := by rw [← HE.out.2.2, ← HE.out.1]; exact stE_ck (by rw [HE.out.1]; exact hz)
    have o12 : ¬ z1 = z2 := by have := HZ.out; omega
    have o13 : ¬ z1 = z3 := by have := HZ.out; omega
    have o21 : ¬ z2 = z1 := by have := HZ.out; omega
    have o23 : ¬ z2 = z3 := by have := HZ.out; omega
    have o31 : ¬ z3 = z1 := by have := HZ.out; omega
    have o32 : ¬ z3 = z2 := by have := HZ.out; omega
    obtain ⟨x00, x01, x02⟩ := Z1.out.three
    obtain ⟨x10, x11, x12⟩ := Z2.out.three
    obtain ⟨x20, x21, x22⟩ := Z3.out.three
    obtain ⟨v10, v11, v12⟩ := Z1.out.warm3
    obtain ⟨v20, v21, v22⟩ := Z2.out.warm3
    obtain ⟨v30, v31, v32⟩ := Z3.out.warm3
    go_wp2_with fail
    clear o12 o13 o21 o23 o31 o32 x00 x01 x02 x10 x11 x12 x20 x21 x22 v10 v11 v12 v20 v21 v22 v30 v31 v32
    obtain ⟨wF, hF, F1, F2, F3, FR, FB⟩ := put9 (w := w2) Z1.out Z2.out Z3.out (by have := HZ.out; omega) (by have := HZ.out; omega) (by have := HZ.out; omega) (.bool false) (.slice none 0 0) (.slice none 0 0) (.bool false) (.slice none 0 0) (.slice none 0 0) (.bool false) (.slice none 0 0) (.slice none 0 0)
    rw [hF]
    have G1 := Lib.hid F1
    have G2 := Lib.hid F2
    have G3 := Lib.hid F3
    have GR := Lib.hid FR
    have GB := Lib.hid (FB _ _ HB.out (by have := HZ.out; omega) (by have := HZ.out; omega) (by have := HZ.out; omega))
    clear hF F1 F2 F3 FR FB
    exact bodyPost_ret (res_r4 Try.results18 rfl rfl rfl G1.out G2.out G3.out) rfl ⟨_, _, _, _, _, _, _, _, _, _, _, _, _, _, _, _, _, _, _, _, _, rfl, OutR.no hz, OutR.no hz, OutR.no hz, GB.out⟩
  subst hz
  obtain ⟨x00, x01, x02⟩ := CX.out.three
  go_wp2_with fail
  refine (KW.out _ _ R0.out).mono ?_
  rintro e w3 ⟨rfl, hb⟩
  replace HB := Lib.hid (bstep HB.out hb)
  replace SZ := Lib.hid (Nat.le_trans SZ.out hb.size)
  replace R0 := Lib.hid (R0.out.on hb)
  replace CW := Lib.hid (CW.out.on hb)
  replace CX := Lib.hid (CX.out.on hb)
  replace Z1 := Lib.hid (Z1.out.on hb)
  replace Z2 := Lib.hid (Z2.out.on hb)
  replace Z3 := Lib.hid (Z3.out.on hb)
  clear hb
  clear x00 x01 x02
  obtain rfl : T = G := by rw [← HE.out.2.2, ← HE.out.2.1]; exact stE_wh HE.out.1
  by_cases hz : T = 0
  rotate_left
  · obtain ⟨y1, y2⟩ := ne_zero hz
    have o12 : ¬ z1 = z2 := by have := HZ.out; omega
    have o13 : ¬ z1 = z3 := by have := HZ.out; omega
    have o21 : ¬ z2 = z1 := by have := HZ.out; omega
    have o23 : ¬ z2 = z3 := by have := HZ.out; omega
    have o31 : ¬ z3 = z1 := by have := HZ.out; omega
    have o32 : ¬ z3 = z2 := by have := HZ.out; omega
    obtain ⟨x00, x01, x02⟩ := Z1.out.three
    obtain ⟨x10, x11, x12⟩ := Z2.out.three
    obtain ⟨x20, x21, x22⟩ := Z3.out.three
    obtain ⟨v10, v11, v12⟩ := Z1.out.warm3
    obtain ⟨v20, v21, v22⟩ := Z2.out.warm3
    obtain ⟨v30, v31, v32⟩ := Z3.out.warm3
    go_wp2_with fail
    clear o12 o13 o21 o23 o31 o32 x00 x01 x02 x10 x11 x12 x20 x21 x22 v10 v11 v12 v20 v21 v22 v30 v31 v32
    obtain ⟨wF, hF, F1, F2, F3, FR, FB⟩ := put9 (w := w3) Z1.out Z2.out Z3.out (by have := HZ.out; omega) (by have := HZ.out; omega) (by have := HZ.out; omega) (.bool false) (.slice none 0 0) (.slice none 0 0) (.bool false) (.slice none 0 0) (.slice none 0 0) (.bool false) (.slice none 0 0) (.slice none 0 0)
    rw [hF]
    have G1 := Lib.hid F1
    have G2 := Lib.hid F2
    have G3 := Lib.hid F3
    have GR := Lib.hid FR
    have GB := Lib.hid (FB _ _ HB.out (by have := HZ.out; omega) (by have := HZ.out; omega) (by have := HZ.out; omega))
    clear hF F1 F2 F3 FR FB
    exact bodyPost_ret (res_r4 Try.results18 rfl rfl rfl G1.out G2.out G3.out) rfl ⟨_, _, _, _, _, _, _, _, _, _, _, _, _, _, _, _, _, _, _, _, _, rfl, OutR.no hz, OutR.no hz, OutR.no hz, GB.out⟩
  subst hz
  obtain ⟨x00, x01, x02⟩ := CW.out.three
  obtain ⟨x10, x11, x12⟩ := CX.out.three
  go_wp2_with fail
  refine (KS.out HE.out.1 HE.out.2.1 _ _ R0.out).mono ?_
  rintro e w4 ⟨b1, A1, n1, c1, B1, m1, d1, b2, A2, n2, c2, B2, m2, d2, b3, A3, n3, c3, B3, m3, d3, rfl, hp, hq, hr, hb⟩
  replace HB := Lib.hid (bstep HB.out hb)
  replace SZ := Lib.hid (Nat.le_trans SZ.out hb.size)
  replace R0 := Lib.hid (R0.out.on hb)
  replace CW := Lib.hid (CW.out.on hb)
  replace CX := Lib.hid (CX.out.on hb)
  replace Z1 := Lib.hid (Z1.out.on hb)
  replace Z2 := Lib.hid (Z2.out.on hb)
  replace Z3 := Lib.hid (Z3.out.on hb)
  have R1 := Lib.hid hp
  have R2 := Lib.hid hq
  have R3 := Lib.hid hr
  clear hp hq hr hb
  clear x00 x01 x02 x10 x11 x12
  go_upto_region 7 with fail
  obtain ⟨w5, g1, g2, g3, hw, hg1, hg2, hg3, h1, h2, h3, hb⟩ := trio w4 (.bool b1) (.slice A1 n1 c1) (.slice B1 m1 d1) (.bool b2) (.slice A2 n2 c2) (.slice B2 m2 d2) (.bool b3) (.slice A3 n3 c3) (.slice B3 m3 d3)
  have G1 := Lib.hid h1
  have G2 := Lib.hid h2
  have G3 := Lib.hid h3
  have HG : Hid (w.heap.size + 5 ≤ g1 ∧ g2 = g1 + 1 ∧ g3 = g1 + 2) := Lib.hid (by have := SZ.out; omega)
  first | rw [hg1, hg2, hg3] | rw [hg1, hg2] | rw [hg1] | skip
  rw [hw]
  clear hw hg1 hg2 hg3 h1 h2 h3
  replace HB := Lib.hid (bstep HB.out hb)
  replace SZ := Lib.hid (Nat.le_trans SZ.out hb.size)
  replace R0 := Lib.hid (R0.out.on hb)
  replace CW := Lib.hid (CW.out.on hb)
  replace CX := Lib.hid (CX.out.on hb)
  replace Z1 := Lib.hid (Z1.out.on hb)
  replace Z2 := Lib.hid (Z2.out.on hb)
  replace Z3 := Lib.hid (Z3.out.on hb)
  replace R1 := Lib.hid (R1.out.on hb)
  replace R2 := Lib.hid (R2.out.on hb)
  replace R3 := Lib.hid (R3.out.on hb)
  clear hb
  have p11 : ¬ g1 = z1 := by have := HZ.out; have := HG.out; omega
  have p12 : ¬ g1 = z2 := by have := HZ.out; have := HG.out; omega
  have p13 : ¬ g1 = z3 := by have := HZ.out; have := HG.out; omega
  have p21 : ¬ g2 = z1 := by have := HZ.out; have := HG.out; omega
  have p22 : ¬ g2 = z2 := by have := HZ.out; have := HG.out; omega
  have p23 : ¬ g2 = z3 := by have := HZ.out; have := HG.out; omega
  have p31 : ¬ g3 = z1 := by have := HZ.out; have := HG.out; omega
  have p32 : ¬ g3 = z2 := by have := HZ.out; have := HG.out; omega
  have p33 : ¬ g3 = z3 := by have := HZ.out; have := HG.out; omega
  have q11 : ¬ z1 = g1 := by have := HZ.out; have := HG.out; omega
  have q12 : ¬ z2 = g1 := by have := HZ.out; have := HG.out; omega
  have q13 : ¬ z3 = g1 := by have := HZ.out; have := HG.out; omega
  have q21 : ¬ z1 = g2 := by have := HZ.out; have := HG.out; omega
  have q22 : ¬ z2 = g2 := by have := HZ.out; have := HG.out; omega
  have q23 : ¬ z3 = g2 := by have := HZ.out; have := HG.out; omega
  have q31 : ¬ z1 = g3 := by have := HZ.out; have := HG.out; omega
  have q32 : ¬ z2 = g3 := by have := HZ.out; have := HG.out; omega
  have q33 : ¬ z3 = g3 := by have := HZ.out; have := HG.out; omega
  have o12 : ¬ z1 = z2 := by have := HZ.out; omega
  have o13 : ¬ z1 = z3 := by have := HZ.out; omega
  have o21 : ¬ z2 = z1 := by have := HZ.out; omega
  have o23 : ¬ z2 = z3 := by have := HZ.out; omega
  have o31 : ¬ z3 = z1 := by have := HZ.out; omega
  have o32 : ¬ z3 = z2 := by have := HZ.out; omega
  obtain ⟨x00, x01, x02⟩ := Z1.out.three
  obtain ⟨x10, x11, x12⟩ := Z2.out.three
  obtain ⟨x20, x21, x22⟩ := Z3.out.three
  obtain ⟨x30, x31, x32⟩ := G1.out.three
  obtain ⟨x40, x41, x42⟩ := G2.out.three
  obtain ⟨x50, x51, x52⟩ := G3.out.three
  obtain ⟨v10, v11, v12⟩ := Z1.out.warm3
  obtain ⟨v20, v21, v22⟩ := Z2.out.warm3
  obtain ⟨v30, v31, v32⟩ := Z3.out.warm3
  go_region
  all_goals
    clear o12 o13 o21 o23 o31 o32 p11 q11 p12 q12 p13 q13 p21 q21 p22 q22 p23 q23 p31 q31 p32 q32 p33 q33 x00 x01 x02 x10 x11 x12 x20 x21 x22 x30 x31 x32 x40 x41 x42 x50 x51 x52 v10 v11 v12 v20 v21 v22 v30 v31 v32
    obtain ⟨wF, hF, F1, F2, F3, FR, FB⟩ := put9 (w := w5) Z1.out Z2.out Z3.out (by have := HZ.out; omega) (by have := HZ.out; omega) (by have := HZ.out; omega) (.bool b1) (.slice A1 n1 c1) (.slice B1 m1 d1) (.bool b2) (.slice A2 n2 c2) (.slice B2 m2 d2) (.bool b3) (.slice A3 n3 c3) (.slice B3 m3 d3)
    rw [hF]
    have G1 := Lib.hid F1
    have G2 := Lib.hid F2
    have G3 := Lib.hid F3
    have GR := Lib.hid FR
    have GB := Lib.hid (FB _ _ HB.out (by have := HZ.out; omega) (by have := HZ.out; omega) (by have := HZ.out; omega))
    clear hF F1 F2 F3 FR FB
    go_wp2_with fail
    have D1 : Hid (Rw.Cel wF.drew z1 [.bool b1, .slice A1 n1 c1, .slice B1 m1 d1]) := Lib.hid G1.out.drew
    have D2 : Hid (Rw.Cel wF.drew z2 [.bool b2, .slice A2 n2 c2, .slice B2 m2 d2]) := Lib.hid G2.out.drew
    have D3 : Hid (Rw.Cel wF.drew z3 [.bool b3, .slice A3 n3 c3, .slice B3 m3 d3]) := Lib.hid G3.out.drew
    have HF : Hid (RRet4 w 0 vP vS vA (.returned (.tuple #[.agg #[.bool b1, .slice A1 n1 c1, .slice B1 m1 d1], .agg #[.bool b2, .slice A2 n2 c2, .slice B2 m2 d2], .agg #[.bool b3, .slice A3 n3 c3, .slice B3 m3 d3], .int .i64 0])) wF.drew) := Lib.hid ⟨_, _, _, _, _, _, _, _, _, _, _, _, _, _, _, _, _, _, _, _, _, rfl, OutR.ok (GR.out _ _ _ _ R1.out), OutR.ok (GR.out _ _ _ _ R2.out), OutR.ok (GR.out _ _ _ _ R3.out), below_drew GB.out⟩
    exact bodyPost_ret (res_r4 Try.results18 rfl rfl rfl D1.out D2.out D3.out) rfl HF.out
end Go.Proofs.Ytohfaoclemcfaaa.Wet
