/- Several texts in one: TankJ, TankV. -/
import Derived.Test.YtgmlccjjhmhgbaaGreatPk31
import Derived.Test.YtgmlccjjhmhgbaaGreatPk24
import Derived.Test.YtgmlccjjhmhgbaaGreatPk1
import Derived.OpenShut
import Derived.Deep.Slices
/- Pour of the reference (gen17/jr.py). -/
namespace Go.Proofs.YtgmlccjjhmhgbaaGreat.Tank
open Go.ChangeShapes Go.WideShapes Go.RowKit Go.Lib
open Go.Proofs.YtgmlccjjhmhgbaaGreat.Rw (Rd Row Kd Off glt get_lt rd_one flat_len below_alloc bstep wrap_id below_drewN below_drew drew_below append_rowsF take_snoc_of)
set_option linter.unusedVariables false
set_option maxRecDepth 100000

/-- Behind the append and the store: what lay in the memory before. -/
theorem Bld.kep {w w' : World} {B g : Nat} {cap : Int} {A : Option Addr} {n c : Nat} {R : List Raw} {L : List Trip} (h : Bld w B g cap A n c R L) (hg : w.grownBy w' (Value.slice A n c).ownBlock) (x : Value) : Kep w (w'.setCell ⟨g, 1, none⟩ x) := by
  have hc : Rw.Cel w' g [.int .i64 cap, .slice A n c] := h.cel.grown hg fun e => by have := (h.row.lt _ e).1; have := h.lt; omega
  exact (Kep.grown hg h.noi).trans (Kep.set hc.two.2 (fun z e => by cases e) x)
theorem po_takes {P Q : List Rat} {k : Nat} (hP : ∀ q ∈ P, fitR q = true) (hQ : ∀ q ∈ Q, fitR q = true) (h : ∀ (j : Nat) (q x : Rat), j < k → P[j]? = some q → Q[j]? = some x → sumOk q x = true) : ∀ z ∈ (poV P Q).take k, fitR z = true := fun z hz => by
  obtain ⟨j, hj⟩ := List.mem_iff_getElem?.mp hz
  rw [List.getElem?_take] at hj
  split at hj
  · obtain ⟨q, x, hq, hx, rfl⟩ := poV_get hj
    exact fit_sum (hP q (List.mem_of_getElem? hq)) (hQ x (List.mem_of_getElem? hx)) (h j q x (by assumption) hq hx)
  · cases hj
set_option maxHeartbeats 6400000 in
theorem tk_Pour (ca : Int) (L : List Trip) (A : Option Addr) (n c : Nat) (hn : n = L.length) (cb : Int) (M : List Trip) (B : Option Addr) (n' c' : Nat) (hn' : n' = M.length) (mass : Int) (w : World) (ha : Rats w A L) (hb : Rats w B M) (hm : n ≤ 9223372036854775807) (hm' : n' ≤ 9223372036854775807) :
    Calls Tryz.prog 26 #[.agg #[.int .i64 ca, .slice A n c], .agg #[.int .i64 cb, .slice B n' c'], .int .i64 mass] w (PoR w (poE ca L cb M mass) (poC ca L cb M mass ca) (poX ca L cb M mass) (poC ca L cb M mass cb) (poY ca L cb M mass)) := by
  have HA := Lib.hid ha
  have HB := Lib.hid hb
  have K1 := Lib.hid fun (W : World) (h : Rats W A L) => tk_Check ca L A n c hn W h hm
  have K2 := Lib.hid fun (W : World) (h : Rats W B M) => tk_Check cb M B n' c' hn' W h hm'
  have KD := Lib.hid fun (W : World) (h : Rats W A L) => tk_Draw ca L A n c hn mass W h hm
  obtain ⟨E1, hE1⟩ : ∃ E, ckT ca L = E := ⟨_, rfl⟩
  obtain ⟨E2, hE2⟩ : ∃ E, ckT cb M = E := ⟨_, rfl⟩
  obtain ⟨D, hD⟩ : ∃ D, drE ca L mass = D := ⟨_, rfl⟩
  obtain ⟨G, hG⟩ : ∃ G, poE ca L cb M mass = G := ⟨_, rfl⟩
  have hno := fun h => po_no hG h
  have hyes := fun h : G = 0 => po_yes (hG.trans h)
  have hdyes := fun h : D = 0 => dr_yes (hD.trans h)
  have hdfit := fun h : D = 0 => dr_fit (hD.trans h)
  obtain ⟨GA, hGA⟩ : ∃ x, poC ca L cb M mass ca = x := ⟨_, rfl⟩
  obtain ⟨GB, hGB⟩ : ∃ x, poC ca L cb M mass cb = x := ⟨_, rfl⟩
  obtain ⟨GX, hGX⟩ : ∃ x, poX ca L cb M mass = x := ⟨_, rfl⟩
  obtain ⟨GY, hGY⟩ : ∃ x, poY ca L cb M mass = x := ⟨_, rfl⟩
  obtain ⟨DC, hDC⟩ : ∃ x, drC ca L mass = x := ⟨_, rfl⟩
  obtain ⟨DP, hDP⟩ : ∃ x, drP ca L mass = x := ⟨_, rfl⟩
  obtain ⟨DT, hDT⟩ : ∃ x, drT ca L mass = x := ⟨_, rfl⟩
  have NO : Hid (¬ G = 0 → GA = 0 ∧ GB = 0 ∧ GX = [] ∧ GY = []) := fun h => by
    obtain ⟨h1, h2, h3⟩ := hno h
    exact ⟨hGA ▸ h1 ca, hGB ▸ h1 cb, hGX ▸ h2, hGY ▸ h3⟩
  have YES : Hid (G = 0 → GA = ca ∧ GB = cb ∧ GX = ts (drY L mass) ∧ GY = ts (poV (qs M) (drX L mass))) := fun h => by
    obtain ⟨h1, h2, h3⟩ := hyes h
    exact ⟨hGA ▸ h1 ca, hGB ▸ h1 cb, hGX ▸ h2, hGY ▸ h3⟩
  have DYES : Hid (D = 0 → DC = ca ∧ DT = ts (drX L mass) ∧ DP = ts (drY L mass)) := fun h => by
    obtain ⟨h1, h2, h3⟩ := hdyes h
    exact ⟨hDC ▸ h1, hDT ▸ h2, hDP ▸ h3⟩
  have DFIT := Lib.hid hdfit
  rw [hE1] at K1
  rw [hE2] at K2
  rw [hD, hDC, hDP, hDT] at KD
  rw [hG, hGA, hGB, hGX, hGY]
  have HE := Lib.hid (And.intro hE1 (And.intro hE2 (And.intro hD hG)))
  have HN := Lib.hid (And.intro hn hn')
  clear ha hb hn hn' hE1 hE2 hD hG hno hyes hdyes hdfit hGA hGB hGX hGY hDC hDP hDT hm hm'
  go_enter Tryz.func26, Tryz.ntmps26
  go_upto_region 1 with fail
  obtain ⟨w0, hw0⟩ : ∃ W, (((w.alloc (.cells #[.int .i64 ca, .slice A n c] 24)).alloc (.cells #[.int .i64 cb, .slice B n' c'] 24)).alloc (.cells #[.int .i64 0, .slice none 0 0] 24)).alloc (.cells #[.int .i64 0, .slice none 0 0] 24) = W := ⟨_, rfl⟩
  have C0 : Hid (Rw.Cel w0 w.heap.size [.int .i64 ca, .slice A n c]) := hw0 ▸ (((Rw.Cel.new w [_, _] _).alloc _).alloc _).alloc _
  have F0 : Hid (Rw.Cel w0 (w.heap.size + 1) [.int .i64 cb, .slice B n' c']) := hw0 ▸ ((Rw.Cel.new_at _ [_, _] _ (by simp)).alloc _).alloc _
  have R0 : Hid (Rw.Cel w0 (w.heap.size + 2) [.int .i64 0, .slice none 0 0]) := hw0 ▸ (Rw.Cel.new_at _ [_, _] _ (by simp)).alloc _
  have S0 : Hid (Rw.Cel w0 (w.heap.size + 3) [.int .i64 0, .slice none 0 0]) := hw0 ▸ Rw.Cel.new_at _ [_, _] _ (by simp)
  have B0 : Hid (Below w.heap.size w w0) := hw0 ▸ bstep (bstep (bstep (below_alloc _ _) (below_alloc _ _)) (below_alloc _ _)) (below_alloc _ _)
  first | rw [hw0] | skip
  clear hw0
  obtain ⟨x0, x1⟩ := C0.out.two
  go_wp2_with fail
  refine (K1.out w0 (Rats.on HA.out B0.out)).mono ?_
  rintro e w1 ⟨rfl, hb1⟩
  have B1 := Lib.hid (bstep B0.out hb1)
  have C1 := Lib.hid (C0.out.on hb1)
  have F1 := Lib.hid (F0.out.on hb1)
  have R1 := Lib.hid (R0.out.on hb1)
  have S1 := Lib.hid (S0.out.on hb1)
  clear hb1 x0 x1
  by_cases hz : E1 = 0
  rotate_left
  · obtain ⟨z1, z2⟩ := ne_zero hz
    obtain rfl : G = E1 := by rw [← HE.out.2.2.2, ← HE.out.1]; exact poE_a (by rw [HE.out.1]; exact hz)
    obtain ⟨f1, f2, f3, f4⟩ := NO.out hz
    subst f1; subst f2; subst f3; subst f4
    obtain ⟨u0, u1⟩ := R1.out.two
    obtain ⟨v0, v1⟩ := R1.out.warm2
    obtain ⟨u2, u3⟩ := S1.out.two
    obtain ⟨v2, v3⟩ := S1.out.warm2
    go_wp2_with fail
    exact bodyPost_ret (res_tanks Tryz.results26 rfl rfl (far2 (R1.out.put2 _ _) (by omega) _ _) ((far2 S1.out (by omega) _ _).put2 _ _)) rfl (PoR.none_ (Rw.below_put2 (Rw.below_put2 B1.out (by omega) _ _) (by omega) _ _))
  subst hz
  obtain ⟨y0, y1⟩ := F1.out.two
  go_wp2_with fail
  refine (K2.out w1 (Rats.on HB.out B1.out)).mono ?_
  rintro e w2 ⟨rfl, hb2⟩
  have B2 := Lib.hid (bstep B1.out hb2)
  have C2 := Lib.hid (C1.out.on hb2)
  have F2 := Lib.hid (F1.out.on hb2)
  have R2 := Lib.hid (R1.out.on hb2)
  have S2 := Lib.hid (S1.out.on hb2)
  clear hb2 y0 y1
  by_cases hz : E2 = 0
  rotate_left
  · obtain ⟨z1, z2⟩ := ne_zero hz
    obtain rfl : G = E2 := by rw [← HE.out.2.2.2, ← HE.out.2.1]; exact poE_b HE.out.1 (by rw [HE.out.2.1]; exact hz)
    obtain ⟨f1, f2, f3, f4⟩ := NO.out hz
    subst f1; subst f2; subst f3; subst f4
    obtain ⟨u0, u1⟩ := R2.out.two
    obtain ⟨v0, v1⟩ := R2.out.warm2
    obtain ⟨u2, u3⟩ := S2.out.two
    obtain ⟨v2, v3⟩ := S2.out.warm2
    go_wp2_with fail
    exact bodyPost_ret (res_tanks Tryz.results26 rfl rfl (far2 (R2.out.put2 _ _) (by omega) _ _) ((far2 S2.out (by omega) _ _).put2 _ _)) rfl (PoR.none_ (Rw.below_put2 (Rw.below_put2 B2.out (by omega) _ _) (by omega) _ _))
  subst hz
  obtain ⟨x0, x1⟩ := C2.out.two
  obtain ⟨y0, y1⟩ := F2.out.two
  by_cases hl : n = n'
  rotate_left
  · have z1 : ((n : Int) != (n' : Int)) = true := by rw [bne, beq_false_of_ne (by omega)]; rfl
    have z2 : ((n : Int) == (n' : Int)) = false := beq_false_of_ne (by omega)
    obtain rfl : G = 17 := by rw [← HE.out.2.2.2]; exact poE_len HE.out.1 HE.out.2.1 (by rw [← HN.out.1, ← HN.out.2]; exact hl)
    obtain ⟨f1, f2, f3, f4⟩ := NO.out (by decide)
    subst f1; subst f2; subst f3; subst f4
    clear hl
    obtain ⟨u0, u1⟩ := R2.out.two
    obtain ⟨v0, v1⟩ := R2.out.warm2
    obtain ⟨u2, u3⟩ := S2.out.two
    obtain ⟨v2, v3⟩ := S2.out.warm2
    go_wp2_with fail
    exact bodyPost_ret (res_tanks Tryz.results26 rfl rfl (far2 (R2.out.put2 _ _) (by omega) _ _) ((far2 S2.out (by omega) _ _).put2 _ _)) rfl (PoR.none_ (Rw.below_put2 (Rw.below_put2 B2.out (by omega) _ _) (by omega) _ _))
  subst hl
  have z1 : ((n : Int) != (n : Int)) = false := by simp
  have z2 : ((n : Int) == (n : Int)) = true := by simp
  have HLM : Hid (L.length = M.length) := Lib.hid (by rw [← HN.out.1, ← HN.out.2])
  have A2 := Lib.hid (Rats.on HA.out B2.out)
  go_upto_region 9 with fail
  go_wp2_with fail
  refine (KD.out _ A2.out).mono ?_
  rintro e w5 ⟨v, A4, n4, c4, rfl, hT, hn4, hm4, hr4, hb⟩
  obtain ⟨A3, c3, rfl, hl3, hr3⟩ := hT
  obtain ⟨n3, hn3⟩ : ∃ n3, DP.length = n3 := ⟨_, rfl⟩
  rw [hn3]
  have F5 := Lib.hid (F2.out.on hb)
  have R5 := Lib.hid (R2.out.on hb)
  have S5 := Lib.hid (S2.out.on hb)
  have B5 := Lib.hid (bstep B2.out hb)
  have HR3 := Lib.hid (And.intro hr3 (And.intro hn3 hl3))
  have HR4 := Lib.hid (And.intro hr4 (And.intro hn4 hm4))
  clear hb hr3 hn3 hr4 hn4 hm4 hl3 x0 x1 y0 y1 z1 z2
  go_upto_region 10 with fail
  obtain ⟨w6, hw6⟩ : ∃ W, w5.alloc (.cells #[.int .i64 DC, .slice A3 n3 c3] 24) = W := ⟨_, rfl⟩
  obtain ⟨gx, hgx⟩ : ∃ g, w5.heap.size = g := ⟨_, rfl⟩
  have b6 : Below w5.heap.size w5 w6 := hw6 ▸ below_alloc _ _
  have X6 : Hid (Rw.Cel w6 gx [.int .i64 DC, .slice A3 n3 c3]) := hw6 ▸ hgx ▸ Rw.Cel.new w5 [_, _] _
  have F6 := Lib.hid (F5.out.on b6)
  have R6 := Lib.hid (R5.out.on b6)
  have S6 := Lib.hid (S5.out.on b6)
  have B6 := Lib.hid (bstep B5.out b6)
  have HB6 := Lib.hid b6
  have GX : Hid (w.heap.size + 3 < gx) := Lib.hid (by have := S5.out.lt; omega)
  have GX5 : Hid (gx = w5.heap.size) := Lib.hid hgx.symm
  rw [hgx, hw6]
  clear hw6 hgx b6
  by_cases hz : D = 0
  rotate_left
  · obtain ⟨z1, z2⟩ := ne_zero hz
    obtain rfl : G = D := by rw [← HE.out.2.2.2, ← HE.out.2.2.1]; exact poE_dr HE.out.1 HE.out.2.1 HLM.out (by rw [HE.out.2.2.1]; exact hz)
    obtain ⟨f1, f2, f3, f4⟩ := NO.out hz
    subst f1; subst f2; subst f3; subst f4
    obtain ⟨u0, u1⟩ := R6.out.two
    obtain ⟨v0, v1⟩ := R6.out.warm2
    obtain ⟨u2, u3⟩ := S6.out.two
    obtain ⟨v2, v3⟩ := S6.out.warm2
    go_wp2_with fail
    exact bodyPost_ret (res_tanks Tryz.results26 rfl rfl (far2 (R6.out.put2 _ _) (by omega) _ _) ((far2 S6.out (by omega) _ _).put2 _ _)) rfl (PoR.none_ (Rw.below_put2 (Rw.below_put2 B6.out (by omega) _ _) (by omega) _ _))
  obtain ⟨fx, fy⟩ := DFIT.out hz
  obtain ⟨f1, f2, f3⟩ := DYES.out hz
  subst f1; subst f2; subst f3; subst hz
  have FX := Lib.hid fx
  have FY := Lib.hid fy
  have HOK := Lib.hid (ckT_of HE.out.2.1)
  have HML : Hid (∀ t ∈ M, vT t = true) := fun t ht => (HOK.out.all t ht).1
  obtain ⟨Q, hQ⟩ : ∃ Q, drX L mass = Q := ⟨_, rfl⟩
  have hQl : Q.length = n := by rw [← hQ, drX_len, HN.out.1]
  have hGf : poE DC L cb M mass = flE cb (qs M) Q := by rw [← hQ]; exact poE_fl HE.out.1 HE.out.2.1 HLM.out HE.out.2.2.1
  rw [HE.out.2.2.2] at hGf
  have HGf := Lib.hid hGf
  rw [hQ] at FX HR4
  have HQl := Lib.hid hQl
  have HYES : Hid (G = 0 → GY = ts (poV (qs M) Q)) := fun h => by rw [← hQ]; exact (YES.out h).2.2.2
  have HA4 : Hid (∀ b off, A4 = some ⟨b, off, none⟩ → b < gx) := Lib.hid fun b off e => by
    have := Rats.lt HR4.out.1 (by rw [ts_len, HQl.out]; have := HOK.out.n0; have := HN.out.2; omega) b off e
    rw [GX5.out]; exact this
  have HA3 : Hid (∀ b off, A3 = some ⟨b, off, none⟩ → b < gx) := Lib.hid fun b off e => by
    have := Rats.lt HR3.out.1 (by rw [ts_len, drY_len]; have := HOK.out.n0; have := HLM.out; omega) b off e
    rw [GX5.out]; exact this
  obtain ⟨n4', hn4'⟩ : ∃ x, x = n4 := ⟨n4, rfl⟩
  have HN4 : Hid (n4 = n) := Lib.hid (by rw [HR4.out.2.1, ts_len, HQl.out])
  clear fx fy hQ hQl hGf hn4'
  have hn4n := HN4.out
  subst hn4n
  obtain ⟨y0, y1⟩ := F6.out.two
  go_upto_region 14 with fail
  obtain ⟨w7, hw7⟩ : ∃ W, w6.alloc (.cells #[.int .i64 cb, .slice none 0 0] 24) = W := ⟨_, rfl⟩
  obtain ⟨g, hg⟩ : ∃ g, w6.heap.size = g := ⟨_, rfl⟩
  have b7 : Below w6.heap.size w6 w7 := hw7 ▸ below_alloc _ _
  have T7 : Hid (Rw.Cel w7 g [.int .i64 cb, .slice none 0 0]) := hw7 ▸ hg ▸ Rw.Cel.new w6 [_, _] _
  have X7 := Lib.hid (X6.out.on b7)
  have F7 := Lib.hid (F6.out.on b7)
  have R7 := Lib.hid (R6.out.on b7)
  have S7 := Lib.hid (S6.out.on b7)
  have B7 := Lib.hid (bstep B6.out b7)
  have HB7 := Lib.hid (bstep HB6.out b7)
  have GG : Hid (gx < g ∧ g + 1 ≤ w7.heap.size) := Lib.hid ⟨by have := X6.out.lt; omega, T7.out.lt⟩
  rw [hg, hw7]
  clear hw7 hg b7 y0 y1
  have L7 := Lib.hid (Rats.on HR3.out.1 HB7.out)
  have Q7 := Lib.hid (Rats.on HR4.out.1 HB7.out)
  have M7 := Lib.hid (Rats.on HB.out B7.out)
  have HBm : Hid (∀ b off, B = some ⟨b, off, none⟩ → b < g) := Lib.hid fun b off e => by
    have := Rats.lt HB.out (by have := HOK.out.n0; omega) b off e
    have := GX.out; have := GG.out.1; omega
  go_loopw [15] (fun i wr => ∃ (k : Nat) (A' : Option Addr) (p' c'' : Nat) (R : List Raw), k ≤ n4 ∧ i = .int .i64 k ∧ Bld wr (g + 1) g cb A' p' c'' R (ts ((poV (qs M) Q).take k)) ∧ (∀ (j : Nat) (q x : Rat), j < k → (qs M)[j]? = some q → Q[j]? = some x → sumOk q x = true) ∧ Below g w7 wr ∧ Kep w7 wr ∧ g + 1 ≤ wr.heap.size) (fun i _ => n4 - (RowKit.intOf i).toNat)
  case atStart => exact ⟨0, none, 0, 0, [], Nat.zero_le _, rfl, Bld.nil T7.out (by omega), fun j q x h => absurd h (by omega), Below.refl _ _, Kep.refl _, GG.out.2⟩
  case round =>
    obtain ⟨k, A', p', c'', R, hk, rfl, hbld, hv, hbel, hkep, hsz⟩ := hrel
    have HQ := Lib.hid hbld
    have HV := Lib.hid hv
    have HBl := Lib.hid hbel
    have HKp := Lib.hid hkep
    have HS := Lib.hid hsz
    clear hbld hv hbel hkep hsz
    have BW : Hid (Below w.heap.size w wr) := Lib.hid (B7.out.trans (HBl.out.mono (by have := GG.out.1; have := GX.out; omega)))
    have F8 := Lib.hid (F7.out.below HBl.out (by have := GG.out.1; have := GX.out; omega))
    have R8 := Lib.hid (R7.out.below HBl.out (by have := GG.out.1; have := GX.out; omega))
    have S8 := Lib.hid (S7.out.below HBl.out (by have := GG.out.1; have := GX.out; omega))
    have X8 := Lib.hid (X7.out.below HBl.out GG.out.1)
    have Q8 := Lib.hid (Rats.kep Q7.out (fun b off e => by have := HA4.out b off e; have := GG.out.1; omega) (ts_vZ FX.out) HBl.out HKp.out)
    have M8 := Lib.hid (Rats.kep M7.out HBm.out (fun t ht => Or.inl (HML.out t ht)) HBl.out HKp.out)
    rcases Nat.lt_or_ge k n4 with hlt | hge
    · obtain ⟨t, ht⟩ := get_lt (L := M) (k := k) (by have := HN.out.2; omega)
      obtain ⟨q, hq⟩ := get_lt (L := Q) (k := k) (by rw [HQl.out]; exact hlt)
      obtain ⟨b2, o2, A6, c6, A7, c7, hA0, hb2, y0, y1, y2, hin⟩ := Rats.at_ M8.out ht
      obtain ⟨b1, o1, A8, c8, A9, c9, hA1, hb1, z0, z1, z2, hiq⟩ := Rats.at_ Q8.out (ts_at hq)
      subst hA0
      subst hA1
      have i1 : (k : Int) < (n4 : Int) := by omega
      have i2 : (0 : Int) ≤ (k : Int) := by omega
      have i3 : IntKind.i64.wrap ((k : Int) + 1) = (k : Int) + 1 := Rw.wrap_id (by have := HOK.out.n1; have := HN.out.2; omega)
      have HT := Lib.hid (And.intro ht hq)
      have VT := Lib.hid (HML.out t (List.mem_of_getElem? ht))
      have FT := Lib.hid (trip_form VT.out).1
      have FQ := Lib.hid (FX.out q (List.mem_of_getElem? hq))
      have PT := Lib.hid (trip_isR VT.out hin)
      have PQ : Hid (IsR wr (.agg #[.bool (triR q).1, .slice A8 (triR q).2.1.length c8, .slice A9 (triR q).2.2.length c9]) q) := hiq
      obtain ⟨t0, ht0⟩ : ∃ x, t.1 = x := ⟨_, rfl⟩
      obtain ⟨t1, ht1⟩ : ∃ x, t.2.1.length = x := ⟨_, rfl⟩
      obtain ⟨t2, ht2⟩ : ∃ x, t.2.2.length = x := ⟨_, rfl⟩
      obtain ⟨q0, hq0⟩ : ∃ x, (triR q).1 = x := ⟨_, rfl⟩
      obtain ⟨q1, hq1⟩ : ∃ x, (triR q).2.1.length = x := ⟨_, rfl⟩
      obtain ⟨q2, hq2⟩ : ∃ x, (triR q).2.2.length = x := ⟨_, rfl⟩
      rw [ht0, ht1, ht2] at PT
      rw [hq0, hq1, hq2] at PQ
      rw [ht0] at y0
      rw [ht1] at y1
      rw [ht2] at y2
      rw [hq0] at z0
      rw [hq1] at z1
      rw [hq2] at z2
      have KA := Lib.hid fun v u W h k => x_Add (rT t) q FT.out FQ.out v u W h k
      obtain ⟨p, hp⟩ : ∃ p, sumOk (rT t) q = p := ⟨_, rfl⟩
      rw [hp] at KA
      have HP := Lib.hid hp
      have HCE : Hid (∀ W, Below wr.heap.size wr W → (W.cell? ⟨w.heap.size + 1, 0, none⟩ = some (.int .i64 cb) ∧ W.cell? ⟨w.heap.size + 1, 1, none⟩ = some (.slice (some ⟨b2, o2, none⟩) n4 c')) ∧ (W.cell? ⟨b1, o1 + k * 3, none⟩ = some (.bool q0) ∧ W.cell? ⟨b1, o1 + k * 3 + 1, none⟩ = some (.slice A8 q1 c8) ∧ W.cell? ⟨b1, o1 + k * 3 + 2, none⟩ = some (.slice A9 q2 c9)) ∧ (W.cell? ⟨b2, o2 + k * 3, none⟩ = some (.bool t0) ∧ W.cell? ⟨b2, o2 + k * 3 + 1, none⟩ = some (.slice A6 t1 c6) ∧ W.cell? ⟨b2, o2 + k * 3 + 2, none⟩ = some (.slice A7 t2 c7))) := fun W h =>
        ⟨(F8.out.on h).two, ⟨(h.cell (p := ⟨b1, o1 + k * 3, none⟩) hb1).trans z0, (h.cell (p := ⟨b1, o1 + k * 3 + 1, none⟩) hb1).trans z1, (h.cell (p := ⟨b1, o1 + k * 3 + 2, none⟩) hb1).trans z2⟩, (h.cell (p := ⟨b2, o2 + k * 3, none⟩) hb2).trans y0, (h.cell (p := ⟨b2, o2 + k * 3 + 1, none⟩) hb2).trans y1, (h.cell (p := ⟨b2, o2 + k * 3 + 2, none⟩) hb2).trans y2⟩
      have HAR : Hid (∀ W, Below wr.heap.size wr W → IsR W (.agg #[.bool t0, .slice A6 t1 c6, .slice A7 t2 c7]) (rT t) ∧ IsR W (.agg #[.bool q0, .slice A8 q1 c8, .slice A9 q2 c9]) q) := fun W h => ⟨PT.out.on h, PQ.out.on h⟩
      clear hp ht hq hin hiq y0 y1 y2 z0 z1 z2 ht0 ht1 ht2 hq0 hq1 hq2
      obtain ⟨⟨x0, x1⟩, ⟨z0, z1, z2⟩, y0, y1, y2⟩ := HCE.out _ (Below.refl _ _)
      obtain ⟨wq, rfl⟩ : ∃ W, W = wr := ⟨wr, rfl⟩
      go_upto_region 16 with fail
      go_cut [16, 17] from 57 to 86 (fun x y wz => Boxed wq (okE p) (rT t + q) x y wz)
      case first =>
        go_region_held3 (fun W => (W.cell? ⟨w.heap.size + 1, 0, none⟩ = some (.int .i64 cb) ∧ W.cell? ⟨w.heap.size + 1, 1, none⟩ = some (.slice (some ⟨b2, o2, none⟩) n4 c')) ∧ (W.cell? ⟨b1, o1 + k * 3, none⟩ = some (.bool q0) ∧ W.cell? ⟨b1, o1 + k * 3 + 1, none⟩ = some (.slice A8 q1 c8) ∧ W.cell? ⟨b1, o1 + k * 3 + 2, none⟩ = some (.slice A9 q2 c9)) ∧ (W.cell? ⟨b2, o2 + k * 3, none⟩ = some (.bool t0) ∧ W.cell? ⟨b2, o2 + k * 3 + 1, none⟩ = some (.slice A6 t1 c6) ∧ W.cell? ⟨b2, o2 + k * 3 + 2, none⟩ = some (.slice A7 t2 c7)))
          (first | exact HCE.out _ (Below.refl _ _) | exact HCE.out _ (drew_below _) | exact HCE.out _ (below_drew (below_alloc _ _)) | exact HCE.out _ (bstep (drew_below _) hb6) | exact HCE.out _ (bstep (below_drew (below_alloc _ _)) hb6) | exact HCE.out _ (bstep (bstep (drew_below _) hb6) (below_alloc _ _)) | exact HCE.out _ (Rw.below_put3 (bstep (below_drew (below_alloc _ _)) hb6) (Nat.le_refl _) _ _ _))
          ((go_at_call 31; (refine (KA.out _ _ _ ?_ ?_).mono ?_); (first | exact (HAR.out _ (drew_below _)).1 | exact (HAR.out _ (below_drew (below_alloc _ _))).1); (first | exact (HAR.out _ (drew_below _)).2 | exact (HAR.out _ (below_drew (below_alloc _ _))).2); rintro e w8 h8; obtain ⟨b6, A10, n8, c10, B8, m8, d8, rfl, ho6, hb6⟩ := h8.open_; have HO6 := Lib.hid ho6; clear h8 ho6; (first | (have hz6 := Lib.hid (after_zero hb6); obtain ⟨s0, s1, s2⟩ := hz6.out.three; obtain ⟨v0, v1, v2⟩ := hz6.out.warm3) | skip)))
        all_goals
          have hbw := cl_below (w := wq) (by first | exact Or.inl hb6 | exact Or.inr hb6)
          go_wp2_with fail
          go_meet
          case rel => first
            | exact Boxed.new HO6.out hbw
            | exact Boxed.put HO6.out hbw hz6.out (Nat.le_refl _)
      case rest =>
        obtain ⟨gs, b7, A10, n9, c10, B9, m9, d9, rfl, rfl, hc7, ho7, hb7, -⟩ := hcut
        have BC := Lib.hid hb7
        have QC := Lib.hid (HQ.out.on hb7)
        have CS := Lib.hid hc7
        have OS := Lib.hid ho7
        have SC := Lib.hid (Nat.le_trans HS.out hb7.size)
        have KC := Lib.hid (HKp.out.trans (Kep.of hb7))
        have BG : Hid (Below g w7 wc) := Lib.hid (HBl.out.trans (hb7.mono (by have := HS.out; omega)))
        clear hc7 ho7 hb7 x0 x1 y0 y1 y2 z0 z1 z2
        obtain ⟨wy, rfl⟩ : ∃ W, W = wc := ⟨wc, rfl⟩
        cases p with
        | false =>
          obtain rfl : G = 2 := by rw [HGf.out]; unfold flE; rw [poB_bad (qs_at HT.out.1) HT.out.2 HP.out]; rfl
          obtain ⟨f1, f2, f3, f4⟩ := NO.out (by decide)
          subst f1; subst f2; subst f3; subst f4
          have zz : okE false = 2 := rfl
          rw [zz]
          have R9 := Lib.hid (R8.out.on BC.out)
          have S9 := Lib.hid (S8.out.on BC.out)
          have B9' := Lib.hid (bstep BW.out BC.out)
          obtain ⟨u0, u1⟩ := R9.out.two
          obtain ⟨v0, v1⟩ := R9.out.warm2
          obtain ⟨u2, u3⟩ := S9.out.two
          obtain ⟨v2, v3⟩ := S9.out.warm2
          go_wp2_with fail
          exact bodyPost_ret (res_tanks Tryz.results26 rfl rfl (far2 (R9.out.put2 _ _) (by omega) _ _) ((far2 S9.out (by omega) _ _).put2 _ _)) rfl (PoR.none_ (Rw.below_put2 (Rw.below_put2 B9'.out (by omega) _ _) (by omega) _ _))
        | true =>
          have zz : okE true = 0 := rfl
          rw [zz]
          obtain ⟨en, ip, iq⟩ := IsR.cells (OS.out.zero rfl)
          have I7 := Lib.hid (And.intro en (And.intro ip iq))
          clear en ip iq
          have HTn : Hid (ts ((poV (qs M) Q).take (k + 1)) = ts ((poV (qs M) Q).take k) ++ [triR (rT t + q)]) := Lib.hid (ts_take_succ (poV_at (qs_at HT.out.1) HT.out.2))
          have HSl : Hid (R.length + 1 ≤ 1000000) := Lib.hid (by have h1 := QC.out.ins.1; rw [ts_len] at h1; have := List.length_take_le k (poV (qs M) Q); have := HOK.out.n1; have := HN.out.2; omega)
          have HGA : Hid (g + 1 ≤ (wy.alloc (.cells #[.bool b7, .slice A10 n9 c10, .slice B9 m9 d9] 33)).heap.size) := Nat.le_trans SC.out (below_alloc _ _).size
          have QA := Lib.hid (QC.out.on (below_alloc wy (.cells #[.bool b7, .slice A10 n9 c10, .slice B9 m9 d9] 33)))
          have KA2 : Hid (Kep w7 (wy.alloc (.cells #[.bool b7, .slice A10 n9 c10, .slice B9 m9 d9] 33))) := Lib.hid (KC.out.trans (Kep.of (below_alloc _ _)))
          have BA2 : Hid (Below g w7 (wy.alloc (.cells #[.bool b7, .slice A10 n9 c10, .slice B9 m9 d9] 33))) := Lib.hid (BG.out.trans ((below_alloc _ _).mono (by have := SC.out; omega)))
          obtain ⟨x0, x1⟩ := QC.out.cel.two
          obtain ⟨y0, y1, y2⟩ := CS.out.three
          go_wp2_with (at_builtin; refine append_rowsF kdR cR_noI zR_noI rfl (.tmp 82) (.tmp 84) rfl (.slice A' p' c'') R rfl QA.out.row QA.out.noi (some ⟨wy.heap.size, 0, none⟩) 1 1 [(b7, (A10, n9, c10), (B9, m9, d9))] rfl (by decide) rfl (rd_one cR_len (heap_alloc_new _ _)) HSl.out HGA.out ?_; intro Av nv cv w8 hn8 hr8 ho8 hg8; have HN8 := Lib.hid hn8; have HR8 := Lib.hid hr8; have HO8 := Lib.hid ho8; have HG8 := Lib.hid hg8; clear hn8 hr8 ho8 hg8; refine Hid.out ?_)
          have C8 := Lib.hid (QA.out.cel.grown HG8.out fun e => by have := (QA.out.row.lt _ e).1; omega)
          have Q9 := Lib.hid (Bld.push (t := triR (rT t + q)) QA.out HN8.out HR8.out HO8.out HG8.out I7.out.1 (I7.out.2.1.on (below_alloc _ _)) (I7.out.2.2.on (below_alloc _ _)))
          have K9 : Hid (Kep w7 (w8.setCell ⟨g, 1, none⟩ (.slice Av nv cv))) := Lib.hid (KA2.out.trans (QA.out.kep HG8.out _))
          have B9' : Hid (Below g w7 (w8.setCell ⟨g, 1, none⟩ (.slice Av nv cv))) := Lib.hid ((BA2.out.trans ⟨HG8.out.os, HG8.out.tape, HG8.out.output, HG8.out.size, fun i hi => HG8.out.block i (by have := HGA.out; omega) fun e => by have := (QA.out.row.lt i e.symm).1; omega⟩).setCell (p := ⟨g, 1, none⟩) (Nat.le_refl _) _)
          have S9 : Hid (g + 1 ≤ (w8.setCell ⟨g, 1, none⟩ (.slice Av nv cv)).heap.size) := Lib.hid (by have := HGA.out; have := HG8.out.size; simp only [World.size_setCell]; omega)
          have V9 : Hid (∀ (j : Nat) (q x : Rat), j < k + 1 → (qs M)[j]? = some q → Q[j]? = some x → sumOk q x = true) := Lib.hid (by
            intro j q x hj hq hx
            rcases Nat.lt_or_eq_of_le (Nat.le_of_lt_succ hj) with h | h
            · exact HV.out j q x h hq hx
            · subst h
              rw [qs_at HT.out.1] at hq; rw [HT.out.2] at hx; cases hq; cases hx; exact HP.out)
          rw [← HTn.out] at Q9
          clear x0 x1 y0 y1 y2
          obtain ⟨x0, x1⟩ := C8.out.two
          obtain ⟨f0, f1⟩ := C8.out.warm2
          refine Lib.hid ?_
          go_wp2_with fail
          go_roundw
          case rel => exact ⟨k + 1, Av, nv, cv, _, by omega, by go_num, Q9.out, V9.out, B9'.out, K9.out, S9.out⟩
          case measure => simp [RowKit.intOf]; omega
    · obtain rfl : k = n4 := by omega
      have hB : poB (qs M) Q = true := poB_ok fun j q x hq hx => HV.out j q x (by have := glt hx; rw [HQl.out] at this; exact this) hq hx
      have hlen : (poV (qs M) Q).length = k := by rw [poV_len (by rw [qs_len, HQl.out]; exact HN.out.2.symm), qs_len]; exact HN.out.2.symm
      have Q9 : Hid (Bld wr (g + 1) g cb A' p' c'' R (ts (poV (qs M) Q))) := Lib.hid (by have := HQ.out; rw [List.take_of_length_le (by omega)] at this; exact this)
      have hfy := poV_fit (qs_fit HML.out) FX.out hB
      have hGE : G = ckT cb (ts (poV (qs M) Q)) := by rw [HGf.out]; unfold flE; rw [hB]; rfl
      obtain ⟨T, hTT⟩ : ∃ T, ts (poV (qs M) Q) = T := ⟨_, rfl⟩
      have VT9 : Hid (∀ t ∈ T, vZ t) := Lib.hid (by rw [← hTT]; exact ts_vZ hfy)
      have hlT : T.length ≤ 9223372036854775807 := by rw [← hTT, ts_len, hlen]; have := HOK.out.n1; have := HN.out.2; omega
      rw [hTT] at Q9 hGE HYES
      obtain ⟨hIT, hr9, hp9⟩ := Q9.out.tank hlT
      have R9' := Lib.hid hr9
      have IT9 := Lib.hid hIT
      have K9 := Lib.hid fun (W : World) (h : Rats W A' T) => tk_Check cb T A' p' c'' hp9 W h (by omega)
      rw [← hGE] at K9
      have IX8 : Hid (InT wr (.agg #[.int .i64 DC, .slice A3 n3 c3]) DC (ts (drY L mass))) := Lib.hid ⟨A3, c3, by rw [HR3.out.2.1], HR3.out.2.2, Rats.kep L7.out (fun b off e => by have := HA3.out b off e; have := GG.out.1; omega) (ts_vZ FY.out) HBl.out HKp.out⟩
      clear hB hlen hfy hGE hTT hlT hr9 hp9 hIT HV
      obtain ⟨x0, x1⟩ := Q9.out.cel.two
      by_cases hz : G = 0
      rotate_left
      · obtain ⟨z1, z2⟩ := ne_zero hz
        obtain ⟨f1, f2, f3, f4⟩ := NO.out hz
        subst f1; subst f2; subst f3; subst f4
        clear hz
        go_wp2_with fail
        refine (K9.out wr R9'.out).mono ?_
        rintro e w9 ⟨rfl, hb⟩
        have B9' := Lib.hid (bstep BW.out hb)
        have R9 := Lib.hid (R8.out.on hb)
        have S9 := Lib.hid (S8.out.on hb)
        clear hb x0 x1
        obtain ⟨u0, u1⟩ := R9.out.two
        obtain ⟨v0, v1⟩ := R9.out.warm2
        obtain ⟨u2, u3⟩ := S9.out.two
        obtain ⟨v2, v3⟩ := S9.out.warm2
        go_wp2_with fail
        exact bodyPost_ret (res_tanks Tryz.results26 rfl rfl (far2 (R9.out.put2 _ _) (by omega) _ _) ((far2 S9.out (by omega) _ _).put2 _ _)) rfl (PoR.none_ (Rw.below_put2 (Rw.below_put2 B9'.out (by omega) _ _) (by omega) _ _))
      have hgy := HYES.out hz
      obtain ⟨f1, f2, f3, f4⟩ := YES.out hz
      subst hgy; subst f1; subst f2; subst f3; subst hz
      clear f4
      go_wp2_with fail
      refine (K9.out wr R9'.out).mono ?_
      rintro e w9 ⟨rfl, hb⟩
      have B9' := Lib.hid (bstep BW.out hb)
      have R9 := Lib.hid (R8.out.on hb)
      have S9 := Lib.hid (S8.out.on hb)
      have X9 := Lib.hid (X8.out.on hb)
      have Y9 := Lib.hid (Q9.out.cel.on hb)
      have IX9 := Lib.hid (IX8.out.on hb)
      have IY9 := Lib.hid (IT9.out.on hb)
      clear hb x0 x1
      have S10 := Lib.hid (far2 S9.out (k := w.heap.size + 2) (by omega) (.int .i64 GA) (.slice A3 n3 c3))
      have FX9 := Lib.hid (InT.tank (InT.tank IX9.out (ts_vZ FY.out) R9.out (.int .i64 GA) (.slice A3 n3 c3)) (ts_vZ FY.out) S10.out (.int .i64 GB) (.slice A' p' c''))
      have FY9 := Lib.hid (InT.tank (InT.tank IY9.out VT9.out R9.out (.int .i64 GA) (.slice A3 n3 c3)) VT9.out S10.out (.int .i64 GB) (.slice A' p' c''))
      obtain ⟨u0, u1⟩ := R9.out.two
      obtain ⟨v0, v1⟩ := R9.out.warm2
      obtain ⟨u2, u3⟩ := S9.out.two
      obtain ⟨v2, v3⟩ := S9.out.warm2
      obtain ⟨x0, x1⟩ := X9.out.two
      obtain ⟨y0, y1⟩ := Y9.out.two
      have l1 : w.heap.size + 1 + 1 < gx := by have := GX.out; omega
      have l2 : w.heap.size + 1 + 1 + 1 < gx := by have := GX.out; omega
      have l3 : w.heap.size + 1 + 1 < g := by have := GX.out; have := GG.out.1; omega
      have l4 : w.heap.size + 1 + 1 + 1 < g := by have := GX.out; have := GG.out.1; omega
      obtain ⟨k0, k1⟩ := (far2 (k := w.heap.size + 1 + 1) Y9.out (by omega) (.int .i64 GA) (.slice A3 n3 c3)).two
      obtain ⟨j0, j1⟩ := (far2 (k := w.heap.size + 1 + 1 + 1) X9.out (by omega) (.int .i64 GB) (.slice A' p' c'')).two
      go_upto_region 23 with fail
      go_region
      all_goals
        go_wp2_with fail
        have RF := R9.out.put2 (.int .i64 GA) (.slice A3 n3 c3)
        have SF := S10.out.put2 (.int .i64 GB) (.slice A' p' c'')
        have RG := far2 RF (k := w.heap.size + 3) (by omega) (.int .i64 GB) (.slice A' p' c'')
        have BF := Rw.below_put2 (Rw.below_put2 B9'.out (show w.heap.size ≤ w.heap.size + 2 by omega) (.int .i64 GA) (.slice A3 n3 c3)) (show w.heap.size ≤ w.heap.size + 3 by omega) (.int .i64 GB) (.slice A' p' c'')
        exact bodyPost_ret (res_tanks Tryz.results26 rfl rfl RG.drew SF.drew) rfl ⟨_, _, rfl, FX9.out, FY9.out, below_drew BF⟩
end Go.Proofs.YtgmlccjjhmhgbaaGreat.Tank
/- Tanks that come in (gen17/v.py out of CardKitR). -/
namespace Go.Proofs.YtgmlccjjhmhgbaaGreat.Tank
open Go Go.ChangeShapes Go.WideShapes Go.RowKit Go.Joins
set_option linter.unusedVariables false
set_option maxRecDepth 100000

section
variable {H : Type} {enc : TypeId × Value → H} {P : Program} {w : World} {held : Bool} {t e : TypeId} {n : Nat}
/-- The limbs in a field that came in. -/
theorem in_trod {v : Value} {y : DataW H × List MemPlace} (ht : P.underlying t = some (.slice e)) (he : P.underlying e = some (.int .i64)) (hce : P.cellsOf e = 1)
    (hf : DataW.trod enc P w 0 (fun _ => true) held n t [v] = some y) : ∃ zs, In w v zs := by
  rcases open_ints ht he hce hf with ⟨hcs, _⟩ | ⟨x, l, c, zs, hcs, _, hl, hm, hz, _, hcell, hwz⟩
  · simp at hcs
    exact ⟨[], none, 0, hcs, Nat.le_refl _, by unfold maxLen; omega, fun k z hz => by simp at hz⟩
  · simp at hcs
    subst hcs
    have hz' : zs.length = c := by simpa using hz
    have hlen : (zs.take l).length = l := by rw [List.length_take]; omega
    refine ⟨zs.take l, some x, c, by rw [hlen], by omega, hm, fun i z hi => ?_⟩
    have hin : i < l := by
      rcases Nat.lt_or_ge i l with h1 | h1
      · exact h1
      · rw [List.getElem?_take, if_neg (by omega)] at hi; cases hi
    rw [List.getElem?_take, if_pos hin] at hi
    obtain ⟨b, off, rfl, hc⟩ := ints_at hcell (by omega)
    have hci := hc i (by omega)
    have ez : zs.getD i 0 = z := by rw [List.getD_eq_getElem?_getD, hi]; rfl
    rw [ez] at hci
    exact ⟨b, off, rfl, ⟨Nat.zero_le _, Or.inl rfl⟩, World.block_lt_of_cell? w _ hci, hci⟩
end
theorem list_of {α : Type} {P : Nat → α → Prop} (n : Nat) (h : ∀ i, i < n → ∃ t, P i t) : ∃ L : List α, L.length = n ∧ ∀ i t, L[i]? = some t → P i t := by
  induction n with
  | zero => exact ⟨[], rfl, fun i t hi => by simp at hi⟩
  | succ n ih =>
    obtain ⟨L, hl, hL⟩ := ih fun i hi => h i (by omega)
    obtain ⟨t, ht⟩ := h n (by omega)
    refine ⟨L ++ [t], by simp [hl], fun i u hu => ?_⟩
    rcases Nat.lt_or_ge i L.length with h1 | h1
    · rw [List.getElem?_append_left h1] at hu; exact hL i u hu
    · rw [List.getElem?_append_right h1] at hu
      have : i - L.length = 0 := by
        rcases Nat.eq_zero_or_pos (i - L.length) with h2 | h2
        · exact h2
        · rw [List.getElem?_eq_none (by simp; omega)] at hu; cases hu
      rw [this] at hu
      simp at hu
      have e : i = n := by omega
      subst hu e; exact ht

section
variable {H : Type} {enc : TypeId × Value → H} {w : World} {held : Bool}
theorem rats_of {fuel : Nat} {cs : List Value} {x : DataW H × List MemPlace} (hf : DataW.trod enc Tryz.prog w 0 (fun _ => true) held fuel 22 cs = some x) :
    ∃ (A : Option Addr) (c : Nat) (L : List Trip), cs = [.slice A L.length c] ∧ Rats w A L ∧ L.length ≤ c ∧ L.length ≤ 9223372036854775807 := by
  rcases Deep.open_slice Tryz.underlying22 hf with ⟨hcs, _⟩ | ⟨a, n, cap, m, k, D, Pl, hcs, _, hl, hm, hmm, _, hel⟩
  · exact ⟨none, 0, [], hcs, Rats.nil _ _, Nat.le_refl _, by simp⟩
  · have hmc : m = cap := by simpa using hmm
    subst hmc
    have hC : Tryz.prog.cellsOf 33 = 3 := by kernel_rfl
    have key : ∀ i, i < n → ∃ t : Trip, ∃ b off A1 c1 A2 c2, a = ⟨b, off, none⟩ ∧ b < w.heap.size ∧
        (w.cell? ⟨b, off + i * 3, none⟩ = some (.bool t.1) ∧ w.cell? ⟨b, off + i * 3 + 1, none⟩ = some (.slice A1 t.2.1.length c1) ∧ w.cell? ⟨b, off + i * 3 + 2, none⟩ = some (.slice A2 t.2.2.length c2)) ∧
        In w (.slice A1 t.2.1.length c1) t.2.1 ∧ In w (.slice A2 t.2.2.length c2) t.2.2 := by
      intro i hi
      obtain ⟨cs, hc, ht⟩ := hel i (by omega)
      rw [hC] at hc
      obtain ⟨xs, n', _, _, hlen, hyl, hg⟩ := DataW.trod_struct Tryz.underlying33 ht
      obtain ⟨_, hcl, hat⟩ := World.cells?_some hc
      obtain ⟨c0, c1, c2, rfl⟩ : ∃ c0 c1 c2, cs = [c0, c1, c2] := by
        match cs, hcl with
        | [c0, c1, c2], _ => exact ⟨c0, c1, c2, rfl⟩
      obtain ⟨y0, y1, y2, rfl⟩ : ∃ y0 y1 y2, xs = [y0, y1, y2] := by
        match xs, hyl with
        | [y0, y1, y2], _ => exact ⟨y0, y1, y2, rfl⟩
      have g0 := hg 0 _ rfl
      have g1 := hg 1 _ rfl
      have g2 := hg 2 _ rfl
      change DataW.trod enc Tryz.prog w 0 (fun _ => true) held n' 4 (([c0, c1, c2].drop 0).take (Tryz.prog.cellsOf 4)) = some y0 at g0
      change DataW.trod enc Tryz.prog w 0 (fun _ => true) held n' 31 (([c0, c1, c2].drop 1).take (Tryz.prog.cellsOf 31)) = some y1 at g1
      change DataW.trod enc Tryz.prog w 0 (fun _ => true) held n' 31 (([c0, c1, c2].drop 2).take (Tryz.prog.cellsOf 31)) = some y2 at g2
      rw [show Tryz.prog.cellsOf 4 = 1 by kernel_rfl] at g0
      rw [show Tryz.prog.cellsOf 31 = 1 by kernel_rfl] at g1 g2
      obtain ⟨bb, hbb, _⟩ := DataW.trod_bool Tryz.underlying4 g0
      obtain ⟨xs, hx⟩ := in_trod (v := c1) Tryz.underlying31 Tryz.underlying3 (by kernel_rfl) g1
      obtain ⟨ys, hy⟩ := in_trod (v := c2) Tryz.underlying31 Tryz.underlying3 (by kernel_rfl) g2
      obtain ⟨A1, d1, rfl, hx'⟩ := in_open hx
      obtain ⟨A2, d2, rfl, hy'⟩ := in_open hy
      have hb0 : c0 = .bool bb := by simpa using hbb
      subst hb0
      obtain ⟨b, off, spot⟩ := a
      have hspot : spot = none := by
        obtain ⟨cs0, hc0, ht0⟩ := hel 0 (by omega)
        rw [hC] at hc0
        obtain ⟨_, hl0, hat0⟩ := World.cells?_some hc0
        match cs0, hl0 with
        | [z0, z1, z2], _ =>
          have h := hat0 0 (by omega)
          have e : ∀ x : Addr, x.add 0 = x := fun x => by unfold Addr.add; rw [if_pos rfl]
          rw [Nat.zero_mul, e, e] at h
          exact World.cell?_spot h
      subst hspot
      have k : ∀ j, j < 3 → w.cell? ⟨b, off + i * 3 + j, none⟩ = [Value.bool bb, .slice A1 xs.length d1, .slice A2 ys.length d2][j]? := fun j hj => by
        have := hat j (by omega)
        rw [Go.WideShapes.add_plain, Go.WideShapes.add_plain] at this
        exact this
      have k0 := k 0 (by omega)
      exact ⟨(bb, xs, ys), b, off, A1, d1, A2, d2, rfl, World.block_lt_of_cell? w _ k0, ⟨k0, k 1 (by omega), k 2 (by omega)⟩, hx', hy'⟩
    obtain ⟨L, rfl, hL⟩ := list_of n key
    refine ⟨some a, m, L, hcs, fun k t hk => ?_, hl, by unfold maxLen at hm; omega⟩
    obtain ⟨b, off, A1, c1, A2, c2, rfl, h⟩ := hL k t hk
    exact ⟨b, off, A1, c1, A2, c2, rfl, h⟩
/-- A tank that came in. -/
theorem open_tank {r : Reach} {b0 : Nat} {v : Value} {d : DataW H} {p : List MemPlace} (hv : Value.okWide Tryz.prog w r b0 24 v) (h : DataW.Trod enc Tryz.prog w 0 (fun _ => true) held 24 v d p) :
    ∃ (cap : Int) (A : Option Addr) (c : Nat) (L : List Trip), v = .agg #[.int .i64 cap, .slice A L.length c] ∧ Rats w A L ∧ L.length ≤ 9223372036854775807 := by
  obtain ⟨v0, v1, y0, y1, n, rfl, _, _, h0, h1⟩ := open_agg2 Tryz.underlying24 (by kernel_rfl) (by kernel_rfl) hv h
  obtain ⟨x0, f0, _, _⟩ := DataW.trod_int Tryz.underlying3 h0
  simp at f0
  subst f0
  obtain ⟨A, c, L, hcs, h2, h3, h4⟩ := rats_of h1
  simp at hcs
  subst hcs
  exact ⟨x0, A, c, L, rfl, h2, h4⟩
end
end Go.Proofs.YtgmlccjjhmhgbaaGreat.Tank
